/-
  Contracts over this translation: slices.CompactFunc at objects.
-/
import Derived.Test.YtlccihidedfemaaGreatDoorYaDtg
import Derived.Test.YtlccihidedfemaaGreatDoorQa4
set_option linter.unusedVariables false
namespace Go.Proofs.YtlccihidedfemaaGreatDoor
open Go.RowKit Go.Sort
attribute [local go_sem] Oper.semAt_some
theorem newO_app : ∀ (p : Ob) (L : List Ob) (x : Ob), newO p (L ++ [x]) = newO p L ++ (if x.t = ((p :: L).getLast (by simp)).t then [] else [x])
  | p, [], x => rfl
  | p, y :: L, x => by
    rw [List.cons_append]
    unfold newO
    rw [newO_app y L x, show ((p :: y :: L).getLast (by simp)) = ((y :: L).getLast (by simp)) from List.getLast_cons (by simp)]
    by_cases h : y.t = p.t
    · rw [if_pos h, if_pos h]
    · rw [if_neg h, if_neg h]; rfl
theorem comp_step {L : List Ob} {p : Nat} (h0 : 0 < p) (h : p < L.length) : compO (L.take (p + 1)) = compO (L.take p) ++ (if L[p].t = L[p - 1].t then [] else [L[p]]) := by
  cases L with
  | nil => simp at h
  | cons a L =>
    obtain ⟨q, rfl⟩ : ∃ q, p = q + 1 := ⟨p - 1, by omega⟩
    have hq : q < L.length := by simpa using h
    show a :: newO a (L.take (q + 1)) = a :: newO a (L.take q) ++ _
    rw [List.take_succ_eq_append_getElem hq, newO_app]
    have e : ((a :: L.take q).getLast (by simp)) = (a :: L)[q + 1 - 1]'(by simp; omega) := by
      rw [List.getLast_eq_getElem]
      simp only [List.length_cons, List.length_take, Nat.min_eq_left (Nat.le_of_lt hq), Nat.add_sub_cancel]
      have : (a :: L.take q) = (a :: L).take (q + 1) := rfl
      simp only [this, List.getElem_take]
    rw [e]
    rfl
theorem compO_small {L : List Ob} (h : L.length ≤ 1) : compO L = L := by
  match L, h with
  | [], _ => rfl
  | [a], _ => rfl
theorem run_clear_rowO {P : Program} (w : World) (t e ty : TypeId) (z : Value) (ht : P.underlying t = some (.slice e)) (hv : ∀ w, (zeroValue e).run P w = .ok z w) (g off n c : Nat) (hn : 0 < n) (cur : Array Value) (tt : TypeId)
    (hg : w.heap[g]? = some (.cells cur tt (0, 0))) (zs : List Value) (hzs : zs = (Builtin.zeroCells z.cells n).toList) (hfit : off + zs.length ≤ cur.size) (h1 : ∀ u ∈ zs, u.oneCell' = true) :
    (Builtin.clear_ #[t] ty #[.slice (some ⟨g, off, none⟩) n c]).run P w = .ok (.tuple #[]) (w.setRow g (cur.toList.take off ++ zs ++ cur.toList.drop (off + zs.length)).toArray) := by
  have hst := run_storeCells_at P g off tt zs 0 cur w hg (by simpa using hfit) h1
  simp only [Nat.add_zero] at hst
  obtain ⟨m, rfl⟩ : ∃ m, n = m + 1 := ⟨n - 1, by omega⟩
  subst hzs
  simp only [Builtin.clear_, List.getElem?_toArray, List.getElem?_cons_zero, Sem.run_bind, run_underlying ht, Result.andThen_ok, hv, hst, Sem.run_pure]
theorem zerosO_one {n : Nat} : ∀ u ∈ (Builtin.zeroCells (obV zeroOb).cells n).toList, u.oneCell' = true := by
  intro u hu
  simp only [Builtin.zeroCells, Array.toList_map, List.mem_map] at hu
  obtain ⟨k, _, rfl⟩ := hu
  have h4 : k % 2 < 2 := Nat.mod_lt _ (by decide)
  show (((obV zeroOb).cells)[k % 2]!).oneCell' = true
  rcases (show k % 2 = 0 ∨ k % 2 = 1 by omega) with e | e <;> rw [e] <;> rfl
theorem own_cutO {B : Nat} {w : World} {g cap i : Nat} {K : List Ob} (h : RowO w g cap K) (hB : B ≤ g) (hi : i < K.length) :
    ∃ C, (∀ ty, (Builtin.clear_ #[27] ty #[.slice (some ⟨g, i * 2, none⟩) (K.length - i) (cap - i)]).run Tryz.prog w = .ok (.tuple #[]) (w.setRow g C)) ∧
      OwnO B (w.setRow g C) (.slice (some ⟨g, 0, none⟩) i cap) (K.take i) ∧ Turned w (w.setRow g C) g := by
  obtain ⟨cur, h2, h6, h7⟩ := h.row
  have h4 := h.le
  obtain ⟨zs, hzs⟩ : ∃ zs, zs = (Builtin.zeroCells (obV zeroOb).cells (K.length - i)).toList := ⟨_, rfl⟩
  have hzl : zs.length = (K.length - i) * 2 := by rw [hzs, Array.length_toList, size_zeroCells]; rfl
  refine ⟨_, fun ty => run_clear_rowO w _ 33 ty (obV zeroOb) Tryz.underlying27 Tryz.zeroValue33 g (i * 2) (K.length - i) (cap - i) (by omega) cur 33 h2 zs hzs (by omega) (by rw [hzs]; exact zerosO_one), ?_, grownBy_setRow_Dtb _ _ _⟩
  have hl : (K.take i).length = i := by rw [List.length_take]; omega
  refine ⟨obCells_len _, .inr ⟨g, cap, _, by rw [hl], hB, setRow_heap w g cur _ _ (0, 0) h2, by omega, h.max, ?_, ?_⟩⟩
  · simp only [List.size_toArray, List.length_append, List.length_take, List.length_drop, Array.length_toList]; omega
  · rw [hl]
    have hl2 : (cur.toList.take (i * 2)).length = i * 2 := by rw [List.length_take, Array.length_toList]; omega
    show List.take _ (cur.toList.take (i * 2) ++ zs ++ _) = _
    rw [List.append_assoc, List.take_left' hl2]
    have h8 : cur.toList.take (i * 2) = (cur.toList.take (K.length * 2)).take (i * 2) := by rw [List.take_take]; congr 1; omega
    rw [h8, h7]
    conv => lhs; rw [← List.take_append_drop i K, obCells_app]
    exact List.take_left' (by rw [obCells_len, hl])
structure CompTo (L : List Ob) (i p : Nat) (K : List Ob) : Prop where
  len : K.length = L.length
  kept : K.take i = compO (L.take p)
  rest : K.drop (p - 1) = L.drop (p - 1)
  pos : 0 < i
  lt : i < p
  le : p ≤ L.length
theorem compTo_get {L K : List Ob} {i p : Nat} (h : CompTo L i p K) (j : Nat) (hj : j < L.length) (hp : p - 1 ≤ j) : K[j]'(by rw [h.len]; exact hj) = L[j] := by
  have h1 := congrArg (fun M => M[j - (p - 1)]?) h.rest
  simp only [List.getElem?_drop] at h1
  rw [show p - 1 + (j - (p - 1)) = j by omega, List.getElem?_eq_getElem hj, List.getElem?_eq_getElem (by rw [h.len]; exact hj)] at h1
  exact Option.some.inj h1
theorem compTo_skip {L K : List Ob} {i p : Nat} (h : CompTo L i p K) (hp : p < L.length) (e : L[p].t = L[p - 1].t) : CompTo L i (p + 1) K := by
  have hpos := h.pos; have hlt := h.lt
  refine ⟨h.len, ?_, ?_, h.pos, by omega, hp⟩
  · rw [h.kept, comp_step (by omega) hp, if_pos e, List.append_nil]
  · have h1 := congrArg (List.drop 1) h.rest
    rw [List.drop_drop, List.drop_drop] at h1
    rw [show p + 1 - 1 = p - 1 + 1 by omega]; exact h1
theorem compTo_keep {L K : List Ob} {i p : Nat} (h : CompTo L i p K) (hp : p < L.length) (e : L[p].t ≠ L[p - 1].t) : CompTo L (i + 1) (p + 1) (K.set i L[p]) := by
  have hpos := h.pos; have hlt := h.lt
  have hi : i < K.length := by rw [h.len]; omega
  refine ⟨by rw [List.length_set]; exact h.len, ?_, ?_, by omega, by omega, hp⟩
  · rw [List.take_succ_eq_append_getElem (by rw [List.length_set]; exact hi), List.take_set_of_le (Nat.le_refl _), h.kept, comp_step (by omega) hp, if_neg e]
    simp
  · have h1 := congrArg (List.drop 1) h.rest
    rw [List.drop_drop, List.drop_drop] at h1
    rw [show p + 1 - 1 = p - 1 + 1 by omega, List.drop_set_of_lt (by omega)]; exact h1
set_option maxRecDepth 100000 in
set_option maxHeartbeats 8000000 in
theorem oCompact_any (B g cap n : Nat) (L : List Ob) (w : World) (hR : RowO w g cap L) (hB : B ≤ g) (hn : n = L.length) (hL : n ≤ 1000000) :
    Calls Tryz.prog 58 #[.slice (some ⟨g, 0, none⟩) n cap, .func (.func 59) #[] #[]] w fun e w' =>
      ∃ v', e = .returned v' ∧ OwnO B w' v' (compO L) ∧ Turned w w' g := by
  have HR := Lib.hid hR; have HN := Lib.hid hn
  have C := Lib.hid (fun x y w => byKey2_any x y w)
  have hle : n ≤ cap := by rw [hn]; exact hR.le
  have hcm : cap ≤ 9223372036854775807 := by have := hR.max; unfold maxLen at this; omega
  clear hR hn
  by_cases h2 : n < 2
  · have hlb : decide ((n : Int) < 2) = true := decide_eq_true (by omega)
    have hlb2 : (n : Int) < 2 := by omega
    have HE := Lib.hid (compO_small (L := L) (by have := HN.out; omega))
    have HO : Hid (OwnO B w (.slice (some ⟨g, 0, none⟩) n cap) L) := Lib.hid (by rw [HN.out]; exact HR.out.own hB)
    go_enter Tryz.func58, Tryz.ntmps58
    go_wp2
    go_ret
    exact ⟨_, rfl, by rw [HE.out]; exact HO.out, turned_refl _ _⟩
  · have hlb : decide ((n : Int) < 2) = false := decide_eq_false (by omega)
    have hlb2 : ¬ (n : Int) < 2 := by omega
    go_enter Tryz.func58, Tryz.ntmps58
    go_wp2
    go_loopw [5] (fun kv wr => ∃ k : Nat, kv = .int .i64 k ∧ 1 ≤ k ∧ k ≤ n ∧ compO (L.take k) = L.take k ∧ RowO wr g cap L ∧ Turned w wr g) (fun k _ => n - (intOf k).toNat)
    case atStart => exact ⟨1, rfl, Nat.le_refl _, by omega, compO_small (by rw [List.length_take]; omega), HR.out, turned_refl _ _⟩
    case round =>
      obtain ⟨k, rfl, hk1, hkn, hC, hR, hT⟩ := hrel
      have HC := Lib.hid hC; have HR1 := Lib.hid hR; have HT := Lib.hid hT
      clear hC hR hT
      by_cases hlt : k < n
      · have hbk : decide ((k : Int) < (n : Int)) = true := decide_eq_true (by omega)
        have hkL : k < L.length := by have := HN.out; omega
        obtain ⟨c0, c1⟩ := HR1.out.at' hkL
        obtain ⟨d0, d1⟩ := HR1.out.at' (i := k - 1) (by omega)
        have HST := Lib.hid (comp_step (L := L) (p := k) (by omega) hkL)
        have HTK := Lib.hid (List.take_succ_eq_append_getElem hkL)
        have CT : Hid (L[k].t = L[k - 1].t → CompTo L k (k + 1) L) := Lib.hid (fun e => ⟨rfl, by rw [HST.out, if_pos e, HC.out, List.append_nil], rfl, by omega, by omega, hkL⟩)
        have D : Hid (∀ W, Calls Tryz.prog 59 #[obV L[k], obV L[k - 1]] W fun e w' => e = .returned (.bool (decide (L[k].t = L[k - 1].t))) ∧ Below W.heap.size W w') := Lib.hid (fun W => C.out _ _ W)
        obtain ⟨x, hx⟩ : ∃ x, x = L[k] := ⟨_, rfl⟩
        obtain ⟨y, hy⟩ : ∃ y, y = L[k - 1] := ⟨_, rfl⟩
        rw [← hx] at c0 c1 CT D HST HTK
        rw [← hy] at d0 d1 CT D HST
        clear hx hy
        have hk0 : (0 : Int) ≤ (k : Int) - 1 := by omega
        have hkt : ((k : Int) - 1).toNat = k - 1 := by omega
        have hkl1 : (k : Int) - 1 < (n : Int) := by omega
        obtain ⟨W2, hW2⟩ : ∃ W2, W2 = wr := ⟨_, rfl⟩
        rw [← hW2] at c0 c1 d0 d1 HR1 HT ⊢
        clear hW2
        have k0 := fun d os => cell_regrown c0 d os
        have k1 := fun d os => cell_regrown c1 d os
        have k2 := fun d os => cell_regrown d0 d os
        have k3 := fun d os => cell_regrown d1 d os
        by_cases hxy : x.t = y.t
        · have DD : Hid (∀ W, Calls Tryz.prog 59 #[obV x, obV y] W fun e w' => e = .returned (.bool true) ∧ Below W.heap.size W w') := Lib.hid (fun W => by
            have := D.out W; rwa [decide_eq_true hxy] at this)
          have HCT := Lib.hid (CT.out hxy)
          clear hxy D CT HST HTK
          go_wp2_with fail
          refine wp_region_quiet_below (by kernel_rfl) (by kernel_rfl) ?_
          repeat (first | go_big_quiet_step (exact Calls.regrown_of (DD.out _)) | quiet_step (exact Calls.regrown_of (DD.out _)))
          refine wpQuiet_nil ?_
          intro wq hwq
          have hbq : Below W2.heap.size W2 wq := by obtain ⟨p, rfl⟩ := hwq; exact below_regrown _ _ _
          clear hwq k0 k1 k2 k3 c0 c1 d0 d1
          have HR3 := Lib.hid (HR1.out.stays hbq)
          have HT4 := Lib.hid (turned_step HT.out hbq)
          clear hbq
          have hck : ¬ (cap = k) := by omega
          have hkn2 : (k : Int) ≤ (n : Int) := by omega
          have hnk : (n : Int) - (k : Int) = ((n - k : Nat) : Int) := by omega
          go_wp2_with fail
          go_loopw [5, 7] (fun iv qv wr => ∃ (i q : Nat) (K : List Ob), iv = .int .i64 i ∧ qv = .int .i64 q ∧ 1 ≤ q ∧ q ≤ n - k ∧ CompTo L i (k + q) K ∧ RowO wr g cap K ∧ Turned w wr g) (fun _ q _ => n - (intOf q).toNat)
          case atStart => exact ⟨k, 1, L, rfl, rfl, Nat.le_refl _, by omega, HCT.out, HR3.out, HT4.out⟩
          case round =>
            clear HC HR1 HT HR3 HT4 HCT
            obtain ⟨i, q, K, rfl, rfl, hq1, hqn, hCT, hR, hT⟩ := hrel
            have HCT := Lib.hid hCT; have HR1 := Lib.hid hR; have HT := Lib.hid hT
            have hi0 := hCT.pos; have hi1 := hCT.lt
            clear hR hT
            by_cases hlt2 : q < n - k
            · have hbk2 : decide ((q : Int) < ((n - k : Nat) : Int)) = true := decide_eq_true (by omega)
              have hpL : k + q < L.length := by have := HN.out; omega
              have hpK : k + q < K.length := by rw [hCT.len]; exact hpL
              have g0 := compTo_get hCT (k + q) hpL (by omega)
              have g1 := compTo_get hCT (k + q - 1) (by omega) (by omega)
              obtain ⟨c0, c1⟩ := HR1.out.at' hpK
              obtain ⟨d0, d1⟩ := HR1.out.at' (i := k + q - 1) (by omega)
              rw [g0] at c0 c1
              rw [g1] at d0 d1
              have hiK : i < K.length := by omega
              have HIK := Lib.hid hiK
              have SK := Lib.hid (fun e => compTo_skip HCT.out hpL e)
              have KP := Lib.hid (fun e => compTo_keep HCT.out hpL e)
              have HSET := Lib.hid (fun (X : World) (hX : RowO X g cap K) (z : Ob) => hX.set hiK z)
              have D : Hid (∀ W, Calls Tryz.prog 59 #[obV L[k + q], obV L[k + q - 1]] W fun e w' => e = .returned (.bool (decide (L[k + q].t = L[k + q - 1].t))) ∧ Below W.heap.size W w') := Lib.hid (fun W => C.out _ _ W)
              obtain ⟨x, hx⟩ : ∃ x, x = L[k + q] := ⟨_, rfl⟩
              obtain ⟨y, hy⟩ : ∃ y, y = L[k + q - 1] := ⟨_, rfl⟩
              rw [← hx] at c0 c1 SK KP D
              rw [← hy] at d0 d1 SK KP D
              rw [show (k + q) * 2 = k * 2 + q * 2 by omega] at c0 c1
              rw [show (k + q - 1) * 2 = k * 2 + (q - 1) * 2 by omega] at d0 d1
              have hq0 : (0 : Int) ≤ (q : Int) - 1 := by omega
              have hqt : ((q : Int) - 1).toNat = q - 1 := by omega
              have hql : (q : Int) - 1 < ((n - k : Nat) : Int) := by omega
              have hin : i < n := by have := HN.out; have := hCT.len; omega
              have hqm : q ≤ n := by omega
              clear hx hy hCT g0 g1 hpK hpL hiK
              obtain ⟨W2, hW2⟩ : ∃ W2, W2 = wr := ⟨_, rfl⟩
              rw [← hW2] at c0 c1 d0 d1 HR1 HT ⊢
              clear hW2
              have k0 := fun d os => cell_regrown c0 d os
              have k1 := fun d os => cell_regrown c1 d os
              have k2 := fun d os => cell_regrown d0 d os
              have k3 := fun d os => cell_regrown d1 d os
              by_cases hxy : x.t = y.t
              · have DD : Hid (∀ W, Calls Tryz.prog 59 #[obV x, obV y] W fun e w' => e = .returned (.bool true) ∧ Below W.heap.size W w') := Lib.hid (fun W => by
                  have := D.out W; rwa [decide_eq_true hxy] at this)
                have HC2 := Lib.hid (SK.out hxy)
                clear hxy D SK KP
                go_wp2_with fail
                refine wp_region_quiet_below (by kernel_rfl) (by kernel_rfl) ?_
                repeat (first | go_big_quiet_step (exact Calls.regrown_of (DD.out _)) | quiet_step (exact Calls.regrown_of (DD.out _)))
                refine wpQuiet_nil ?_
                intro wq hwq
                have hbq : Below W2.heap.size W2 wq := by obtain ⟨p, rfl⟩ := hwq; exact below_regrown _ _ _
                clear hwq k0 k1 k2 k3 c0 c1 d0 d1
                have HR3 := Lib.hid (HR1.out.stays hbq)
                have HT4 := Lib.hid (turned_step HT.out hbq)
                clear hbq
                go_wp2
                go_roundw
                case rel => exact ⟨i, q + 1, K, rfl, by go_num, by omega, by omega, HC2.out, HR3.out, HT4.out⟩
                case measure => simp [intOf]; omega
              · have DD : Hid (∀ W, Calls Tryz.prog 59 #[obV x, obV y] W fun e w' => e = .returned (.bool false) ∧ Below W.heap.size W w') := Lib.hid (fun W => by
                  have := D.out W; rwa [decide_eq_false hxy] at this)
                have HC2 := Lib.hid (KP.out hxy)
                clear hxy D SK KP
                go_wp2_with fail
                refine wp_region_quiet_below (by kernel_rfl) (by kernel_rfl) ?_
                repeat (first | go_big_quiet_step (exact Calls.regrown_of (DD.out _)) | quiet_step (exact Calls.regrown_of (DD.out _)))
                refine wpQuiet_nil ?_
                intro wq hwq
                have hbq : Below W2.heap.size W2 wq := by obtain ⟨p, rfl⟩ := hwq; exact below_regrown _ _ _
                clear hwq k0 k1 k2 k3
                have c0' := (hbq.cell (p := ⟨g, k * 2 + q * 2, none⟩) HR1.out.lt).trans c0
                have c1' := (hbq.cell (p := ⟨g, k * 2 + q * 2 + 1, none⟩) HR1.out.lt).trans c1
                clear c0 c1 d0 d1
                have HR3 := Lib.hid (HR1.out.stays hbq)
                have HT4 := Lib.hid (turned_step HT.out hbq)
                clear hbq
                have hf := HR3.out.free
                obtain ⟨e0, e1⟩ := HR3.out.at' HIK.out
                have HS3 := Lib.hid (HSET.out wq HR3.out x)
                go_wp2
                go_roundw
                case rel => exact ⟨i + 1, q + 1, _, by go_num, by go_num, by omega, by omega, HC2.out, HS3.out.1, turned_trans HT4.out HS3.out.2⟩
                case measure => simp [intOf]; omega
            · have hbk2 : decide ((q : Int) < ((n - k : Nat) : Int)) = false := decide_eq_false (by omega)
              have hpe : k + q = L.length := by have := HN.out; omega
              have HE : Hid (K.take i = compO L) := Lib.hid (by have := hCT.kept; rwa [hpe, List.take_length] at this)
              have hiK : i < K.length := by rw [hCT.len]; omega
              have hKn : K.length = n := by rw [hCT.len]; exact HN.out.symm
              obtain ⟨C', hcl, hoc, hgc⟩ := own_cutO (B := B) HR1.out hB hiK
              rw [hKn] at hcl
              have HOC := Lib.hid hoc
              have HGC := Lib.hid (turned_trans HT.out hgc)
              have hic : ¬ (cap = i) := by omega
              have hin : (i : Int) ≤ (n : Int) := by omega
              clear hoc hgc hCT hpe hKn hiK
              go_wp2
              go_ret
              exact ⟨_, rfl, by rw [← HE.out]; exact HOC.out, HGC.out⟩
        · have DD : Hid (∀ W, Calls Tryz.prog 59 #[obV x, obV y] W fun e w' => e = .returned (.bool false) ∧ Below W.heap.size W w') := Lib.hid (fun W => by
            have := D.out W; rwa [decide_eq_false hxy] at this)
          have HC2 : Hid (compO (L.take (k + 1)) = L.take (k + 1)) := Lib.hid (by rw [HST.out, if_neg hxy, HC.out, ← HTK.out])
          clear hxy D CT HST HTK
          go_wp2_with fail
          refine wp_region_quiet_below (by kernel_rfl) (by kernel_rfl) ?_
          repeat (first | go_big_quiet_step (exact Calls.regrown_of (DD.out _)) | quiet_step (exact Calls.regrown_of (DD.out _)))
          refine wpQuiet_nil ?_
          intro wq hwq
          have hbq : Below W2.heap.size W2 wq := by obtain ⟨p, rfl⟩ := hwq; exact below_regrown _ _ _
          clear hwq k0 k1 k2 k3 c0 c1 d0 d1
          have HR3 := Lib.hid (HR1.out.stays hbq)
          have HT4 := Lib.hid (turned_step HT.out hbq)
          clear hbq
          go_wp2
          go_roundw
          case rel => exact ⟨k + 1, by go_num, by omega, by omega, HC2.out, HR3.out, HT4.out⟩
          case measure => simp [intOf]; omega
      · have hbk : decide ((k : Int) < (n : Int)) = false := decide_eq_false (by omega)
        have HE : Hid (compO L = L) := Lib.hid (by have := HC.out; rwa [List.take_of_length_le (by have := HN.out; omega)] at this)
        have HO : Hid (OwnO B wr (.slice (some ⟨g, 0, none⟩) n cap) L) := Lib.hid (by rw [HN.out]; exact HR1.out.own hB)
        go_wp2
        go_ret
        exact ⟨_, rfl, by rw [HE.out]; exact HO.out, HT.out⟩
end Go.Proofs.YtlccihidedfemaaGreatDoor

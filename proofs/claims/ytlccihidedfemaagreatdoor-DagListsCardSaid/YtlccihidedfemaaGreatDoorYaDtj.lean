/-
  Contracts over this translation: dag's Fit; slices.Insert of one object.
-/
import Derived.Test.YtlccihidedfemaaGreatDoorQa4
import Derived.Lib.AppendZerosOnto
import Derived.Lib.Overlaps
import Derived.Laws.CopyRow
import Derived.Laws.NewBlocks
import Derived.Deep.RegionLaw
import Derived.StillTailTactics
set_option linter.unusedVariables false
namespace Go.Proofs.YtlccihidedfemaaGreatDoor
open Go.RowKit
attribute [local go_sem] Oper.semAt_some
set_option maxRecDepth 100000 in
set_option maxHeartbeats 2000000 in
theorem pFitO_any (v : Value) (L : List Ob) (w : World) (hv : IsObs w v L) :
    Calls Tryz.prog 16 #[v] w fun e w' => e = .returned (.bool (fitO L)) ∧ Below w.heap.size w w' := by
  obtain ⟨hm, a, cap, rfl, _, hc⟩ := hv
  have hmm : L.length ≤ 9223372036854775807 := by unfold maxLen at hm; omega
  have HC := Lib.hid hc
  have CK := Lib.hid isKeyD_any
  clear hc hm
  go_enter Tryz.func16, Tryz.ntmps16
  go_wp2
  go_loopw [7] (fun i wr => ∃ k : Nat, k ≤ L.length ∧ i = .int .i64 k ∧ FitTo (L.map Ob.t) k ∧ Below w.heap.size w wr) (fun i _ => L.length - (intOf i).toNat)
  case atStart => exact ⟨0, Nat.zero_le _, rfl, fitTo_zero _, Below.refl _ _⟩
  case round =>
    obtain ⟨k, hk, rfl, hF, hB⟩ := hrel
    have hsz := hB.size
    have HF := Lib.hid hF; have HB := Lib.hid hB; clear hF
    by_cases hlt : k < L.length
    · obtain ⟨b1, o1, rfl, hbl, g1⟩ := HC.out (by omega)
      obtain ⟨q1, q2⟩ := (g1 k hlt).stays hbl hB
      have hbw : b1 < wr.heap.size := Nat.lt_of_lt_of_le hbl hsz
      have hkl : k < (L.map Ob.t).length := by rw [List.length_map]; exact hlt
      have hty := keyAt hlt
      have HB2 : Hid (∀ o, Below w.heap.size w (wr.alloc o)) := Lib.hid (fun o => hB.alloc hsz _)
      obtain ⟨y, hy⟩ : ∃ y, y = L[k].k := ⟨_, rfl⟩
      obtain ⟨yr, hyr⟩ : ∃ y, y = L[k].r := ⟨_, rfl⟩
      rw [← hy] at q1 hty
      rw [← hyr] at q2
      clear hy hyr
      have HT := Lib.hid hty; clear hty
      have hbk : decide ((k : Int) < (L.length : Int)) = true := by simpa using (show (k : Int) < L.length by omega)
      by_cases h32 : y.size = 32
      · have h32l : (L.map Ob.t)[k].length = 32 := by rw [HT.out, ← Lib.size_eq]; exact h32
        have H32 := Lib.hid h32l
        have CK1 : Hid (∀ w, Calls Tryz.prog 34 #[.string y] w fun e w' => e = .returned (.bool true) ∧ w = w') := Lib.hid (fun w => by
          have := CK.out y w; rwa [show ((y.size : Int) == 32) = true by rw [h32]; rfl] at this)
        clear h32 h32l
        by_cases h0 : k = 0
        · subst h0
          have HS := Lib.hid (fitTo_step HF.out hkl H32.out (fun h => absurd h (by omega)))
          simp only [Nat.zero_mul, Nat.add_zero] at q1 q2
          clear g1 hB
          go_wp2_with fail
          refine (CK1.out _).mono ?_
          rintro e w1 ⟨rfl, rfl⟩
          go_wp2_with fail
          go_quiet (fail)
          go_wp2
          go_roundw
          case rel => exact ⟨1, by omega, by go_num, HS.out, below_drewN (HB2.out _) _⟩
          case measure => simp [intOf]; omega
        · have q0 := ((g1 (k - 1) (by omega)).stays hbl hB).1
          have htz := keyAt (L := L) (i := k - 1) (by omega)
          obtain ⟨z, hz⟩ : ∃ z, z = L[k - 1].k := ⟨_, rfl⟩
          rw [← hz] at q0 htz
          clear hz g1 hB
          obtain ⟨j, hj⟩ : ∃ j, j = k - 1 := ⟨_, rfl⟩
          obtain rfl : k = j + 1 := by omega
          simp only [Nat.add_sub_cancel] at q0 htz
          clear hj
          have hk0 : decide ((0 : Int) < ((j + 1 : Nat) : Int)) = true := by simp
          by_cases hr : z.data.toList < y.data.toList
          · have hrb : Op.bytesLess z.toList y.toList = true := by rw [less_eq]; exact decide_eq_true hr
            have HS := Lib.hid (fitTo_step HF.out hkl H32.out (fun h => by rw [HT.out]; simp only [Nat.add_sub_cancel]; rw [htz]; exact hr))
            clear hr htz
            go_wp2_with fail
            refine (CK1.out _).mono ?_
            rintro e w1 ⟨rfl, rfl⟩
            go_wp2_with fail
            go_quiet (fail)
            go_wp2
            go_roundw
            case rel => exact ⟨j + 2, by omega, by go_num, HS.out, below_drewN (HB2.out _) _⟩
            case measure => simp [intOf]; omega
          · have hrb : Op.bytesLess z.toList y.toList = false := by rw [less_eq]; exact decide_eq_false hr
            have HS := Lib.hid (fitO_norise hkl (by omega) (by rw [HT.out]; simp only [Nat.add_sub_cancel]; rw [htz]; exact hr))
            clear hr htz
            go_wp2_with fail
            refine (CK1.out _).mono ?_
            rintro e w1 ⟨rfl, rfl⟩
            go_wp2_with fail
            go_quiet (fail)
            go_wp2
            go_ret
            exact ⟨ret_val (congrArg Value.bool HS.out.symm), below_drewN (HB2.out _) _⟩
      · have CK1 : Hid (∀ w, Calls Tryz.prog 34 #[.string y] w fun e w' => e = .returned (.bool false) ∧ w = w') := Lib.hid (fun w => by
          have := CK.out y w; rwa [show ((y.size : Int) == 32) = false from beq_eq_false_iff_ne.2 (by omega)] at this)
        have HS := Lib.hid (fitO_no32 hkl (by rw [HT.out, ← Lib.size_eq]; exact h32))
        clear h32 g1 hB
        go_wp2_with fail
        refine (CK1.out _).mono ?_
        rintro e w1 ⟨rfl, rfl⟩
        go_wp2
        go_ret
        exact ⟨ret_val (congrArg Value.bool HS.out.symm), HB2.out _⟩
    · have HS := Lib.hid (fitO_all HF.out (by rw [List.length_map]; omega))
      have hge : decide ((k : Int) < (L.length : Int)) = false := by simp; omega
      go_wp2
      go_ret
      exact ⟨ret_val (congrArg Value.bool HS.out.symm), HB.out⟩
theorem run_copy_rowK_Dtj {P : Program} (w : World) (dT sT ty elem : TypeId) (g off dLen dCap : Nat) (ad : Addr) (sLen sCap : Nat) (cur : Array Value) (t : TypeId) (cs : List Value) (k : Nat)
    (hu : P.underlying dT = some (.slice elem)) (hsz : (P.info? elem).map (·.size) = some k) (hg : w.heap[g]? = some (.cells cur t (0, 0))) (hn : cs.length = Nat.min sLen dLen * k)
    (hsrc : ∀ j v, cs[j]? = some v → w.cell? (ad.add j) = some v) (hfit : off + cs.length ≤ cur.size) (h1 : ∀ v ∈ cs, v.oneCell' = true) :
    (Builtin.copy_ #[dT, sT] ty #[.slice (some ⟨g, off, none⟩) dLen dCap, .slice (some ad) sLen sCap]).run P w =
      .ok (goInt (Nat.min sLen dLen)) (w.setRow g (cur.toList.take off ++ cs ++ cur.toList.drop (off + cs.length)).toArray) := by
  cases hq : P.info? elem with
  | none => simp [hq] at hsz
  | some i =>
    have hi : i.size = k := by simpa [hq] using hsz
    have hf := run_firstCells_some (P := P) w i.size (Nat.min sLen dLen) ad sLen sCap cs (by rw [hi]; exact hn) hsrc
    have hst := run_storeCells_at P g off t cs 0 cur w hg (by simpa using hfit) h1
    simp only [Nat.add_zero] at hst
    rw [hi] at hf
    simp [Builtin.copy_, run_underlying hu, Builtin.lenOf, sizeOf, typeInfo, hq, hi, hf, hst]
theorem wp_copy_run_Dtj {P : Program} (w : World) {o : Oper} {a : Act} {K : Act → World → Prop} {Q : Exit → Act → World → Prop} (d s : Operand) (t t' : TypeId)
    (ho : o.op = .call { callee := .builtin .copy, args := #[d, s], argTypes := #[t, t'] }) (v u : Value) (hd : a.eval d = v) (hs : a.eval s = u) {v' : Value} {w' : World}
    (hr : (Builtin.copy_ #[t, t'] o.type #[v, u]).run P w = .ok v' w') (h : K (a.put o.dst v') w') : o.wp P a w K Q := by
  unfold Oper.wp execOp
  simp only [ho, resolve, invoke, builtin, Sem.run_bind, Sem.run_pure, Result.andThen_ok, List.map_toArray, List.map_cons, List.map_nil, hd, hs, hr]
  exact h
theorem wpList_copy_run_Dtj {P : Program} (w : World) {ops : Array Oper} {rest : List Oper} {o : Oper} {a : Act} {Q : Exit → Act → World → Prop} (hgd : o.guard = none) (d s : Operand) (t t' : TypeId)
    (ho : o.op = .call { callee := .builtin .copy, args := #[d, s], argTypes := #[t, t'] }) (v u : Value) (hd : a.eval d = v) (hs : a.eval s = u) {v' : Value} {w' : World}
    (hr : (Builtin.copy_ #[t, t'] o.type #[v, u]).run P w = .ok v' w') (h : wpList P ops Q rest (a.put o.dst v') w') : wpList P ops Q (o :: rest) a w :=
  wpList_plain hgd fun _ hK => wp_copy_run_Dtj w d s t t' ho v u hd hs hr (hK _ _ h)
theorem rowO_shift {C : List Value} {L : List Ob} {i : Nat} (hi : i ≤ L.length) {cap : Nat} (hC : C.length = cap * 2) (hcap : L.length + 1 ≤ cap) (ht : C.take (L.length * 2) = obCells L) (x : Ob) :
    (((C.take ((i + 1) * 2) ++ obCells (L.drop i) ++ C.drop ((i + 1) * 2 + (obCells (L.drop i)).length)).take (i * 2) ++ obC x ++ (C.take ((i + 1) * 2) ++ obCells (L.drop i) ++ C.drop ((i + 1) * 2 + (obCells (L.drop i)).length)).drop (i * 2 + (obC x).length))).take ((L.length + 1) * 2) = obCells (L.take i ++ x :: L.drop i) := by
  have e1 : (obC x).length = 2 := rfl
  have e2 : (obCells (L.drop i)).length = (L.length - i) * 2 := by rw [obCells_len, List.length_drop]
  have hA : obCells L = obCells (L.take i) ++ obCells (L.drop i) := by rw [← obCells_app, List.take_append_drop]
  have hAl : (obCells (L.take i)).length = i * 2 := by rw [obCells_len, List.length_take]; congr 1; omega
  have hti : C.take (i * 2) = obCells (L.take i) := by
    have : C.take (i * 2) = (C.take (L.length * 2)).take (i * 2) := by rw [List.take_take]; congr 1; omega
    rw [this, ht, hA, List.take_left' hAl]
  have hl1 : (C.take ((i + 1) * 2)).length = (i + 1) * 2 := by rw [List.length_take]; omega
  rw [e1, e2]
  have h1 : (C.take ((i + 1) * 2) ++ obCells (L.drop i) ++ C.drop ((i + 1) * 2 + (L.length - i) * 2)).take (i * 2) = obCells (L.take i) := by
    rw [List.append_assoc, List.take_append_of_le_length (by rw [hl1]; omega), List.take_take, show min (i * 2) ((i + 1) * 2) = i * 2 by omega, hti]
  have h2 : (C.take ((i + 1) * 2) ++ obCells (L.drop i) ++ C.drop ((i + 1) * 2 + (L.length - i) * 2)).drop (i * 2 + 2) = obCells (L.drop i) ++ C.drop ((i + 1) * 2 + (L.length - i) * 2) := by
    rw [List.append_assoc, List.drop_append, hl1, show i * 2 + 2 - (i + 1) * 2 = 0 by omega, List.drop_of_length_le (by rw [hl1]; omega)]; rfl
  rw [h1, h2]
  have e3 : obCells (L.take i ++ x :: L.drop i) = obCells (L.take i) ++ obC x ++ obCells (L.drop i) := by
    rw [obCells_app, List.append_assoc]; rfl
  rw [e3, ← List.append_assoc]
  refine List.take_left' ?_
  rw [List.length_append, List.length_append, hAl, e1, e2]; omega
theorem rowO_grown {L : List Ob} {i : Nat} (hi : i ≤ L.length) (Z : List Value) (hZ : (L.length + 1 - i) * 2 ≤ Z.length) (x : Ob) :
    let C := (obCells L).take (i * 2) ++ Z
    let D := C.take (i * 2) ++ obC x ++ C.drop (i * 2 + (obC x).length)
    (D.take ((i + 1) * 2) ++ obCells (L.drop i) ++ D.drop ((i + 1) * 2 + (obCells (L.drop i)).length)).take ((L.length + 1) * 2) = obCells (L.take i ++ x :: L.drop i) := by
  intro C D
  have e1 : (obC x).length = 2 := rfl
  have e2 : (obCells (L.drop i)).length = (L.length - i) * 2 := by rw [obCells_len, List.length_drop]
  have hA : obCells L = obCells (L.take i) ++ obCells (L.drop i) := by rw [← obCells_app, List.take_append_drop]
  have hAl : (obCells (L.take i)).length = i * 2 := by rw [obCells_len, List.length_take]; congr 1; omega
  have hti : (obCells L).take (i * 2) = obCells (L.take i) := by rw [hA, List.take_left' hAl]
  have hC : C.take (i * 2) = obCells (L.take i) := by
    show (_ ++ Z).take _ = _
    rw [hti, List.take_left' hAl]
  have hD : D.take ((i + 1) * 2) = obCells (L.take i) ++ obC x := by
    show (C.take (i * 2) ++ obC x ++ _).take _ = _
    rw [hC]
    exact List.take_left' (by rw [List.length_append, hAl, e1]; omega)
  rw [hD]
  have e3 : obCells (L.take i ++ x :: L.drop i) = obCells (L.take i) ++ obC x ++ obCells (L.drop i) := by
    rw [obCells_app, List.append_assoc]; rfl
  rw [e3]
  refine List.take_left' ?_
  rw [List.length_append, List.length_append, hAl, e1, e2]; omega
theorem wpList_append_x_Dtj {ops : Array Oper} {rest : List Oper} {o : Oper} {a : Act} {w : World} {Q : Exit → Act → World → Prop} (hgd : o.guard = none) (s x : Operand)
    (ho : o.op = .call { callee := .builtin .append, args := #[s, x], argTypes := #[27, 27] })
    {B : Nat} {v : Value} {M : List Ob} {y : Ob} {A : Nat} (hown : OwnO B w v M) (hB : B ≤ w.heap.size) (hs : a.eval s = v)
    (hx : a.eval x = .slice (some ⟨A, 0, none⟩) 1 1) (hy : ObBox w A y) (hlen : M.length ≤ 1000000)
    (h : ∀ v' w', OwnO B w' v' (M ++ [y]) → w.grownBy w' v.ownBlock → wpList Tryz.prog ops Q rest (a.put o.dst v') w') :
    wpList Tryz.prog ops Q (o :: rest) a w := by
  obtain ⟨i0, hi, hz0, hz1, hz2⟩ := info_parts infoObject
  obtain ⟨v', w', hr, ho', hg, _⟩ := run_append_own (P := Tryz.prog) w B 27 o.type 33 i0 (obV zeroOb) 2 32 Tryz.underlying27 hi hz0 hz1 hz2 rfl (by decide) v M.length (obCells M) hown ⟨A, 0, none⟩ 1 1 (obC y) rfl (fun j u hj => by
      obtain ⟨c0, c1⟩ := hy.cells
      rw [add_plain', Nat.zero_add]
      match j, hj with
      | 0, hj => simp at hj; subst hj; exact c0
      | 1, hj => simp at hj; subst hj; exact c1) (fun u hu => by simp at hu; rcases hu with rfl | rfl <;> rfl) (by unfold maxLen; omega) (by omega) hB
  refine Lib.wpList_append_run _ hgd s x 27 27 ho _ _ hs hx v' w' hr (h v' w' ?_ hg)
  unfold OwnO
  rw [List.length_append, obCells_app]
  have : obCells [y] = obC y := List.append_nil _
  rw [this]; exact ho'
theorem shape_of_Dtj {w : World} {g : Nat} {cur : Array Value} {t : TypeId} (h : w.heap[g]? = some (.cells cur t (0, 0))) : w.shape? g = some (t, cur.size) := by simp [World.shape?, h]
theorem frozen_of_Dtj {w : World} {g : Nat} {cur : Array Value} {t : TypeId} (h : w.heap[g]? = some (.cells cur t (0, 0))) (j : Nat) : w.frozen? ⟨g, j, none⟩ = false := by simp [World.frozen?, h]
theorem obBox_row {w : World} {A : Nat} {x : Ob} {t : TypeId} (h : w.heap[A]? = some (.cells #[.string x.k, .string x.r] t (0, 0))) : ObBox w A x :=
  ⟨⟨by simp [World.cell?, h], by simp [World.cell?, h]⟩, (Array.getElem?_eq_some_iff.1 h).1⟩
def InsO (B : Nat) (vs : Value) (L : List Ob) (w : World) (e : Ending) (w' : World) : Prop := ∃ v', e = .returned v' ∧ OwnO B w' v' L ∧ w.grownBy w' vs.ownBlock
set_option maxRecDepth 100000 in
set_option maxHeartbeats 4000000 in
theorem oInsert_end (B : Nat) (vs : Value) (L : List Ob) (A : Nat) (x : Ob) (w : World) (hown : OwnO B w vs L) (hL : L.length ≤ 1000) (hB : B ≤ w.heap.size) (hx : ObBox w A x) :
    Calls Tryz.prog 38 #[vs, .int .i64 L.length, .slice (some ⟨A, 0, none⟩) 1 1] w (InsO B vs (L ++ [x]) w) := by
  have HO := Lib.hid hown
  have HX := Lib.hid hx
  clear hx
  rcases hown.2 with ⟨rfl, h0⟩ | ⟨g, cap, cur, rfl, hb, hg, hle, hm, _⟩
  · obtain rfl := List.length_eq_zero_iff.1 h0
    clear h0 hown
    go_enter Tryz.func38, Tryz.ntmps38
    go_wp2_with (at_builtin; refine wpList_append_x_Dtj rfl _ _ rfl HO.out hB rfl rfl HX.out (by simp) ?_)
    intro v' w' h1 h2
    have H1 := Lib.hid h1; have H2 := Lib.hid h2
    clear h1 h2
    go_wp2
    go_ret
    exact ⟨_, rfl, H1.out, H2.out⟩
  · have hmm : L.length ≤ 9223372036854775807 := by unfold maxLen at hm; omega
    have e1 : ((L.length : Int) == (L.length : Int)) = true := beq_iff_eq.2 rfl
    have hm2 : cap ≤ 9223372036854775807 := by unfold maxLen at hm; omega
    clear hown hg hb
    go_enter Tryz.func38, Tryz.ntmps38
    go_wp2_with (at_builtin; refine wpList_append_x_Dtj rfl _ _ rfl HO.out hB rfl rfl HX.out (by omega) ?_)
    all_goals
      intro v' w' h1 h2
      have H1 := Lib.hid h1; have H2 := Lib.hid h2
      clear h1 h2
      go_wp2
      go_ret
      exact ⟨_, rfl, H1.out, H2.out⟩
theorem overlaps_no_Dtj {w : World} {A g : Nat} {ca cb : Array Value} (hA : w.heap[A]? = some (.cells ca 33 (0, 0))) (hg : w.heap[g]? = some (.cells cb 33 (0, 0))) (hne : A ≠ g) (hcb : cb.size ≠ 0) (o lb c : Nat) :
    (callFunc 66 #[.slice (some ⟨A, 0, none⟩) 1 1, .slice (some ⟨g, o, none⟩) lb c]).run Tryz.prog w = .ok (.value (.bool false)) w := by
  rw [run_callFunc_extern Tryz.func66 (by kernel_rfl) (by kernel_rfl) (by kernel_rfl) (e := Extern.SlicesOverlaps.overlaps #[27, 27] #[4]) (by kernel_rfl),
    Lib.run_overlaps_apart w 27 4 33 Tryz.underlying27 2 Tryz.sizeOf33 ⟨A, 0, none⟩ ⟨g, o, none⟩ 1 1 lb c hne _ _ _ _ (shape_of_Dtj hA) (shape_of_Dtj hg) hcb (frozen_of_Dtj hA 0) (frozen_of_Dtj hA _)]
  rfl
theorem infoSize_Dtj : (Tryz.prog.info? 33).map (·.size) = some 2 := by kernel_rfl
set_option maxRecDepth 100000 in
set_option maxHeartbeats 4000000 in
theorem oInsert_room (B g cap : Nat) (cur : Array Value) (L : List Ob) (i : Nat) (A : Nat) (x : Ob) (w : World) (hbg : B ≤ g) (hg : w.heap[g]? = some (.cells cur 33 (0, 0))) (hm : cap ≤ maxLen) (hcs : cur.size = cap * 2)
    (ht : cur.toList.take (L.length * 2) = obCells L) (hi : i < L.length) (hroom : L.length + 1 ≤ cap)
    (hx : w.heap[A]? = some (.cells #[.string x.k, .string x.r] 33 (0, 0))) (hne : A ≠ g) :
    Calls Tryz.prog 38 #[.slice (some ⟨g, 0, none⟩) L.length cap, .int .i64 i, .slice (some ⟨A, 0, none⟩) 1 1] w (InsO B (.slice (some ⟨g, 0, none⟩) L.length cap) (L.take i ++ x :: L.drop i) w) := by
  have hov := fun o lb c => overlaps_no_Dtj hx hg hne (by omega) o lb c
  have HIB := Lib.hid (obBox_row hx)
  have hdl : (obCells (L.drop i)).length = (L.length - i) * 2 := by rw [obCells_len, List.length_drop]
  have hcell : ∀ j v, cur.toList[j]? = some v → w.cell? ⟨g, j, none⟩ = some v := fun j v hj => by rw [cell_of_row w g j cur _ (0, 0) hg]; simpa using hj
  have hsrc : ∀ j v, (obCells (L.drop i))[j]? = some v → w.cell? ((⟨g, i * 2, none⟩ : Addr).add j) = some v := fun j v hj => by
    rw [add_plain']
    refine hcell _ _ ?_
    have hj4 : j < (L.length - i) * 2 := by have := (List.getElem?_eq_some_iff.1 hj).1; omega
    have h1 : (obCells L)[i * 2 + j]? = some v := by
      conv => lhs; rw [← List.take_append_drop i L, obCells_app]
      have hl : (obCells (L.take i)).length = i * 2 := by rw [obCells_len, List.length_take]; congr 1; omega
      rw [List.getElem?_append_right (by omega), hl, show i * 2 + j - i * 2 = j by omega]; exact hj
    rw [← ht, List.getElem?_take] at h1
    split at h1
    · exact h1
    · cases h1
  obtain ⟨C1, hC1⟩ : ∃ C1 : Array Value, C1 = (cur.toList.take ((i + 1) * 2) ++ obCells (L.drop i) ++ cur.toList.drop ((i + 1) * 2 + (obCells (L.drop i)).length)).toArray := ⟨_, rfl⟩
  obtain ⟨C2, hC2⟩ : ∃ C2 : Array Value, C2 = (C1.toList.take (i * 2) ++ obC x ++ C1.toList.drop (i * 2 + (obC x).length)).toArray := ⟨_, rfl⟩
  have hC1s : C1.size = cap * 2 := by
    rw [hC1]; simp only [List.size_toArray, List.length_append, List.length_take, List.length_drop, Array.length_toList]; omega
  have hcp1 : ∀ W, W.heap[g]? = w.heap[g]? → ∀ ty dc sc, (Builtin.copy_ #[27, 27] ty #[.slice (some ⟨g, (i + 1) * 2, none⟩) (L.length - i) dc, .slice (some ⟨g, i * 2, none⟩) (L.length + 1 - i) sc]).run Tryz.prog W = .ok (goInt (Nat.min (L.length + 1 - i) (L.length - i))) (W.setRow g C1) := fun W hW ty dc sc => by
    rw [hC1]
    refine run_copy_rowK_Dtj W _ _ ty 33 g ((i + 1) * 2) _ dc ⟨g, i * 2, none⟩ _ sc cur 33 (obCells (L.drop i)) 2 Tryz.underlying27 infoSize_Dtj (hW.trans hg) (by rw [hdl]; show _ = min _ _ * 2; omega) (fun j v hj => ?_) (by omega) (fun u hu => obCells_one hu)
    rw [World.cell?_of_block (w := w) (by rw [add_plain']; exact hW)]; exact hsrc j v hj
  have hcp2 : ∀ W, W.heap[g]? = some (.cells C1 33 (0, 0)) → W.heap[A]? = w.heap[A]? → ∀ ty dl dc, 0 < dl → (Builtin.copy_ #[27, 27] ty #[.slice (some ⟨g, i * 2, none⟩) dl dc, .slice (some ⟨A, 0, none⟩) 1 1]).run Tryz.prog W = .ok (goInt (Nat.min 1 dl)) (W.setRow g C2) := fun W hW hWA ty dl dc hdl => by
    rw [hC2]
    have hIB := obBox_row (hWA.trans hx)
    refine run_copy_rowK_Dtj W _ _ ty 33 g (i * 2) _ dc ⟨A, 0, none⟩ _ 1 C1 33 (obC x) 2 Tryz.underlying27 infoSize_Dtj hW (by show 2 = min _ _ * 2; omega) (fun j u hj => ?_) (by simp only [List.length_cons, List.length_nil]; omega) (fun u hu => by simp at hu; rcases hu with rfl | rfl <;> rfl)
    obtain ⟨c0, c1⟩ := hIB.cells
    rw [add_plain', Nat.zero_add]
    match j, hj with
    | 0, hj => simp at hj; subst hj; exact c0
    | 1, hj => simp at hj; subst hj; exact c1
  have HOWN : Hid (∀ W, W.heap[g]? = some (.cells C2 33 (0, 0)) → OwnO B W (.slice (some ⟨g, 0, none⟩) (L.length + 1) cap) (L.take i ++ x :: L.drop i)) := show ∀ W, _ → _ from fun W hW => by
    have hlen : (L.take i ++ x :: L.drop i).length = L.length + 1 := by simp; omega
    refine ⟨obCells_len _, .inr ⟨g, cap, C2, by rw [hlen], hbg, hW, by omega, hm, ?_, ?_⟩⟩
    · rw [hC2]; simp only [List.size_toArray, List.length_append, List.length_take, List.length_drop, Array.length_toList, hC1s, List.length_cons, List.length_nil]; omega
    · rw [hlen, hC2, hC1]
      simpa using rowO_shift (C := cur.toList) (by omega) (by simpa using hcs) hroom ht x
  have HG := Lib.hid hg
  have HX := Lib.hid hx
  have HC1 := Lib.hid hcp1; have HC2 := Lib.hid hcp2
  have hmm : cap ≤ 9223372036854775807 := by unfold maxLen at hm; omega
  have e1 : ((i : Int) == (L.length : Int)) = false := beq_eq_false_iff_ne.2 (by omega)
  have e2 : decide ((cap : Int) < (L.length : Int) + 1) = false := decide_eq_false (by omega)
  have e3 : ¬ ((cap : Int) < (L.length : Int) + 1) := by omega
  have s1 : (0 : Int) ≤ (i : Int) + 1 := by omega
  have s2 : ((i : Int) + 1).toNat = i + 1 := by omega
  have s3 : ¬ (cap = i + 1) := by omega
  have s4 : (i : Int) + 1 ≤ (L.length : Int) + 1 := by omega
  have s5 : ¬ (cap = i) := by omega
  have s6 : IntKind.i64.wrap ((i : Int) + 1) = (i : Int) + 1 := IntWalk.i64_in _ (by omega)
  have s7 : (i : Int) ≤ (L.length : Int) + 1 := by omega
  have s8 : (i : Int) ≤ (L.length : Int) := by omega
  clear hcell hsrc hC1 hC2 hC1s hcp1 hcp2 hg hx ht hcs hdl hm hbg HIB
  go_enter Tryz.func38, Tryz.ntmps38
  go_wp2_with (simp only [hov])
  clear hov
  go_still_tail 8, (by kernel_rfl)
  change wpList _ _ _ _ _ w.drew
  have HW1 : Hid ((w.drew.setRow g C1).heap[g]? = some (.cells C1 33 (0, 0))) := setRow_heap w.drew g cur C1 _ (0, 0) HG.out
  have HW2 : Hid ((w.drew.setRow g C1).heap[A]? = w.heap[A]?) := setRow_other w.drew g A C1 hne
  go_wp2_with (first
    | (refine wpList_copy_run_Dtj (o := ⟨some 77, _, _, _, _, _⟩) _ rfl (.tmp 73) (.tmp 76) 27 27 rfl _ _ rfl rfl (HC1.out w.drew rfl _ _ _) ?_)
    | (refine wpList_copy_run_Dtj (o := ⟨some 82, _, _, _, _, _⟩) _ rfl (.tmp 80) (.tmp 81) 27 27 rfl _ _ rfl rfl (HC2.out _ HW1.out HW2.out _ _ _ (by omega)) ?_))
  go_ret
  exact ⟨_, rfl, HOWN.out _ (setRow_heap _ g C1 C2 _ (0, 0) HW1.out), ⟨rfl, rfl, rfl, by simp, fun k hk hne2 => by
    have hkg : k ≠ g := fun e => hne2 (by rw [e]; rfl)
    rw [setRow_other _ g k C2 hkg, setRow_other _ g k C1 hkg]; rfl⟩⟩
theorem zc_len_Dtj (n : Nat) : (Builtin.zeroCells (obV zeroOb).cells n).size = n * 2 := by rw [size_zeroCells]; rfl
set_option maxRecDepth 100000 in
set_option maxHeartbeats 4000000 in
theorem oInsert_grow (B g cap : Nat) (cur : Array Value) (L : List Ob) (i : Nat) (A : Nat) (x : Ob) (w : World) (hbw : B ≤ w.heap.size) (hbg : B ≤ g) (hg : w.heap[g]? = some (.cells cur 33 (0, 0))) (hm : cap ≤ maxLen) (hcs : cur.size = cap * 2)
    (ht : cur.toList.take (L.length * 2) = obCells L) (hi : i < L.length) (hle : L.length ≤ cap) (hroom : cap < L.length + 1) (hL : L.length ≤ 1000)
    (hx : w.heap[A]? = some (.cells #[.string x.k, .string x.r] 33 (0, 0))) :
    Calls Tryz.prog 38 #[.slice (some ⟨g, 0, none⟩) L.length cap, .int .i64 i, .slice (some ⟨A, 0, none⟩) 1 1] w (InsO B (.slice (some ⟨g, 0, none⟩) L.length cap) (L.take i ++ x :: L.drop i) w) := by
  obtain ⟨i0, hi0, hz0, hz1, hz2⟩ := info_parts infoObject
  have hgl := (Array.getElem?_eq_some_iff.1 hg).1
  have hAl := (Array.getElem?_eq_some_iff.1 hx).1
  have hdl : (obCells (L.drop i)).length = (L.length - i) * 2 := by rw [obCells_len, List.length_drop]
  have htl : ((obCells L).take (i * 2)).length = i * 2 := by rw [List.length_take, obCells_len]; omega
  have hcell : ∀ j v, (obCells L)[j]? = some v → w.cell? ⟨g, j, none⟩ = some v := fun j v hj => by
    rw [cell_of_row w g j cur _ (0, 0) hg]
    rw [← ht, List.getElem?_take] at hj
    split at hj
    · simpa using hj
    · cases hj
  have hsrc : ∀ j v, (obCells (L.drop i))[j]? = some v → w.cell? ((⟨g, i * 2, none⟩ : Addr).add j) = some v := fun j v hj => by
    rw [add_plain']
    refine hcell _ _ ?_
    conv => lhs; rw [← List.take_append_drop i L, obCells_app]
    have hl : (obCells (L.take i)).length = i * 2 := by rw [obCells_len, List.length_take]; congr 1; omega
    rw [List.getElem?_append_right (by omega), hl, show i * 2 + j - i * 2 = j by omega]; exact hj
  have hold : (Builtin.firstCells i0.size i (.slice (some ⟨g, 0, none⟩) i cap)).run Tryz.prog w.drew = .ok ((obCells L).take (i * 2)).toArray w.drew := by
    rw [hz1]
    exact run_firstCells_some w.drew 2 i ⟨g, 0, none⟩ i cap ((obCells L).take (i * 2)) htl (fun j v hj => by
      rw [add_plain', Nat.zero_add]
      rw [List.getElem?_take] at hj
      split at hj
      · exact hcell j v hj
      · cases hj)
  obtain ⟨G, hG⟩ : ∃ G, G = grownCap w (L.length + 1) cap 33 := ⟨_, rfl⟩
  obtain ⟨Z, hZ⟩ : ∃ Z : List Value, Z = (Builtin.zeroCells (obV zeroOb).cells (L.length + 1 - i) ++ Builtin.zeroCells (obV zeroOb).cells (G - (L.length + 1))).toList := ⟨_, rfl⟩
  obtain ⟨C, hC⟩ : ∃ C : Array Value, C = ((obCells L).take (i * 2) ++ Z).toArray := ⟨_, rfl⟩
  have hGn : L.length + 1 ≤ G := by rw [hG]; exact grownCap_ge w _ _ _
  have hGm : G ≤ maxLen := by rw [hG]; exact grownCap_le_maxLen w _ _ _ (by unfold maxLen; omega)
  have hZl : Z.length = (L.length + 1 - i) * 2 + (G - (L.length + 1)) * 2 := by rw [hZ]; simp only [Array.toList_append, List.length_append, Array.length_toList, zc_len_Dtj]
  have hCs : C.size = G * 2 := by rw [hC]; simp only [List.size_toArray, List.length_append, htl, hZl]; omega
  have hkk : (L.length : Int) + 1 - (i : Int) = ((L.length + 1 - i : Nat) : Int) := by omega
  have hik : i + (L.length + 1 - i) = L.length + 1 := by omega
  have hrz : ∀ ty, (Builtin.append_ #[27, 3] ty #[.slice (some ⟨g, 0, none⟩) i cap, .int .i64 ((L.length : Int) + 1 - (i : Int))]).run Tryz.prog w =
      .ok (.slice (some ⟨w.heap.size, 0, none⟩) (L.length + 1) G) (w.drew.alloc (.cells C 33)) := fun ty => by
    have h := Lib.run_append_grow_zeros w 27 3 ty 33 i0 (obV zeroOb) .i64 .i64 Tryz.underlying27 Tryz.underlying3 hi0 hz0 (some ⟨g, 0, none⟩) i cap ((obCells L).take (i * 2)) hold (L.length + 1 - i) (by omega) (by omega) (by omega) (by omega) (by rw [hz2]; omega) (by rw [hz2, hik]; exact growslice_fits hroom (by omega))
    rw [hik, ← hG] at h
    rw [hkk, h, hC, hZ]
    congr 3
    simp
  obtain ⟨D, hD⟩ : ∃ D : Array Value, D = (C.toList.take (i * 2) ++ obC x ++ C.toList.drop (i * 2 + (obC x).length)).toArray := ⟨_, rfl⟩
  obtain ⟨E, hE⟩ : ∃ E : Array Value, E = (D.toList.take ((i + 1) * 2) ++ obCells (L.drop i) ++ D.toList.drop ((i + 1) * 2 + (obCells (L.drop i)).length)).toArray := ⟨_, rfl⟩
  have hDs : D.size = G * 2 := by rw [hD]; simp only [List.size_toArray, List.length_append, List.length_take, List.length_drop, Array.length_toList, hCs, List.length_cons, List.length_nil]; omega
  have hEs : E.size = G * 2 := by rw [hE]; simp only [List.size_toArray, List.length_append, List.length_take, List.length_drop, Array.length_toList, hDs, hdl]; omega
  obtain ⟨N, hN⟩ : ∃ N, N = w.heap.size := ⟨_, rfl⟩
  rw [← hN] at hrz
  have hcp1 : ∀ W, W.heap[N]? = some (.cells C 33 (0, 0)) → W.heap[A]? = w.heap[A]? → ∀ ty dl dc, 0 < dl → (Builtin.copy_ #[27, 27] ty #[.slice (some ⟨N, i * 2, none⟩) dl dc, .slice (some ⟨A, 0, none⟩) 1 1]).run Tryz.prog W = .ok (goInt (Nat.min 1 dl)) (W.setRow N D) := fun W hW hWA ty dl dc hdl => by
    rw [hD]
    have hIB := obBox_row (hWA.trans hx)
    refine run_copy_rowK_Dtj W _ _ ty 33 N (i * 2) _ dc ⟨A, 0, none⟩ _ 1 C 33 (obC x) 2 Tryz.underlying27 infoSize_Dtj hW (by show 2 = min _ _ * 2; omega) (fun j u hj => ?_) (by simp only [List.length_cons, List.length_nil]; omega) (fun u hu => by simp at hu; rcases hu with rfl | rfl <;> rfl)
    obtain ⟨c0, c1⟩ := hIB.cells
    rw [add_plain', Nat.zero_add]
    match j, hj with
    | 0, hj => simp at hj; subst hj; exact c0
    | 1, hj => simp at hj; subst hj; exact c1
  have hcp2 : ∀ W, W.heap[N]? = some (.cells D 33 (0, 0)) → W.heap[g]? = w.heap[g]? → ∀ ty dc sc, (Builtin.copy_ #[27, 27] ty #[.slice (some ⟨N, (i + 1) * 2, none⟩) (L.length - i) dc, .slice (some ⟨g, i * 2, none⟩) (L.length - i) sc]).run Tryz.prog W = .ok (goInt (Nat.min (L.length - i) (L.length - i))) (W.setRow N E) := fun W hW hWg ty dc sc => by
    rw [hE]
    refine run_copy_rowK_Dtj W _ _ ty 33 N ((i + 1) * 2) _ dc ⟨g, i * 2, none⟩ _ sc D 33 (obCells (L.drop i)) 2 Tryz.underlying27 infoSize_Dtj hW (by rw [hdl]; show _ = min _ _ * 2; omega) (fun j v hj => ?_) (by omega) (fun u hu => obCells_one hu)
    rw [World.cell?_of_block (w := w) (by rw [add_plain']; exact hWg)]; exact hsrc j v hj
  have HOWN : Hid (∀ W, W.heap[N]? = some (.cells E 33 (0, 0)) → OwnO B W (.slice (some ⟨N, 0, none⟩) (L.length + 1) G) (L.take i ++ x :: L.drop i)) := show ∀ W, _ → _ from fun W hW => by
    have hlen : (L.take i ++ x :: L.drop i).length = L.length + 1 := by simp; omega
    refine ⟨obCells_len _, .inr ⟨N, G, E, by rw [hlen], by rw [hN]; exact hbw, hW, by omega, hGm, hEs, ?_⟩⟩
    rw [hlen, hE, hD, hC]
    simpa using rowO_grown (by omega) Z (by rw [hZl]; omega) x
  have HC1 := Lib.hid hcp1; have HC2 := Lib.hid hcp2; have HRZ := Lib.hid hrz
  have HX := Lib.hid hx; have HG := Lib.hid hg
  have hne : N ≠ g := by omega
  have hneA : N ≠ A := by omega
  have HN := Lib.hid hN
  have hmm : cap ≤ 9223372036854775807 := by unfold maxLen at hm; omega
  have hGG : G ≤ 9223372036854775807 := by unfold maxLen at hGm; omega
  have e1 : ((i : Int) == (L.length : Int)) = false := beq_eq_false_iff_ne.2 (by omega)
  have e2 : decide ((cap : Int) < (L.length : Int) + 1) = true := decide_eq_true (by omega)
  have e3 : ((cap : Int) < (L.length : Int) + 1) := by omega
  have s1 : (0 : Int) ≤ (i : Int) + 1 := by omega
  have s2 : ((i : Int) + 1).toNat = i + 1 := by omega
  have s3 : ¬ (cap = i + 1) ∨ cap = i + 1 := by omega
  have s5 : ¬ (cap = i) := by omega
  have s6 : IntKind.i64.wrap ((i : Int) + 1) = (i : Int) + 1 := IntWalk.i64_in _ (by omega)
  have s8 : (i : Int) ≤ (L.length : Int) := by omega
  have s9 : ¬ (G = i) := by omega
  have s10 : ¬ (G = i + 1) := by omega
  have s11 : (i : Int) + 1 ≤ (L.length : Int) + 1 := by omega
  have s12 : (i : Int) ≤ (L.length : Int) + 1 := by omega
  clear hcell hsrc hold hC hD hE hZ hG hCs hDs hEs hcp1 hcp2 hrz hg hx ht hcs hdl htl hZl hm hGm hkk hik hi0 hz0 hz1 hz2 hN s3
  go_enter Tryz.func38, Tryz.ntmps38
  have HW1 : Hid ((w.alloc (.cells C 33)).drew.heap[N]? = some (.cells C 33 (0, 0))) := show _ = _ by rw [HN.out]; exact heap_alloc_new w _
  have HWA : Hid ((w.alloc (.cells C 33)).drew.heap[A]? = w.heap[A]?) := heap_alloc_old w _ hAl
  have HWg : Hid ((w.alloc (.cells C 33)).drew.heap[g]? = w.heap[g]?) := heap_alloc_old w _ hgl
  go_wp2_with (first
    | (at_builtin; refine Lib.wpList_append_run _ rfl _ _ _ _ rfl _ _ rfl rfl _ _ (HRZ.out _) ?_)
    | (refine wpList_copy_run_Dtj (o := ⟨some 45, _, _, _, _, _⟩) _ rfl (.tmp 43) (.tmp 44) 27 27 rfl _ _ rfl rfl (HC1.out (w.alloc (.cells C 33)).drew HW1.out HWA.out _ _ _ (by omega)) ?_))
  have HV1 : Hid (((w.alloc (.cells C 33)).drew.setRow N D).heap[N]? = some (.cells D 33 (0, 0))) := setRow_heap _ N C D _ (0, 0) HW1.out
  have HVg : Hid (((w.alloc (.cells C 33)).drew.setRow N D).heap[g]? = w.heap[g]?) := (setRow_other _ N g D (fun e => hne e.symm)).trans HWg.out
  go_still_tail 8, (by kernel_rfl)
  change wpList _ _ _ _ _ ((w.alloc (.cells C 33)).drew.setRow N D).drew
  go_wp2_with (refine wpList_copy_run_Dtj (o := ⟨some 54, _, _, _, _, _⟩) _ rfl (.tmp 50) (.tmp 53) 27 27 rfl _ _ rfl rfl (HC2.out ((w.alloc (.cells C 33)).drew.setRow N D).drew HV1.out HVg.out _ _ _) ?_)
  go_ret
  exact ⟨_, rfl, HOWN.out _ (setRow_heap _ N D E _ (0, 0) HV1.out), ⟨rfl, rfl, rfl, by simp, fun k hk hne2 => by
    have hkN : k ≠ N := by have := HN.out; omega
    rw [setRow_other _ N k E hkN]
    show ((w.alloc (.cells C 33)).drew.setRow N D).heap[k]? = _
    rw [setRow_other _ N k D hkN]
    exact heap_alloc_old w _ hk⟩⟩
theorem oInsert_any (B : Nat) (vs : Value) (L : List Ob) (i A : Nat) (x : Ob) (w : World) (hown : OwnO B w vs L) (hi : i ≤ L.length) (hL : L.length ≤ 1000) (hB : B ≤ w.heap.size)
    (hx : w.heap[A]? = some (.cells #[.string x.k, .string x.r] 33 (0, 0))) (hne : vs.ownBlock ≠ some A) :
    Calls Tryz.prog 38 #[vs, .int .i64 i, .slice (some ⟨A, 0, none⟩) 1 1] w (InsO B vs (L.take i ++ x :: L.drop i) w) := by
  by_cases he : i = L.length
  · subst he
    rw [List.take_length, List.drop_length]
    exact oInsert_end B vs L A x w hown hL hB (obBox_row hx)
  · have hlt : i < L.length := by omega
    rcases hown.2 with ⟨rfl, h0⟩ | ⟨g, cap, cur, rfl, hbg, hg, hle, hm, hcs, ht⟩
    · omega
    · have hAg : A ≠ g := fun e => hne (by rw [e]; rfl)
      by_cases hroom : L.length + 1 ≤ cap
      · exact oInsert_room B g cap cur L i A x w hbg hg hm hcs ht hlt hroom hx hAg
      · exact oInsert_grow B g cap cur L i A x w hB hbg hg hm hcs ht hlt hle (by omega) hL hx
end Go.Proofs.YtlccihidedfemaaGreatDoor

/-
  Contracts over this translation: slices.DeleteFunc of what is below a path.
-/
import Derived.Test.YtelaamchafocpaaDoorYTit
set_option linter.unusedVariables false
namespace Go.Proofs.YtelaamchafocpaaDoor
open Go.RowKit
attribute [local go_sem] Oper.semAt_some

theorem grown_below {w a b : World} {r : Option Nat} (h : w.grownBy a r) (hb : Below a.heap.size a b) : w.grownBy b r :=
  ⟨hb.os.trans h.os, hb.tape.trans h.tape, hb.output.trans h.output, Nat.le_trans h.size hb.size, fun k hk hne => (hb.block k (Nat.lt_of_lt_of_le hk h.size)).trans (h.block k hk hne)⟩
theorem grown_trans {w a b : World} {r : Option Nat} (h : w.grownBy a r) (hb : a.grownBy b r) : w.grownBy b r :=
  ⟨hb.os.trans h.os, hb.tape.trans h.tape, hb.output.trans h.output, Nat.le_trans h.size hb.size, fun k hk hne => (hb.block k (Nat.lt_of_lt_of_le hk h.size) hne).trans (h.block k hk hne)⟩
theorem below_grown {w a : World} (hb : Below w.heap.size w a) (r : Option Nat) : w.grownBy a r := ⟨hb.os, hb.tape, hb.output, hb.size, fun k hk _ => hb.block k hk⟩
/-- On the way: what was kept so far stands first, what is to come as it was. -/
structure DelTo (L : List It) (p : It → Bool) (i j : Nat) (K : List It) : Prop where
  len : K.length = L.length
  kept : K.take i = (L.take j).filter (fun y => !p y)
  rest : K.drop j = L.drop j
  lt : i < j
  le : j ≤ L.length
theorem delTo_start {L : List It} {p : It → Bool} {k : Nat} (hk : k < L.length) (h : ∀ y ∈ L.take k, p y = false) (hp : p L[k] = true) : DelTo L p k (k + 1) L := by
  refine ⟨rfl, ?_, rfl, Nat.lt_succ_self _, hk⟩
  rw [List.take_succ_eq_append_getElem hk, List.filter_append, List.filter_eq_self.2 (fun y hy => by simp [h y hy])]
  simp [hp]
theorem delTo_skip {L K : List It} {p : It → Bool} {i j : Nat} (h : DelTo L p i j K) (hj : j < L.length) (hp : p L[j] = true) : DelTo L p i (j + 1) K := by
  refine ⟨h.len, ?_, ?_, by have := h.lt; omega, hj⟩
  · rw [List.take_succ_eq_append_getElem hj, List.filter_append, h.kept]; simp [hp]
  · rw [← List.drop_drop, h.rest, List.drop_drop]
theorem delTo_get {L K : List It} {p : It → Bool} {i j : Nat} (h : DelTo L p i j K) (hj : j < L.length) : K[j]'(by rw [h.len]; exact hj) = L[j] := by
  have h1 := h.rest
  rw [List.drop_eq_getElem_cons (by rw [h.len]; exact hj), List.drop_eq_getElem_cons hj] at h1
  exact (List.cons.inj h1).1
theorem delTo_keep {L K : List It} {p : It → Bool} {i j : Nat} (h : DelTo L p i j K) (hj : j < L.length) (hp : p L[j] = false) : DelTo L p (i + 1) (j + 1) (K.set i L[j]) := by
  have hlt := h.lt
  have hi : i < K.length := by rw [h.len]; omega
  refine ⟨by rw [List.length_set]; exact h.len, ?_, ?_, by omega, hj⟩
  · rw [List.take_succ_eq_append_getElem (by rw [List.length_set]; exact hi), List.take_set_of_le (Nat.le_refl _), h.kept, List.take_succ_eq_append_getElem hj, List.filter_append]
    simp [hp]
  · rw [List.drop_set_of_lt (by omega), ← List.drop_drop, h.rest, List.drop_drop]
theorem delTo_end {L K : List It} {p : It → Bool} {i : Nat} (h : DelTo L p i L.length K) : K.take i = L.filter (fun y => !p y) := by
  have := h.kept; rwa [List.take_length] at this

theorem zeros_one {n : Nat} : ∀ u ∈ (Builtin.zeroCells (itV zeroIt).cells n).toList, u.oneCell' = true := by
  intro u hu
  simp only [Builtin.zeroCells, Array.toList_map, List.mem_map] at hu
  obtain ⟨k, _, rfl⟩ := hu
  have h4 : k % 4 < 4 := Nat.mod_lt _ (by decide)
  show (((itV zeroIt).cells)[k % 4]!).oneCell' = true
  rcases (show k % 4 = 0 ∨ k % 4 = 1 ∨ k % 4 = 2 ∨ k % 4 = 3 by omega) with e | e | e | e <;> rw [e] <;> rfl
/-- The row behind: the first items alone. -/
theorem own_cut {B : Nat} {w : World} {g n cap i : Nat} {K : List It} (h : OwnI B w (.slice (some ⟨g, 0, none⟩) n cap) K) (hi : i < K.length) :
    ∃ C, (∀ ty, (Builtin.clear_ #[45] ty #[.slice (some ⟨g, i * 4, none⟩) (n - i) (cap - i)]).run Tryd.prog w = .ok (.tuple #[]) (w.setRow g C)) ∧
      OwnI B (w.setRow g C) (.slice (some ⟨g, 0, none⟩) i cap) (K.take i) ∧ w.grownBy (w.setRow g C) (some g) := by
  obtain ⟨cur, h1, h2, h3, h4, h5, h6, h7⟩ := own_row h
  subst h3
  obtain ⟨zs, hzs⟩ : ∃ zs, zs = (Builtin.zeroCells (itV zeroIt).cells (K.length - i)).toList := ⟨_, rfl⟩
  have hzl : zs.length = (K.length - i) * 4 := by rw [hzs, Array.length_toList, size_zeroCells]; rfl
  refine ⟨_, fun ty => run_clear_row w _ 27 ty (itV zeroIt) Tryd.underlying45 Tryd.zeroValue27 g (i * 4) (K.length - i) (cap - i) (by omega) cur 27 h2 zs hzs (by omega) (by rw [hzs]; exact zeros_one), ?_, grownBy_setRow _ _ _⟩
  have hl : (K.take i).length = i := by rw [List.length_take]; omega
  refine ⟨itCells_len _, .inr ⟨g, cap, _, by rw [hl], h1, setRow_heap w g cur _ _ (0, 0) h2, by omega, h5, ?_, ?_⟩⟩
  · simp only [List.size_toArray, List.length_append, List.length_take, List.length_drop, Array.length_toList]; omega
  · rw [hl]
    have hl2 : (cur.toList.take (i * 4)).length = i * 4 := by rw [List.length_take, Array.length_toList]; omega
    show List.take _ (cur.toList.take (i * 4) ++ zs ++ _) = _
    rw [List.append_assoc, List.take_left' hl2]
    have h8 : cur.toList.take (i * 4) = (cur.toList.take (K.length * 4)).take (i * 4) := by rw [List.take_take]; congr 1; omega
    rw [h8, h7]
    conv => lhs; rw [← List.take_append_drop i K, itCells_app]
    exact List.take_left' (by rw [itCells_len, hl])

set_option maxRecDepth 100000 in
set_option maxHeartbeats 4000000 in
theorem pDeleteFunc_any (B : Nat) (vs : Value) (L : List It) (bt : Nat) (s : ByteArray) (w : World) (h : OwnI B w vs L) (hB : B ≤ w.heap.size) (hf : fewB L = true) (hc : w.cell? ⟨bt, 0, none⟩ = some (.string s)) (hne : vs.ownBlock ≠ some bt) (hs : s.size ≤ 400) :
    Calls Tryd.prog 50 #[vs, .func (.func 51) #[] #[.pointer (some ⟨bt, 0, none⟩)]] w (InsI B vs (dropT L s.data.toList) w) := by
  have HO := Lib.hid h
  have HFEW := Lib.hid (few_mem hf)
  have h70 := few_len hf
  have IX := Lib.hid (pIndexFunc_any vs L bt s w h.items hf hc hs)
  have DD := Lib.hid (fun x w hc hx => kDel_any x bt s w hc hx hs)
  rw [dropT_del]
  obtain ⟨p, hp⟩ : ∃ p, p = delP s.data.toList := ⟨_, rfl⟩
  rw [← hp] at DD IX ⊢
  clear hp
  have hbl := block_lt_of_cell hc
  have HC := Lib.hid hc
  clear hf hc
  go_enter Tryd.func50, Tryd.ntmps50
  go_wp2_with fail
  refine IX.out.mono ?_
  rintro e w1 ⟨hb1, hcase⟩
  have HO1 := Lib.hid (HO.out.stays hb1)
  have HG1 := Lib.hid (below_grown hb1 vs.ownBlock)
  have HC1 := Lib.hid ((hb1.cell (p := ⟨bt, 0, none⟩) hbl).trans HC.out)
  have hB1 : B ≤ w1.heap.size := Nat.le_trans hB hb1.size
  have hbl1 : bt < w1.heap.size := Nat.lt_of_lt_of_le hbl hb1.size
  clear hb1 HO HC IX
  rcases hcase with ⟨rfl, hall⟩ | ⟨k, hk, rfl, hpk, hall⟩
  · have HE : Hid (L.filter (fun y => !p y) = L) := show _ = _ from List.filter_eq_self.2 (fun y hy => by simp [hall y hy])
    clear hall
    go_wp2
    go_ret
    exact ⟨_, rfl, by rw [HE.out]; exact HO1.out, HG1.out⟩
  · have HD := Lib.hid (delTo_start hk hall hpk)
    clear hall hpk
    have hcO := HO1.out
    rcases hcO.2 with ⟨_, h0⟩ | ⟨g, cap, cur, rfl, _, _, hle, hm, _⟩
    · omega
    · have hmm : cap ≤ 9223372036854775807 := by unfold maxLen at hm; omega
      have hmm2 : L.length ≤ 9223372036854775807 := by omega
      have hgb : g ≠ bt := fun e => hne (by rw [e]; rfl)
      have e1 : ((k : Int) == -1) = false := beq_eq_false_iff_ne.2 (by omega)
      clear hcO hm hne h
      go_wp2_with fail
      go_loopw [5, 6] (fun a b wr => ∃ (i j : Nat) (K : List It), a = .int .i64 i ∧ b = .int .i64 j ∧ DelTo L p i j K ∧ OwnI B wr (.slice (some ⟨g, 0, none⟩) L.length cap) K ∧ w.grownBy wr (some g) ∧ wr.cell? ⟨bt, 0, none⟩ = some (.string s) ∧ B ≤ wr.heap.size) (fun _ b _ => L.length - (intOf b).toNat)
      case atStart => exact ⟨k, k + 1, L, rfl, by go_num, HD.out, HO1.out, HG1.out, HC1.out, hB1⟩
      case round =>
        clear HD HO1 HG1 HC1 hB1 hbl1
        obtain ⟨i, j, K, rfl, rfl, hd, hown, hg, hcr, hBr⟩ := hrel
        have HD := Lib.hid hd; have HO := Lib.hid hown; have HG := Lib.hid hg; have HCr := Lib.hid hcr
        have hij := hd.lt
        have hkl := hd.len
        have hjle := hd.le
        by_cases hlt : j < L.length
        · have hjk : j < K.length := by omega
          have hik : i < K.length := by omega
          obtain ⟨_, _, _, e, _, hcc⟩ := hown.items
          simp only [Value.slice.injEq] at e
          obtain ⟨rfl, hl2, rfl⟩ := e
          clear hl2
          obtain ⟨b, off, e, _, gg⟩ := hcc (by omega)
          cases e
          obtain ⟨c0, c1, c2, c3⟩ := gg j hjk
          rw [Nat.zero_add] at c0 c1 c2 c3
          have hgj := delTo_get hd hlt
          rw [hgj] at c0 c1 c2 c3
          have HSK := Lib.hid (fun h => delTo_skip HD.out hlt h)
          have HKP := Lib.hid (fun h => delTo_keep HD.out hlt h)
          have hxs := (HFEW.out _ (List.getElem_mem hlt)).1
          obtain ⟨x, hx⟩ : ∃ x, x = L[j] := ⟨_, rfl⟩
          rw [← hx] at c0 c1 c2 c3 HSK HKP hxs
          have hbk : decide ((j : Int) < (L.length : Int)) = true := decide_eq_true (by omega)
          have hbk2 : decide ((i : Int) < (L.length : Int)) = true := decide_eq_true (by omega)
          have hrs : 0 < wr.heap.size := by have := block_lt_of_cell hcr; omega
          have hblr := block_lt_of_cell hcr
          clear hx hgj gg hcc hcr hown hg hd HD hkl
          go_wp2_with fail
          have hb0 := (Below.refl wr.heap.size wr).alloc (Nat.le_refl _) (.cells #[.string x.p, .bool x.d, .bool x.e, .string x.c] 27)
          have HX := Lib.hid (inBox_new wr x 27)
          have HO0 := Lib.hid (HO.out.stays hb0)
          have HG0 := Lib.hid (grown_below HG.out hb0)
          have hc0 := (hb0.cell (p := ⟨bt, 0, none⟩) hblr).trans HCr.out
          have hB0 : B ≤ (wr.alloc (.cells #[.string x.p, .bool x.d, .bool x.e, .string x.c] 27)).heap.size := Nat.le_trans hBr hb0.size
          generalize wr.alloc (.cells #[.string x.p, .bool x.d, .bool x.e, .string x.c] 27) = W1 at hb0 HX HO0 HG0 hc0 hB0 ⊢
          generalize wr.heap.size = B1 at HX ⊢
          clear hb0 HO HG HCr hBr c0 c1 c2 c3 hrs hblr
          have D1 := Lib.hid (DD.out x W1 hc0 hxs)
          have HC0 := Lib.hid hc0
          have hblr := block_lt_of_cell hc0
          clear hc0
          rcases hpx : p x with _ | _
          · rw [hpx] at D1
            have HN := Lib.hid (HKP.out hpx)
            clear hpx HSK HKP
            refine D1.out.mono ?_
            rintro e w2 ⟨rfl, hb⟩
            have HX2 := Lib.hid (HX.out.stays hb)
            have HO2 := Lib.hid (HO0.out.stays hb)
            have HG2 := Lib.hid (grown_below HG0.out hb)
            have HC2 := Lib.hid ((hb.cell (p := ⟨bt, 0, none⟩) hblr).trans HC0.out)
            have hB2 : B ≤ w2.heap.size := Nat.le_trans hB0 hb.size
            obtain ⟨d0, d1, d2, d3⟩ := HX2.out.cells
            clear hb HX HO0 HG0 HC0 hB0 hblr
            go_wp2_with (refine wpList_store_it (o := ⟨none, _, _, _, _, _⟩) rfl rfl (.tmp 33) (.tmp 32) rfl HO2.out hik rfl rfl ?_)
            intro w3 hown3 hg3
            have HO3 := Lib.hid hown3
            have HG3 := Lib.hid (grown_trans HG2.out hg3)
            have HC3 := Lib.hid (hg3.cell HC2.out (fun e => hgb (by cases e; rfl)))
            have hB3 : B ≤ w3.heap.size := Nat.le_trans hB2 hg3.size
            clear hown3 hg3 d0 d1 d2 d3
            go_wp2_with fail
            go_roundw
            case rel => exact ⟨i + 1, j + 1, _, by go_num, by go_num, HN.out, HO3.out, HG3.out, HC3.out, hB3⟩
            case measure => simp [intOf]; omega
          · rw [hpx] at D1
            have HN := Lib.hid (HSK.out hpx)
            clear hpx HSK HKP
            refine D1.out.mono ?_
            rintro e w2 ⟨rfl, hb⟩
            have HO2 := Lib.hid (HO0.out.stays hb)
            have HG2 := Lib.hid (grown_below HG0.out hb)
            have HC2 := Lib.hid ((hb.cell (p := ⟨bt, 0, none⟩) hblr).trans HC0.out)
            have hB2 : B ≤ w2.heap.size := Nat.le_trans hB0 hb.size
            clear hb HX HO0 HG0 HC0 hB0 hblr
            go_wp2_with fail
            go_roundw
            case rel => exact ⟨i, j + 1, _, rfl, by go_num, HN.out, HO2.out, HG2.out, HC2.out, hB2⟩
            case measure => simp [intOf]; omega
        · have hj : j = L.length := by omega
          have HE := Lib.hid (delTo_end (by have := HD.out; rw [hj] at this; exact this))
          have hik : i < K.length := by omega
          obtain ⟨C, hcl, hoc, hgc⟩ := own_cut HO.out hik
          have HOC := Lib.hid hoc
          have HGC := Lib.hid (grown_trans HG.out hgc)
          have hic : ¬ (cap = i) := by omega
          have hbk2 : (i : Int) ≤ (L.length : Int) := by omega
          clear hoc hgc hd hown hg hcr hj
          go_wp2
          go_ret
          exact ⟨_, rfl, by rw [← HE.out]; exact HOC.out, HGC.out⟩
end Go.Proofs.YtelaamchafocpaaDoor

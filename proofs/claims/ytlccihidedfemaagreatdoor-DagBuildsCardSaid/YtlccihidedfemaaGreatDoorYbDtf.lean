/-
  Contracts over this translation: slices' symMerge at objects.
-/
import Derived.Test.YtlccihidedfemaaGreatDoorQb1
import Derived.Test.YtlccihidedfemaaGreatDoorYbDte
set_option linter.unusedVariables false
namespace Go.Proofs.YtlccihidedfemaaGreatDoor
open Go.RowKit Go.Sort
attribute [local go_sem] Oper.semAt_some
def SymAt (k : Nat) : Prop := ∀ (g cap n a m b : Nat) (P X Y Q : List Ob) (w : World), RowO w g cap (P ++ (X ++ (Y ++ Q))) → n = (P ++ (X ++ (Y ++ Q))).length → a = P.length → m = P.length + X.length → b = P.length + X.length + Y.length → 0 < X.length → 0 < Y.length → X.length + Y.length ≤ k → SortO X → SortO Y → n ≤ 1000000 →
 Calls Tryz.prog 110 #[.slice (some ⟨g, 0, none⟩) n cap, .int .i64 a, .int .i64 m, .int .i64 b, cmpV] w (Merged g cap P X Y Q w)
set_option maxRecDepth 100000 in
set_option maxHeartbeats 16000000 in
theorem symMerge_step (k : Nat) (IH : SymAt k) (g cap n a m b : Nat) (P X Y Q : List Ob) (w : World) (hR : RowO w g cap (P ++ (X ++ (Y ++ Q)))) (hn : n = (P ++ (X ++ (Y ++ Q))).length) (ha : a = P.length) (hm : m = P.length + X.length) (hb : b = P.length + X.length + Y.length)
  (hX2 : 2 ≤ X.length) (hY2 : 2 ≤ Y.length) (hk : X.length + Y.length ≤ k + 1) (hX : SortO X) (hY : SortO Y) (hL : n ≤ 1000000) :
  Calls Tryz.prog 110 #[.slice (some ⟨g, 0, none⟩) n cap, .int .i64 a, .int .i64 m, .int .i64 b, cmpV] w (Merged g cap P X Y Q w) := by
 have HR := Lib.hid hR; have HIH := Lib.hid IH
 have C := Lib.hid (fun x y w => byKey1_any x y w)
 have HN := Lib.hid (hn.trans (show _ = P.length + X.length + Y.length + Q.length by simp; omega))
 have HNN := Lib.hid hn
 have HA := Lib.hid ha; have HB := Lib.hid hb; have HM := Lib.hid hm; have HX := Lib.hid hX; have HY := Lib.hid hY; have HK := Lib.hid hk
 have hbn : b ≤ n := by have := HN.out; omega
 have ham : a + 2 ≤ m := by omega
 have hmb : m + 2 ≤ b := by omega
 have q0 : ((m : Int) - (a : Int) == 1) = false := beq_eq_false_iff_ne.2 (by omega)
 have q1 : ((b : Int) - (m : Int) == 1) = false := beq_eq_false_iff_ne.2 (by omega)
 obtain ⟨mid, hmid⟩ : ∃ mid, mid = (a + b) / 2 := ⟨_, rfl⟩
 have emid : ((a : Int) + (b : Int)) / 2 = (mid : Int) := by omega
 have hm1 : 2 * mid ≤ a + b := by omega
 have hm2 : a + b ≤ 2 * mid + 1 := by omega
 clear hR hn ha hb hm hX hY hk IH hX2 hY2 hmid
 go_enter Tryz.func110, Tryz.ntmps110
 by_cases hmm : mid < m
 ·have q2 : decide ((m : Int) > (mid : Int)) = true := decide_eq_true (by omega)
  have q3 : (mid : Int) < (m : Int) := by omega
  go_wp2
  go_loopw [20, 21] (fun sv rv wr => ∃ s r : Nat, sv = .int .i64 s ∧ rv = .int .i64 r ∧ mid + m - b ≤ s ∧ a ≤ s ∧ s ≤ r ∧ r ≤ mid ∧ RowO wr g cap (P ++ (X ++ (Y ++ Q))) ∧ (∀ x ∈ (X.take (s - a)).getLast?, ∀ y ∈ (Y.drop (mid - s)).head?, ¬ y.t < x.t) ∧ (∀ x ∈ (X.drop (r - a)).head?, ∀ y ∈ (Y.take (mid - r)).getLast?, y.t < x.t) ∧ Turned w wr g) (fun s r _ => (intOf r).toNat - (intOf s).toNat)
  case atStart =>
   refine ⟨mid + m - b, mid, by first | rfl | (congr 1; omega), by congr 1, Nat.le_refl _, by omega, by omega, Nat.le_refl _, HR.out, (fun x hx y hy => ?_), (fun x hx y hy => ?_), turned_refl _ _⟩
   ·rw [List.drop_eq_nil_of_le (by have := HA.out; have := HM.out; have := HB.out; omega)] at hy; simp at hy
   ·rw [Nat.sub_self] at hy; simp at hy
  case round =>
   obtain ⟨s, r, rfl, rfl, hs0, has, hsr, hr0, hR, hLO, hHI, hT⟩ := hrel
   have HLO := Lib.hid hLO; have HHI := Lib.hid hHI; have HT := Lib.hid hT; have HR1 := Lib.hid hR
   clear hLO hHI hT hR
   by_cases hlt : s < r
   ·have hlh : decide ((s : Int) < (r : Int)) = true := decide_eq_true (by omega)
    obtain ⟨c, hc⟩ : ∃ c, c = (s + r) / 2 := ⟨_, rfl⟩
    have ec : ((s : Int) + (r : Int)) / 2 = (c : Int) := by omega
    have hsc : s ≤ c := by omega
    have hcr : c < r := by omega
    clear hc
    obtain ⟨d, hd⟩ : ∃ d, d = mid + m - 1 - c := ⟨_, rfl⟩
    have ed : (mid : Int) + (m : Int) - 1 - (c : Int) = (d : Int) := by omega
    have hdn : d < n := by omega
    have hcn : c < n := by omega
    have hi : c - a < X.length := by have := HA.out; have := HM.out; omega
    have hj : mid - 1 - c < Y.length := by have := HA.out; have := HM.out; have := HB.out; omega
    have hXr : X = X.take (c - a) ++ X[c - a] :: X.drop (c - a + 1) := by rw [← List.drop_eq_getElem_cons hi, List.take_append_drop]
    have hYr : Y = Y.take (mid - 1 - c) ++ Y[mid - 1 - c] :: Y.drop (mid - 1 - c + 1) := by rw [← List.drop_eq_getElem_cons hj, List.take_append_drop]
    have TX := Lib.hid (take_last hi); have DX := Lib.hid (drop_head hi)
    have TY := Lib.hid (take_last hj); have DY := Lib.hid (drop_head hj)
    obtain ⟨x, hx⟩ : ∃ x, x = X[c - a] := ⟨_, rfl⟩
    obtain ⟨y, hy⟩ : ∃ y, y = Y[mid - 1 - c] := ⟨_, rfl⟩
    rw [← hx] at hXr TX DX
    rw [← hy] at hYr TY DY
    obtain ⟨c0, c1⟩ : wr.cell? ⟨g, c * 2, none⟩ = some (.string x.k) ∧ wr.cell? ⟨g, c * 2 + 1, none⟩ = some (.string x.r) := by
     have h := HR1.out
     rw [hXr] at h
     exact RowO.one (A := P ++ X.take (c - a)) (R := X.drop (c - a + 1) ++ (Y ++ Q)) (by simpa using h) (by simp; have := HA.out; omega)
    obtain ⟨d0, d1⟩ : wr.cell? ⟨g, d * 2, none⟩ = some (.string y.k) ∧ wr.cell? ⟨g, d * 2 + 1, none⟩ = some (.string y.r) := by
     have h := HR1.out
     rw [hYr] at h
     exact RowO.one (A := P ++ X ++ Y.take (mid - 1 - c)) (R := Y.drop (mid - 1 - c + 1) ++ Q) (by simpa using h) (by simp; have := HM.out; omega)
    have HD := Lib.hid hd
    clear hXr hYr hx hy hi hj hd
    obtain ⟨W2, hW2⟩ : ∃ W2, W2 = wr := ⟨_, rfl⟩
    rw [← hW2] at c0 c1 d0 d1 HR1 HT ⊢
    clear hW2
    have k0 := fun d os => cell_regrown c0 d os
    have k1 := fun d os => cell_regrown c1 d os
    have k2 := fun q os => cell_regrown d0 q os
    have k3 := fun q os => cell_regrown d1 q os
    by_cases hxy : y.t < x.t
    ·have HC : Hid (∀ W, Calls Tryz.prog 56 #[obV y, obV x] W fun e w' => e = .returned (.int .i64 (-1)) ∧ Below W.heap.size W w') := Lib.hid (fun W => by
      have := C.out y x W; rwa [ordB_lt hxy] at this)
     have HXY := Lib.hid hxy
     clear hxy
     go_wp2_with fail
     refine wp_region_quiet_below (by kernel_rfl) (by kernel_rfl) ?_
     repeat (first | go_big_quiet_step (exact Calls.regrown_of (HC.out _)) | quiet_step (exact Calls.regrown_of (HC.out _)))
     refine wpQuiet_nil ?_
     intro wq hwq
     have hbq : Below W2.heap.size W2 wq := by obtain ⟨p, rfl⟩ := hwq; exact below_regrown _ _ _
     clear hwq k0 k1 k2 k3 c0 c1 d0 d1
     have HR3 := Lib.hid (HR1.out.stays hbq)
     have HT4 := Lib.hid (turned_step HT.out hbq)
     clear hbq
     go_wp2
     go_roundw
     case rel => exact ⟨s, c, rfl, by go_num, hs0, has, hsc, by omega, HR3.out, HLO.out, (fun z hz u hu => by
      rw [DX.out] at hz; rw [show mid - c = mid - 1 - c + 1 by omega, TY.out] at hu; cases hz; cases hu; exact HXY.out), HT4.out⟩
     case measure => simp [intOf]; omega
    ·obtain ⟨o, ho⟩ : ∃ o, o = ordB y.t x.t := ⟨_, rfl⟩
     have ho2 : decide (o < 0) = false := by rw [ho, ordB_neg]; exact decide_eq_false hxy
     have HC : Hid (∀ W, Calls Tryz.prog 56 #[obV y, obV x] W fun e w' => e = .returned (.int .i64 o) ∧ Below W.heap.size W w') := Lib.hid (fun W => by
      have := C.out y x W; rwa [← ho] at this)
     have HXY := Lib.hid hxy
     clear hxy ho
     go_wp2_with fail
     refine wp_region_quiet_below (by kernel_rfl) (by kernel_rfl) ?_
     repeat (first | go_big_quiet_step (exact Calls.regrown_of (HC.out _)) | quiet_step (exact Calls.regrown_of (HC.out _)))
     refine wpQuiet_nil ?_
     intro wq hwq
     have hbq : Below W2.heap.size W2 wq := by obtain ⟨p, rfl⟩ := hwq; exact below_regrown _ _ _
     clear hwq k0 k1 k2 k3 c0 c1 d0 d1
     have HR3 := Lib.hid (HR1.out.stays hbq)
     have HT4 := Lib.hid (turned_step HT.out hbq)
     clear hbq
     go_wp2
     go_roundw
     case rel => exact ⟨c + 1, r, by go_num, rfl, by omega, by omega, by omega, hr0, HR3.out, (fun z hz u hu => by
      rw [show c + 1 - a = c - a + 1 by omega, TX.out] at hz; rw [show mid - (c + 1) = mid - 1 - c by omega, DY.out] at hu; cases hz; cases hu; exact HXY.out), HHI.out, HT4.out⟩
     case measure => simp [intOf]; omega
   ·have hre : r = s := by omega
    subst hre
    have hlh : decide ((r : Int) < (r : Int)) = false := decide_eq_false (by omega)
    obtain ⟨en, hen⟩ : ∃ en, en = mid + m - r := ⟨_, rfl⟩
    have een : (mid : Int) + (m : Int) - (r : Int) = (en : Int) := by omega
    have hSX := HX.out; have hSY := HY.out
    rw [← List.take_append_drop (r - a) X] at hSX
    rw [← List.take_append_drop (mid - r) Y] at hSY
    obtain ⟨T1, T2⟩ := stab_turn hSX hSY HLO.out HHI.out
    have l1 : (X.take (r - a)).length = r - a := by rw [List.length_take]; have := HA.out; have := HM.out; omega
    have l2 : (X.drop (r - a)).length = m - r := by rw [List.length_drop]; have := HA.out; have := HM.out; omega
    have l3 : (Y.take (mid - r)).length = mid - r := by rw [List.length_take]; have := HM.out; have := HB.out; omega
    have l4 : (Y.drop (mid - r)).length = b - en := by rw [List.length_drop]; have := HM.out; have := HB.out; omega
    have eX := List.take_append_drop (r - a) X
    have eY := List.take_append_drop (mid - r) Y
    obtain ⟨X1, hX1⟩ : ∃ X1, X1 = X.take (r - a) := ⟨_, rfl⟩
    obtain ⟨X2, hX2⟩ : ∃ X2, X2 = X.drop (r - a) := ⟨_, rfl⟩
    obtain ⟨Y1, hY1⟩ : ∃ Y1, Y1 = Y.take (mid - r) := ⟨_, rfl⟩
    obtain ⟨Y2, hY2⟩ : ∃ Y2, Y2 = Y.drop (mid - r) := ⟨_, rfl⟩
    rw [← hX1] at hSX T1 T2 l1 eX
    rw [← hX2] at hSX T1 T2 l2 eX
    rw [← hY1] at hSY T1 T2 l3 eY
    rw [← hY2] at hSY T1 T2 l4 eY
    have HR2 : Hid (RowO wr g cap (P ++ (X1 ++ (X2 ++ (Y1 ++ (Y2 ++ Q)))))) := Lib.hid (by have := HR1.out; rw [← eX, ← eY] at this; simpa using this)
    rw [eX, eY] at T1
    have TT1 := Lib.hid T1; have TT2 := Lib.hid T2; have EX := Lib.hid eX; have EY := Lib.hid eY
    have SX1 := Lib.hid (sortO_app.1 hSX).1; have SX2 := Lib.hid (sortO_app.1 hSX).2.1; have SY1 := Lib.hid (sortO_app.1 hSY).1; have SY2 := Lib.hid (sortO_app.1 hSY).2.1
    have L1 := Lib.hid l1; have L2 := Lib.hid l2; have L3 := Lib.hid l3; have L4 := Lib.hid l4; have HEN := Lib.hid hen
    have hem : m ≤ en := by omega
    have heb : en ≤ b := by have := HM.out; have := HB.out; have := HA.out; omega
    clear hSX hSY T1 T2 l1 l2 l3 l4 eX eY hX1 hX2 hY1 hY2 HR1 HLO HHI hlt
    by_cases z1 : a < r <;> by_cases z2 : r < m <;> by_cases z3 : r < mid <;> by_cases z4 : en < b
    ·have b1 : decide ((a : Int) < (r : Int)) = true := decide_eq_true (by have := HEN.out; omega)
     have p1 : (a : Int) < (r : Int) := by have := HEN.out; omega
     have b2 : decide ((r : Int) < (m : Int)) = true := decide_eq_true (by have := HEN.out; omega)
     have p2 : (r : Int) < (m : Int) := by have := HEN.out; omega
     have b3 : decide ((r : Int) < (mid : Int)) = true := decide_eq_true (by have := HEN.out; omega)
     have p3 : (r : Int) < (mid : Int) := by have := HEN.out; omega
     have b4 : decide ((en : Int) < (b : Int)) = true := decide_eq_true (by have := HEN.out; omega)
     have p4 : (en : Int) < (b : Int) := by have := HEN.out; omega
     have b5 : decide ((m : Int) < (en : Int)) = true := decide_eq_true (by have := HEN.out; omega)
     have p5 : (m : Int) < (en : Int) := by have := HEN.out; omega
     have b6 : decide ((mid : Int) < (en : Int)) = true := decide_eq_true (by have := HEN.out; omega)
     have p6 : (mid : Int) < (en : Int) := by have := HEN.out; omega
     clear hen
     have CR := Lib.hid (rotate_any cmpV g cap n r m en (P ++ X1) X2 Y1 (Y2 ++ Q) wr (by simpa using HR2.out) (by rw [HN.out, ← EX.out, ← EY.out]; simp; omega) (by simp; have := L1.out; have := HA.out; omega) (by simp; have := L1.out; have := L2.out; have := HA.out; omega) (by simp; have := L1.out; have := L2.out; have := L3.out; have := HA.out; have := HEN.out; omega) (by have := L2.out; omega) (by have := L3.out; omega) hL)
     go_wp2_with fail
     with_reducible refine CR.out.mono ?_
     rintro e w1 ⟨rfl, hR1, hT1⟩
     have HR3 : Hid (RowO w1 g cap (P ++ (X1 ++ (Y1 ++ (X2 ++ (Y2 ++ Q)))))) := Lib.hid (by simpa using hR1)
     have HT3 := Lib.hid (turned_trans HT.out hT1)
     clear hR1 hT1
     have CL := Lib.hid (HIH.out g cap n a r mid P X1 Y1 (X2 ++ (Y2 ++ Q)) w1 HR3.out (by rw [HN.out, ← EX.out, ← EY.out]; simp; omega) HA.out (by have := L1.out; have := HA.out; omega) (by have := L1.out; have := L3.out; have := HA.out; omega) (by have := L1.out; omega) (by have := L3.out; omega) (by have := L1.out; have := L3.out; have := HK.out; have := HA.out; have := HB.out; have := HM.out; omega) SX1.out SY1.out hL)
     go_wp2_with fail
     with_reducible refine CL.out.mono ?_
     rintro e w2 ⟨rfl, S1, hR1, hl1, hs1, ho1, hT1⟩
     have HR4 := Lib.hid hR1; have HL1 := Lib.hid hl1; have HS1 := Lib.hid hs1; have HO1 := Lib.hid ho1
     have HT4 := Lib.hid (turned_trans HT3.out hT1)
     clear hR1 hl1 hs1 ho1 hT1
     have CU := Lib.hid (HIH.out g cap n mid en b (P ++ S1) X2 Y2 Q w2 (by simpa using HR4.out) (by rw [HN.out, ← EX.out, ← EY.out]; simp; have := HL1.out; omega) (by simp; have := HL1.out; have := L1.out; have := L3.out; have := HA.out; omega) (by simp; have := HL1.out; have := L1.out; have := L2.out; have := L3.out; have := HA.out; have := HEN.out; omega) (by simp; have := HL1.out; have := L1.out; have := L2.out; have := L3.out; have := L4.out; have := HA.out; have := HEN.out; omega) (by have := L2.out; omega) (by have := L4.out; omega) (by have := L2.out; have := L4.out; have := HK.out; have := HA.out; have := HB.out; have := HM.out; have := HEN.out; omega) SX2.out SY2.out hL)
     go_wp2_with fail
     with_reducible refine CU.out.mono ?_
     rintro e w3 ⟨rfl, S2, hR1, hl1, hs1, ho1, hT1⟩
     have HR5 : Hid (RowO w3 g cap (P ++ ((S1 ++ S2) ++ Q))) := Lib.hid (by simpa using hR1)
     have HL2 := Lib.hid hl1; have HS2 := Lib.hid hs1; have HO2 := Lib.hid ho1
     have HT5 := Lib.hid (turned_trans HT4.out hT1)
     clear hR1 hl1 hs1 ho1 hT1
     go_wp2
     all_goals (go_end0; exact ⟨rfl, S1 ++ S2, HR5.out, by rw [List.length_append, HL1.out, HL2.out, ← EX.out, ← EY.out, List.length_append, List.length_append]; omega, (stab_parts TT1.out TT2.out HS1.out HO1.out HS2.out HO2.out).1, (stab_parts TT1.out TT2.out HS1.out HO1.out HS2.out HO2.out).2, HT5.out⟩)
    ·have b1 : decide ((a : Int) < (r : Int)) = true := decide_eq_true (by have := HEN.out; omega)
     have p1 : (a : Int) < (r : Int) := by have := HEN.out; omega
     have b2 : decide ((r : Int) < (m : Int)) = true := decide_eq_true (by have := HEN.out; omega)
     have p2 : (r : Int) < (m : Int) := by have := HEN.out; omega
     have b3 : decide ((r : Int) < (mid : Int)) = true := decide_eq_true (by have := HEN.out; omega)
     have p3 : (r : Int) < (mid : Int) := by have := HEN.out; omega
     have b4 : decide ((en : Int) < (b : Int)) = false := decide_eq_false (by have := HEN.out; omega)
     have p4 : ¬ (en : Int) < (b : Int) := by have := HEN.out; omega
     have b5 : decide ((m : Int) < (en : Int)) = true := decide_eq_true (by have := HEN.out; omega)
     have p5 : (m : Int) < (en : Int) := by have := HEN.out; omega
     have b6 : decide ((mid : Int) < (en : Int)) = true := decide_eq_true (by have := HEN.out; omega)
     have p6 : (mid : Int) < (en : Int) := by have := HEN.out; omega
     clear hen
     have EY2 : Hid (Y2 = []) := Lib.hid (List.length_eq_zero_iff.1 (by have := L4.out; omega))
     have CR := Lib.hid (rotate_any cmpV g cap n r m en (P ++ X1) X2 Y1 (Y2 ++ Q) wr (by simpa using HR2.out) (by rw [HN.out, ← EX.out, ← EY.out]; simp; omega) (by simp; have := L1.out; have := HA.out; omega) (by simp; have := L1.out; have := L2.out; have := HA.out; omega) (by simp; have := L1.out; have := L2.out; have := L3.out; have := HA.out; have := HEN.out; omega) (by have := L2.out; omega) (by have := L3.out; omega) hL)
     go_wp2_with fail
     with_reducible refine CR.out.mono ?_
     rintro e w1 ⟨rfl, hR1, hT1⟩
     have HR3 : Hid (RowO w1 g cap (P ++ (X1 ++ (Y1 ++ (X2 ++ (Y2 ++ Q)))))) := Lib.hid (by simpa using hR1)
     have HT3 := Lib.hid (turned_trans HT.out hT1)
     clear hR1 hT1
     have CL := Lib.hid (HIH.out g cap n a r mid P X1 Y1 (X2 ++ (Y2 ++ Q)) w1 HR3.out (by rw [HN.out, ← EX.out, ← EY.out]; simp; omega) HA.out (by have := L1.out; have := HA.out; omega) (by have := L1.out; have := L3.out; have := HA.out; omega) (by have := L1.out; omega) (by have := L3.out; omega) (by have := L1.out; have := L3.out; have := HK.out; have := HA.out; have := HB.out; have := HM.out; omega) SX1.out SY1.out hL)
     go_wp2_with fail
     with_reducible refine CL.out.mono ?_
     rintro e w2 ⟨rfl, S1, hR1, hl1, hs1, ho1, hT1⟩
     have HR4 := Lib.hid hR1; have HL1 := Lib.hid hl1; have HS1 := Lib.hid hs1; have HO1 := Lib.hid ho1
     have HT4 := Lib.hid (turned_trans HT3.out hT1)
     clear hR1 hl1 hs1 ho1 hT1
     obtain ⟨S2, hS2⟩ : ∃ S2, S2 = X2 ++ Y2 := ⟨_, rfl⟩
     have HR5 : Hid (RowO w2 g cap (P ++ ((S1 ++ S2) ++ Q))) := Lib.hid (by rw [hS2]; simpa using HR4.out)
     have HL2 : Hid (S2.length = X2.length + Y2.length) := Lib.hid (by rw [hS2, List.length_append])
     have HS2 : Hid (Stab (X2 ++ Y2) S2) := Lib.hid (by rw [hS2]; exact Stab.refl _)
     have HO2 : Hid (SortO S2) := Lib.hid (by rw [hS2]; rw [EY2.out, List.append_nil]; exact SX2.out)
     have HT5 := HT4
     clear hS2
     go_wp2
     all_goals (go_end0; exact ⟨rfl, S1 ++ S2, HR5.out, by rw [List.length_append, HL1.out, HL2.out, ← EX.out, ← EY.out, List.length_append, List.length_append]; omega, (stab_parts TT1.out TT2.out HS1.out HO1.out HS2.out HO2.out).1, (stab_parts TT1.out TT2.out HS1.out HO1.out HS2.out HO2.out).2, HT5.out⟩)
    ·have b1 : decide ((a : Int) < (r : Int)) = true := decide_eq_true (by have := HEN.out; omega)
     have p1 : (a : Int) < (r : Int) := by have := HEN.out; omega
     have b2 : decide ((r : Int) < (m : Int)) = true := decide_eq_true (by have := HEN.out; omega)
     have p2 : (r : Int) < (m : Int) := by have := HEN.out; omega
     have b3 : decide ((r : Int) < (mid : Int)) = false := decide_eq_false (by have := HEN.out; omega)
     have p3 : ¬ (r : Int) < (mid : Int) := by have := HEN.out; omega
     have b4 : decide ((en : Int) < (b : Int)) = true := decide_eq_true (by have := HEN.out; omega)
     have p4 : (en : Int) < (b : Int) := by have := HEN.out; omega
     have b5 : decide ((m : Int) < (en : Int)) = false := decide_eq_false (by have := HEN.out; omega)
     have p5 : ¬ (m : Int) < (en : Int) := by have := HEN.out; omega
     have b6 : decide ((mid : Int) < (en : Int)) = true := decide_eq_true (by have := HEN.out; omega)
     have p6 : (mid : Int) < (en : Int) := by have := HEN.out; omega
     clear hen
     have EY1 : Hid (Y1 = []) := Lib.hid (List.length_eq_zero_iff.1 (by have := L3.out; omega))
     have HR3 : Hid (RowO wr g cap (P ++ (X1 ++ (Y1 ++ (X2 ++ (Y2 ++ Q)))))) := Lib.hid (by have := HR2.out; rw [EY1.out] at this ⊢; simpa using this)
     have HT3 := HT
     obtain ⟨S1, hS1⟩ : ∃ S1, S1 = X1 ++ Y1 := ⟨_, rfl⟩
     have HR4 : Hid (RowO wr g cap (P ++ (S1 ++ (X2 ++ (Y2 ++ Q))))) := Lib.hid (by rw [hS1]; simpa using HR3.out)
     have HL1 : Hid (S1.length = X1.length + Y1.length) := Lib.hid (by rw [hS1, List.length_append])
     have HS1 : Hid (Stab (X1 ++ Y1) S1) := Lib.hid (by rw [hS1]; exact Stab.refl _)
     have HO1 : Hid (SortO S1) := Lib.hid (by rw [hS1]; rw [EY1.out, List.append_nil]; exact SX1.out)
     have HT4 := HT3
     clear hS1
     have CU := Lib.hid (HIH.out g cap n mid en b (P ++ S1) X2 Y2 Q wr (by simpa using HR4.out) (by rw [HN.out, ← EX.out, ← EY.out]; simp; have := HL1.out; omega) (by simp; have := HL1.out; have := L1.out; have := L3.out; have := HA.out; omega) (by simp; have := HL1.out; have := L1.out; have := L2.out; have := L3.out; have := HA.out; have := HEN.out; omega) (by simp; have := HL1.out; have := L1.out; have := L2.out; have := L3.out; have := L4.out; have := HA.out; have := HEN.out; omega) (by have := L2.out; omega) (by have := L4.out; omega) (by have := L2.out; have := L4.out; have := HK.out; have := HA.out; have := HB.out; have := HM.out; have := HEN.out; omega) SX2.out SY2.out hL)
     go_wp2_with fail
     with_reducible refine CU.out.mono ?_
     rintro e w3 ⟨rfl, S2, hR1, hl1, hs1, ho1, hT1⟩
     have HR5 : Hid (RowO w3 g cap (P ++ ((S1 ++ S2) ++ Q))) := Lib.hid (by simpa using hR1)
     have HL2 := Lib.hid hl1; have HS2 := Lib.hid hs1; have HO2 := Lib.hid ho1
     have HT5 := Lib.hid (turned_trans HT4.out hT1)
     clear hR1 hl1 hs1 ho1 hT1
     go_wp2
     all_goals (go_end0; exact ⟨rfl, S1 ++ S2, HR5.out, by rw [List.length_append, HL1.out, HL2.out, ← EX.out, ← EY.out, List.length_append, List.length_append]; omega, (stab_parts TT1.out TT2.out HS1.out HO1.out HS2.out HO2.out).1, (stab_parts TT1.out TT2.out HS1.out HO1.out HS2.out HO2.out).2, HT5.out⟩)
    ·have b1 : decide ((a : Int) < (r : Int)) = true := decide_eq_true (by have := HEN.out; omega)
     have p1 : (a : Int) < (r : Int) := by have := HEN.out; omega
     have b2 : decide ((r : Int) < (m : Int)) = true := decide_eq_true (by have := HEN.out; omega)
     have p2 : (r : Int) < (m : Int) := by have := HEN.out; omega
     have b3 : decide ((r : Int) < (mid : Int)) = false := decide_eq_false (by have := HEN.out; omega)
     have p3 : ¬ (r : Int) < (mid : Int) := by have := HEN.out; omega
     have b4 : decide ((en : Int) < (b : Int)) = false := decide_eq_false (by have := HEN.out; omega)
     have p4 : ¬ (en : Int) < (b : Int) := by have := HEN.out; omega
     have b5 : decide ((m : Int) < (en : Int)) = false := decide_eq_false (by have := HEN.out; omega)
     have p5 : ¬ (m : Int) < (en : Int) := by have := HEN.out; omega
     have b6 : decide ((mid : Int) < (en : Int)) = true := decide_eq_true (by have := HEN.out; omega)
     have p6 : (mid : Int) < (en : Int) := by have := HEN.out; omega
     clear hen
     have EY1 : Hid (Y1 = []) := Lib.hid (List.length_eq_zero_iff.1 (by have := L3.out; omega))
     have EY2 : Hid (Y2 = []) := Lib.hid (List.length_eq_zero_iff.1 (by have := L4.out; omega))
     have HR3 : Hid (RowO wr g cap (P ++ (X1 ++ (Y1 ++ (X2 ++ (Y2 ++ Q)))))) := Lib.hid (by have := HR2.out; rw [EY1.out] at this ⊢; simpa using this)
     have HT3 := HT
     obtain ⟨S1, hS1⟩ : ∃ S1, S1 = X1 ++ Y1 := ⟨_, rfl⟩
     have HR4 : Hid (RowO wr g cap (P ++ (S1 ++ (X2 ++ (Y2 ++ Q))))) := Lib.hid (by rw [hS1]; simpa using HR3.out)
     have HL1 : Hid (S1.length = X1.length + Y1.length) := Lib.hid (by rw [hS1, List.length_append])
     have HS1 : Hid (Stab (X1 ++ Y1) S1) := Lib.hid (by rw [hS1]; exact Stab.refl _)
     have HO1 : Hid (SortO S1) := Lib.hid (by rw [hS1]; rw [EY1.out, List.append_nil]; exact SX1.out)
     have HT4 := HT3
     clear hS1
     obtain ⟨S2, hS2⟩ : ∃ S2, S2 = X2 ++ Y2 := ⟨_, rfl⟩
     have HR5 : Hid (RowO wr g cap (P ++ ((S1 ++ S2) ++ Q))) := Lib.hid (by rw [hS2]; simpa using HR4.out)
     have HL2 : Hid (S2.length = X2.length + Y2.length) := Lib.hid (by rw [hS2, List.length_append])
     have HS2 : Hid (Stab (X2 ++ Y2) S2) := Lib.hid (by rw [hS2]; exact Stab.refl _)
     have HO2 : Hid (SortO S2) := Lib.hid (by rw [hS2]; rw [EY2.out, List.append_nil]; exact SX2.out)
     have HT5 := HT4
     clear hS2
     go_wp2
     all_goals (go_end0; exact ⟨rfl, S1 ++ S2, HR5.out, by rw [List.length_append, HL1.out, HL2.out, ← EX.out, ← EY.out, List.length_append, List.length_append]; omega, (stab_parts TT1.out TT2.out HS1.out HO1.out HS2.out HO2.out).1, (stab_parts TT1.out TT2.out HS1.out HO1.out HS2.out HO2.out).2, HT5.out⟩)
    ·have b1 : decide ((a : Int) < (r : Int)) = true := decide_eq_true (by have := HEN.out; omega)
     have p1 : (a : Int) < (r : Int) := by have := HEN.out; omega
     have b2 : decide ((r : Int) < (m : Int)) = false := decide_eq_false (by have := HEN.out; omega)
     have p2 : ¬ (r : Int) < (m : Int) := by have := HEN.out; omega
     have b3 : decide ((r : Int) < (mid : Int)) = true := decide_eq_true (by have := HEN.out; omega)
     have p3 : (r : Int) < (mid : Int) := by have := HEN.out; omega
     have b4 : decide ((en : Int) < (b : Int)) = true := decide_eq_true (by have := HEN.out; omega)
     have p4 : (en : Int) < (b : Int) := by have := HEN.out; omega
     have b5 : decide ((m : Int) < (en : Int)) = true := decide_eq_true (by have := HEN.out; omega)
     have p5 : (m : Int) < (en : Int) := by have := HEN.out; omega
     have b6 : decide ((mid : Int) < (en : Int)) = false := decide_eq_false (by have := HEN.out; omega)
     have p6 : ¬ (mid : Int) < (en : Int) := by have := HEN.out; omega
     clear hen
     have EX2 : Hid (X2 = []) := Lib.hid (List.length_eq_zero_iff.1 (by have := L2.out; omega))
     have HR3 : Hid (RowO wr g cap (P ++ (X1 ++ (Y1 ++ (X2 ++ (Y2 ++ Q)))))) := Lib.hid (by have := HR2.out; rw [EX2.out] at this ⊢; simpa using this)
     have HT3 := HT
     have CL := Lib.hid (HIH.out g cap n a r mid P X1 Y1 (X2 ++ (Y2 ++ Q)) wr HR3.out (by rw [HN.out, ← EX.out, ← EY.out]; simp; omega) HA.out (by have := L1.out; have := HA.out; omega) (by have := L1.out; have := L3.out; have := HA.out; omega) (by have := L1.out; omega) (by have := L3.out; omega) (by have := L1.out; have := L3.out; have := HK.out; have := HA.out; have := HB.out; have := HM.out; omega) SX1.out SY1.out hL)
     go_wp2_with fail
     with_reducible refine CL.out.mono ?_
     rintro e w2 ⟨rfl, S1, hR1, hl1, hs1, ho1, hT1⟩
     have HR4 := Lib.hid hR1; have HL1 := Lib.hid hl1; have HS1 := Lib.hid hs1; have HO1 := Lib.hid ho1
     have HT4 := Lib.hid (turned_trans HT3.out hT1)
     clear hR1 hl1 hs1 ho1 hT1
     obtain ⟨S2, hS2⟩ : ∃ S2, S2 = X2 ++ Y2 := ⟨_, rfl⟩
     have HR5 : Hid (RowO w2 g cap (P ++ ((S1 ++ S2) ++ Q))) := Lib.hid (by rw [hS2]; simpa using HR4.out)
     have HL2 : Hid (S2.length = X2.length + Y2.length) := Lib.hid (by rw [hS2, List.length_append])
     have HS2 : Hid (Stab (X2 ++ Y2) S2) := Lib.hid (by rw [hS2]; exact Stab.refl _)
     have HO2 : Hid (SortO S2) := Lib.hid (by rw [hS2]; rw [EX2.out]; exact SY2.out)
     have HT5 := HT4
     clear hS2
     go_wp2
     all_goals (go_end0; exact ⟨rfl, S1 ++ S2, HR5.out, by rw [List.length_append, HL1.out, HL2.out, ← EX.out, ← EY.out, List.length_append, List.length_append]; omega, (stab_parts TT1.out TT2.out HS1.out HO1.out HS2.out HO2.out).1, (stab_parts TT1.out TT2.out HS1.out HO1.out HS2.out HO2.out).2, HT5.out⟩)
    ·have b1 : decide ((a : Int) < (r : Int)) = true := decide_eq_true (by have := HEN.out; omega)
     have p1 : (a : Int) < (r : Int) := by have := HEN.out; omega
     have b2 : decide ((r : Int) < (m : Int)) = false := decide_eq_false (by have := HEN.out; omega)
     have p2 : ¬ (r : Int) < (m : Int) := by have := HEN.out; omega
     have b3 : decide ((r : Int) < (mid : Int)) = true := decide_eq_true (by have := HEN.out; omega)
     have p3 : (r : Int) < (mid : Int) := by have := HEN.out; omega
     have b4 : decide ((en : Int) < (b : Int)) = false := decide_eq_false (by have := HEN.out; omega)
     have p4 : ¬ (en : Int) < (b : Int) := by have := HEN.out; omega
     have b5 : decide ((m : Int) < (en : Int)) = true := decide_eq_true (by have := HEN.out; omega)
     have p5 : (m : Int) < (en : Int) := by have := HEN.out; omega
     have b6 : decide ((mid : Int) < (en : Int)) = false := decide_eq_false (by have := HEN.out; omega)
     have p6 : ¬ (mid : Int) < (en : Int) := by have := HEN.out; omega
     clear hen
     have EX2 : Hid (X2 = []) := Lib.hid (List.length_eq_zero_iff.1 (by have := L2.out; omega))
     have EY2 : Hid (Y2 = []) := Lib.hid (List.length_eq_zero_iff.1 (by have := L4.out; omega))
     have HR3 : Hid (RowO wr g cap (P ++ (X1 ++ (Y1 ++ (X2 ++ (Y2 ++ Q)))))) := Lib.hid (by have := HR2.out; rw [EX2.out] at this ⊢; simpa using this)
     have HT3 := HT
     have CL := Lib.hid (HIH.out g cap n a r mid P X1 Y1 (X2 ++ (Y2 ++ Q)) wr HR3.out (by rw [HN.out, ← EX.out, ← EY.out]; simp; omega) HA.out (by have := L1.out; have := HA.out; omega) (by have := L1.out; have := L3.out; have := HA.out; omega) (by have := L1.out; omega) (by have := L3.out; omega) (by have := L1.out; have := L3.out; have := HK.out; have := HA.out; have := HB.out; have := HM.out; omega) SX1.out SY1.out hL)
     go_wp2_with fail
     with_reducible refine CL.out.mono ?_
     rintro e w2 ⟨rfl, S1, hR1, hl1, hs1, ho1, hT1⟩
     have HR4 := Lib.hid hR1; have HL1 := Lib.hid hl1; have HS1 := Lib.hid hs1; have HO1 := Lib.hid ho1
     have HT4 := Lib.hid (turned_trans HT3.out hT1)
     clear hR1 hl1 hs1 ho1 hT1
     obtain ⟨S2, hS2⟩ : ∃ S2, S2 = X2 ++ Y2 := ⟨_, rfl⟩
     have HR5 : Hid (RowO w2 g cap (P ++ ((S1 ++ S2) ++ Q))) := Lib.hid (by rw [hS2]; simpa using HR4.out)
     have HL2 : Hid (S2.length = X2.length + Y2.length) := Lib.hid (by rw [hS2, List.length_append])
     have HS2 : Hid (Stab (X2 ++ Y2) S2) := Lib.hid (by rw [hS2]; exact Stab.refl _)
     have HO2 : Hid (SortO S2) := Lib.hid (by rw [hS2]; rw [EX2.out]; exact SY2.out)
     have HT5 := HT4
     clear hS2
     go_wp2
     all_goals (go_end0; exact ⟨rfl, S1 ++ S2, HR5.out, by rw [List.length_append, HL1.out, HL2.out, ← EX.out, ← EY.out, List.length_append, List.length_append]; omega, (stab_parts TT1.out TT2.out HS1.out HO1.out HS2.out HO2.out).1, (stab_parts TT1.out TT2.out HS1.out HO1.out HS2.out HO2.out).2, HT5.out⟩)
    ·have b1 : decide ((a : Int) < (r : Int)) = true := decide_eq_true (by have := HEN.out; omega)
     have p1 : (a : Int) < (r : Int) := by have := HEN.out; omega
     have b2 : decide ((r : Int) < (m : Int)) = false := decide_eq_false (by have := HEN.out; omega)
     have p2 : ¬ (r : Int) < (m : Int) := by have := HEN.out; omega
     have b3 : decide ((r : Int) < (mid : Int)) = false := decide_eq_false (by have := HEN.out; omega)
     have p3 : ¬ (r : Int) < (mid : Int) := by have := HEN.out; omega
     have b4 : decide ((en : Int) < (b : Int)) = true := decide_eq_true (by have := HEN.out; omega)
     have p4 : (en : Int) < (b : Int) := by have := HEN.out; omega
     have b5 : decide ((m : Int) < (en : Int)) = false := decide_eq_false (by have := HEN.out; omega)
     have p5 : ¬ (m : Int) < (en : Int) := by have := HEN.out; omega
     have b6 : decide ((mid : Int) < (en : Int)) = false := decide_eq_false (by have := HEN.out; omega)
     have p6 : ¬ (mid : Int) < (en : Int) := by have := HEN.out; omega
     clear hen
     have EX2 : Hid (X2 = []) := Lib.hid (List.length_eq_zero_iff.1 (by have := L2.out; omega))
     have EY1 : Hid (Y1 = []) := Lib.hid (List.length_eq_zero_iff.1 (by have := L3.out; omega))
     have HR3 : Hid (RowO wr g cap (P ++ (X1 ++ (Y1 ++ (X2 ++ (Y2 ++ Q)))))) := Lib.hid (by have := HR2.out; rw [EX2.out] at this ⊢; simpa using this)
     have HT3 := HT
     obtain ⟨S1, hS1⟩ : ∃ S1, S1 = X1 ++ Y1 := ⟨_, rfl⟩
     have HR4 : Hid (RowO wr g cap (P ++ (S1 ++ (X2 ++ (Y2 ++ Q))))) := Lib.hid (by rw [hS1]; simpa using HR3.out)
     have HL1 : Hid (S1.length = X1.length + Y1.length) := Lib.hid (by rw [hS1, List.length_append])
     have HS1 : Hid (Stab (X1 ++ Y1) S1) := Lib.hid (by rw [hS1]; exact Stab.refl _)
     have HO1 : Hid (SortO S1) := Lib.hid (by rw [hS1]; rw [EY1.out, List.append_nil]; exact SX1.out)
     have HT4 := HT3
     clear hS1
     obtain ⟨S2, hS2⟩ : ∃ S2, S2 = X2 ++ Y2 := ⟨_, rfl⟩
     have HR5 : Hid (RowO wr g cap (P ++ ((S1 ++ S2) ++ Q))) := Lib.hid (by rw [hS2]; simpa using HR4.out)
     have HL2 : Hid (S2.length = X2.length + Y2.length) := Lib.hid (by rw [hS2, List.length_append])
     have HS2 : Hid (Stab (X2 ++ Y2) S2) := Lib.hid (by rw [hS2]; exact Stab.refl _)
     have HO2 : Hid (SortO S2) := Lib.hid (by rw [hS2]; rw [EX2.out]; exact SY2.out)
     have HT5 := HT4
     clear hS2
     go_wp2
     all_goals (go_end0; exact ⟨rfl, S1 ++ S2, HR5.out, by rw [List.length_append, HL1.out, HL2.out, ← EX.out, ← EY.out, List.length_append, List.length_append]; omega, (stab_parts TT1.out TT2.out HS1.out HO1.out HS2.out HO2.out).1, (stab_parts TT1.out TT2.out HS1.out HO1.out HS2.out HO2.out).2, HT5.out⟩)
    ·have b1 : decide ((a : Int) < (r : Int)) = true := decide_eq_true (by have := HEN.out; omega)
     have p1 : (a : Int) < (r : Int) := by have := HEN.out; omega
     have b2 : decide ((r : Int) < (m : Int)) = false := decide_eq_false (by have := HEN.out; omega)
     have p2 : ¬ (r : Int) < (m : Int) := by have := HEN.out; omega
     have b3 : decide ((r : Int) < (mid : Int)) = false := decide_eq_false (by have := HEN.out; omega)
     have p3 : ¬ (r : Int) < (mid : Int) := by have := HEN.out; omega
     have b4 : decide ((en : Int) < (b : Int)) = false := decide_eq_false (by have := HEN.out; omega)
     have p4 : ¬ (en : Int) < (b : Int) := by have := HEN.out; omega
     have b5 : decide ((m : Int) < (en : Int)) = false := decide_eq_false (by have := HEN.out; omega)
     have p5 : ¬ (m : Int) < (en : Int) := by have := HEN.out; omega
     have b6 : decide ((mid : Int) < (en : Int)) = false := decide_eq_false (by have := HEN.out; omega)
     have p6 : ¬ (mid : Int) < (en : Int) := by have := HEN.out; omega
     clear hen
     have EX2 : Hid (X2 = []) := Lib.hid (List.length_eq_zero_iff.1 (by have := L2.out; omega))
     have EY1 : Hid (Y1 = []) := Lib.hid (List.length_eq_zero_iff.1 (by have := L3.out; omega))
     have EY2 : Hid (Y2 = []) := Lib.hid (List.length_eq_zero_iff.1 (by have := L4.out; omega))
     have HR3 : Hid (RowO wr g cap (P ++ (X1 ++ (Y1 ++ (X2 ++ (Y2 ++ Q)))))) := Lib.hid (by have := HR2.out; rw [EX2.out] at this ⊢; simpa using this)
     have HT3 := HT
     obtain ⟨S1, hS1⟩ : ∃ S1, S1 = X1 ++ Y1 := ⟨_, rfl⟩
     have HR4 : Hid (RowO wr g cap (P ++ (S1 ++ (X2 ++ (Y2 ++ Q))))) := Lib.hid (by rw [hS1]; simpa using HR3.out)
     have HL1 : Hid (S1.length = X1.length + Y1.length) := Lib.hid (by rw [hS1, List.length_append])
     have HS1 : Hid (Stab (X1 ++ Y1) S1) := Lib.hid (by rw [hS1]; exact Stab.refl _)
     have HO1 : Hid (SortO S1) := Lib.hid (by rw [hS1]; rw [EY1.out, List.append_nil]; exact SX1.out)
     have HT4 := HT3
     clear hS1
     obtain ⟨S2, hS2⟩ : ∃ S2, S2 = X2 ++ Y2 := ⟨_, rfl⟩
     have HR5 : Hid (RowO wr g cap (P ++ ((S1 ++ S2) ++ Q))) := Lib.hid (by rw [hS2]; simpa using HR4.out)
     have HL2 : Hid (S2.length = X2.length + Y2.length) := Lib.hid (by rw [hS2, List.length_append])
     have HS2 : Hid (Stab (X2 ++ Y2) S2) := Lib.hid (by rw [hS2]; exact Stab.refl _)
     have HO2 : Hid (SortO S2) := Lib.hid (by rw [hS2]; rw [EX2.out]; exact SY2.out)
     have HT5 := HT4
     clear hS2
     go_wp2
     all_goals (go_end0; exact ⟨rfl, S1 ++ S2, HR5.out, by rw [List.length_append, HL1.out, HL2.out, ← EX.out, ← EY.out, List.length_append, List.length_append]; omega, (stab_parts TT1.out TT2.out HS1.out HO1.out HS2.out HO2.out).1, (stab_parts TT1.out TT2.out HS1.out HO1.out HS2.out HO2.out).2, HT5.out⟩)
    ·have b1 : decide ((a : Int) < (r : Int)) = false := decide_eq_false (by have := HEN.out; omega)
     have p1 : ¬ (a : Int) < (r : Int) := by have := HEN.out; omega
     have b2 : decide ((r : Int) < (m : Int)) = true := decide_eq_true (by have := HEN.out; omega)
     have p2 : (r : Int) < (m : Int) := by have := HEN.out; omega
     have b3 : decide ((r : Int) < (mid : Int)) = true := decide_eq_true (by have := HEN.out; omega)
     have p3 : (r : Int) < (mid : Int) := by have := HEN.out; omega
     have b4 : decide ((en : Int) < (b : Int)) = true := decide_eq_true (by have := HEN.out; omega)
     have p4 : (en : Int) < (b : Int) := by have := HEN.out; omega
     have b5 : decide ((m : Int) < (en : Int)) = true := decide_eq_true (by have := HEN.out; omega)
     have p5 : (m : Int) < (en : Int) := by have := HEN.out; omega
     have b6 : decide ((mid : Int) < (en : Int)) = true := decide_eq_true (by have := HEN.out; omega)
     have p6 : (mid : Int) < (en : Int) := by have := HEN.out; omega
     clear hen
     have EX1 : Hid (X1 = []) := Lib.hid (List.length_eq_zero_iff.1 (by have := L1.out; omega))
     have CR := Lib.hid (rotate_any cmpV g cap n r m en (P ++ X1) X2 Y1 (Y2 ++ Q) wr (by simpa using HR2.out) (by rw [HN.out, ← EX.out, ← EY.out]; simp; omega) (by simp; have := L1.out; have := HA.out; omega) (by simp; have := L1.out; have := L2.out; have := HA.out; omega) (by simp; have := L1.out; have := L2.out; have := L3.out; have := HA.out; have := HEN.out; omega) (by have := L2.out; omega) (by have := L3.out; omega) hL)
     go_wp2_with fail
     with_reducible refine CR.out.mono ?_
     rintro e w1 ⟨rfl, hR1, hT1⟩
     have HR3 : Hid (RowO w1 g cap (P ++ (X1 ++ (Y1 ++ (X2 ++ (Y2 ++ Q)))))) := Lib.hid (by simpa using hR1)
     have HT3 := Lib.hid (turned_trans HT.out hT1)
     clear hR1 hT1
     obtain ⟨S1, hS1⟩ : ∃ S1, S1 = X1 ++ Y1 := ⟨_, rfl⟩
     have HR4 : Hid (RowO w1 g cap (P ++ (S1 ++ (X2 ++ (Y2 ++ Q))))) := Lib.hid (by rw [hS1]; simpa using HR3.out)
     have HL1 : Hid (S1.length = X1.length + Y1.length) := Lib.hid (by rw [hS1, List.length_append])
     have HS1 : Hid (Stab (X1 ++ Y1) S1) := Lib.hid (by rw [hS1]; exact Stab.refl _)
     have HO1 : Hid (SortO S1) := Lib.hid (by rw [hS1]; rw [EX1.out]; exact SY1.out)
     have HT4 := HT3
     clear hS1
     have CU := Lib.hid (HIH.out g cap n mid en b (P ++ S1) X2 Y2 Q w1 (by simpa using HR4.out) (by rw [HN.out, ← EX.out, ← EY.out]; simp; have := HL1.out; omega) (by simp; have := HL1.out; have := L1.out; have := L3.out; have := HA.out; omega) (by simp; have := HL1.out; have := L1.out; have := L2.out; have := L3.out; have := HA.out; have := HEN.out; omega) (by simp; have := HL1.out; have := L1.out; have := L2.out; have := L3.out; have := L4.out; have := HA.out; have := HEN.out; omega) (by have := L2.out; omega) (by have := L4.out; omega) (by have := L2.out; have := L4.out; have := HK.out; have := HA.out; have := HB.out; have := HM.out; have := HEN.out; omega) SX2.out SY2.out hL)
     go_wp2_with fail
     with_reducible refine CU.out.mono ?_
     rintro e w3 ⟨rfl, S2, hR1, hl1, hs1, ho1, hT1⟩
     have HR5 : Hid (RowO w3 g cap (P ++ ((S1 ++ S2) ++ Q))) := Lib.hid (by simpa using hR1)
     have HL2 := Lib.hid hl1; have HS2 := Lib.hid hs1; have HO2 := Lib.hid ho1
     have HT5 := Lib.hid (turned_trans HT4.out hT1)
     clear hR1 hl1 hs1 ho1 hT1
     go_wp2
     all_goals (go_end0; exact ⟨rfl, S1 ++ S2, HR5.out, by rw [List.length_append, HL1.out, HL2.out, ← EX.out, ← EY.out, List.length_append, List.length_append]; omega, (stab_parts TT1.out TT2.out HS1.out HO1.out HS2.out HO2.out).1, (stab_parts TT1.out TT2.out HS1.out HO1.out HS2.out HO2.out).2, HT5.out⟩)
    ·have b1 : decide ((a : Int) < (r : Int)) = false := decide_eq_false (by have := HEN.out; omega)
     have p1 : ¬ (a : Int) < (r : Int) := by have := HEN.out; omega
     have b2 : decide ((r : Int) < (m : Int)) = true := decide_eq_true (by have := HEN.out; omega)
     have p2 : (r : Int) < (m : Int) := by have := HEN.out; omega
     have b3 : decide ((r : Int) < (mid : Int)) = true := decide_eq_true (by have := HEN.out; omega)
     have p3 : (r : Int) < (mid : Int) := by have := HEN.out; omega
     have b4 : decide ((en : Int) < (b : Int)) = false := decide_eq_false (by have := HEN.out; omega)
     have p4 : ¬ (en : Int) < (b : Int) := by have := HEN.out; omega
     have b5 : decide ((m : Int) < (en : Int)) = true := decide_eq_true (by have := HEN.out; omega)
     have p5 : (m : Int) < (en : Int) := by have := HEN.out; omega
     have b6 : decide ((mid : Int) < (en : Int)) = true := decide_eq_true (by have := HEN.out; omega)
     have p6 : (mid : Int) < (en : Int) := by have := HEN.out; omega
     clear hen
     have EX1 : Hid (X1 = []) := Lib.hid (List.length_eq_zero_iff.1 (by have := L1.out; omega))
     have EY2 : Hid (Y2 = []) := Lib.hid (List.length_eq_zero_iff.1 (by have := L4.out; omega))
     have CR := Lib.hid (rotate_any cmpV g cap n r m en (P ++ X1) X2 Y1 (Y2 ++ Q) wr (by simpa using HR2.out) (by rw [HN.out, ← EX.out, ← EY.out]; simp; omega) (by simp; have := L1.out; have := HA.out; omega) (by simp; have := L1.out; have := L2.out; have := HA.out; omega) (by simp; have := L1.out; have := L2.out; have := L3.out; have := HA.out; have := HEN.out; omega) (by have := L2.out; omega) (by have := L3.out; omega) hL)
     go_wp2_with fail
     with_reducible refine CR.out.mono ?_
     rintro e w1 ⟨rfl, hR1, hT1⟩
     have HR3 : Hid (RowO w1 g cap (P ++ (X1 ++ (Y1 ++ (X2 ++ (Y2 ++ Q)))))) := Lib.hid (by simpa using hR1)
     have HT3 := Lib.hid (turned_trans HT.out hT1)
     clear hR1 hT1
     obtain ⟨S1, hS1⟩ : ∃ S1, S1 = X1 ++ Y1 := ⟨_, rfl⟩
     have HR4 : Hid (RowO w1 g cap (P ++ (S1 ++ (X2 ++ (Y2 ++ Q))))) := Lib.hid (by rw [hS1]; simpa using HR3.out)
     have HL1 : Hid (S1.length = X1.length + Y1.length) := Lib.hid (by rw [hS1, List.length_append])
     have HS1 : Hid (Stab (X1 ++ Y1) S1) := Lib.hid (by rw [hS1]; exact Stab.refl _)
     have HO1 : Hid (SortO S1) := Lib.hid (by rw [hS1]; rw [EX1.out]; exact SY1.out)
     have HT4 := HT3
     clear hS1
     obtain ⟨S2, hS2⟩ : ∃ S2, S2 = X2 ++ Y2 := ⟨_, rfl⟩
     have HR5 : Hid (RowO w1 g cap (P ++ ((S1 ++ S2) ++ Q))) := Lib.hid (by rw [hS2]; simpa using HR4.out)
     have HL2 : Hid (S2.length = X2.length + Y2.length) := Lib.hid (by rw [hS2, List.length_append])
     have HS2 : Hid (Stab (X2 ++ Y2) S2) := Lib.hid (by rw [hS2]; exact Stab.refl _)
     have HO2 : Hid (SortO S2) := Lib.hid (by rw [hS2]; rw [EY2.out, List.append_nil]; exact SX2.out)
     have HT5 := HT4
     clear hS2
     go_wp2
     all_goals (go_end0; exact ⟨rfl, S1 ++ S2, HR5.out, by rw [List.length_append, HL1.out, HL2.out, ← EX.out, ← EY.out, List.length_append, List.length_append]; omega, (stab_parts TT1.out TT2.out HS1.out HO1.out HS2.out HO2.out).1, (stab_parts TT1.out TT2.out HS1.out HO1.out HS2.out HO2.out).2, HT5.out⟩)
    ·have b1 : decide ((a : Int) < (r : Int)) = false := decide_eq_false (by have := HEN.out; omega)
     have p1 : ¬ (a : Int) < (r : Int) := by have := HEN.out; omega
     have b2 : decide ((r : Int) < (m : Int)) = true := decide_eq_true (by have := HEN.out; omega)
     have p2 : (r : Int) < (m : Int) := by have := HEN.out; omega
     have b3 : decide ((r : Int) < (mid : Int)) = false := decide_eq_false (by have := HEN.out; omega)
     have p3 : ¬ (r : Int) < (mid : Int) := by have := HEN.out; omega
     have b4 : decide ((en : Int) < (b : Int)) = true := decide_eq_true (by have := HEN.out; omega)
     have p4 : (en : Int) < (b : Int) := by have := HEN.out; omega
     have b5 : decide ((m : Int) < (en : Int)) = false := decide_eq_false (by have := HEN.out; omega)
     have p5 : ¬ (m : Int) < (en : Int) := by have := HEN.out; omega
     have b6 : decide ((mid : Int) < (en : Int)) = true := decide_eq_true (by have := HEN.out; omega)
     have p6 : (mid : Int) < (en : Int) := by have := HEN.out; omega
     clear hen
     have EY1 : Hid (Y1 = []) := Lib.hid (List.length_eq_zero_iff.1 (by have := L3.out; omega))
     have EX1 : Hid (X1 = []) := Lib.hid (List.length_eq_zero_iff.1 (by have := L1.out; omega))
     have HR3 : Hid (RowO wr g cap (P ++ (X1 ++ (Y1 ++ (X2 ++ (Y2 ++ Q)))))) := Lib.hid (by have := HR2.out; rw [EY1.out] at this ⊢; simpa using this)
     have HT3 := HT
     obtain ⟨S1, hS1⟩ : ∃ S1, S1 = X1 ++ Y1 := ⟨_, rfl⟩
     have HR4 : Hid (RowO wr g cap (P ++ (S1 ++ (X2 ++ (Y2 ++ Q))))) := Lib.hid (by rw [hS1]; simpa using HR3.out)
     have HL1 : Hid (S1.length = X1.length + Y1.length) := Lib.hid (by rw [hS1, List.length_append])
     have HS1 : Hid (Stab (X1 ++ Y1) S1) := Lib.hid (by rw [hS1]; exact Stab.refl _)
     have HO1 : Hid (SortO S1) := Lib.hid (by rw [hS1]; rw [EX1.out]; exact SY1.out)
     have HT4 := HT3
     clear hS1
     have CU := Lib.hid (HIH.out g cap n mid en b (P ++ S1) X2 Y2 Q wr (by simpa using HR4.out) (by rw [HN.out, ← EX.out, ← EY.out]; simp; have := HL1.out; omega) (by simp; have := HL1.out; have := L1.out; have := L3.out; have := HA.out; omega) (by simp; have := HL1.out; have := L1.out; have := L2.out; have := L3.out; have := HA.out; have := HEN.out; omega) (by simp; have := HL1.out; have := L1.out; have := L2.out; have := L3.out; have := L4.out; have := HA.out; have := HEN.out; omega) (by have := L2.out; omega) (by have := L4.out; omega) (by have := L2.out; have := L4.out; have := HK.out; have := HA.out; have := HB.out; have := HM.out; have := HEN.out; omega) SX2.out SY2.out hL)
     go_wp2_with fail
     with_reducible refine CU.out.mono ?_
     rintro e w3 ⟨rfl, S2, hR1, hl1, hs1, ho1, hT1⟩
     have HR5 : Hid (RowO w3 g cap (P ++ ((S1 ++ S2) ++ Q))) := Lib.hid (by simpa using hR1)
     have HL2 := Lib.hid hl1; have HS2 := Lib.hid hs1; have HO2 := Lib.hid ho1
     have HT5 := Lib.hid (turned_trans HT4.out hT1)
     clear hR1 hl1 hs1 ho1 hT1
     go_wp2
     all_goals (go_end0; exact ⟨rfl, S1 ++ S2, HR5.out, by rw [List.length_append, HL1.out, HL2.out, ← EX.out, ← EY.out, List.length_append, List.length_append]; omega, (stab_parts TT1.out TT2.out HS1.out HO1.out HS2.out HO2.out).1, (stab_parts TT1.out TT2.out HS1.out HO1.out HS2.out HO2.out).2, HT5.out⟩)
    ·have b1 : decide ((a : Int) < (r : Int)) = false := decide_eq_false (by have := HEN.out; omega)
     have p1 : ¬ (a : Int) < (r : Int) := by have := HEN.out; omega
     have b2 : decide ((r : Int) < (m : Int)) = true := decide_eq_true (by have := HEN.out; omega)
     have p2 : (r : Int) < (m : Int) := by have := HEN.out; omega
     have b3 : decide ((r : Int) < (mid : Int)) = false := decide_eq_false (by have := HEN.out; omega)
     have p3 : ¬ (r : Int) < (mid : Int) := by have := HEN.out; omega
     have b4 : decide ((en : Int) < (b : Int)) = false := decide_eq_false (by have := HEN.out; omega)
     have p4 : ¬ (en : Int) < (b : Int) := by have := HEN.out; omega
     have b5 : decide ((m : Int) < (en : Int)) = false := decide_eq_false (by have := HEN.out; omega)
     have p5 : ¬ (m : Int) < (en : Int) := by have := HEN.out; omega
     have b6 : decide ((mid : Int) < (en : Int)) = true := decide_eq_true (by have := HEN.out; omega)
     have p6 : (mid : Int) < (en : Int) := by have := HEN.out; omega
     clear hen
     have EY1 : Hid (Y1 = []) := Lib.hid (List.length_eq_zero_iff.1 (by have := L3.out; omega))
     have EX1 : Hid (X1 = []) := Lib.hid (List.length_eq_zero_iff.1 (by have := L1.out; omega))
     have EY2 : Hid (Y2 = []) := Lib.hid (List.length_eq_zero_iff.1 (by have := L4.out; omega))
     have HR3 : Hid (RowO wr g cap (P ++ (X1 ++ (Y1 ++ (X2 ++ (Y2 ++ Q)))))) := Lib.hid (by have := HR2.out; rw [EY1.out] at this ⊢; simpa using this)
     have HT3 := HT
     obtain ⟨S1, hS1⟩ : ∃ S1, S1 = X1 ++ Y1 := ⟨_, rfl⟩
     have HR4 : Hid (RowO wr g cap (P ++ (S1 ++ (X2 ++ (Y2 ++ Q))))) := Lib.hid (by rw [hS1]; simpa using HR3.out)
     have HL1 : Hid (S1.length = X1.length + Y1.length) := Lib.hid (by rw [hS1, List.length_append])
     have HS1 : Hid (Stab (X1 ++ Y1) S1) := Lib.hid (by rw [hS1]; exact Stab.refl _)
     have HO1 : Hid (SortO S1) := Lib.hid (by rw [hS1]; rw [EX1.out]; exact SY1.out)
     have HT4 := HT3
     clear hS1
     obtain ⟨S2, hS2⟩ : ∃ S2, S2 = X2 ++ Y2 := ⟨_, rfl⟩
     have HR5 : Hid (RowO wr g cap (P ++ ((S1 ++ S2) ++ Q))) := Lib.hid (by rw [hS2]; simpa using HR4.out)
     have HL2 : Hid (S2.length = X2.length + Y2.length) := Lib.hid (by rw [hS2, List.length_append])
     have HS2 : Hid (Stab (X2 ++ Y2) S2) := Lib.hid (by rw [hS2]; exact Stab.refl _)
     have HO2 : Hid (SortO S2) := Lib.hid (by rw [hS2]; rw [EY2.out, List.append_nil]; exact SX2.out)
     have HT5 := HT4
     clear hS2
     go_wp2
     all_goals (go_end0; exact ⟨rfl, S1 ++ S2, HR5.out, by rw [List.length_append, HL1.out, HL2.out, ← EX.out, ← EY.out, List.length_append, List.length_append]; omega, (stab_parts TT1.out TT2.out HS1.out HO1.out HS2.out HO2.out).1, (stab_parts TT1.out TT2.out HS1.out HO1.out HS2.out HO2.out).2, HT5.out⟩)
    ·have b1 : decide ((a : Int) < (r : Int)) = false := decide_eq_false (by have := HEN.out; omega)
     have p1 : ¬ (a : Int) < (r : Int) := by have := HEN.out; omega
     have b2 : decide ((r : Int) < (m : Int)) = false := decide_eq_false (by have := HEN.out; omega)
     have p2 : ¬ (r : Int) < (m : Int) := by have := HEN.out; omega
     have b3 : decide ((r : Int) < (mid : Int)) = true := decide_eq_true (by have := HEN.out; omega)
     have p3 : (r : Int) < (mid : Int) := by have := HEN.out; omega
     have b4 : decide ((en : Int) < (b : Int)) = true := decide_eq_true (by have := HEN.out; omega)
     have p4 : (en : Int) < (b : Int) := by have := HEN.out; omega
     have b5 : decide ((m : Int) < (en : Int)) = true := decide_eq_true (by have := HEN.out; omega)
     have p5 : (m : Int) < (en : Int) := by have := HEN.out; omega
     have b6 : decide ((mid : Int) < (en : Int)) = false := decide_eq_false (by have := HEN.out; omega)
     have p6 : ¬ (mid : Int) < (en : Int) := by have := HEN.out; omega
     clear hen
     have EX2 : Hid (X2 = []) := Lib.hid (List.length_eq_zero_iff.1 (by have := L2.out; omega))
     have EX1 : Hid (X1 = []) := Lib.hid (List.length_eq_zero_iff.1 (by have := L1.out; omega))
     have HR3 : Hid (RowO wr g cap (P ++ (X1 ++ (Y1 ++ (X2 ++ (Y2 ++ Q)))))) := Lib.hid (by have := HR2.out; rw [EX2.out] at this ⊢; simpa using this)
     have HT3 := HT
     obtain ⟨S1, hS1⟩ : ∃ S1, S1 = X1 ++ Y1 := ⟨_, rfl⟩
     have HR4 : Hid (RowO wr g cap (P ++ (S1 ++ (X2 ++ (Y2 ++ Q))))) := Lib.hid (by rw [hS1]; simpa using HR3.out)
     have HL1 : Hid (S1.length = X1.length + Y1.length) := Lib.hid (by rw [hS1, List.length_append])
     have HS1 : Hid (Stab (X1 ++ Y1) S1) := Lib.hid (by rw [hS1]; exact Stab.refl _)
     have HO1 : Hid (SortO S1) := Lib.hid (by rw [hS1]; rw [EX1.out]; exact SY1.out)
     have HT4 := HT3
     clear hS1
     obtain ⟨S2, hS2⟩ : ∃ S2, S2 = X2 ++ Y2 := ⟨_, rfl⟩
     have HR5 : Hid (RowO wr g cap (P ++ ((S1 ++ S2) ++ Q))) := Lib.hid (by rw [hS2]; simpa using HR4.out)
     have HL2 : Hid (S2.length = X2.length + Y2.length) := Lib.hid (by rw [hS2, List.length_append])
     have HS2 : Hid (Stab (X2 ++ Y2) S2) := Lib.hid (by rw [hS2]; exact Stab.refl _)
     have HO2 : Hid (SortO S2) := Lib.hid (by rw [hS2]; rw [EX2.out]; exact SY2.out)
     have HT5 := HT4
     clear hS2
     go_wp2
     all_goals (go_end0; exact ⟨rfl, S1 ++ S2, HR5.out, by rw [List.length_append, HL1.out, HL2.out, ← EX.out, ← EY.out, List.length_append, List.length_append]; omega, (stab_parts TT1.out TT2.out HS1.out HO1.out HS2.out HO2.out).1, (stab_parts TT1.out TT2.out HS1.out HO1.out HS2.out HO2.out).2, HT5.out⟩)
    ·have b1 : decide ((a : Int) < (r : Int)) = false := decide_eq_false (by have := HEN.out; omega)
     have p1 : ¬ (a : Int) < (r : Int) := by have := HEN.out; omega
     have b2 : decide ((r : Int) < (m : Int)) = false := decide_eq_false (by have := HEN.out; omega)
     have p2 : ¬ (r : Int) < (m : Int) := by have := HEN.out; omega
     have b3 : decide ((r : Int) < (mid : Int)) = true := decide_eq_true (by have := HEN.out; omega)
     have p3 : (r : Int) < (mid : Int) := by have := HEN.out; omega
     have b4 : decide ((en : Int) < (b : Int)) = false := decide_eq_false (by have := HEN.out; omega)
     have p4 : ¬ (en : Int) < (b : Int) := by have := HEN.out; omega
     have b5 : decide ((m : Int) < (en : Int)) = true := decide_eq_true (by have := HEN.out; omega)
     have p5 : (m : Int) < (en : Int) := by have := HEN.out; omega
     have b6 : decide ((mid : Int) < (en : Int)) = false := decide_eq_false (by have := HEN.out; omega)
     have p6 : ¬ (mid : Int) < (en : Int) := by have := HEN.out; omega
     clear hen
     have EX2 : Hid (X2 = []) := Lib.hid (List.length_eq_zero_iff.1 (by have := L2.out; omega))
     have EX1 : Hid (X1 = []) := Lib.hid (List.length_eq_zero_iff.1 (by have := L1.out; omega))
     have EY2 : Hid (Y2 = []) := Lib.hid (List.length_eq_zero_iff.1 (by have := L4.out; omega))
     have HR3 : Hid (RowO wr g cap (P ++ (X1 ++ (Y1 ++ (X2 ++ (Y2 ++ Q)))))) := Lib.hid (by have := HR2.out; rw [EX2.out] at this ⊢; simpa using this)
     have HT3 := HT
     obtain ⟨S1, hS1⟩ : ∃ S1, S1 = X1 ++ Y1 := ⟨_, rfl⟩
     have HR4 : Hid (RowO wr g cap (P ++ (S1 ++ (X2 ++ (Y2 ++ Q))))) := Lib.hid (by rw [hS1]; simpa using HR3.out)
     have HL1 : Hid (S1.length = X1.length + Y1.length) := Lib.hid (by rw [hS1, List.length_append])
     have HS1 : Hid (Stab (X1 ++ Y1) S1) := Lib.hid (by rw [hS1]; exact Stab.refl _)
     have HO1 : Hid (SortO S1) := Lib.hid (by rw [hS1]; rw [EX1.out]; exact SY1.out)
     have HT4 := HT3
     clear hS1
     obtain ⟨S2, hS2⟩ : ∃ S2, S2 = X2 ++ Y2 := ⟨_, rfl⟩
     have HR5 : Hid (RowO wr g cap (P ++ ((S1 ++ S2) ++ Q))) := Lib.hid (by rw [hS2]; simpa using HR4.out)
     have HL2 : Hid (S2.length = X2.length + Y2.length) := Lib.hid (by rw [hS2, List.length_append])
     have HS2 : Hid (Stab (X2 ++ Y2) S2) := Lib.hid (by rw [hS2]; exact Stab.refl _)
     have HO2 : Hid (SortO S2) := Lib.hid (by rw [hS2]; rw [EX2.out]; exact SY2.out)
     have HT5 := HT4
     clear hS2
     go_wp2
     all_goals (go_end0; exact ⟨rfl, S1 ++ S2, HR5.out, by rw [List.length_append, HL1.out, HL2.out, ← EX.out, ← EY.out, List.length_append, List.length_append]; omega, (stab_parts TT1.out TT2.out HS1.out HO1.out HS2.out HO2.out).1, (stab_parts TT1.out TT2.out HS1.out HO1.out HS2.out HO2.out).2, HT5.out⟩)
    ·have b1 : decide ((a : Int) < (r : Int)) = false := decide_eq_false (by have := HEN.out; omega)
     have p1 : ¬ (a : Int) < (r : Int) := by have := HEN.out; omega
     have b2 : decide ((r : Int) < (m : Int)) = false := decide_eq_false (by have := HEN.out; omega)
     have p2 : ¬ (r : Int) < (m : Int) := by have := HEN.out; omega
     have b3 : decide ((r : Int) < (mid : Int)) = false := decide_eq_false (by have := HEN.out; omega)
     have p3 : ¬ (r : Int) < (mid : Int) := by have := HEN.out; omega
     have b4 : decide ((en : Int) < (b : Int)) = true := decide_eq_true (by have := HEN.out; omega)
     have p4 : (en : Int) < (b : Int) := by have := HEN.out; omega
     have b5 : decide ((m : Int) < (en : Int)) = false := decide_eq_false (by have := HEN.out; omega)
     have p5 : ¬ (m : Int) < (en : Int) := by have := HEN.out; omega
     have b6 : decide ((mid : Int) < (en : Int)) = false := decide_eq_false (by have := HEN.out; omega)
     have p6 : ¬ (mid : Int) < (en : Int) := by have := HEN.out; omega
     clear hen
     have EX2 : Hid (X2 = []) := Lib.hid (List.length_eq_zero_iff.1 (by have := L2.out; omega))
     have EY1 : Hid (Y1 = []) := Lib.hid (List.length_eq_zero_iff.1 (by have := L3.out; omega))
     have EX1 : Hid (X1 = []) := Lib.hid (List.length_eq_zero_iff.1 (by have := L1.out; omega))
     have HR3 : Hid (RowO wr g cap (P ++ (X1 ++ (Y1 ++ (X2 ++ (Y2 ++ Q)))))) := Lib.hid (by have := HR2.out; rw [EX2.out] at this ⊢; simpa using this)
     have HT3 := HT
     obtain ⟨S1, hS1⟩ : ∃ S1, S1 = X1 ++ Y1 := ⟨_, rfl⟩
     have HR4 : Hid (RowO wr g cap (P ++ (S1 ++ (X2 ++ (Y2 ++ Q))))) := Lib.hid (by rw [hS1]; simpa using HR3.out)
     have HL1 : Hid (S1.length = X1.length + Y1.length) := Lib.hid (by rw [hS1, List.length_append])
     have HS1 : Hid (Stab (X1 ++ Y1) S1) := Lib.hid (by rw [hS1]; exact Stab.refl _)
     have HO1 : Hid (SortO S1) := Lib.hid (by rw [hS1]; rw [EX1.out]; exact SY1.out)
     have HT4 := HT3
     clear hS1
     obtain ⟨S2, hS2⟩ : ∃ S2, S2 = X2 ++ Y2 := ⟨_, rfl⟩
     have HR5 : Hid (RowO wr g cap (P ++ ((S1 ++ S2) ++ Q))) := Lib.hid (by rw [hS2]; simpa using HR4.out)
     have HL2 : Hid (S2.length = X2.length + Y2.length) := Lib.hid (by rw [hS2, List.length_append])
     have HS2 : Hid (Stab (X2 ++ Y2) S2) := Lib.hid (by rw [hS2]; exact Stab.refl _)
     have HO2 : Hid (SortO S2) := Lib.hid (by rw [hS2]; rw [EX2.out]; exact SY2.out)
     have HT5 := HT4
     clear hS2
     go_wp2
     all_goals (go_end0; exact ⟨rfl, S1 ++ S2, HR5.out, by rw [List.length_append, HL1.out, HL2.out, ← EX.out, ← EY.out, List.length_append, List.length_append]; omega, (stab_parts TT1.out TT2.out HS1.out HO1.out HS2.out HO2.out).1, (stab_parts TT1.out TT2.out HS1.out HO1.out HS2.out HO2.out).2, HT5.out⟩)
    ·have b1 : decide ((a : Int) < (r : Int)) = false := decide_eq_false (by have := HEN.out; omega)
     have p1 : ¬ (a : Int) < (r : Int) := by have := HEN.out; omega
     have b2 : decide ((r : Int) < (m : Int)) = false := decide_eq_false (by have := HEN.out; omega)
     have p2 : ¬ (r : Int) < (m : Int) := by have := HEN.out; omega
     have b3 : decide ((r : Int) < (mid : Int)) = false := decide_eq_false (by have := HEN.out; omega)
     have p3 : ¬ (r : Int) < (mid : Int) := by have := HEN.out; omega
     have b4 : decide ((en : Int) < (b : Int)) = false := decide_eq_false (by have := HEN.out; omega)
     have p4 : ¬ (en : Int) < (b : Int) := by have := HEN.out; omega
     have b5 : decide ((m : Int) < (en : Int)) = false := decide_eq_false (by have := HEN.out; omega)
     have p5 : ¬ (m : Int) < (en : Int) := by have := HEN.out; omega
     have b6 : decide ((mid : Int) < (en : Int)) = false := decide_eq_false (by have := HEN.out; omega)
     have p6 : ¬ (mid : Int) < (en : Int) := by have := HEN.out; omega
     clear hen
     have EX2 : Hid (X2 = []) := Lib.hid (List.length_eq_zero_iff.1 (by have := L2.out; omega))
     have EY1 : Hid (Y1 = []) := Lib.hid (List.length_eq_zero_iff.1 (by have := L3.out; omega))
     have EX1 : Hid (X1 = []) := Lib.hid (List.length_eq_zero_iff.1 (by have := L1.out; omega))
     have EY2 : Hid (Y2 = []) := Lib.hid (List.length_eq_zero_iff.1 (by have := L4.out; omega))
     have HR3 : Hid (RowO wr g cap (P ++ (X1 ++ (Y1 ++ (X2 ++ (Y2 ++ Q)))))) := Lib.hid (by have := HR2.out; rw [EX2.out] at this ⊢; simpa using this)
     have HT3 := HT
     obtain ⟨S1, hS1⟩ : ∃ S1, S1 = X1 ++ Y1 := ⟨_, rfl⟩
     have HR4 : Hid (RowO wr g cap (P ++ (S1 ++ (X2 ++ (Y2 ++ Q))))) := Lib.hid (by rw [hS1]; simpa using HR3.out)
     have HL1 : Hid (S1.length = X1.length + Y1.length) := Lib.hid (by rw [hS1, List.length_append])
     have HS1 : Hid (Stab (X1 ++ Y1) S1) := Lib.hid (by rw [hS1]; exact Stab.refl _)
     have HO1 : Hid (SortO S1) := Lib.hid (by rw [hS1]; rw [EX1.out]; exact SY1.out)
     have HT4 := HT3
     clear hS1
     obtain ⟨S2, hS2⟩ : ∃ S2, S2 = X2 ++ Y2 := ⟨_, rfl⟩
     have HR5 : Hid (RowO wr g cap (P ++ ((S1 ++ S2) ++ Q))) := Lib.hid (by rw [hS2]; simpa using HR4.out)
     have HL2 : Hid (S2.length = X2.length + Y2.length) := Lib.hid (by rw [hS2, List.length_append])
     have HS2 : Hid (Stab (X2 ++ Y2) S2) := Lib.hid (by rw [hS2]; exact Stab.refl _)
     have HO2 : Hid (SortO S2) := Lib.hid (by rw [hS2]; rw [EX2.out]; exact SY2.out)
     have HT5 := HT4
     clear hS2
     go_wp2
     all_goals (go_end0; exact ⟨rfl, S1 ++ S2, HR5.out, by rw [List.length_append, HL1.out, HL2.out, ← EX.out, ← EY.out, List.length_append, List.length_append]; omega, (stab_parts TT1.out TT2.out HS1.out HO1.out HS2.out HO2.out).1, (stab_parts TT1.out TT2.out HS1.out HO1.out HS2.out HO2.out).2, HT5.out⟩)
 ·have q2 : decide ((m : Int) > (mid : Int)) = false := decide_eq_false (by omega)
  have q3 : ¬ (mid : Int) < (m : Int) := by omega
  go_wp2
  go_loopw [20, 21] (fun sv rv wr => ∃ s r : Nat, sv = .int .i64 s ∧ rv = .int .i64 r ∧ a ≤ s ∧ a ≤ s ∧ s ≤ r ∧ r ≤ m ∧ RowO wr g cap (P ++ (X ++ (Y ++ Q))) ∧ (∀ x ∈ (X.take (s - a)).getLast?, ∀ y ∈ (Y.drop (mid - s)).head?, ¬ y.t < x.t) ∧ (∀ x ∈ (X.drop (r - a)).head?, ∀ y ∈ (Y.take (mid - r)).getLast?, y.t < x.t) ∧ Turned w wr g) (fun s r _ => (intOf r).toNat - (intOf s).toNat)
  case atStart =>
   refine ⟨a, m, by first | rfl | (congr 1; omega), by congr 1, Nat.le_refl _, by omega, by omega, Nat.le_refl _, HR.out, (fun x hx y hy => ?_), (fun x hx y hy => ?_), turned_refl _ _⟩
   ·rw [Nat.sub_self] at hx; simp at hx
   ·rw [List.drop_eq_nil_of_le (by have := HA.out; have := HM.out; omega)] at hx; simp at hx
  case round =>
   obtain ⟨s, r, rfl, rfl, hs0, has, hsr, hr0, hR, hLO, hHI, hT⟩ := hrel
   have HLO := Lib.hid hLO; have HHI := Lib.hid hHI; have HT := Lib.hid hT; have HR1 := Lib.hid hR
   clear hLO hHI hT hR
   by_cases hlt : s < r
   ·have hlh : decide ((s : Int) < (r : Int)) = true := decide_eq_true (by omega)
    obtain ⟨c, hc⟩ : ∃ c, c = (s + r) / 2 := ⟨_, rfl⟩
    have ec : ((s : Int) + (r : Int)) / 2 = (c : Int) := by omega
    have hsc : s ≤ c := by omega
    have hcr : c < r := by omega
    clear hc
    obtain ⟨d, hd⟩ : ∃ d, d = mid + m - 1 - c := ⟨_, rfl⟩
    have ed : (mid : Int) + (m : Int) - 1 - (c : Int) = (d : Int) := by omega
    have hdn : d < n := by omega
    have hcn : c < n := by omega
    have hi : c - a < X.length := by have := HA.out; have := HM.out; omega
    have hj : mid - 1 - c < Y.length := by have := HA.out; have := HM.out; have := HB.out; omega
    have hXr : X = X.take (c - a) ++ X[c - a] :: X.drop (c - a + 1) := by rw [← List.drop_eq_getElem_cons hi, List.take_append_drop]
    have hYr : Y = Y.take (mid - 1 - c) ++ Y[mid - 1 - c] :: Y.drop (mid - 1 - c + 1) := by rw [← List.drop_eq_getElem_cons hj, List.take_append_drop]
    have TX := Lib.hid (take_last hi); have DX := Lib.hid (drop_head hi)
    have TY := Lib.hid (take_last hj); have DY := Lib.hid (drop_head hj)
    obtain ⟨x, hx⟩ : ∃ x, x = X[c - a] := ⟨_, rfl⟩
    obtain ⟨y, hy⟩ : ∃ y, y = Y[mid - 1 - c] := ⟨_, rfl⟩
    rw [← hx] at hXr TX DX
    rw [← hy] at hYr TY DY
    obtain ⟨c0, c1⟩ : wr.cell? ⟨g, c * 2, none⟩ = some (.string x.k) ∧ wr.cell? ⟨g, c * 2 + 1, none⟩ = some (.string x.r) := by
     have h := HR1.out
     rw [hXr] at h
     exact RowO.one (A := P ++ X.take (c - a)) (R := X.drop (c - a + 1) ++ (Y ++ Q)) (by simpa using h) (by simp; have := HA.out; omega)
    obtain ⟨d0, d1⟩ : wr.cell? ⟨g, d * 2, none⟩ = some (.string y.k) ∧ wr.cell? ⟨g, d * 2 + 1, none⟩ = some (.string y.r) := by
     have h := HR1.out
     rw [hYr] at h
     exact RowO.one (A := P ++ X ++ Y.take (mid - 1 - c)) (R := Y.drop (mid - 1 - c + 1) ++ Q) (by simpa using h) (by simp; have := HM.out; omega)
    have HD := Lib.hid hd
    clear hXr hYr hx hy hi hj hd
    obtain ⟨W2, hW2⟩ : ∃ W2, W2 = wr := ⟨_, rfl⟩
    rw [← hW2] at c0 c1 d0 d1 HR1 HT ⊢
    clear hW2
    have k0 := fun d os => cell_regrown c0 d os
    have k1 := fun d os => cell_regrown c1 d os
    have k2 := fun q os => cell_regrown d0 q os
    have k3 := fun q os => cell_regrown d1 q os
    by_cases hxy : y.t < x.t
    ·have HC : Hid (∀ W, Calls Tryz.prog 56 #[obV y, obV x] W fun e w' => e = .returned (.int .i64 (-1)) ∧ Below W.heap.size W w') := Lib.hid (fun W => by
      have := C.out y x W; rwa [ordB_lt hxy] at this)
     have HXY := Lib.hid hxy
     clear hxy
     go_wp2_with fail
     refine wp_region_quiet_below (by kernel_rfl) (by kernel_rfl) ?_
     repeat (first | go_big_quiet_step (exact Calls.regrown_of (HC.out _)) | quiet_step (exact Calls.regrown_of (HC.out _)))
     refine wpQuiet_nil ?_
     intro wq hwq
     have hbq : Below W2.heap.size W2 wq := by obtain ⟨p, rfl⟩ := hwq; exact below_regrown _ _ _
     clear hwq k0 k1 k2 k3 c0 c1 d0 d1
     have HR3 := Lib.hid (HR1.out.stays hbq)
     have HT4 := Lib.hid (turned_step HT.out hbq)
     clear hbq
     go_wp2
     go_roundw
     case rel => exact ⟨s, c, rfl, by go_num, hs0, has, hsc, by omega, HR3.out, HLO.out, (fun z hz u hu => by
      rw [DX.out] at hz; rw [show mid - c = mid - 1 - c + 1 by omega, TY.out] at hu; cases hz; cases hu; exact HXY.out), HT4.out⟩
     case measure => simp [intOf]; omega
    ·obtain ⟨o, ho⟩ : ∃ o, o = ordB y.t x.t := ⟨_, rfl⟩
     have ho2 : decide (o < 0) = false := by rw [ho, ordB_neg]; exact decide_eq_false hxy
     have HC : Hid (∀ W, Calls Tryz.prog 56 #[obV y, obV x] W fun e w' => e = .returned (.int .i64 o) ∧ Below W.heap.size W w') := Lib.hid (fun W => by
      have := C.out y x W; rwa [← ho] at this)
     have HXY := Lib.hid hxy
     clear hxy ho
     go_wp2_with fail
     refine wp_region_quiet_below (by kernel_rfl) (by kernel_rfl) ?_
     repeat (first | go_big_quiet_step (exact Calls.regrown_of (HC.out _)) | quiet_step (exact Calls.regrown_of (HC.out _)))
     refine wpQuiet_nil ?_
     intro wq hwq
     have hbq : Below W2.heap.size W2 wq := by obtain ⟨p, rfl⟩ := hwq; exact below_regrown _ _ _
     clear hwq k0 k1 k2 k3 c0 c1 d0 d1
     have HR3 := Lib.hid (HR1.out.stays hbq)
     have HT4 := Lib.hid (turned_step HT.out hbq)
     clear hbq
     go_wp2
     go_roundw
     case rel => exact ⟨c + 1, r, by go_num, rfl, by omega, by omega, by omega, hr0, HR3.out, (fun z hz u hu => by
      rw [show c + 1 - a = c - a + 1 by omega, TX.out] at hz; rw [show mid - (c + 1) = mid - 1 - c by omega, DY.out] at hu; cases hz; cases hu; exact HXY.out), HHI.out, HT4.out⟩
     case measure => simp [intOf]; omega
   ·have hre : r = s := by omega
    subst hre
    have hlh : decide ((r : Int) < (r : Int)) = false := decide_eq_false (by omega)
    obtain ⟨en, hen⟩ : ∃ en, en = mid + m - r := ⟨_, rfl⟩
    have een : (mid : Int) + (m : Int) - (r : Int) = (en : Int) := by omega
    have hSX := HX.out; have hSY := HY.out
    rw [← List.take_append_drop (r - a) X] at hSX
    rw [← List.take_append_drop (mid - r) Y] at hSY
    obtain ⟨T1, T2⟩ := stab_turn hSX hSY HLO.out HHI.out
    have l1 : (X.take (r - a)).length = r - a := by rw [List.length_take]; have := HA.out; have := HM.out; omega
    have l2 : (X.drop (r - a)).length = m - r := by rw [List.length_drop]; have := HA.out; have := HM.out; omega
    have l3 : (Y.take (mid - r)).length = mid - r := by rw [List.length_take]; have := HM.out; have := HB.out; omega
    have l4 : (Y.drop (mid - r)).length = b - en := by rw [List.length_drop]; have := HM.out; have := HB.out; omega
    have eX := List.take_append_drop (r - a) X
    have eY := List.take_append_drop (mid - r) Y
    obtain ⟨X1, hX1⟩ : ∃ X1, X1 = X.take (r - a) := ⟨_, rfl⟩
    obtain ⟨X2, hX2⟩ : ∃ X2, X2 = X.drop (r - a) := ⟨_, rfl⟩
    obtain ⟨Y1, hY1⟩ : ∃ Y1, Y1 = Y.take (mid - r) := ⟨_, rfl⟩
    obtain ⟨Y2, hY2⟩ : ∃ Y2, Y2 = Y.drop (mid - r) := ⟨_, rfl⟩
    rw [← hX1] at hSX T1 T2 l1 eX
    rw [← hX2] at hSX T1 T2 l2 eX
    rw [← hY1] at hSY T1 T2 l3 eY
    rw [← hY2] at hSY T1 T2 l4 eY
    have HR2 : Hid (RowO wr g cap (P ++ (X1 ++ (X2 ++ (Y1 ++ (Y2 ++ Q)))))) := Lib.hid (by have := HR1.out; rw [← eX, ← eY] at this; simpa using this)
    rw [eX, eY] at T1
    have TT1 := Lib.hid T1; have TT2 := Lib.hid T2; have EX := Lib.hid eX; have EY := Lib.hid eY
    have SX1 := Lib.hid (sortO_app.1 hSX).1; have SX2 := Lib.hid (sortO_app.1 hSX).2.1; have SY1 := Lib.hid (sortO_app.1 hSY).1; have SY2 := Lib.hid (sortO_app.1 hSY).2.1
    have L1 := Lib.hid l1; have L2 := Lib.hid l2; have L3 := Lib.hid l3; have L4 := Lib.hid l4; have HEN := Lib.hid hen
    have hem : m ≤ en := by omega
    have heb : en ≤ b := by have := HM.out; have := HB.out; have := HA.out; omega
    clear hSX hSY T1 T2 l1 l2 l3 l4 eX eY hX1 hX2 hY1 hY2 HR1 HLO HHI hlt
    by_cases z1 : a < r <;> by_cases z2 : r < m <;> by_cases z3 : r < mid <;> by_cases z4 : en < b
    ·have b1 : decide ((a : Int) < (r : Int)) = true := decide_eq_true (by have := HEN.out; omega)
     have p1 : (a : Int) < (r : Int) := by have := HEN.out; omega
     have b2 : decide ((r : Int) < (m : Int)) = true := decide_eq_true (by have := HEN.out; omega)
     have p2 : (r : Int) < (m : Int) := by have := HEN.out; omega
     have b3 : decide ((r : Int) < (mid : Int)) = true := decide_eq_true (by have := HEN.out; omega)
     have p3 : (r : Int) < (mid : Int) := by have := HEN.out; omega
     have b4 : decide ((en : Int) < (b : Int)) = true := decide_eq_true (by have := HEN.out; omega)
     have p4 : (en : Int) < (b : Int) := by have := HEN.out; omega
     have b5 : decide ((m : Int) < (en : Int)) = true := decide_eq_true (by have := HEN.out; omega)
     have p5 : (m : Int) < (en : Int) := by have := HEN.out; omega
     have b6 : decide ((mid : Int) < (en : Int)) = true := decide_eq_true (by have := HEN.out; omega)
     have p6 : (mid : Int) < (en : Int) := by have := HEN.out; omega
     clear hen
     have CR := Lib.hid (rotate_any cmpV g cap n r m en (P ++ X1) X2 Y1 (Y2 ++ Q) wr (by simpa using HR2.out) (by rw [HN.out, ← EX.out, ← EY.out]; simp; omega) (by simp; have := L1.out; have := HA.out; omega) (by simp; have := L1.out; have := L2.out; have := HA.out; omega) (by simp; have := L1.out; have := L2.out; have := L3.out; have := HA.out; have := HEN.out; omega) (by have := L2.out; omega) (by have := L3.out; omega) hL)
     go_wp2_with fail
     with_reducible refine CR.out.mono ?_
     rintro e w1 ⟨rfl, hR1, hT1⟩
     have HR3 : Hid (RowO w1 g cap (P ++ (X1 ++ (Y1 ++ (X2 ++ (Y2 ++ Q)))))) := Lib.hid (by simpa using hR1)
     have HT3 := Lib.hid (turned_trans HT.out hT1)
     clear hR1 hT1
     have CL := Lib.hid (HIH.out g cap n a r mid P X1 Y1 (X2 ++ (Y2 ++ Q)) w1 HR3.out (by rw [HN.out, ← EX.out, ← EY.out]; simp; omega) HA.out (by have := L1.out; have := HA.out; omega) (by have := L1.out; have := L3.out; have := HA.out; omega) (by have := L1.out; omega) (by have := L3.out; omega) (by have := L1.out; have := L3.out; have := HK.out; have := HA.out; have := HB.out; have := HM.out; omega) SX1.out SY1.out hL)
     go_wp2_with fail
     with_reducible refine CL.out.mono ?_
     rintro e w2 ⟨rfl, S1, hR1, hl1, hs1, ho1, hT1⟩
     have HR4 := Lib.hid hR1; have HL1 := Lib.hid hl1; have HS1 := Lib.hid hs1; have HO1 := Lib.hid ho1
     have HT4 := Lib.hid (turned_trans HT3.out hT1)
     clear hR1 hl1 hs1 ho1 hT1
     have CU := Lib.hid (HIH.out g cap n mid en b (P ++ S1) X2 Y2 Q w2 (by simpa using HR4.out) (by rw [HN.out, ← EX.out, ← EY.out]; simp; have := HL1.out; omega) (by simp; have := HL1.out; have := L1.out; have := L3.out; have := HA.out; omega) (by simp; have := HL1.out; have := L1.out; have := L2.out; have := L3.out; have := HA.out; have := HEN.out; omega) (by simp; have := HL1.out; have := L1.out; have := L2.out; have := L3.out; have := L4.out; have := HA.out; have := HEN.out; omega) (by have := L2.out; omega) (by have := L4.out; omega) (by have := L2.out; have := L4.out; have := HK.out; have := HA.out; have := HB.out; have := HM.out; have := HEN.out; omega) SX2.out SY2.out hL)
     go_wp2_with fail
     with_reducible refine CU.out.mono ?_
     rintro e w3 ⟨rfl, S2, hR1, hl1, hs1, ho1, hT1⟩
     have HR5 : Hid (RowO w3 g cap (P ++ ((S1 ++ S2) ++ Q))) := Lib.hid (by simpa using hR1)
     have HL2 := Lib.hid hl1; have HS2 := Lib.hid hs1; have HO2 := Lib.hid ho1
     have HT5 := Lib.hid (turned_trans HT4.out hT1)
     clear hR1 hl1 hs1 ho1 hT1
     go_wp2
     all_goals (go_end0; exact ⟨rfl, S1 ++ S2, HR5.out, by rw [List.length_append, HL1.out, HL2.out, ← EX.out, ← EY.out, List.length_append, List.length_append]; omega, (stab_parts TT1.out TT2.out HS1.out HO1.out HS2.out HO2.out).1, (stab_parts TT1.out TT2.out HS1.out HO1.out HS2.out HO2.out).2, HT5.out⟩)
    ·have b1 : decide ((a : Int) < (r : Int)) = true := decide_eq_true (by have := HEN.out; omega)
     have p1 : (a : Int) < (r : Int) := by have := HEN.out; omega
     have b2 : decide ((r : Int) < (m : Int)) = true := decide_eq_true (by have := HEN.out; omega)
     have p2 : (r : Int) < (m : Int) := by have := HEN.out; omega
     have b3 : decide ((r : Int) < (mid : Int)) = true := decide_eq_true (by have := HEN.out; omega)
     have p3 : (r : Int) < (mid : Int) := by have := HEN.out; omega
     have b4 : decide ((en : Int) < (b : Int)) = false := decide_eq_false (by have := HEN.out; omega)
     have p4 : ¬ (en : Int) < (b : Int) := by have := HEN.out; omega
     have b5 : decide ((m : Int) < (en : Int)) = true := decide_eq_true (by have := HEN.out; omega)
     have p5 : (m : Int) < (en : Int) := by have := HEN.out; omega
     have b6 : decide ((mid : Int) < (en : Int)) = true := decide_eq_true (by have := HEN.out; omega)
     have p6 : (mid : Int) < (en : Int) := by have := HEN.out; omega
     clear hen
     have EY2 : Hid (Y2 = []) := Lib.hid (List.length_eq_zero_iff.1 (by have := L4.out; omega))
     have CR := Lib.hid (rotate_any cmpV g cap n r m en (P ++ X1) X2 Y1 (Y2 ++ Q) wr (by simpa using HR2.out) (by rw [HN.out, ← EX.out, ← EY.out]; simp; omega) (by simp; have := L1.out; have := HA.out; omega) (by simp; have := L1.out; have := L2.out; have := HA.out; omega) (by simp; have := L1.out; have := L2.out; have := L3.out; have := HA.out; have := HEN.out; omega) (by have := L2.out; omega) (by have := L3.out; omega) hL)
     go_wp2_with fail
     with_reducible refine CR.out.mono ?_
     rintro e w1 ⟨rfl, hR1, hT1⟩
     have HR3 : Hid (RowO w1 g cap (P ++ (X1 ++ (Y1 ++ (X2 ++ (Y2 ++ Q)))))) := Lib.hid (by simpa using hR1)
     have HT3 := Lib.hid (turned_trans HT.out hT1)
     clear hR1 hT1
     have CL := Lib.hid (HIH.out g cap n a r mid P X1 Y1 (X2 ++ (Y2 ++ Q)) w1 HR3.out (by rw [HN.out, ← EX.out, ← EY.out]; simp; omega) HA.out (by have := L1.out; have := HA.out; omega) (by have := L1.out; have := L3.out; have := HA.out; omega) (by have := L1.out; omega) (by have := L3.out; omega) (by have := L1.out; have := L3.out; have := HK.out; have := HA.out; have := HB.out; have := HM.out; omega) SX1.out SY1.out hL)
     go_wp2_with fail
     with_reducible refine CL.out.mono ?_
     rintro e w2 ⟨rfl, S1, hR1, hl1, hs1, ho1, hT1⟩
     have HR4 := Lib.hid hR1; have HL1 := Lib.hid hl1; have HS1 := Lib.hid hs1; have HO1 := Lib.hid ho1
     have HT4 := Lib.hid (turned_trans HT3.out hT1)
     clear hR1 hl1 hs1 ho1 hT1
     obtain ⟨S2, hS2⟩ : ∃ S2, S2 = X2 ++ Y2 := ⟨_, rfl⟩
     have HR5 : Hid (RowO w2 g cap (P ++ ((S1 ++ S2) ++ Q))) := Lib.hid (by rw [hS2]; simpa using HR4.out)
     have HL2 : Hid (S2.length = X2.length + Y2.length) := Lib.hid (by rw [hS2, List.length_append])
     have HS2 : Hid (Stab (X2 ++ Y2) S2) := Lib.hid (by rw [hS2]; exact Stab.refl _)
     have HO2 : Hid (SortO S2) := Lib.hid (by rw [hS2]; rw [EY2.out, List.append_nil]; exact SX2.out)
     have HT5 := HT4
     clear hS2
     go_wp2
     all_goals (go_end0; exact ⟨rfl, S1 ++ S2, HR5.out, by rw [List.length_append, HL1.out, HL2.out, ← EX.out, ← EY.out, List.length_append, List.length_append]; omega, (stab_parts TT1.out TT2.out HS1.out HO1.out HS2.out HO2.out).1, (stab_parts TT1.out TT2.out HS1.out HO1.out HS2.out HO2.out).2, HT5.out⟩)
    ·have b1 : decide ((a : Int) < (r : Int)) = true := decide_eq_true (by have := HEN.out; omega)
     have p1 : (a : Int) < (r : Int) := by have := HEN.out; omega
     have b2 : decide ((r : Int) < (m : Int)) = true := decide_eq_true (by have := HEN.out; omega)
     have p2 : (r : Int) < (m : Int) := by have := HEN.out; omega
     have b3 : decide ((r : Int) < (mid : Int)) = false := decide_eq_false (by have := HEN.out; omega)
     have p3 : ¬ (r : Int) < (mid : Int) := by have := HEN.out; omega
     have b4 : decide ((en : Int) < (b : Int)) = true := decide_eq_true (by have := HEN.out; omega)
     have p4 : (en : Int) < (b : Int) := by have := HEN.out; omega
     have b5 : decide ((m : Int) < (en : Int)) = false := decide_eq_false (by have := HEN.out; omega)
     have p5 : ¬ (m : Int) < (en : Int) := by have := HEN.out; omega
     have b6 : decide ((mid : Int) < (en : Int)) = true := decide_eq_true (by have := HEN.out; omega)
     have p6 : (mid : Int) < (en : Int) := by have := HEN.out; omega
     clear hen
     have EY1 : Hid (Y1 = []) := Lib.hid (List.length_eq_zero_iff.1 (by have := L3.out; omega))
     have HR3 : Hid (RowO wr g cap (P ++ (X1 ++ (Y1 ++ (X2 ++ (Y2 ++ Q)))))) := Lib.hid (by have := HR2.out; rw [EY1.out] at this ⊢; simpa using this)
     have HT3 := HT
     obtain ⟨S1, hS1⟩ : ∃ S1, S1 = X1 ++ Y1 := ⟨_, rfl⟩
     have HR4 : Hid (RowO wr g cap (P ++ (S1 ++ (X2 ++ (Y2 ++ Q))))) := Lib.hid (by rw [hS1]; simpa using HR3.out)
     have HL1 : Hid (S1.length = X1.length + Y1.length) := Lib.hid (by rw [hS1, List.length_append])
     have HS1 : Hid (Stab (X1 ++ Y1) S1) := Lib.hid (by rw [hS1]; exact Stab.refl _)
     have HO1 : Hid (SortO S1) := Lib.hid (by rw [hS1]; rw [EY1.out, List.append_nil]; exact SX1.out)
     have HT4 := HT3
     clear hS1
     have CU := Lib.hid (HIH.out g cap n mid en b (P ++ S1) X2 Y2 Q wr (by simpa using HR4.out) (by rw [HN.out, ← EX.out, ← EY.out]; simp; have := HL1.out; omega) (by simp; have := HL1.out; have := L1.out; have := L3.out; have := HA.out; omega) (by simp; have := HL1.out; have := L1.out; have := L2.out; have := L3.out; have := HA.out; have := HEN.out; omega) (by simp; have := HL1.out; have := L1.out; have := L2.out; have := L3.out; have := L4.out; have := HA.out; have := HEN.out; omega) (by have := L2.out; omega) (by have := L4.out; omega) (by have := L2.out; have := L4.out; have := HK.out; have := HA.out; have := HB.out; have := HM.out; have := HEN.out; omega) SX2.out SY2.out hL)
     go_wp2_with fail
     with_reducible refine CU.out.mono ?_
     rintro e w3 ⟨rfl, S2, hR1, hl1, hs1, ho1, hT1⟩
     have HR5 : Hid (RowO w3 g cap (P ++ ((S1 ++ S2) ++ Q))) := Lib.hid (by simpa using hR1)
     have HL2 := Lib.hid hl1; have HS2 := Lib.hid hs1; have HO2 := Lib.hid ho1
     have HT5 := Lib.hid (turned_trans HT4.out hT1)
     clear hR1 hl1 hs1 ho1 hT1
     go_wp2
     all_goals (go_end0; exact ⟨rfl, S1 ++ S2, HR5.out, by rw [List.length_append, HL1.out, HL2.out, ← EX.out, ← EY.out, List.length_append, List.length_append]; omega, (stab_parts TT1.out TT2.out HS1.out HO1.out HS2.out HO2.out).1, (stab_parts TT1.out TT2.out HS1.out HO1.out HS2.out HO2.out).2, HT5.out⟩)
    ·have b1 : decide ((a : Int) < (r : Int)) = true := decide_eq_true (by have := HEN.out; omega)
     have p1 : (a : Int) < (r : Int) := by have := HEN.out; omega
     have b2 : decide ((r : Int) < (m : Int)) = true := decide_eq_true (by have := HEN.out; omega)
     have p2 : (r : Int) < (m : Int) := by have := HEN.out; omega
     have b3 : decide ((r : Int) < (mid : Int)) = false := decide_eq_false (by have := HEN.out; omega)
     have p3 : ¬ (r : Int) < (mid : Int) := by have := HEN.out; omega
     have b4 : decide ((en : Int) < (b : Int)) = false := decide_eq_false (by have := HEN.out; omega)
     have p4 : ¬ (en : Int) < (b : Int) := by have := HEN.out; omega
     have b5 : decide ((m : Int) < (en : Int)) = false := decide_eq_false (by have := HEN.out; omega)
     have p5 : ¬ (m : Int) < (en : Int) := by have := HEN.out; omega
     have b6 : decide ((mid : Int) < (en : Int)) = true := decide_eq_true (by have := HEN.out; omega)
     have p6 : (mid : Int) < (en : Int) := by have := HEN.out; omega
     clear hen
     have EY1 : Hid (Y1 = []) := Lib.hid (List.length_eq_zero_iff.1 (by have := L3.out; omega))
     have EY2 : Hid (Y2 = []) := Lib.hid (List.length_eq_zero_iff.1 (by have := L4.out; omega))
     have HR3 : Hid (RowO wr g cap (P ++ (X1 ++ (Y1 ++ (X2 ++ (Y2 ++ Q)))))) := Lib.hid (by have := HR2.out; rw [EY1.out] at this ⊢; simpa using this)
     have HT3 := HT
     obtain ⟨S1, hS1⟩ : ∃ S1, S1 = X1 ++ Y1 := ⟨_, rfl⟩
     have HR4 : Hid (RowO wr g cap (P ++ (S1 ++ (X2 ++ (Y2 ++ Q))))) := Lib.hid (by rw [hS1]; simpa using HR3.out)
     have HL1 : Hid (S1.length = X1.length + Y1.length) := Lib.hid (by rw [hS1, List.length_append])
     have HS1 : Hid (Stab (X1 ++ Y1) S1) := Lib.hid (by rw [hS1]; exact Stab.refl _)
     have HO1 : Hid (SortO S1) := Lib.hid (by rw [hS1]; rw [EY1.out, List.append_nil]; exact SX1.out)
     have HT4 := HT3
     clear hS1
     obtain ⟨S2, hS2⟩ : ∃ S2, S2 = X2 ++ Y2 := ⟨_, rfl⟩
     have HR5 : Hid (RowO wr g cap (P ++ ((S1 ++ S2) ++ Q))) := Lib.hid (by rw [hS2]; simpa using HR4.out)
     have HL2 : Hid (S2.length = X2.length + Y2.length) := Lib.hid (by rw [hS2, List.length_append])
     have HS2 : Hid (Stab (X2 ++ Y2) S2) := Lib.hid (by rw [hS2]; exact Stab.refl _)
     have HO2 : Hid (SortO S2) := Lib.hid (by rw [hS2]; rw [EY2.out, List.append_nil]; exact SX2.out)
     have HT5 := HT4
     clear hS2
     go_wp2
     all_goals (go_end0; exact ⟨rfl, S1 ++ S2, HR5.out, by rw [List.length_append, HL1.out, HL2.out, ← EX.out, ← EY.out, List.length_append, List.length_append]; omega, (stab_parts TT1.out TT2.out HS1.out HO1.out HS2.out HO2.out).1, (stab_parts TT1.out TT2.out HS1.out HO1.out HS2.out HO2.out).2, HT5.out⟩)
    ·have b1 : decide ((a : Int) < (r : Int)) = true := decide_eq_true (by have := HEN.out; omega)
     have p1 : (a : Int) < (r : Int) := by have := HEN.out; omega
     have b2 : decide ((r : Int) < (m : Int)) = false := decide_eq_false (by have := HEN.out; omega)
     have p2 : ¬ (r : Int) < (m : Int) := by have := HEN.out; omega
     have b3 : decide ((r : Int) < (mid : Int)) = true := decide_eq_true (by have := HEN.out; omega)
     have p3 : (r : Int) < (mid : Int) := by have := HEN.out; omega
     have b4 : decide ((en : Int) < (b : Int)) = true := decide_eq_true (by have := HEN.out; omega)
     have p4 : (en : Int) < (b : Int) := by have := HEN.out; omega
     have b5 : decide ((m : Int) < (en : Int)) = true := decide_eq_true (by have := HEN.out; omega)
     have p5 : (m : Int) < (en : Int) := by have := HEN.out; omega
     have b6 : decide ((mid : Int) < (en : Int)) = false := decide_eq_false (by have := HEN.out; omega)
     have p6 : ¬ (mid : Int) < (en : Int) := by have := HEN.out; omega
     clear hen
     have EX2 : Hid (X2 = []) := Lib.hid (List.length_eq_zero_iff.1 (by have := L2.out; omega))
     have HR3 : Hid (RowO wr g cap (P ++ (X1 ++ (Y1 ++ (X2 ++ (Y2 ++ Q)))))) := Lib.hid (by have := HR2.out; rw [EX2.out] at this ⊢; simpa using this)
     have HT3 := HT
     have CL := Lib.hid (HIH.out g cap n a r mid P X1 Y1 (X2 ++ (Y2 ++ Q)) wr HR3.out (by rw [HN.out, ← EX.out, ← EY.out]; simp; omega) HA.out (by have := L1.out; have := HA.out; omega) (by have := L1.out; have := L3.out; have := HA.out; omega) (by have := L1.out; omega) (by have := L3.out; omega) (by have := L1.out; have := L3.out; have := HK.out; have := HA.out; have := HB.out; have := HM.out; omega) SX1.out SY1.out hL)
     go_wp2_with fail
     with_reducible refine CL.out.mono ?_
     rintro e w2 ⟨rfl, S1, hR1, hl1, hs1, ho1, hT1⟩
     have HR4 := Lib.hid hR1; have HL1 := Lib.hid hl1; have HS1 := Lib.hid hs1; have HO1 := Lib.hid ho1
     have HT4 := Lib.hid (turned_trans HT3.out hT1)
     clear hR1 hl1 hs1 ho1 hT1
     obtain ⟨S2, hS2⟩ : ∃ S2, S2 = X2 ++ Y2 := ⟨_, rfl⟩
     have HR5 : Hid (RowO w2 g cap (P ++ ((S1 ++ S2) ++ Q))) := Lib.hid (by rw [hS2]; simpa using HR4.out)
     have HL2 : Hid (S2.length = X2.length + Y2.length) := Lib.hid (by rw [hS2, List.length_append])
     have HS2 : Hid (Stab (X2 ++ Y2) S2) := Lib.hid (by rw [hS2]; exact Stab.refl _)
     have HO2 : Hid (SortO S2) := Lib.hid (by rw [hS2]; rw [EX2.out]; exact SY2.out)
     have HT5 := HT4
     clear hS2
     go_wp2
     all_goals (go_end0; exact ⟨rfl, S1 ++ S2, HR5.out, by rw [List.length_append, HL1.out, HL2.out, ← EX.out, ← EY.out, List.length_append, List.length_append]; omega, (stab_parts TT1.out TT2.out HS1.out HO1.out HS2.out HO2.out).1, (stab_parts TT1.out TT2.out HS1.out HO1.out HS2.out HO2.out).2, HT5.out⟩)
    ·have b1 : decide ((a : Int) < (r : Int)) = true := decide_eq_true (by have := HEN.out; omega)
     have p1 : (a : Int) < (r : Int) := by have := HEN.out; omega
     have b2 : decide ((r : Int) < (m : Int)) = false := decide_eq_false (by have := HEN.out; omega)
     have p2 : ¬ (r : Int) < (m : Int) := by have := HEN.out; omega
     have b3 : decide ((r : Int) < (mid : Int)) = true := decide_eq_true (by have := HEN.out; omega)
     have p3 : (r : Int) < (mid : Int) := by have := HEN.out; omega
     have b4 : decide ((en : Int) < (b : Int)) = false := decide_eq_false (by have := HEN.out; omega)
     have p4 : ¬ (en : Int) < (b : Int) := by have := HEN.out; omega
     have b5 : decide ((m : Int) < (en : Int)) = true := decide_eq_true (by have := HEN.out; omega)
     have p5 : (m : Int) < (en : Int) := by have := HEN.out; omega
     have b6 : decide ((mid : Int) < (en : Int)) = false := decide_eq_false (by have := HEN.out; omega)
     have p6 : ¬ (mid : Int) < (en : Int) := by have := HEN.out; omega
     clear hen
     have EX2 : Hid (X2 = []) := Lib.hid (List.length_eq_zero_iff.1 (by have := L2.out; omega))
     have EY2 : Hid (Y2 = []) := Lib.hid (List.length_eq_zero_iff.1 (by have := L4.out; omega))
     have HR3 : Hid (RowO wr g cap (P ++ (X1 ++ (Y1 ++ (X2 ++ (Y2 ++ Q)))))) := Lib.hid (by have := HR2.out; rw [EX2.out] at this ⊢; simpa using this)
     have HT3 := HT
     have CL := Lib.hid (HIH.out g cap n a r mid P X1 Y1 (X2 ++ (Y2 ++ Q)) wr HR3.out (by rw [HN.out, ← EX.out, ← EY.out]; simp; omega) HA.out (by have := L1.out; have := HA.out; omega) (by have := L1.out; have := L3.out; have := HA.out; omega) (by have := L1.out; omega) (by have := L3.out; omega) (by have := L1.out; have := L3.out; have := HK.out; have := HA.out; have := HB.out; have := HM.out; omega) SX1.out SY1.out hL)
     go_wp2_with fail
     with_reducible refine CL.out.mono ?_
     rintro e w2 ⟨rfl, S1, hR1, hl1, hs1, ho1, hT1⟩
     have HR4 := Lib.hid hR1; have HL1 := Lib.hid hl1; have HS1 := Lib.hid hs1; have HO1 := Lib.hid ho1
     have HT4 := Lib.hid (turned_trans HT3.out hT1)
     clear hR1 hl1 hs1 ho1 hT1
     obtain ⟨S2, hS2⟩ : ∃ S2, S2 = X2 ++ Y2 := ⟨_, rfl⟩
     have HR5 : Hid (RowO w2 g cap (P ++ ((S1 ++ S2) ++ Q))) := Lib.hid (by rw [hS2]; simpa using HR4.out)
     have HL2 : Hid (S2.length = X2.length + Y2.length) := Lib.hid (by rw [hS2, List.length_append])
     have HS2 : Hid (Stab (X2 ++ Y2) S2) := Lib.hid (by rw [hS2]; exact Stab.refl _)
     have HO2 : Hid (SortO S2) := Lib.hid (by rw [hS2]; rw [EX2.out]; exact SY2.out)
     have HT5 := HT4
     clear hS2
     go_wp2
     all_goals (go_end0; exact ⟨rfl, S1 ++ S2, HR5.out, by rw [List.length_append, HL1.out, HL2.out, ← EX.out, ← EY.out, List.length_append, List.length_append]; omega, (stab_parts TT1.out TT2.out HS1.out HO1.out HS2.out HO2.out).1, (stab_parts TT1.out TT2.out HS1.out HO1.out HS2.out HO2.out).2, HT5.out⟩)
    ·have b1 : decide ((a : Int) < (r : Int)) = true := decide_eq_true (by have := HEN.out; omega)
     have p1 : (a : Int) < (r : Int) := by have := HEN.out; omega
     have b2 : decide ((r : Int) < (m : Int)) = false := decide_eq_false (by have := HEN.out; omega)
     have p2 : ¬ (r : Int) < (m : Int) := by have := HEN.out; omega
     have b3 : decide ((r : Int) < (mid : Int)) = false := decide_eq_false (by have := HEN.out; omega)
     have p3 : ¬ (r : Int) < (mid : Int) := by have := HEN.out; omega
     have b4 : decide ((en : Int) < (b : Int)) = true := decide_eq_true (by have := HEN.out; omega)
     have p4 : (en : Int) < (b : Int) := by have := HEN.out; omega
     have b5 : decide ((m : Int) < (en : Int)) = false := decide_eq_false (by have := HEN.out; omega)
     have p5 : ¬ (m : Int) < (en : Int) := by have := HEN.out; omega
     have b6 : decide ((mid : Int) < (en : Int)) = false := decide_eq_false (by have := HEN.out; omega)
     have p6 : ¬ (mid : Int) < (en : Int) := by have := HEN.out; omega
     clear hen
     have EX2 : Hid (X2 = []) := Lib.hid (List.length_eq_zero_iff.1 (by have := L2.out; omega))
     have EY1 : Hid (Y1 = []) := Lib.hid (List.length_eq_zero_iff.1 (by have := L3.out; omega))
     have HR3 : Hid (RowO wr g cap (P ++ (X1 ++ (Y1 ++ (X2 ++ (Y2 ++ Q)))))) := Lib.hid (by have := HR2.out; rw [EX2.out] at this ⊢; simpa using this)
     have HT3 := HT
     obtain ⟨S1, hS1⟩ : ∃ S1, S1 = X1 ++ Y1 := ⟨_, rfl⟩
     have HR4 : Hid (RowO wr g cap (P ++ (S1 ++ (X2 ++ (Y2 ++ Q))))) := Lib.hid (by rw [hS1]; simpa using HR3.out)
     have HL1 : Hid (S1.length = X1.length + Y1.length) := Lib.hid (by rw [hS1, List.length_append])
     have HS1 : Hid (Stab (X1 ++ Y1) S1) := Lib.hid (by rw [hS1]; exact Stab.refl _)
     have HO1 : Hid (SortO S1) := Lib.hid (by rw [hS1]; rw [EY1.out, List.append_nil]; exact SX1.out)
     have HT4 := HT3
     clear hS1
     obtain ⟨S2, hS2⟩ : ∃ S2, S2 = X2 ++ Y2 := ⟨_, rfl⟩
     have HR5 : Hid (RowO wr g cap (P ++ ((S1 ++ S2) ++ Q))) := Lib.hid (by rw [hS2]; simpa using HR4.out)
     have HL2 : Hid (S2.length = X2.length + Y2.length) := Lib.hid (by rw [hS2, List.length_append])
     have HS2 : Hid (Stab (X2 ++ Y2) S2) := Lib.hid (by rw [hS2]; exact Stab.refl _)
     have HO2 : Hid (SortO S2) := Lib.hid (by rw [hS2]; rw [EX2.out]; exact SY2.out)
     have HT5 := HT4
     clear hS2
     go_wp2
     all_goals (go_end0; exact ⟨rfl, S1 ++ S2, HR5.out, by rw [List.length_append, HL1.out, HL2.out, ← EX.out, ← EY.out, List.length_append, List.length_append]; omega, (stab_parts TT1.out TT2.out HS1.out HO1.out HS2.out HO2.out).1, (stab_parts TT1.out TT2.out HS1.out HO1.out HS2.out HO2.out).2, HT5.out⟩)
    ·have b1 : decide ((a : Int) < (r : Int)) = true := decide_eq_true (by have := HEN.out; omega)
     have p1 : (a : Int) < (r : Int) := by have := HEN.out; omega
     have b2 : decide ((r : Int) < (m : Int)) = false := decide_eq_false (by have := HEN.out; omega)
     have p2 : ¬ (r : Int) < (m : Int) := by have := HEN.out; omega
     have b3 : decide ((r : Int) < (mid : Int)) = false := decide_eq_false (by have := HEN.out; omega)
     have p3 : ¬ (r : Int) < (mid : Int) := by have := HEN.out; omega
     have b4 : decide ((en : Int) < (b : Int)) = false := decide_eq_false (by have := HEN.out; omega)
     have p4 : ¬ (en : Int) < (b : Int) := by have := HEN.out; omega
     have b5 : decide ((m : Int) < (en : Int)) = false := decide_eq_false (by have := HEN.out; omega)
     have p5 : ¬ (m : Int) < (en : Int) := by have := HEN.out; omega
     have b6 : decide ((mid : Int) < (en : Int)) = false := decide_eq_false (by have := HEN.out; omega)
     have p6 : ¬ (mid : Int) < (en : Int) := by have := HEN.out; omega
     clear hen
     have EX2 : Hid (X2 = []) := Lib.hid (List.length_eq_zero_iff.1 (by have := L2.out; omega))
     have EY1 : Hid (Y1 = []) := Lib.hid (List.length_eq_zero_iff.1 (by have := L3.out; omega))
     have EY2 : Hid (Y2 = []) := Lib.hid (List.length_eq_zero_iff.1 (by have := L4.out; omega))
     have HR3 : Hid (RowO wr g cap (P ++ (X1 ++ (Y1 ++ (X2 ++ (Y2 ++ Q)))))) := Lib.hid (by have := HR2.out; rw [EX2.out] at this ⊢; simpa using this)
     have HT3 := HT
     obtain ⟨S1, hS1⟩ : ∃ S1, S1 = X1 ++ Y1 := ⟨_, rfl⟩
     have HR4 : Hid (RowO wr g cap (P ++ (S1 ++ (X2 ++ (Y2 ++ Q))))) := Lib.hid (by rw [hS1]; simpa using HR3.out)
     have HL1 : Hid (S1.length = X1.length + Y1.length) := Lib.hid (by rw [hS1, List.length_append])
     have HS1 : Hid (Stab (X1 ++ Y1) S1) := Lib.hid (by rw [hS1]; exact Stab.refl _)
     have HO1 : Hid (SortO S1) := Lib.hid (by rw [hS1]; rw [EY1.out, List.append_nil]; exact SX1.out)
     have HT4 := HT3
     clear hS1
     obtain ⟨S2, hS2⟩ : ∃ S2, S2 = X2 ++ Y2 := ⟨_, rfl⟩
     have HR5 : Hid (RowO wr g cap (P ++ ((S1 ++ S2) ++ Q))) := Lib.hid (by rw [hS2]; simpa using HR4.out)
     have HL2 : Hid (S2.length = X2.length + Y2.length) := Lib.hid (by rw [hS2, List.length_append])
     have HS2 : Hid (Stab (X2 ++ Y2) S2) := Lib.hid (by rw [hS2]; exact Stab.refl _)
     have HO2 : Hid (SortO S2) := Lib.hid (by rw [hS2]; rw [EX2.out]; exact SY2.out)
     have HT5 := HT4
     clear hS2
     go_wp2
     all_goals (go_end0; exact ⟨rfl, S1 ++ S2, HR5.out, by rw [List.length_append, HL1.out, HL2.out, ← EX.out, ← EY.out, List.length_append, List.length_append]; omega, (stab_parts TT1.out TT2.out HS1.out HO1.out HS2.out HO2.out).1, (stab_parts TT1.out TT2.out HS1.out HO1.out HS2.out HO2.out).2, HT5.out⟩)
    ·have b1 : decide ((a : Int) < (r : Int)) = false := decide_eq_false (by have := HEN.out; omega)
     have p1 : ¬ (a : Int) < (r : Int) := by have := HEN.out; omega
     have b2 : decide ((r : Int) < (m : Int)) = true := decide_eq_true (by have := HEN.out; omega)
     have p2 : (r : Int) < (m : Int) := by have := HEN.out; omega
     have b3 : decide ((r : Int) < (mid : Int)) = true := decide_eq_true (by have := HEN.out; omega)
     have p3 : (r : Int) < (mid : Int) := by have := HEN.out; omega
     have b4 : decide ((en : Int) < (b : Int)) = true := decide_eq_true (by have := HEN.out; omega)
     have p4 : (en : Int) < (b : Int) := by have := HEN.out; omega
     have b5 : decide ((m : Int) < (en : Int)) = true := decide_eq_true (by have := HEN.out; omega)
     have p5 : (m : Int) < (en : Int) := by have := HEN.out; omega
     have b6 : decide ((mid : Int) < (en : Int)) = true := decide_eq_true (by have := HEN.out; omega)
     have p6 : (mid : Int) < (en : Int) := by have := HEN.out; omega
     clear hen
     have EX1 : Hid (X1 = []) := Lib.hid (List.length_eq_zero_iff.1 (by have := L1.out; omega))
     have CR := Lib.hid (rotate_any cmpV g cap n r m en (P ++ X1) X2 Y1 (Y2 ++ Q) wr (by simpa using HR2.out) (by rw [HN.out, ← EX.out, ← EY.out]; simp; omega) (by simp; have := L1.out; have := HA.out; omega) (by simp; have := L1.out; have := L2.out; have := HA.out; omega) (by simp; have := L1.out; have := L2.out; have := L3.out; have := HA.out; have := HEN.out; omega) (by have := L2.out; omega) (by have := L3.out; omega) hL)
     go_wp2_with fail
     with_reducible refine CR.out.mono ?_
     rintro e w1 ⟨rfl, hR1, hT1⟩
     have HR3 : Hid (RowO w1 g cap (P ++ (X1 ++ (Y1 ++ (X2 ++ (Y2 ++ Q)))))) := Lib.hid (by simpa using hR1)
     have HT3 := Lib.hid (turned_trans HT.out hT1)
     clear hR1 hT1
     obtain ⟨S1, hS1⟩ : ∃ S1, S1 = X1 ++ Y1 := ⟨_, rfl⟩
     have HR4 : Hid (RowO w1 g cap (P ++ (S1 ++ (X2 ++ (Y2 ++ Q))))) := Lib.hid (by rw [hS1]; simpa using HR3.out)
     have HL1 : Hid (S1.length = X1.length + Y1.length) := Lib.hid (by rw [hS1, List.length_append])
     have HS1 : Hid (Stab (X1 ++ Y1) S1) := Lib.hid (by rw [hS1]; exact Stab.refl _)
     have HO1 : Hid (SortO S1) := Lib.hid (by rw [hS1]; rw [EX1.out]; exact SY1.out)
     have HT4 := HT3
     clear hS1
     have CU := Lib.hid (HIH.out g cap n mid en b (P ++ S1) X2 Y2 Q w1 (by simpa using HR4.out) (by rw [HN.out, ← EX.out, ← EY.out]; simp; have := HL1.out; omega) (by simp; have := HL1.out; have := L1.out; have := L3.out; have := HA.out; omega) (by simp; have := HL1.out; have := L1.out; have := L2.out; have := L3.out; have := HA.out; have := HEN.out; omega) (by simp; have := HL1.out; have := L1.out; have := L2.out; have := L3.out; have := L4.out; have := HA.out; have := HEN.out; omega) (by have := L2.out; omega) (by have := L4.out; omega) (by have := L2.out; have := L4.out; have := HK.out; have := HA.out; have := HB.out; have := HM.out; have := HEN.out; omega) SX2.out SY2.out hL)
     go_wp2_with fail
     with_reducible refine CU.out.mono ?_
     rintro e w3 ⟨rfl, S2, hR1, hl1, hs1, ho1, hT1⟩
     have HR5 : Hid (RowO w3 g cap (P ++ ((S1 ++ S2) ++ Q))) := Lib.hid (by simpa using hR1)
     have HL2 := Lib.hid hl1; have HS2 := Lib.hid hs1; have HO2 := Lib.hid ho1
     have HT5 := Lib.hid (turned_trans HT4.out hT1)
     clear hR1 hl1 hs1 ho1 hT1
     go_wp2
     all_goals (go_end0; exact ⟨rfl, S1 ++ S2, HR5.out, by rw [List.length_append, HL1.out, HL2.out, ← EX.out, ← EY.out, List.length_append, List.length_append]; omega, (stab_parts TT1.out TT2.out HS1.out HO1.out HS2.out HO2.out).1, (stab_parts TT1.out TT2.out HS1.out HO1.out HS2.out HO2.out).2, HT5.out⟩)
    ·have b1 : decide ((a : Int) < (r : Int)) = false := decide_eq_false (by have := HEN.out; omega)
     have p1 : ¬ (a : Int) < (r : Int) := by have := HEN.out; omega
     have b2 : decide ((r : Int) < (m : Int)) = true := decide_eq_true (by have := HEN.out; omega)
     have p2 : (r : Int) < (m : Int) := by have := HEN.out; omega
     have b3 : decide ((r : Int) < (mid : Int)) = true := decide_eq_true (by have := HEN.out; omega)
     have p3 : (r : Int) < (mid : Int) := by have := HEN.out; omega
     have b4 : decide ((en : Int) < (b : Int)) = false := decide_eq_false (by have := HEN.out; omega)
     have p4 : ¬ (en : Int) < (b : Int) := by have := HEN.out; omega
     have b5 : decide ((m : Int) < (en : Int)) = true := decide_eq_true (by have := HEN.out; omega)
     have p5 : (m : Int) < (en : Int) := by have := HEN.out; omega
     have b6 : decide ((mid : Int) < (en : Int)) = true := decide_eq_true (by have := HEN.out; omega)
     have p6 : (mid : Int) < (en : Int) := by have := HEN.out; omega
     clear hen
     have EX1 : Hid (X1 = []) := Lib.hid (List.length_eq_zero_iff.1 (by have := L1.out; omega))
     have EY2 : Hid (Y2 = []) := Lib.hid (List.length_eq_zero_iff.1 (by have := L4.out; omega))
     have CR := Lib.hid (rotate_any cmpV g cap n r m en (P ++ X1) X2 Y1 (Y2 ++ Q) wr (by simpa using HR2.out) (by rw [HN.out, ← EX.out, ← EY.out]; simp; omega) (by simp; have := L1.out; have := HA.out; omega) (by simp; have := L1.out; have := L2.out; have := HA.out; omega) (by simp; have := L1.out; have := L2.out; have := L3.out; have := HA.out; have := HEN.out; omega) (by have := L2.out; omega) (by have := L3.out; omega) hL)
     go_wp2_with fail
     with_reducible refine CR.out.mono ?_
     rintro e w1 ⟨rfl, hR1, hT1⟩
     have HR3 : Hid (RowO w1 g cap (P ++ (X1 ++ (Y1 ++ (X2 ++ (Y2 ++ Q)))))) := Lib.hid (by simpa using hR1)
     have HT3 := Lib.hid (turned_trans HT.out hT1)
     clear hR1 hT1
     obtain ⟨S1, hS1⟩ : ∃ S1, S1 = X1 ++ Y1 := ⟨_, rfl⟩
     have HR4 : Hid (RowO w1 g cap (P ++ (S1 ++ (X2 ++ (Y2 ++ Q))))) := Lib.hid (by rw [hS1]; simpa using HR3.out)
     have HL1 : Hid (S1.length = X1.length + Y1.length) := Lib.hid (by rw [hS1, List.length_append])
     have HS1 : Hid (Stab (X1 ++ Y1) S1) := Lib.hid (by rw [hS1]; exact Stab.refl _)
     have HO1 : Hid (SortO S1) := Lib.hid (by rw [hS1]; rw [EX1.out]; exact SY1.out)
     have HT4 := HT3
     clear hS1
     obtain ⟨S2, hS2⟩ : ∃ S2, S2 = X2 ++ Y2 := ⟨_, rfl⟩
     have HR5 : Hid (RowO w1 g cap (P ++ ((S1 ++ S2) ++ Q))) := Lib.hid (by rw [hS2]; simpa using HR4.out)
     have HL2 : Hid (S2.length = X2.length + Y2.length) := Lib.hid (by rw [hS2, List.length_append])
     have HS2 : Hid (Stab (X2 ++ Y2) S2) := Lib.hid (by rw [hS2]; exact Stab.refl _)
     have HO2 : Hid (SortO S2) := Lib.hid (by rw [hS2]; rw [EY2.out, List.append_nil]; exact SX2.out)
     have HT5 := HT4
     clear hS2
     go_wp2
     all_goals (go_end0; exact ⟨rfl, S1 ++ S2, HR5.out, by rw [List.length_append, HL1.out, HL2.out, ← EX.out, ← EY.out, List.length_append, List.length_append]; omega, (stab_parts TT1.out TT2.out HS1.out HO1.out HS2.out HO2.out).1, (stab_parts TT1.out TT2.out HS1.out HO1.out HS2.out HO2.out).2, HT5.out⟩)
    ·have b1 : decide ((a : Int) < (r : Int)) = false := decide_eq_false (by have := HEN.out; omega)
     have p1 : ¬ (a : Int) < (r : Int) := by have := HEN.out; omega
     have b2 : decide ((r : Int) < (m : Int)) = true := decide_eq_true (by have := HEN.out; omega)
     have p2 : (r : Int) < (m : Int) := by have := HEN.out; omega
     have b3 : decide ((r : Int) < (mid : Int)) = false := decide_eq_false (by have := HEN.out; omega)
     have p3 : ¬ (r : Int) < (mid : Int) := by have := HEN.out; omega
     have b4 : decide ((en : Int) < (b : Int)) = true := decide_eq_true (by have := HEN.out; omega)
     have p4 : (en : Int) < (b : Int) := by have := HEN.out; omega
     have b5 : decide ((m : Int) < (en : Int)) = false := decide_eq_false (by have := HEN.out; omega)
     have p5 : ¬ (m : Int) < (en : Int) := by have := HEN.out; omega
     have b6 : decide ((mid : Int) < (en : Int)) = true := decide_eq_true (by have := HEN.out; omega)
     have p6 : (mid : Int) < (en : Int) := by have := HEN.out; omega
     clear hen
     have EY1 : Hid (Y1 = []) := Lib.hid (List.length_eq_zero_iff.1 (by have := L3.out; omega))
     have EX1 : Hid (X1 = []) := Lib.hid (List.length_eq_zero_iff.1 (by have := L1.out; omega))
     have HR3 : Hid (RowO wr g cap (P ++ (X1 ++ (Y1 ++ (X2 ++ (Y2 ++ Q)))))) := Lib.hid (by have := HR2.out; rw [EY1.out] at this ⊢; simpa using this)
     have HT3 := HT
     obtain ⟨S1, hS1⟩ : ∃ S1, S1 = X1 ++ Y1 := ⟨_, rfl⟩
     have HR4 : Hid (RowO wr g cap (P ++ (S1 ++ (X2 ++ (Y2 ++ Q))))) := Lib.hid (by rw [hS1]; simpa using HR3.out)
     have HL1 : Hid (S1.length = X1.length + Y1.length) := Lib.hid (by rw [hS1, List.length_append])
     have HS1 : Hid (Stab (X1 ++ Y1) S1) := Lib.hid (by rw [hS1]; exact Stab.refl _)
     have HO1 : Hid (SortO S1) := Lib.hid (by rw [hS1]; rw [EX1.out]; exact SY1.out)
     have HT4 := HT3
     clear hS1
     have CU := Lib.hid (HIH.out g cap n mid en b (P ++ S1) X2 Y2 Q wr (by simpa using HR4.out) (by rw [HN.out, ← EX.out, ← EY.out]; simp; have := HL1.out; omega) (by simp; have := HL1.out; have := L1.out; have := L3.out; have := HA.out; omega) (by simp; have := HL1.out; have := L1.out; have := L2.out; have := L3.out; have := HA.out; have := HEN.out; omega) (by simp; have := HL1.out; have := L1.out; have := L2.out; have := L3.out; have := L4.out; have := HA.out; have := HEN.out; omega) (by have := L2.out; omega) (by have := L4.out; omega) (by have := L2.out; have := L4.out; have := HK.out; have := HA.out; have := HB.out; have := HM.out; have := HEN.out; omega) SX2.out SY2.out hL)
     go_wp2_with fail
     with_reducible refine CU.out.mono ?_
     rintro e w3 ⟨rfl, S2, hR1, hl1, hs1, ho1, hT1⟩
     have HR5 : Hid (RowO w3 g cap (P ++ ((S1 ++ S2) ++ Q))) := Lib.hid (by simpa using hR1)
     have HL2 := Lib.hid hl1; have HS2 := Lib.hid hs1; have HO2 := Lib.hid ho1
     have HT5 := Lib.hid (turned_trans HT4.out hT1)
     clear hR1 hl1 hs1 ho1 hT1
     go_wp2
     all_goals (go_end0; exact ⟨rfl, S1 ++ S2, HR5.out, by rw [List.length_append, HL1.out, HL2.out, ← EX.out, ← EY.out, List.length_append, List.length_append]; omega, (stab_parts TT1.out TT2.out HS1.out HO1.out HS2.out HO2.out).1, (stab_parts TT1.out TT2.out HS1.out HO1.out HS2.out HO2.out).2, HT5.out⟩)
    ·have b1 : decide ((a : Int) < (r : Int)) = false := decide_eq_false (by have := HEN.out; omega)
     have p1 : ¬ (a : Int) < (r : Int) := by have := HEN.out; omega
     have b2 : decide ((r : Int) < (m : Int)) = true := decide_eq_true (by have := HEN.out; omega)
     have p2 : (r : Int) < (m : Int) := by have := HEN.out; omega
     have b3 : decide ((r : Int) < (mid : Int)) = false := decide_eq_false (by have := HEN.out; omega)
     have p3 : ¬ (r : Int) < (mid : Int) := by have := HEN.out; omega
     have b4 : decide ((en : Int) < (b : Int)) = false := decide_eq_false (by have := HEN.out; omega)
     have p4 : ¬ (en : Int) < (b : Int) := by have := HEN.out; omega
     have b5 : decide ((m : Int) < (en : Int)) = false := decide_eq_false (by have := HEN.out; omega)
     have p5 : ¬ (m : Int) < (en : Int) := by have := HEN.out; omega
     have b6 : decide ((mid : Int) < (en : Int)) = true := decide_eq_true (by have := HEN.out; omega)
     have p6 : (mid : Int) < (en : Int) := by have := HEN.out; omega
     clear hen
     have EY1 : Hid (Y1 = []) := Lib.hid (List.length_eq_zero_iff.1 (by have := L3.out; omega))
     have EX1 : Hid (X1 = []) := Lib.hid (List.length_eq_zero_iff.1 (by have := L1.out; omega))
     have EY2 : Hid (Y2 = []) := Lib.hid (List.length_eq_zero_iff.1 (by have := L4.out; omega))
     have HR3 : Hid (RowO wr g cap (P ++ (X1 ++ (Y1 ++ (X2 ++ (Y2 ++ Q)))))) := Lib.hid (by have := HR2.out; rw [EY1.out] at this ⊢; simpa using this)
     have HT3 := HT
     obtain ⟨S1, hS1⟩ : ∃ S1, S1 = X1 ++ Y1 := ⟨_, rfl⟩
     have HR4 : Hid (RowO wr g cap (P ++ (S1 ++ (X2 ++ (Y2 ++ Q))))) := Lib.hid (by rw [hS1]; simpa using HR3.out)
     have HL1 : Hid (S1.length = X1.length + Y1.length) := Lib.hid (by rw [hS1, List.length_append])
     have HS1 : Hid (Stab (X1 ++ Y1) S1) := Lib.hid (by rw [hS1]; exact Stab.refl _)
     have HO1 : Hid (SortO S1) := Lib.hid (by rw [hS1]; rw [EX1.out]; exact SY1.out)
     have HT4 := HT3
     clear hS1
     obtain ⟨S2, hS2⟩ : ∃ S2, S2 = X2 ++ Y2 := ⟨_, rfl⟩
     have HR5 : Hid (RowO wr g cap (P ++ ((S1 ++ S2) ++ Q))) := Lib.hid (by rw [hS2]; simpa using HR4.out)
     have HL2 : Hid (S2.length = X2.length + Y2.length) := Lib.hid (by rw [hS2, List.length_append])
     have HS2 : Hid (Stab (X2 ++ Y2) S2) := Lib.hid (by rw [hS2]; exact Stab.refl _)
     have HO2 : Hid (SortO S2) := Lib.hid (by rw [hS2]; rw [EY2.out, List.append_nil]; exact SX2.out)
     have HT5 := HT4
     clear hS2
     go_wp2
     all_goals (go_end0; exact ⟨rfl, S1 ++ S2, HR5.out, by rw [List.length_append, HL1.out, HL2.out, ← EX.out, ← EY.out, List.length_append, List.length_append]; omega, (stab_parts TT1.out TT2.out HS1.out HO1.out HS2.out HO2.out).1, (stab_parts TT1.out TT2.out HS1.out HO1.out HS2.out HO2.out).2, HT5.out⟩)
    ·have b1 : decide ((a : Int) < (r : Int)) = false := decide_eq_false (by have := HEN.out; omega)
     have p1 : ¬ (a : Int) < (r : Int) := by have := HEN.out; omega
     have b2 : decide ((r : Int) < (m : Int)) = false := decide_eq_false (by have := HEN.out; omega)
     have p2 : ¬ (r : Int) < (m : Int) := by have := HEN.out; omega
     have b3 : decide ((r : Int) < (mid : Int)) = true := decide_eq_true (by have := HEN.out; omega)
     have p3 : (r : Int) < (mid : Int) := by have := HEN.out; omega
     have b4 : decide ((en : Int) < (b : Int)) = true := decide_eq_true (by have := HEN.out; omega)
     have p4 : (en : Int) < (b : Int) := by have := HEN.out; omega
     have b5 : decide ((m : Int) < (en : Int)) = true := decide_eq_true (by have := HEN.out; omega)
     have p5 : (m : Int) < (en : Int) := by have := HEN.out; omega
     have b6 : decide ((mid : Int) < (en : Int)) = false := decide_eq_false (by have := HEN.out; omega)
     have p6 : ¬ (mid : Int) < (en : Int) := by have := HEN.out; omega
     clear hen
     have EX2 : Hid (X2 = []) := Lib.hid (List.length_eq_zero_iff.1 (by have := L2.out; omega))
     have EX1 : Hid (X1 = []) := Lib.hid (List.length_eq_zero_iff.1 (by have := L1.out; omega))
     have HR3 : Hid (RowO wr g cap (P ++ (X1 ++ (Y1 ++ (X2 ++ (Y2 ++ Q)))))) := Lib.hid (by have := HR2.out; rw [EX2.out] at this ⊢; simpa using this)
     have HT3 := HT
     obtain ⟨S1, hS1⟩ : ∃ S1, S1 = X1 ++ Y1 := ⟨_, rfl⟩
     have HR4 : Hid (RowO wr g cap (P ++ (S1 ++ (X2 ++ (Y2 ++ Q))))) := Lib.hid (by rw [hS1]; simpa using HR3.out)
     have HL1 : Hid (S1.length = X1.length + Y1.length) := Lib.hid (by rw [hS1, List.length_append])
     have HS1 : Hid (Stab (X1 ++ Y1) S1) := Lib.hid (by rw [hS1]; exact Stab.refl _)
     have HO1 : Hid (SortO S1) := Lib.hid (by rw [hS1]; rw [EX1.out]; exact SY1.out)
     have HT4 := HT3
     clear hS1
     obtain ⟨S2, hS2⟩ : ∃ S2, S2 = X2 ++ Y2 := ⟨_, rfl⟩
     have HR5 : Hid (RowO wr g cap (P ++ ((S1 ++ S2) ++ Q))) := Lib.hid (by rw [hS2]; simpa using HR4.out)
     have HL2 : Hid (S2.length = X2.length + Y2.length) := Lib.hid (by rw [hS2, List.length_append])
     have HS2 : Hid (Stab (X2 ++ Y2) S2) := Lib.hid (by rw [hS2]; exact Stab.refl _)
     have HO2 : Hid (SortO S2) := Lib.hid (by rw [hS2]; rw [EX2.out]; exact SY2.out)
     have HT5 := HT4
     clear hS2
     go_wp2
     all_goals (go_end0; exact ⟨rfl, S1 ++ S2, HR5.out, by rw [List.length_append, HL1.out, HL2.out, ← EX.out, ← EY.out, List.length_append, List.length_append]; omega, (stab_parts TT1.out TT2.out HS1.out HO1.out HS2.out HO2.out).1, (stab_parts TT1.out TT2.out HS1.out HO1.out HS2.out HO2.out).2, HT5.out⟩)
    ·have b1 : decide ((a : Int) < (r : Int)) = false := decide_eq_false (by have := HEN.out; omega)
     have p1 : ¬ (a : Int) < (r : Int) := by have := HEN.out; omega
     have b2 : decide ((r : Int) < (m : Int)) = false := decide_eq_false (by have := HEN.out; omega)
     have p2 : ¬ (r : Int) < (m : Int) := by have := HEN.out; omega
     have b3 : decide ((r : Int) < (mid : Int)) = true := decide_eq_true (by have := HEN.out; omega)
     have p3 : (r : Int) < (mid : Int) := by have := HEN.out; omega
     have b4 : decide ((en : Int) < (b : Int)) = false := decide_eq_false (by have := HEN.out; omega)
     have p4 : ¬ (en : Int) < (b : Int) := by have := HEN.out; omega
     have b5 : decide ((m : Int) < (en : Int)) = true := decide_eq_true (by have := HEN.out; omega)
     have p5 : (m : Int) < (en : Int) := by have := HEN.out; omega
     have b6 : decide ((mid : Int) < (en : Int)) = false := decide_eq_false (by have := HEN.out; omega)
     have p6 : ¬ (mid : Int) < (en : Int) := by have := HEN.out; omega
     clear hen
     have EX2 : Hid (X2 = []) := Lib.hid (List.length_eq_zero_iff.1 (by have := L2.out; omega))
     have EX1 : Hid (X1 = []) := Lib.hid (List.length_eq_zero_iff.1 (by have := L1.out; omega))
     have EY2 : Hid (Y2 = []) := Lib.hid (List.length_eq_zero_iff.1 (by have := L4.out; omega))
     have HR3 : Hid (RowO wr g cap (P ++ (X1 ++ (Y1 ++ (X2 ++ (Y2 ++ Q)))))) := Lib.hid (by have := HR2.out; rw [EX2.out] at this ⊢; simpa using this)
     have HT3 := HT
     obtain ⟨S1, hS1⟩ : ∃ S1, S1 = X1 ++ Y1 := ⟨_, rfl⟩
     have HR4 : Hid (RowO wr g cap (P ++ (S1 ++ (X2 ++ (Y2 ++ Q))))) := Lib.hid (by rw [hS1]; simpa using HR3.out)
     have HL1 : Hid (S1.length = X1.length + Y1.length) := Lib.hid (by rw [hS1, List.length_append])
     have HS1 : Hid (Stab (X1 ++ Y1) S1) := Lib.hid (by rw [hS1]; exact Stab.refl _)
     have HO1 : Hid (SortO S1) := Lib.hid (by rw [hS1]; rw [EX1.out]; exact SY1.out)
     have HT4 := HT3
     clear hS1
     obtain ⟨S2, hS2⟩ : ∃ S2, S2 = X2 ++ Y2 := ⟨_, rfl⟩
     have HR5 : Hid (RowO wr g cap (P ++ ((S1 ++ S2) ++ Q))) := Lib.hid (by rw [hS2]; simpa using HR4.out)
     have HL2 : Hid (S2.length = X2.length + Y2.length) := Lib.hid (by rw [hS2, List.length_append])
     have HS2 : Hid (Stab (X2 ++ Y2) S2) := Lib.hid (by rw [hS2]; exact Stab.refl _)
     have HO2 : Hid (SortO S2) := Lib.hid (by rw [hS2]; rw [EX2.out]; exact SY2.out)
     have HT5 := HT4
     clear hS2
     go_wp2
     all_goals (go_end0; exact ⟨rfl, S1 ++ S2, HR5.out, by rw [List.length_append, HL1.out, HL2.out, ← EX.out, ← EY.out, List.length_append, List.length_append]; omega, (stab_parts TT1.out TT2.out HS1.out HO1.out HS2.out HO2.out).1, (stab_parts TT1.out TT2.out HS1.out HO1.out HS2.out HO2.out).2, HT5.out⟩)
    ·have b1 : decide ((a : Int) < (r : Int)) = false := decide_eq_false (by have := HEN.out; omega)
     have p1 : ¬ (a : Int) < (r : Int) := by have := HEN.out; omega
     have b2 : decide ((r : Int) < (m : Int)) = false := decide_eq_false (by have := HEN.out; omega)
     have p2 : ¬ (r : Int) < (m : Int) := by have := HEN.out; omega
     have b3 : decide ((r : Int) < (mid : Int)) = false := decide_eq_false (by have := HEN.out; omega)
     have p3 : ¬ (r : Int) < (mid : Int) := by have := HEN.out; omega
     have b4 : decide ((en : Int) < (b : Int)) = true := decide_eq_true (by have := HEN.out; omega)
     have p4 : (en : Int) < (b : Int) := by have := HEN.out; omega
     have b5 : decide ((m : Int) < (en : Int)) = false := decide_eq_false (by have := HEN.out; omega)
     have p5 : ¬ (m : Int) < (en : Int) := by have := HEN.out; omega
     have b6 : decide ((mid : Int) < (en : Int)) = false := decide_eq_false (by have := HEN.out; omega)
     have p6 : ¬ (mid : Int) < (en : Int) := by have := HEN.out; omega
     clear hen
     have EX2 : Hid (X2 = []) := Lib.hid (List.length_eq_zero_iff.1 (by have := L2.out; omega))
     have EY1 : Hid (Y1 = []) := Lib.hid (List.length_eq_zero_iff.1 (by have := L3.out; omega))
     have EX1 : Hid (X1 = []) := Lib.hid (List.length_eq_zero_iff.1 (by have := L1.out; omega))
     have HR3 : Hid (RowO wr g cap (P ++ (X1 ++ (Y1 ++ (X2 ++ (Y2 ++ Q)))))) := Lib.hid (by have := HR2.out; rw [EX2.out] at this ⊢; simpa using this)
     have HT3 := HT
     obtain ⟨S1, hS1⟩ : ∃ S1, S1 = X1 ++ Y1 := ⟨_, rfl⟩
     have HR4 : Hid (RowO wr g cap (P ++ (S1 ++ (X2 ++ (Y2 ++ Q))))) := Lib.hid (by rw [hS1]; simpa using HR3.out)
     have HL1 : Hid (S1.length = X1.length + Y1.length) := Lib.hid (by rw [hS1, List.length_append])
     have HS1 : Hid (Stab (X1 ++ Y1) S1) := Lib.hid (by rw [hS1]; exact Stab.refl _)
     have HO1 : Hid (SortO S1) := Lib.hid (by rw [hS1]; rw [EX1.out]; exact SY1.out)
     have HT4 := HT3
     clear hS1
     obtain ⟨S2, hS2⟩ : ∃ S2, S2 = X2 ++ Y2 := ⟨_, rfl⟩
     have HR5 : Hid (RowO wr g cap (P ++ ((S1 ++ S2) ++ Q))) := Lib.hid (by rw [hS2]; simpa using HR4.out)
     have HL2 : Hid (S2.length = X2.length + Y2.length) := Lib.hid (by rw [hS2, List.length_append])
     have HS2 : Hid (Stab (X2 ++ Y2) S2) := Lib.hid (by rw [hS2]; exact Stab.refl _)
     have HO2 : Hid (SortO S2) := Lib.hid (by rw [hS2]; rw [EX2.out]; exact SY2.out)
     have HT5 := HT4
     clear hS2
     go_wp2
     all_goals (go_end0; exact ⟨rfl, S1 ++ S2, HR5.out, by rw [List.length_append, HL1.out, HL2.out, ← EX.out, ← EY.out, List.length_append, List.length_append]; omega, (stab_parts TT1.out TT2.out HS1.out HO1.out HS2.out HO2.out).1, (stab_parts TT1.out TT2.out HS1.out HO1.out HS2.out HO2.out).2, HT5.out⟩)
    ·have b1 : decide ((a : Int) < (r : Int)) = false := decide_eq_false (by have := HEN.out; omega)
     have p1 : ¬ (a : Int) < (r : Int) := by have := HEN.out; omega
     have b2 : decide ((r : Int) < (m : Int)) = false := decide_eq_false (by have := HEN.out; omega)
     have p2 : ¬ (r : Int) < (m : Int) := by have := HEN.out; omega
     have b3 : decide ((r : Int) < (mid : Int)) = false := decide_eq_false (by have := HEN.out; omega)
     have p3 : ¬ (r : Int) < (mid : Int) := by have := HEN.out; omega
     have b4 : decide ((en : Int) < (b : Int)) = false := decide_eq_false (by have := HEN.out; omega)
     have p4 : ¬ (en : Int) < (b : Int) := by have := HEN.out; omega
     have b5 : decide ((m : Int) < (en : Int)) = false := decide_eq_false (by have := HEN.out; omega)
     have p5 : ¬ (m : Int) < (en : Int) := by have := HEN.out; omega
     have b6 : decide ((mid : Int) < (en : Int)) = false := decide_eq_false (by have := HEN.out; omega)
     have p6 : ¬ (mid : Int) < (en : Int) := by have := HEN.out; omega
     clear hen
     have EX2 : Hid (X2 = []) := Lib.hid (List.length_eq_zero_iff.1 (by have := L2.out; omega))
     have EY1 : Hid (Y1 = []) := Lib.hid (List.length_eq_zero_iff.1 (by have := L3.out; omega))
     have EX1 : Hid (X1 = []) := Lib.hid (List.length_eq_zero_iff.1 (by have := L1.out; omega))
     have EY2 : Hid (Y2 = []) := Lib.hid (List.length_eq_zero_iff.1 (by have := L4.out; omega))
     have HR3 : Hid (RowO wr g cap (P ++ (X1 ++ (Y1 ++ (X2 ++ (Y2 ++ Q)))))) := Lib.hid (by have := HR2.out; rw [EX2.out] at this ⊢; simpa using this)
     have HT3 := HT
     obtain ⟨S1, hS1⟩ : ∃ S1, S1 = X1 ++ Y1 := ⟨_, rfl⟩
     have HR4 : Hid (RowO wr g cap (P ++ (S1 ++ (X2 ++ (Y2 ++ Q))))) := Lib.hid (by rw [hS1]; simpa using HR3.out)
     have HL1 : Hid (S1.length = X1.length + Y1.length) := Lib.hid (by rw [hS1, List.length_append])
     have HS1 : Hid (Stab (X1 ++ Y1) S1) := Lib.hid (by rw [hS1]; exact Stab.refl _)
     have HO1 : Hid (SortO S1) := Lib.hid (by rw [hS1]; rw [EX1.out]; exact SY1.out)
     have HT4 := HT3
     clear hS1
     obtain ⟨S2, hS2⟩ : ∃ S2, S2 = X2 ++ Y2 := ⟨_, rfl⟩
     have HR5 : Hid (RowO wr g cap (P ++ ((S1 ++ S2) ++ Q))) := Lib.hid (by rw [hS2]; simpa using HR4.out)
     have HL2 : Hid (S2.length = X2.length + Y2.length) := Lib.hid (by rw [hS2, List.length_append])
     have HS2 : Hid (Stab (X2 ++ Y2) S2) := Lib.hid (by rw [hS2]; exact Stab.refl _)
     have HO2 : Hid (SortO S2) := Lib.hid (by rw [hS2]; rw [EX2.out]; exact SY2.out)
     have HT5 := HT4
     clear hS2
     go_wp2
     all_goals (go_end0; exact ⟨rfl, S1 ++ S2, HR5.out, by rw [List.length_append, HL1.out, HL2.out, ← EX.out, ← EY.out, List.length_append, List.length_append]; omega, (stab_parts TT1.out TT2.out HS1.out HO1.out HS2.out HO2.out).1, (stab_parts TT1.out TT2.out HS1.out HO1.out HS2.out HO2.out).2, HT5.out⟩)
theorem symMerge_all : ∀ k, SymAt k
 | 0 => fun g cap n a m b P X Y Q w hR hn ha hm hb hX hY hk sX sY hL => by omega
 | k + 1 => fun g cap n a m b P X Y Q w hR hn ha hm hb hX hY hk sX sY hL => by
  by_cases h1 : X.length = 1
  ·obtain ⟨x, rfl⟩ := List.length_eq_one_iff.1 h1
   exact symMerge_left g cap n a m b P Y Q x w hR hn ha hm hb sY hL
  ·by_cases h2 : Y.length = 1
   ·obtain ⟨y, rfl⟩ := List.length_eq_one_iff.1 h2
    exact symMerge_right g cap n a m b P X Q y w hR hn ha hm hb sX hL (by omega)
   ·exact symMerge_step k (symMerge_all k) g cap n a m b P X Y Q w hR hn ha hm hb (by omega) (by omega) hk sX sY hL
end Go.Proofs.YtlccihidedfemaaGreatDoor

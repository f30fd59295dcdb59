/-
  Layer 10: the law's awake.
-/
import Derived.Test.YtelaamchafocpaaDoorYTix
import Derived.Test.YtelaamchafocpaaDoorYTij
set_option linter.unusedVariables false
namespace Go.Proofs.YtelaamchafocpaaDoor
open Go.RowKit Go.Shelf
attribute [local go_sem] Oper.semAt_some

def exA : It := ⟨⟨#[97]⟩, true, false, ⟨#[]⟩⟩
def exB : It := ⟨⟨#[97, 47, 98]⟩, false, false, ⟨#[120]⟩⟩
theorem ex_w1 : wrongT [] exA = 0 := by decide +kernel
theorem ex_w2 : wrongT [exA] exB = 0 := by decide +kernel
theorem ex_p1 : putT [] exA = [exA] := by rw [put_yes ex_w1, withT_all (by simp)]; rfl
theorem ex_p2 : putT [exA] exB = [exA, exB] := by
  rw [put_yes ex_w2, withT_all (fun z hz => by rw [List.mem_singleton.1 hz]; decide +kernel)]; rfl
theorem ex_g : goneT [exA, exB] [97] = [] := List.eq_nil_of_length_eq_zero (by decide +kernel)
theorem ex_f : (findT [exA, exB] [97]).isSome = true := by decide +kernel
theorem ex_n : namesT [exA, exB] [97] = [[98]] := by decide +kernel
theorem ex_s : sizeT [exA, exB] = 1 := by decide +kernel
theorem ex_r1 : Rise [exA] := List.pairwise_singleton _ _
theorem ex_r2 : Rise [exA, exB] := rise_cons.2 ⟨fun y hy => by rw [List.mem_singleton.1 hy]; decide +kernel, List.pairwise_singleton _ _⟩
theorem ex_put1 (w : World) : Calls Tryd.prog 20 #[.slice none 0 0, .agg #[.string ⟨#[97]⟩, .bool true, .bool false, .string ⟨#[]⟩]] w fun e w' => ∃ v, e = .returned (.tuple #[v, .int .i64 0]) ∧ OwnI w.heap.size w' v [exA] ∧ Below w.heap.size w w' := by
  have C := pPut_any (.slice none 0 0) [] exA w (isItems_nil w) rise_nil rfl (by decide) (by decide)
  unfold RetN at C
  rw [ex_w1, ex_p1] at C
  exact C
theorem ex_put2 (v : Value) (w : World) (h : IsItems w v [exA]) : Calls Tryd.prog 20 #[v, .agg #[.string ⟨#[97, 47, 98]⟩, .bool false, .bool false, .string ⟨#[120]⟩]] w fun e w' => ∃ v, e = .returned (.tuple #[v, .int .i64 0]) ∧ OwnI w.heap.size w' v [exA, exB] ∧ Below w.heap.size w w' := by
  have C := pPut_any v [exA] exB w h ex_r1 (by decide +kernel) (by decide) (by decide)
  unfold RetN at C
  rw [ex_w2, ex_p2] at C
  exact C
theorem ex_drop (v : Value) (w : World) (h : IsItems w v [exA, exB]) : Calls Tryd.prog 22 #[v, .string ⟨#[97]⟩] w fun e w' => ∃ a c, e = .returned (.tuple #[.slice a 0 c, .int .i64 0]) ∧ Below w.heap.size w w' := by
  have C := pDrop_any v [exA, exB] ⟨#[97]⟩ w h ex_r2 (by decide +kernel) (by decide)
  refine C.mono ?_
  rintro e w' ⟨u, rfl, ho, hb⟩
  have e1 : (⟨#[97]⟩ : ByteArray).data.toList = [97] := rfl
  rw [e1, ex_g] at ho
  rw [e1, ex_f]
  obtain ⟨_, a, cap, rfl, _, _⟩ := ho.items
  exact ⟨a, cap, rfl, hb⟩
theorem ex_names (v : Value) (w : World) (h : IsItems w v [exA, exB]) : Calls Tryd.prog 16 #[v, .string ⟨#[97]⟩] w fun e w' => ∃ u, e = .returned u ∧ IsStrs w' u [⟨#[98]⟩] ∧ Below w.heap.size w w' := by
  have C := pNames_any v [exA, exB] ⟨#[97]⟩ w h (by decide +kernel) (fun x hx => by
    rcases List.mem_cons.1 hx with e | hx
    · rw [e]; decide +kernel
    · rw [List.mem_singleton.1 hx]; decide +kernel)
  refine C.mono ?_
  rintro e w' ⟨u, rfl, ho, hb⟩
  have e1 : (⟨#[97]⟩ : ByteArray).data.toList = [97] := rfl
  rw [e1, ex_n] at ho
  exact ⟨u, rfl, ho, hb⟩
theorem strs_one (w : World) (x : ByteArray) : IsStrs (w.alloc (.cells #[.string x] 9)) (.slice (some ⟨w.heap.size, 0, none⟩) 1 1) [x] :=
  ⟨by unfold maxLen; simp, _, 1, rfl, ⟨fun h => (by cases h), Nat.le_refl _⟩, fun _ => ⟨_, 0, rfl, by simp, fun i hi => by
    obtain rfl : i = 0 := by simp at hi; exact hi
    simp⟩⟩
set_option maxRecDepth 100000 in
set_option maxHeartbeats 2000000 in
theorem tawake_any (w : World) : Calls Tryd.prog 8 #[] w fun e w' => e = .returned (.bool true) ∧ Below w.heap.size w w' := by
  have P1 := Lib.hid (ex_put1 w)
  go_enter Tryd.func8, Tryd.ntmps8
  go_wp2_with fail
  refine P1.out.mono ?_
  rintro e w1 ⟨v1, rfl, ho1, hb1⟩
  have P2 := Lib.hid (ex_put2 v1 w1 ho1.items)
  clear ho1 P1
  go_wp2_with fail
  refine P2.out.mono ?_
  rintro e w2 ⟨v2, rfl, ho2, hb2⟩
  have hB2 := below_step hb1 hb2
  have HO := Lib.hid ho2.items
  have P3 := Lib.hid (ex_drop v2 w2 HO.out)
  clear ho2 P2 hb1 hb2
  go_wp2_with fail
  refine P3.out.mono ?_
  rintro e w3 ⟨a3, c3, rfl, hb3⟩
  have hB3 := below_step hB2 hb3
  have HO3 := Lib.hid (HO.out.stays hb3)
  have P4 := Lib.hid (ex_names v2 w3 HO3.out)
  clear P3 hb3 hB2 HO
  go_wp2_with fail
  refine P4.out.mono ?_
  rintro e w4 ⟨u4, rfl, hs4, hb4⟩
  have hB4 := below_step hB3 hb4
  have HO4 := Lib.hid (HO3.out.stays hb4)
  have hb5 := (Below.refl w4.heap.size w4).alloc (Nat.le_refl _) (.cells #[.string ⟨#[98]⟩] 9)
  have hB5 := below_step hB4 hb5
  have HO5 := Lib.hid (HO4.out.stays hb5)
  have P5 := Lib.hid (lSame_any u4 _ _ _ (hs4.stays hb5) (strs_one w4 ⟨#[98]⟩))
  clear P4 hs4 hb4 hB3 HO3 hb5 hB4 HO4
  go_wp2_with fail
  generalize w4.alloc (.cells #[.string ⟨#[98]⟩] 9) = W5 at hB5 HO5 P5 ⊢
  refine P5.out.mono ?_
  rintro e w6 ⟨rfl, hb6⟩
  have hB6 := below_step hB5 hb6
  have P6 := Lib.hid (pTreeSize_any v2 _ w6 (HO5.out.stays hb6) (by rw [ex_s]; omega))
  rw [ex_s] at P6
  clear P5 hb6 hB5 HO5
  go_wp2_with fail
  refine P6.out.mono ?_
  rintro e w7 ⟨rfl, hb7⟩
  have hB7 := below_step hB6 hb7
  clear P6 hb7 hB6
  go_wp2
  go_ret
  exact ⟨rfl, hB7⟩
end Go.Proofs.YtelaamchafocpaaDoor

/-
  Layer 5: awake over this translation.
-/
import Derived.Test.YteiflmdnakhekaaKei
import Derived.Test.YteiflmdnakhekaaKel
set_option linter.unusedVariables false
namespace Go.Proofs.Yteiflmdnakhekaa
open Go.RowKit
attribute [local go_sem] Oper.semAt_some

theorem isStrs_one (w : World) (x : ByteArray) : IsStrs (w.alloc (.cells #[.string x] 9)) (.slice (some ⟨w.heap.size, 0, none⟩) 1 1) [x] := by
  refine ⟨by show 1 ≤ maxLen; decide, some ⟨w.heap.size, 0, none⟩, 1, rfl, ⟨fun h => (by cases h), Nat.le_refl _⟩, fun _ => ⟨w.heap.size, 0, rfl, by simp, fun i hi => ?_⟩⟩
  match i, hi with
  | 0, _ =>
    have hbk : (w.alloc (.cells #[.string x] 9)).heap[w.heap.size]? = some (.cells #[.string x] 9 (0, 0)) := heap_alloc_new _ _
    rw [cell_of_row _ _ _ _ _ _ hbk]; rfl
theorem sift_self_or (x : Txt) : sift kOr [x] [x] = [x] := by
  rw [sift, if_neg (t_irrefl x), if_neg (t_irrefl x), sift]; rfl
theorem sift_self_less (x : Txt) : sift kLess [x] [x] = [] := by
  rw [sift, if_neg (t_irrefl x), if_neg (t_irrefl x), sift]; rfl
theorem Join_one (x : ByteArray) (v : Value) (W : World) (h : IsStrs W v [x]) : Calls Try.prog 17 #[v, v] W fun e w' => ∃ v', e = .returned v' ∧ IsStrs w' v' [x] ∧ Below W.heap.size W w' := by
  have := Join_any v v [x] [x] W h h (by simp)
  rw [show sift kOr (txts [x]) (txts [x]) = txts [x] from sift_self_or _] at this
  unfold RetStrs at this
  rw [strsOf_txts] at this
  exact this
theorem Less_one (x : ByteArray) (v : Value) (W : World) (h : IsStrs W v [x]) : Calls Try.prog 21 #[v, v] W fun e w' => ∃ a cap, e = .returned (.slice a 0 cap) ∧ Below W.heap.size W w' := by
  have := Less_any v v [x] [x] W h h (by simp)
  rw [show sift kLess (txts [x]) (txts [x]) = [] from sift_self_less _] at this
  refine this.mono ?_
  rintro e w' ⟨v', rfl, hv, hb⟩
  obtain ⟨a, cap, rfl⟩ := strs_nil hv
  exact ⟨a, cap, rfl, hb⟩
theorem Hex_1f (W : World) : Calls Try.prog 25 #[.string ⟨#[31]⟩] W fun e w' => e = .returned (.string ⟨#[49, 102]⟩) ∧ Below W.heap.size W w' := by
  have := Hex_any ⟨#[31]⟩ (by decide) W
  rw [show (hexL (⟨#[31]⟩ : ByteArray).data.toList).toArray = #[49, 102] from by decide] at this
  exact this

set_option maxRecDepth 100000 in
set_option maxHeartbeats 2000000 in
theorem awake_any (w : World) : Calls Try.prog 14 #[] w fun e w' => e = .returned (.bool true) ∧ Below w.heap.size w w' := by
  obtain ⟨x, hx⟩ : ∃ x : ByteArray, x = ⟨#[97, 98, 99, 100, 101, 102, 103, 104, 97, 98, 99, 100, 101, 102, 103, 104, 97, 98, 99, 100, 101, 102, 103, 104, 97, 98, 99, 100, 101, 102, 103, 104]⟩ := ⟨_, rfl⟩
  have H0 := isStrs_one w x
  have b0 : Below w.heap.size w (w.alloc (.cells #[.string x] 9)) := (Below.refl _ _).alloc (Nat.le_refl _) _
  have CJ := Lib.hid (Join_one x _ _ H0)
  have HH0 := Lib.hid H0
  have HX := Lib.hid Hex_1f
  clear H0
  go_enter Try.func14, Try.ntmps14
  rw [hx] at CJ HH0 b0
  clear hx
  go_wp2_with fail
  refine CJ.out.mono ?_
  rintro e w1 ⟨v1, rfl, h1, b1⟩
  have k1 := HH0.out.stays b1
  have CS := Lib.hid (Same_eq _ _ _ _ h1 k1)
  clear h1
  go_wp2_with fail
  refine CS.out.mono ?_
  rintro e w2 ⟨rfl, b2⟩
  have CL := Lib.hid (Less_one _ _ _ (k1.stays b2))
  clear k1
  go_wp2_with fail
  refine CL.out.mono ?_
  rintro e w3 ⟨a3, c3, rfl, b3⟩
  go_wp2_with fail
  refine (HX.out _).mono ?_
  rintro e w4 ⟨rfl, b4⟩
  go_wp2_with fail
  go_ret
  exact ⟨rfl, ((((b0.trans (b1.mono (by simp))).trans (b2.mono (Nat.le_trans (by simp) b1.size)))).trans (b3.mono (Nat.le_trans (by simp) (Nat.le_trans b1.size b2.size)))).trans (b4.mono (Nat.le_trans (by simp) (Nat.le_trans b1.size (Nat.le_trans b2.size b3.size))))⟩
end Go.Proofs.Yteiflmdnakhekaa

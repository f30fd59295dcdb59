/-
  Over this translation: a slice literal of one item, or of two; what is few.
-/
import Derived.Test.YtelaamchafocpaaDoorYTja
import Derived.Test.YtelaamchafocpaaDoorYTjm
set_option linter.unusedVariables false
namespace Go.Proofs.YtelaamchafocpaaDoor
open Go.RowKit

theorem items_one (w : World) (x : It) (t : TypeId) : IsItems (w.alloc (.cells #[.string x.p, .bool x.d, .bool x.e, .string x.c] t)) (.slice (some ⟨w.heap.size, 0, none⟩) 1 1) [x] :=
  ⟨by unfold maxLen; simp, _, 1, rfl, ⟨fun h => (by cases h), Nat.le_refl _⟩, fun _ => ⟨_, 0, rfl, by simp, fun i hi => by
    obtain rfl : i = 0 := by simp at hi; exact hi
    exact ⟨by simp, by simp, by simp, by simp⟩⟩⟩
theorem items_two (w : World) (x y : It) (t : TypeId) : IsItems (w.alloc (.cells #[.string x.p, .bool x.d, .bool x.e, .string x.c, .string y.p, .bool y.d, .bool y.e, .string y.c] t)) (.slice (some ⟨w.heap.size, 0, none⟩) 2 2) [x, y] :=
  ⟨by unfold maxLen; simp, _, 2, rfl, ⟨fun h => (by cases h), Nat.le_refl _⟩, fun _ => ⟨_, 0, rfl, by simp, fun i hi => by
    obtain rfl | rfl : i = 0 ∨ i = 1 := by simp at hi; omega
    · exact ⟨by simp, by simp, by simp, by simp⟩
    · exact ⟨by simp, by simp, by simp, by simp⟩⟩⟩
theorem few_one {x : It} (h : fewB [x] = true) : x.p.size ≤ 400 ∧ x.c.size ≤ 40000 := few_mem h x (by simp)
theorem few_two {x y : It} (h : fewB [x, y] = true) : (x.p.size ≤ 400 ∧ x.c.size ≤ 40000) ∧ (y.p.size ≤ 400 ∧ y.c.size ≤ 40000) := ⟨few_mem h x (by simp), few_mem h y (by simp)⟩
theorem below_ext {a b : ByteArray} (h : b.size < a.size) : belowB a.data.toList b.data.toList = true ↔ a.extract 0 (b.size + 1) = b ++ ⟨#[47]⟩ := by
  have h47 : (⟨#[47]⟩ : ByteArray).data.toList = [47] := rfl
  have hx : (a.extract 0 (b.size + 1)).data.toList = a.data.toList.take (b.data.toList.length + 1) := by rw [Lib.extract_data, Lib.size_eq]; simp
  unfold belowB
  rw [decide_eq_true (show b.data.toList.length < a.data.toList.length by rw [← Lib.size_eq, ← Lib.size_eq]; exact h), Bool.true_and, decide_eq_true_eq, ← hx, ← h47, ← bytes_app]
  exact ⟨str_eq', fun e => by rw [e]⟩
theorem below_short {a b : ByteArray} (h : ¬ b.size < a.size) : belowB a.data.toList b.data.toList = false := by
  unfold belowB
  rw [decide_eq_false (show ¬ b.data.toList.length < a.data.toList.length by rw [← Lib.size_eq, ← Lib.size_eq]; exact h)]; rfl
end Go.Proofs.YtelaamchafocpaaDoor

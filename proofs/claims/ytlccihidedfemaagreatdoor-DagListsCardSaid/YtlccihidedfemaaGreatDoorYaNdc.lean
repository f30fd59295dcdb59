/-
  Contracts over this translation: the document's Fit.
-/
import Derived.Test.YtlccihidedfemaaGreatDoorQa2
set_option linter.unusedVariables false
namespace Go.Proofs.YtlccihidedfemaaGreatDoor
open Go.RowKit
attribute [local go_sem] Oper.semAt_some
abbrev ndV (n : Nd) (pv ev : Value) : Value := .agg #[.int .i64 n.kd, .string n.d, pv, ev]
theorem emp_t {b : ByteArray} (h : b.size = 0) : b.toList.isEmpty = true := by rw [size_zero h, Lib.toList_data]; rfl
theorem emp_f {b : ByteArray} (h : b.size ≠ 0) : b.toList.isEmpty = false := by
  rw [Lib.toList_data]
  cases hd : b.data.toList with
  | nil => exact absurd (by rw [Lib.size_eq, hd]; rfl) h
  | cons => rfl
end Go.Proofs.YtlccihidedfemaaGreatDoor

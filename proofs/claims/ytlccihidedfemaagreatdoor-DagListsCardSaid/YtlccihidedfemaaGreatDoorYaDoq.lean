/-
  Contracts over this translation: the document's Ready; the laws' few and small.
-/
import Derived.Test.YtlccihidedfemaaGreatDoorYaCrf
import Derived.Test.YtlccihidedfemaaGreatDoorQa1
import Derived.Lib.QuietBelow
import Derived.IntWalk
import Derived.Test.YtlccihidedfemaaGreatDoorQa2
import Derived.Test.YtlccihidedfemaaGreatDoorQa3
import Derived.Test.YtlccihidedfemaaGreatDoorQa0
set_option linter.unusedVariables false
namespace Go.Proofs.YtlccihidedfemaaGreatDoor
open Go.RowKit
attribute [local go_sem] Oper.semAt_some
theorem cut_fit {m a x b : Nat} (h : FitAt m a x b) : ∃ mn mx, CutOk mn mx (cutN m b x) ∧ mx ≤ 4096 :=
  ⟨m, x, cutN_ok (by have := h.h1; omega) (by have := h.h2; have := h.h3; omega), by have := h.h4; omega⟩
end Go.Proofs.YtlccihidedfemaaGreatDoor

/-
  Layer 9: PathJoins as its frame wants it.
-/
import Derived.Test.YtkodbobjaejgjaaDoorPbb
set_option linter.unusedVariables false
namespace Go.Proofs.YtkodbobjaejgjaaDoor
open Go.RowKit
theorem PathJoins_w (v : Value) (L : List ByteArray) (w : World) (hv : IsStrs w v L) (hm : ∀ s ∈ L, s.size ≤ maxLen) (hT : True) : Calls Tryd.prog 4 #[v] w fun e w' => e = .returned (.bool true) ∧ Below w.heap.size w w' := PathJoins_walk v L w hv
end Go.Proofs.YtkodbobjaejgjaaDoor

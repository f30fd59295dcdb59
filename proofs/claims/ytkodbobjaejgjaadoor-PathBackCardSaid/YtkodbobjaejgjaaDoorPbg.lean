/-
  Layer 9: PathBack as its frame wants it.
-/
import Derived.Test.YtkodbobjaejgjaaDoorPbd
set_option linter.unusedVariables false
namespace Go.Proofs.YtkodbobjaejgjaaDoor
open Go.RowKit
theorem PathBack_w (a : ByteArray) (za : a.size ≤ reachBytes) (w : World) (hT : True) : Calls Tryd.prog 5 #[.string a] w fun e w' => e = .returned (.bool true) ∧ Below w.heap.size w w' := PathBack_walk a w
end Go.Proofs.YtkodbobjaejgjaaDoor

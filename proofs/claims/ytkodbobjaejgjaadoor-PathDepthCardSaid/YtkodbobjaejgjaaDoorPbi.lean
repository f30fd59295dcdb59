/-
  Layer 9: PathDepth as its frame wants it.
-/
import Derived.Test.YtkodbobjaejgjaaDoorPbe
set_option linter.unusedVariables false
namespace Go.Proofs.YtkodbobjaejgjaaDoor
open Go.RowKit
theorem PathDepth_w (a b : ByteArray) (za : a.size ≤ reachBytes) (zb : b.size ≤ reachBytes) (w : World) (hT : True) : Calls Tryd.prog 7 #[.string a, .string b] w fun e w' => e = .returned (.bool true) ∧ Below w.heap.size w w' := PathDepth_walk a b w
end Go.Proofs.YtkodbobjaejgjaaDoor

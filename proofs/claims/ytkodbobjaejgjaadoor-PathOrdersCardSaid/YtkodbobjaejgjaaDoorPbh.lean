/-
  Layer 9: PathOrders as its frame wants it.
-/
import Derived.Test.YtkodbobjaejgjaaDoorPbc
set_option linter.unusedVariables false
namespace Go.Proofs.YtkodbobjaejgjaaDoor
open Go.RowKit
theorem PathOrders_w (a b c : ByteArray) (za : a.size ≤ reachBytes) (zb : b.size ≤ reachBytes) (zc : c.size ≤ reachBytes) (w : World) (hT : True) : Calls Tryd.prog 6 #[.string a, .string b, .string c] w fun e w' => e = .returned (.bool true) ∧ Below w.heap.size w w' := PathOrders_walk a b c w
end Go.Proofs.YtkodbobjaejgjaaDoor

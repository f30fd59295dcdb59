/-
  Layer 10: TreeOrders as its frame wants it.
-/
import Derived.Test.YtelaamchafocpaaDoorYTjd
set_option linter.unusedVariables false
namespace Go.Proofs.YtelaamchafocpaaDoor
open Go.RowKit
theorem TreeOrders_w (v1 : Value) (L : List It) (x y : It) (w : World) (h1 : IsItems w v1 L) (hT : True) : Calls Tryd.prog 6 #[v1, itV x, itV y] w fun e w' => e = .returned (.bool true) ∧ Below w.heap.size w w' := TreeOrders_walk v1 L x y w h1
end Go.Proofs.YtelaamchafocpaaDoor

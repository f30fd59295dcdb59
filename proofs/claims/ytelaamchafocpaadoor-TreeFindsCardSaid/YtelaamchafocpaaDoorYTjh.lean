/-
  Layer 10: TreeFinds as its frame wants it.
-/
import Derived.Test.YtelaamchafocpaaDoorYTje
set_option linter.unusedVariables false
namespace Go.Proofs.YtelaamchafocpaaDoor
open Go.RowKit
theorem TreeFinds_w (v1 : Value) (L : List It) (x : It) (w : World) (h1 : IsItems w v1 L) (hT : True) : Calls Tryd.prog 5 #[v1, itV x] w fun e w' => e = .returned (.bool true) ∧ Below w.heap.size w w' := TreeFinds_walk v1 L x w h1
end Go.Proofs.YtelaamchafocpaaDoor

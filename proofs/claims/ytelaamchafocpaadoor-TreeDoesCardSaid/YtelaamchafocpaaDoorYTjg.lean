/-
  Layer 10: TreeDoes as its frame wants it.
-/
import Derived.Test.YtelaamchafocpaaDoorYTjc
set_option linter.unusedVariables false
namespace Go.Proofs.YtelaamchafocpaaDoor
open Go.RowKit
theorem TreeDoes_w (v1 : Value) (L : List It) (x : It) (s : ByteArray) (hs : s.size ≤ reachBytes) (w : World) (h1 : IsItems w v1 L) (hT : True) : Calls Tryd.prog 4 #[v1, itV x, .string s] w fun e w' => e = .returned (.bool true) ∧ Below w.heap.size w w' := TreeDoes_walk v1 L x s w h1
end Go.Proofs.YtelaamchafocpaaDoor

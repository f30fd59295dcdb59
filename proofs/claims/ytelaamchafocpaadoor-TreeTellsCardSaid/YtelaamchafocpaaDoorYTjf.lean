/-
  Layer 10: TreeTells as its frame wants it.
-/
import Derived.Test.YtelaamchafocpaaDoorYTjb
set_option linter.unusedVariables false
namespace Go.Proofs.YtelaamchafocpaaDoor
open Go.RowKit
theorem TreeTells_w (v1 : Value) (L : List It) (v2 : Value) (M : List It) (s : ByteArray) (hs : s.size ≤ reachBytes) (w : World) (h1 : IsItems w v1 L) (h2 : IsItems w v2 M) (hT : True) : Calls Tryd.prog 3 #[v1, v2, .string s] w fun e w' => e = .returned (.bool true) ∧ Below w.heap.size w w' := TreeTells_walk v1 L v2 M s w h1 h2
end Go.Proofs.YtelaamchafocpaaDoor

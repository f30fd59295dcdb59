/-
  Layer 9: PathTells as its frame wants it.
-/
import Derived.Test.YtkodbobjaejgjaaDoorPba
set_option linter.unusedVariables false
namespace Go.Proofs.YtkodbobjaejgjaaDoor
open Go.RowKit
theorem PathTells_w (a b : ByteArray) (ha : a.size ≤ reachBytes) (hb : b.size ≤ reachBytes) (w : World) (hT : True) : Calls Tryd.prog 3 #[.string a, .string b] w fun e w' => e = .returned (.bool true) ∧ Below w.heap.size w w' := PathTells_walk a b w
end Go.Proofs.YtkodbobjaejgjaaDoor

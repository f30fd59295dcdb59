/-
  CountSums, as its frame calls it.
-/
import Derived.Test.YtokknppjeckppaaGreatDoorYaCuk
set_option linter.unusedVariables false
namespace Go.Proofs.YtokknppjeckppaaGreatDoor
open Go.RowKit
theorem CountSums_f (v : Value) (L : List Ob) (av : Value) (A : List ByteArray) (w0 : World) (h : IsObs w0 v L) (hz : ∀ x ∈ L, x.r.size ≤ 281474976710656) (ha : IsStrs w0 av A) (ma : ∀ s ∈ A, s.size ≤ maxLen) (hT : ErrT w0) :
  Calls Tryz.prog 7 #[v, av] w0 fun e w' => e = .returned (.bool true) ∧ Below w0.heap.size w0 w' := CountSums_w v L av A w0 h hz ha hT
end Go.Proofs.YtokknppjeckppaaGreatDoor

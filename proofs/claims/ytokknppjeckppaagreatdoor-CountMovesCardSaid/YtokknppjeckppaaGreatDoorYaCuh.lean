/-
  CountDoes and CountMoves, as their frames call them.
-/
import Derived.Test.YtokknppjeckppaaGreatDoorYaCuc
import Derived.Test.YtokknppjeckppaaGreatDoorYaCud
set_option linter.unusedVariables false
namespace Go.Proofs.YtokknppjeckppaaGreatDoor
open Go.RowKit
theorem CountDoes_f (v : Value) (L : List Ob) (av : Value) (A : List ByteArray) (k : ByteArray) (hk : k.size ≤ reachBytes) (w0 : World) (h : IsObs w0 v L) (hz : ∀ x ∈ L, x.r.size ≤ 281474976710656) (ha : IsStrs w0 av A) (ma : ∀ s ∈ A, s.size ≤ maxLen) (hT : ErrT w0) :
  Calls Tryz.prog 3 #[v, av, .string k] w0 fun e w' => e = .returned (.bool true) ∧ Below w0.heap.size w0 w' := CountDoes_w v L av A k w0 h hz ha hT
theorem CountMoves_f (v : Value) (L : List Ob) (av : Value) (A : List ByteArray) (k : ByteArray) (hk : k.size ≤ reachBytes) (w0 : World) (h : IsObs w0 v L) (hz : ∀ x ∈ L, x.r.size ≤ 281474976710656) (ha : IsStrs w0 av A) (ma : ∀ s ∈ A, s.size ≤ maxLen) (hT : ErrT w0) :
  Calls Tryz.prog 4 #[v, av, .string k] w0 fun e w' => e = .returned (.bool true) ∧ Below w0.heap.size w0 w' := CountMoves_w v L av A k w0 h hz ha hT
end Go.Proofs.YtokknppjeckppaaGreatDoor

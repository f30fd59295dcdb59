/-
  FetchFit and FetchReaches, as their frames call them.
-/
import Derived.Test.YtjpjpmkadoaipaaGreatDoorYaFgo
import Derived.Test.YtjpjpmkadoaipaaGreatDoorQa6
set_option linter.unusedVariables false
namespace Go.Proofs.YtjpjpmkadoaipaaGreatDoor
open Go.RowKit
theorem FetchFit_f (v : Value) (L : List Ob) (s : ByteArray) (hs : s.size ≤ reachBytes) (w0 : World) (h : IsObs w0 v L) (hz : ∀ x ∈ L, x.r.size ≤ 281474976710656) (hT : ErrT w0) :
  Calls Tryz.prog 5 #[v, .string s] w0 fun e w' => e = .returned (.bool true) ∧ Below w0.heap.size w0 w' := FetchFit_w v L s w0 h hz hT
theorem FetchReaches_f (v : Value) (L : List Ob) (av : Value) (A : List ByteArray) (bv : Value) (B : List ByteArray) (w0 : World) (h : IsObs w0 v L) (hz : ∀ x ∈ L, x.r.size ≤ 281474976710656) (ha : IsStrs w0 av A) (ma : ∀ s ∈ A, s.size ≤ maxLen) (hb : IsStrs w0 bv B) (mb : ∀ s ∈ B, s.size ≤ maxLen) (hT : ErrT w0) :
  Calls Tryz.prog 6 #[v, av, bv] w0 fun e w' => e = .returned (.bool true) ∧ Below w0.heap.size w0 w' := FetchReaches_w v L av A bv B w0 h hz ha hb hT
end Go.Proofs.YtjpjpmkadoaipaaGreatDoor

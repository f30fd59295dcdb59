/-
  Layer 5: the walks in the frames' order of arguments.
-/
import Derived.Test.YteiflmdnakhekaaKwb
import Derived.Test.YteiflmdnakhekaaKwc
import Derived.Test.YteiflmdnakhekaaKwe
import Derived.Test.YteiflmdnakhekaaKwf
import Derived.Test.YteiflmdnakhekaaKwg
set_option linter.unusedVariables false
namespace Go.Proofs.Yteiflmdnakhekaa
open Go.RowKit
theorem KeysSets_walk' (u : Value) (K : List ByteArray) (v : Value) (L : List ByteArray) (x : ByteArray) (hx : x.size ≤ maxLen) (w : World) (hu : IsStrs w u K) (_ : ∀ t ∈ K, t.size ≤ maxLen) (hv : IsStrs w v L) (_ : ∀ t ∈ L, t.size ≤ maxLen) :
    Calls Try.prog 3 #[u, v, .string x] w fun e w' => e = .returned (.bool true) ∧ Below w.heap.size w w' := KeysSets_walk u K v L x hx w hu hv
theorem KeysAsks_walk' (u : Value) (K : List ByteArray) (v : Value) (L : List ByteArray) (x : ByteArray) (hx : x.size ≤ maxLen) (w : World) (hu : IsStrs w u K) (_ : ∀ t ∈ K, t.size ≤ maxLen) (hv : IsStrs w v L) (_ : ∀ t ∈ L, t.size ≤ maxLen) :
    Calls Try.prog 4 #[u, v, .string x] w fun e w' => e = .returned (.bool true) ∧ Below w.heap.size w w' := KeysAsks_walk u K v L x hx w hu hv
theorem KeysSwap_walk' (u : Value) (K : List ByteArray) (v : Value) (L : List ByteArray) (z : Value) (N : List ByteArray) (w : World) (hu : IsStrs w u K) (_ : ∀ t ∈ K, t.size ≤ maxLen) (hv : IsStrs w v L) (_ : ∀ t ∈ L, t.size ≤ maxLen) (hz : IsStrs w z N) (_ : ∀ t ∈ N, t.size ≤ maxLen) :
    Calls Try.prog 6 #[u, v, z] w fun e w' => e = .returned (.bool true) ∧ Below w.heap.size w w' := KeysSwap_walk u K v L z N w hu hv hz
theorem KeysOrder_walk' (a b : List UInt8) (ha : a.length = 32) (hb : b.length = 32) (w : World) :
    Calls Try.prog 7 #[.agg ((a.map fun u : UInt8 => (u.toNat : Int)).map (Value.int .u8)).toArray, .agg ((b.map fun u : UInt8 => (u.toNat : Int)).map (Value.int .u8)).toArray] w fun e w' => e = .returned (.bool true) ∧ Below w.heap.size w w' := by
  rw [← bytV_ints, ← bytV_ints]; exact KeysOrder_walk a b ha hb w
end Go.Proofs.Yteiflmdnakhekaa

/-
  Layer 6: the walks in the frames' order of arguments.
-/
import Derived.Test.YtbmoijkppoogfaaGwa
set_option linter.unusedVariables false
namespace Go.Proofs.Ytbmoijkppoogfaa
open Go.RowKit
theorem GearTells_walk' (b : UInt8) (h : Nat) (s : ByteArray) (_ : h < 18446744073709551616) (hs : s.size ≤ maxLen) (w : World) :
    Calls Try.prog 3 #[.int .u8 b.toNat, .int .u64 h, .string s] w fun e w' => e = .returned (.bool true) ∧ Below w.heap.size w w' := GearTells_walk b h s hs w
theorem GearLast_walk' (a b : ByteArray) (c : List UInt8) (_ : a.size ≤ maxLen) (_ : b.size ≤ maxLen) (hc : c.length = 64) (w : World) :
    Calls Try.prog 4 #[.string a, .string b, .agg ((c.map fun u : UInt8 => (u.toNat : Int)).map (Value.int .u8)).toArray] w fun e w' => e = .returned (.bool true) ∧ Below w.heap.size w w' := by
  rw [← bytV_of]; exact GearLast_walk a b c hc w
theorem GearParts_walk' (x y : UInt8) (a b : ByteArray) (_ : a.size ≤ maxLen) (_ : b.size ≤ maxLen) (w : World) :
    Calls Try.prog 5 #[.int .u8 x.toNat, .int .u8 y.toNat, .string a, .string b] w fun e w' => e = .returned (.bool true) ∧ Below w.heap.size w w' := GearParts_walk x y a b w
theorem GearBack_walk' (h : Nat) (a b : UInt8) (_ : h < 18446744073709551616) (w : World) :
    Calls Try.prog 6 #[.int .u64 h, .int .u8 a.toNat, .int .u8 b.toNat] w fun e w' => e = .returned (.bool true) ∧ Below w.heap.size w w' := GearBack_walk h a b w
end Go.Proofs.Ytbmoijkppoogfaa

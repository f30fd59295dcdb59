/-
  The four statements of layer 3 as walks, their arguments in the frames' order.
-/
import Derived.Test.YtnoacceihaedbaaFwc
import Derived.Test.YtnoacceihaedbaaFwd
namespace Go.Proofs.Ytnoacceihaedbaa
open Go.RowKit
theorem FrameDoes_walk' (s t : ByteArray) (hs : s.size ≤ maxLen) (ht : t.size ≤ maxLen) (w : World) :
    Calls Try.prog 3 #[.string s, .string t] w fun e w' => e = .returned (.bool true) ∧ Below w.heap.size w w' := FrameDoes_walk s hs t ht w
theorem FrameTorn_walk' (s : ByteArray) (n : Nat) (u : UInt8) (hs : s.size ≤ maxLen) (hn : n < 65536) (w : World) :
    Calls Try.prog 5 #[.string s, .int .u16 n, .int .u8 u.toNat] w fun e w' => e = .returned (.bool true) ∧ Below w.heap.size w w' := FrameTorn_walk s hs n hn u.toNat u.toNat_lt w
theorem FrameBack_walk' (v : Value) (L : List ByteArray) (s : ByteArray) (n : Nat) (hs : s.size ≤ maxLen) (hn : n < 65536) (w : World) (hv : IsStrs w v L) (_ : ∀ t ∈ L, t.size ≤ maxLen) :
    Calls Try.prog 4 #[v, .string s, .int .u16 n] w fun e w' => e = .returned (.bool true) ∧ Below w.heap.size w w' := FrameBack_walk v L s hs n hn w hv
theorem FrameScans_walk' (v : Value) (L : List ByteArray) (s : ByteArray) (hs : s.size ≤ maxLen) (w : World) (hv : IsStrs w v L) (_ : ∀ t ∈ L, t.size ≤ maxLen) :
    Calls Try.prog 6 #[v, .string s] w fun e w' => e = .returned (.bool true) ∧ Below w.heap.size w w' := FrameScans_walk v L s hs w hv
end Go.Proofs.Ytnoacceihaedbaa

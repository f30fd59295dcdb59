/-
  Contracts over this translation: a checksum's bytes.
-/
import Derived.Test.YtnoacceihaedbaaCrw
import Derived.Test.YtnoacceihaedbaaCon
set_option linter.unusedVariables false
namespace Go.Proofs.Ytnoacceihaedbaa
open Go.RowKit

theorem le4_str (c : Nat) (hc : U32 c) : strOfNums [(c : Int) % 256, (c : Int) / 256 % 256, (c : Int) / 65536 % 256, (c : Int) / 16777216] = ⟨(le4 c).toArray⟩ := by
  unfold strOfNums le4
  simp only [List.map_cons, List.map_nil]
  rw [show ((c : Int) % 256).toNat = c % 256 by omega, show ((c : Int) / 256 % 256).toNat = c / 256 % 256 by omega, show ((c : Int) / 65536 % 256).toNat = c / 65536 % 256 by omega, show ((c : Int) / 16777216).toNat = c / 16777216 by omega]
  rw [byte_mod, byte_mod, byte_mod]

set_option maxRecDepth 100000 in
set_option maxHeartbeats 1000000 in
theorem refBytes_any (c : Nat) (hc : U32 c) (w : World) :
    Calls Try.prog 18 #[.int .u32 c] w fun e w' => e = .returned (.string ⟨(le4 c).toArray⟩) ∧ Below w.heap.size w w' := by
  have hc' : c < 4294967296 := hc
  go_enter Try.func18, Try.ntmps18
  go_wp2_with (refine wpList_convert rfl _ _ (.tmp 14) rfl _ _ _ rfl (conv_row 36 5 9 Try.underlying36 Try.underlying5 Try.underlying9 _ w.heap.size 5 (0, 0) [(c : Int) % 256, (c : Int) / 256 % 256, (c : Int) / 65536 % 256, (c : Int) / 16777216] (heap_alloc_new _ _) 4 4 rfl) ?_)
  go_ret
  exact ⟨by rw [le4_str c hc]; rfl, (Below.refl _ _).alloc (Nat.le_refl _) _⟩

set_option maxRecDepth 100000 in
set_option maxHeartbeats 2000000 in
theorem Bytes_any (c : Nat) (hc : U32 c) (w : World) :
    Calls Try.prog 25 #[.int .u32 c] w fun e w' => e = .returned (.string ⟨(le4 c).toArray⟩) ∧ Below w.heap.size w w' := by
  have hc' : c < 4294967296 := hc
  go_enter Try.func25, Try.ntmps25
  go_wp2
  refine wp_loop_rounds 5 ?_; rw [rounds_succ]
  go_wp2
  rw [rounds_succ]
  go_wp2
  rw [rounds_succ]
  go_wp2
  rw [rounds_succ]
  go_wp2
  rw [rounds_succ]
  go_wp2_with (refine wpList_convert rfl _ _ (.tmp 16) rfl _ _ _ rfl (conv_row 36 5 9 Try.underlying36 Try.underlying5 Try.underlying9 _ w.heap.size 57 (0, 0) [(c : Int) % 256, (c : Int) / 256 % 256, (c : Int) / 65536 % 256, (c : Int) / 16777216] (heap_alloc_new _ _) 4 4 rfl) ?_)
  go_ret
  exact ⟨by rw [le4_str c hc]; rfl, (Below.refl _ _).alloc (Nat.le_refl _) _⟩
end Go.Proofs.Ytnoacceihaedbaa

/-
  Contracts over this translation: sha's constants.
-/
import Derived.WalkKit
import Derived.LoopTactic
import Derived.Outline
import Derived.Laws.BitsAllLaws
import Derived.Lib.Hide
import Derived.Below
import Derived.Laws.Rows
import Derived.Laws.CopyOwn
import Derived.Test.YtohicccbaenegaaGreatDoorProg
import Derived.Test.YtohicccbaenegaaGreatDoorYShm
import Derived.Test.YtohicccbaenegaaGreatDoorQ0
import Derived.Great.BuildSlice
import Derived.BigRegion
import Derived.RegionTactic
set_option linter.unusedVariables false
namespace Go.Proofs.YtohicccbaenegaaGreatDoor
open Go.RowKit

set_option maxRecDepth 100000 in
set_option maxHeartbeats 1000000 in
theorem size43 : (Tryz.prog.info? 103).map (·.size) = some 64 := by kernel_rfl
theorem size24 : (Tryz.prog.info? 69).map (·.size) = some 8 := by kernel_rfl
theorem zero43 : (Tryz.prog.info? 103).bind (fun i => i.zero.map (·.cells)) = some (zrow 64) := by kernel_rfl
theorem zero24 : (Tryz.prog.info? 69).bind (fun i => i.zero.map (·.cells)) = some (zrow 8) := by kernel_rfl
def kint : List Int := [1116352408, 1899447441, 3049323471, 3921009573, 961987163, 1508970993, 2453635748, 2870763221, 3624381080, 310598401, 607225278, 1426881987, 1925078388, 2162078206, 2614888103, 3248222580, 3835390401, 4022224774, 264347078, 604807628, 770255983, 1249150122, 1555081692, 1996064986, 2554220882, 2821834349, 2952996808, 3210313671, 3336571891, 3584528711, 113926993, 338241895, 666307205, 773529912, 1294757372, 1396182291, 1695183700, 1986661051, 2177026350, 2456956037, 2730485921, 2820302411, 3259730800, 3345764771, 3516065817, 3600352804, 4094571909, 275423344, 430227734, 506948616, 659060556, 883997877, 958139571, 1322822218, 1537002063, 1747873779, 1955562222, 2024104815, 2227730452, 2361852424, 2428436474, 2756734187, 3204031479, 3329325298]
theorem kint_eq : (kint.map (Value.int .u32)).toArray = numV ktab := by kernel_rfl
theorem ktab_len : ktab.length = 64 := rfl

set_option maxRecDepth 100000 in
set_option maxHeartbeats 1000000 in
theorem constants_any (w : World) : Calls Tryz.prog 130 #[] w fun e w' => e = .returned (.agg (numV ktab)) ∧ Below w.heap.size w w' := by
  go_enter Tryz.func130, Tryz.ntmps130
  go_wp2_with (first
    | refine wpList_alloc_zero rfl _ rfl _ zero43 ?_
    | (refine Great.wpList_buildFlatArr rfl 103 67 64 _ rfl .u32 kint Tryz.underlying103 (by kernel_rfl) (by kernel_rfl) (by kernel_rfl) ?_; rw [kint_eq])
    | refine wpList_store_row rfl 103 _ _ rfl w.heap.size (numV ktab) rfl rfl 103 (zrow 64) (heap_alloc_new _ _) (by rw [numV_size]; exact size43) (by rw [numV_size]; kernel_rfl) (numV_one _) ?_)
  refine bodyPost_ret (v := .agg (numV ktab)) (results_cell_row rfl _ _ w.heap.size 103 (numV ktab) (0, 0) _ rfl (setRow_heap _ _ (zrow 64) _ _ _ (heap_alloc_new _ _)) Tryz.underlying103 rfl (by rw [numV_size]; kernel_rfl)) rfl ⟨rfl, below_setRow ((Below.refl _ _).alloc (Nat.le_refl _) _) (Nat.le_refl _) _⟩
set_option maxRecDepth 100000 in
set_option maxHeartbeats 1000000 in
theorem refConstants_any (w : World) : Calls Tryz.prog 68 #[] w fun e w' => e = .returned (.agg (numV ktab)) ∧ Below w.heap.size w w' := by
  go_enter Tryz.func68, Tryz.ntmps68
  go_wp2_with (first
    | refine wpList_alloc_zero rfl _ rfl _ zero43 ?_
    | (refine Great.wpList_buildFlatArr rfl 103 67 64 _ rfl .u32 kint Tryz.underlying103 (by kernel_rfl) (by kernel_rfl) (by kernel_rfl) ?_; rw [kint_eq])
    | refine wpList_store_row rfl 103 _ _ rfl w.heap.size (numV ktab) rfl rfl 103 (zrow 64) (heap_alloc_new _ _) (by rw [numV_size]; exact size43) (by rw [numV_size]; kernel_rfl) (numV_one _) ?_)
  refine bodyPost_ret (v := .agg (numV ktab)) (results_cell_row rfl _ _ w.heap.size 103 (numV ktab) (0, 0) _ rfl (setRow_heap _ _ (zrow 64) _ _ _ (heap_alloc_new _ _)) Tryz.underlying103 rfl (by rw [numV_size]; kernel_rfl)) rfl ⟨rfl, below_setRow ((Below.refl _ _).alloc (Nat.le_refl _) _) (Nat.le_refl _) _⟩

set_option maxRecDepth 100000 in
set_option maxHeartbeats 1000000 in
theorem First_any (w : World) : Calls Tryz.prog 74 #[] w fun e w' => e = .returned (.agg (numV first.list)) ∧ Below w.heap.size w w' := by
  go_enter Tryz.func74, Tryz.ntmps74
  go_wp2_with (first
    | refine wpList_alloc_zero rfl _ rfl _ zero24 ?_
    | refine wpList_store_row rfl 69 _ _ rfl w.heap.size (numV first.list) rfl rfl 69 (zrow 8) (heap_alloc_new _ _) (by rw [numV_size]; exact size24) (by rw [numV_size]; kernel_rfl) (numV_one _) ?_)
  refine bodyPost_ret (v := .agg (numV first.list)) (results_cell_row rfl _ _ w.heap.size 69 (numV first.list) (0, 0) _ rfl (setRow_heap _ _ (zrow 8) _ _ _ (heap_alloc_new _ _)) Tryz.underlying69 rfl (by rw [numV_size]; kernel_rfl)) rfl ⟨rfl, below_setRow ((Below.refl _ _).alloc (Nat.le_refl _) _) (Nat.le_refl _) _⟩

set_option maxRecDepth 100000 in
set_option maxHeartbeats 1000000 in
theorem refFirst_any (w : World) : Calls Tryz.prog 44 #[] w fun e w' => e = .returned (.agg (numV first.list)) ∧ Below w.heap.size w w' := by
  go_enter Tryz.func44, Tryz.ntmps44
  go_wp2_with (first
    | refine wpList_alloc_zero rfl _ rfl _ zero24 ?_
    | refine wpList_store_row rfl 69 _ _ rfl w.heap.size (numV first.list) rfl rfl 69 (zrow 8) (heap_alloc_new _ _) (by rw [numV_size]; exact size24) (by rw [numV_size]; kernel_rfl) (numV_one _) ?_)
  refine bodyPost_ret (v := .agg (numV first.list)) (results_cell_row rfl _ _ w.heap.size 69 (numV first.list) (0, 0) _ rfl (setRow_heap _ _ (zrow 8) _ _ _ (heap_alloc_new _ _)) Tryz.underlying69 rfl (by rw [numV_size]; kernel_rfl)) rfl ⟨rfl, below_setRow ((Below.refl _ _).alloc (Nat.le_refl _) _) (Nat.le_refl _) _⟩
end Go.Proofs.YtohicccbaenegaaGreatDoor

/-
  Contracts over this translation: the document's words.
-/
import Derived.WalkKit
import Derived.LoopTactic
import Derived.Outline
import Derived.Laws.BitsAllLaws
import Derived.Lib.Hide
import Derived.Below
import Derived.Laws.Rows
import Derived.Laws.CopyOwn
import Derived.Test.YtohicccbaenegaaGreatDoorProg
import Derived.Test.YtohicccbaenegaaGreatDoorYShm
import Derived.Test.YtohicccbaenegaaGreatDoorYShw
import Derived.Great.BuildSlice
import Derived.BigRegion
import Derived.Deep.QuietTactic
import Derived.BigQuiet
import Derived.StillTailTactics
import Derived.IntWalk
import Derived.WalkSmall
import Derived.RegionTactic
set_option linter.unusedVariables false
set_option pp.maxSteps 200000
namespace Go.Proofs.YtohicccbaenegaaGreatDoor
open Go.RowKit

set_option maxRecDepth 100000 in
set_option maxHeartbeats 1000000 in
set_option maxRecDepth 100000 in
set_option maxHeartbeats 1000000 in
theorem refWords_any (l : List UInt8) (hl : l.length = 64) (w : World) : Calls Tryz.prog 67 #[.agg (bytV l)] w fun e w' => e = .returned (.agg (numV (wlist (fun i => (l.getD i 0).toNat) 64))) ∧ Below w.heap.size w w' := by
  obtain ⟨L, hL⟩ : ∃ L : Nat → Nat, L = fun i => (l.getD i 0).toNat := ⟨_, rfl⟩
  have HL := Lib.hid hL
  have hl8 : ∀ i, L i < 256 := fun i => by rw [hL]; exact UInt8.toNat_lt _
  rw [← hL]
  clear hL
  go_enter Tryz.func67, Tryz.ntmps67
  go_wp2_with (first
    | refine wpList_alloc_zero rfl _ rfl _ zero43 ?_)
  go_loopw [4] (fun i wr => ∃ k : Nat, k ≤ 16 ∧ i = .int .i64 k ∧ Row wr w.heap.size (bytV l) 71 ∧ Row wr (w.heap.size + 1) (zrow 64) 103 ∧ Row wr (w.heap.size + 1 + 1) (numV (wrow L k)) 103 ∧ Below w.heap.size w wr) (fun i _ => 16 - (intOf i).toNat)
  case atStart => 
    refine ⟨0, by omega, rfl, ?_, ?_, ?_, ?_⟩
    · exact ((Row.made _ _ _).alloc _).alloc _
    · have := (Row.made (w.alloc (.cells (bytV l) 71)) (zrow 64) 103).alloc (.cells (zrow 64) 103)
      simpa using this
    · show Row _ _ (zrow 64) _
      have := Row.made ((w.alloc (.cells (bytV l) 71)).alloc (.cells (zrow 64) 103)) (zrow 64) 103
      simpa using this
    · exact (((Below.refl _ _).alloc (Nat.le_refl _) _).alloc (by simp) _).alloc (by simp; omega) _
  case round =>
    obtain ⟨k, hk, rfl, hB, hZ, hR, hb⟩ := hrel
    by_cases hlt : k < 16
    · have hbk : decide ((k : Int) < 16) = true := by simpa using (show (k : Int) < 16 by omega)
      have c0 : wr.cell? ⟨w.heap.size, k * 4, none⟩ = some (.int .u8 (L (k * 4))) := by rw [hB.cell, bytV_get _ _ (by omega), HL.out]
      have c1 : wr.cell? ⟨w.heap.size, k * 4 + 1, none⟩ = some (.int .u8 (L (k * 4 + 1))) := by rw [hB.cell, bytV_get _ _ (by omega), HL.out]
      have c2 : wr.cell? ⟨w.heap.size, k * 4 + 2, none⟩ = some (.int .u8 (L (k * 4 + 2))) := by rw [hB.cell, bytV_get _ _ (by omega), HL.out]
      have c3 : wr.cell? ⟨w.heap.size, k * 4 + 3, none⟩ = some (.int .u8 (L (k * 4 + 3))) := by rw [hB.cell, bytV_get _ _ (by omega), HL.out]
      have cf := hR.free k
      have cr : wr.cell? ⟨w.heap.size + 1 + 1, k, none⟩ = some (.int .u32 0) := by
        rw [hR.cell, numV_get _ _ (by rw [wrow_len _ _ (by omega)]; omega), wrow, List.getD_eq_getElem?_getD, List.getElem?_append_right (by rw [wlist_len]; exact Nat.le_refl _), List.getElem?_replicate]
        split <;> rfl
      have t0 : (4 * (k : Int)).toNat = k * 4 := by omega
      have t1 : (4 * (k : Int) + 1).toNat = k * 4 + 1 := by omega
      have t2 : (4 * (k : Int) + 2).toNat = k * 4 + 2 := by omega
      have t3 : (4 * (k : Int) + 3).toNat = k * 4 + 3 := by omega
      have s0 : IntKind.i64.wrap (4 * (k : Int)) = 4 * (k : Int) := IntWalk.i64_in _ (by omega)
      have s1 : IntKind.i64.wrap (4 * (k : Int) + 1) = 4 * (k : Int) + 1 := IntWalk.i64_in _ (by omega)
      have s2 : IntKind.i64.wrap (4 * (k : Int) + 2) = 4 * (k : Int) + 2 := IntWalk.i64_in _ (by omega)
      have s3 : IntKind.i64.wrap (4 * (k : Int) + 3) = 4 * (k : Int) + 3 := IntWalk.i64_in _ (by omega)
      have b0 : (0 : Int) ≤ 4 * (k : Int) ∧ 4 * (k : Int) < 64 := by omega
      have b1 : (0 : Int) ≤ 4 * (k : Int) + 1 ∧ 4 * (k : Int) + 1 < 64 := by omega
      have b2 : (0 : Int) ≤ 4 * (k : Int) + 2 ∧ 4 * (k : Int) + 2 < 64 := by omega
      have b3 : (0 : Int) ≤ 4 * (k : Int) + 3 ∧ 4 * (k : Int) + 3 < 64 := by omega
      have b4 : (0 : Int) ≤ (k : Int) ∧ (k : Int) < 64 := by omega
      have HB := Lib.hid hB; have HR := Lib.hid hR; have HZ := Lib.hid hZ
      clear hB hR hZ
      go_wp2_with fail
      go_still_tail 31, (by kernel_rfl)
      change wpList _ _ _ _ _ wr.drew
      clear t0 t1 t2 t3 s0 s1 s2 s3 b0 b1 b2 b3 c0 c1 c2 c3
      go_wp2
      go_roundw
      case rel => 
        refine ⟨k + 1, by omega, by go_num, ?_, ?_, ?_, ?_⟩
        · exact (Row.drew HB.out).other _ _ (by show w.heap.size ≠ w.heap.size + 1 + 1; omega)
        · exact (Row.drew HZ.out).other _ _ (by show w.heap.size + 1 ≠ w.heap.size + 1 + 1; omega)
        · have := (Row.drew HR.out).set k (.int .u32 (lead L k : Nat))
          rw [numV_set, ← nxt_lead L (wlist L k) k hlt, wrow_set L k (by omega), nxt_lead L (wlist L k) k hlt] at this
          rw [or3_int _ _ _ _ (hl8 _) (hl8 _) (hl8 _) (hl8 _)]
          exact this
        · exact (hb.drew).setCell (by show w.heap.size ≤ w.heap.size + 1 + 1; omega) _
      case measure => simp [intOf]; omega
    · have hk16 : k = 16 := by omega
      have hR' : Row wr (w.heap.size + 1 + 1) (numV (wrow L 16)) 103 := by rw [← hk16]; exact hR
      have hbk : decide ((k : Int) < 16) = false := by rw [hk16]; rfl
      clear hR hk16 hlt hk
      have hR := hR'
      clear hR'
      have HB := Lib.hid hB; have HR := Lib.hid hR; have HZ := Lib.hid hZ
      clear hB hR hZ
      go_wp2_with fail
      go_loopw [5] (fun i wr => ∃ k : Nat, 16 ≤ k ∧ k ≤ 64 ∧ i = .int .i64 k ∧ Row wr (w.heap.size + 1) (zrow 64) 103 ∧ Row wr (w.heap.size + 1 + 1) (numV (wrow L k)) 103 ∧ Below w.heap.size w wr) (fun i _ => 64 - (intOf i).toNat)
      case atStart => exact ⟨16, by omega, by omega, rfl, HZ.out, HR.out, hb⟩
      case round =>
        clear HB HR HZ hb
        obtain ⟨k, hk0, hk, rfl, hZ, hR, hb⟩ := hrel
        by_cases hlt : k < 64
        · have hbk : decide ((k : Int) < 64) = true := by simpa using (show (k : Int) < 64 by omega)
          have hm := wlist_mem L hl8 k
          obtain ⟨x, hx⟩ : ∃ x, x = (wlist L k).getD (k - 15) 0 := ⟨_, rfl⟩
          obtain ⟨y, hy⟩ : ∃ y, y = (wlist L k).getD (k - 2) 0 := ⟨_, rfl⟩
          obtain ⟨p, hp⟩ : ∃ y, y = (wlist L k).getD (k - 16) 0 := ⟨_, rfl⟩
          obtain ⟨q, hq⟩ : ∃ y, y = (wlist L k).getD (k - 7) 0 := ⟨_, rfl⟩
          have lx : x < 4294967296 := by rw [hx]; exact getD_lt hm _
          have ly : y < 4294967296 := by rw [hy]; exact getD_lt hm _
          have lp : p < 4294967296 := by rw [hp]; exact getD_lt hm _
          have lq : q < 4294967296 := by rw [hq]; exact getD_lt hm _
          have cc : ∀ j, j < k → wr.cell? ⟨w.heap.size + 1 + 1, j, none⟩ = some (.int .u32 ((wlist L k).getD j 0 : Nat)) := fun j hj => by
            rw [hR.cell, numV_get _ _ (by rw [wrow_len _ _ hk]; omega), wrow_get _ _ _ hj]
          have c15 := cc (k - 15) (by omega)
          have c2 := cc (k - 2) (by omega)
          have c16 := cc (k - 16) (by omega)
          have c7 := cc (k - 7) (by omega)
          rw [← hx] at c15; rw [← hy] at c2; rw [← hp] at c16; rw [← hq] at c7
          have cf := hR.free k
          have cr : ∃ v, wr.cell? ⟨w.heap.size + 1 + 1, k, none⟩ = some v := by
            rw [hR.cell, numV_get _ _ (by rw [wrow_len _ _ hk]; omega)]
            exact ⟨_, rfl⟩
          obtain ⟨v, cr⟩ := cr
          clear cc hm
          have HV := Lib.hid (nxt_on L (wlist L k) k hk0)
          have HX := Lib.hid hx; have HY := Lib.hid hy; have HP := Lib.hid hp; have HQ := Lib.hid hq
          clear hx hy hp hq
          have t1 : ((k : Int) - 15).toNat = k - 15 := by omega
          have t2 : ((k : Int) - 2).toNat = k - 2 := by omega
          have t3 : ((k : Int) - 16).toNat = k - 16 := by omega
          have t4 : ((k : Int) - 7).toNat = k - 7 := by omega
          have s1 : IntKind.i64.wrap ((k : Int) - 15) = (k : Int) - 15 := IntWalk.i64_in _ (by omega)
          have s2 : IntKind.i64.wrap ((k : Int) - 2) = (k : Int) - 2 := IntWalk.i64_in _ (by omega)
          have s3 : IntKind.i64.wrap ((k : Int) - 16) = (k : Int) - 16 := IntWalk.i64_in _ (by omega)
          have s4 : IntKind.i64.wrap ((k : Int) - 7) = (k : Int) - 7 := IntWalk.i64_in _ (by omega)
          have b1 : (0 : Int) ≤ (k : Int) - 15 ∧ (k : Int) - 15 < 64 := by omega
          have b2 : (0 : Int) ≤ (k : Int) - 2 ∧ (k : Int) - 2 < 64 := by omega
          have b3 : (0 : Int) ≤ (k : Int) - 16 ∧ (k : Int) - 16 < 64 := by omega
          have b4 : (0 : Int) ≤ (k : Int) - 7 ∧ (k : Int) - 7 < 64 := by omega
          have b6 : (16 : Int) ≤ (k : Int) := by omega
          have b7 : (7 : Int) ≤ (k : Int) := by omega
          have b8 : (k : Int) - 16 < 64 := by omega
          have b9 : (k : Int) - 7 < 64 := by omega
          have b10 : (0 : Int) ≤ (k : Int) - 16 := by omega
          have b11 : (0 : Int) ≤ (k : Int) - 7 := by omega
          have b5 : (0 : Int) ≤ (k : Int) ∧ (k : Int) < 64 := by omega
          have HR := Lib.hid hR; have HZ := Lib.hid hZ
          clear hR hZ
          have HL8 := Lib.hid hl8; clear hl8
          go_wp2_with (go_at_call 69; refine (rot_z _ _ (by assumption) (by decide) _).mono ?_; rintro e w1 ⟨rfl, rfl⟩)
          obtain ⟨W2, hW2⟩ : ∃ W2, W2 = wr := ⟨_, rfl⟩
          rw [← hW2]
          have d16 : W2.cell? ⟨w.heap.size + 1 + 1, k - 16, none⟩ = some (.int .u32 p) := by rw [hW2]; exact c16
          have d7 : W2.cell? ⟨w.heap.size + 1 + 1, k - 7, none⟩ = some (.int .u32 q) := by rw [hW2]; exact c7
          have df : W2.frozen? ⟨w.heap.size + 1 + 1, k, none⟩ = false := by rw [hW2]; exact cf
          have dr : W2.cell? ⟨w.heap.size + 1 + 1, k, none⟩ = some v := by rw [hW2]; exact cr
          have HR2 : Hid (Row W2 (w.heap.size + 1 + 1) (numV (wrow L k)) 103) := Lib.hid (by rw [hW2]; exact HR.out)
          have HZ2 : Hid (Row W2 (w.heap.size + 1) (zrow 64) 103) := Lib.hid (by rw [hW2]; exact HZ.out)
          have hb2 : Below w.heap.size w W2 := by rw [hW2]; exact hb
          clear hW2 c16 c7 cf cr HR HZ hb c15 c2 t1 t2 s1 s2 b1 b2
          go_still_tail 15, (by kernel_rfl)
          change wpList _ _ _ _ _ W2.drew
          clear t3 t4 s3 s4 b3 b4 d16 d7
          go_wp2
          go_roundw
          case rel =>
            refine ⟨k + 1, by omega, by omega, by go_num, ?_, ?_, ?_⟩
            · exact (Row.drew HZ2.out).other _ _ (by show w.heap.size + 1 ≠ w.heap.size + 1 + 1; omega)
            · have := (Row.drew HR2.out).set k (.int .u32 (nxt L (wlist L k) k : Nat))
              rw [numV_set, wrow_set L k (by omega), HV.out, ← HX.out, ← HY.out, ← HP.out, ← HQ.out] at this
              rw [sg0_int x lx, sg1_int y ly, ad4_int]
              exact this
            · exact (hb2.drew).setCell (by show w.heap.size ≤ w.heap.size + 1 + 1; omega) _
          case measure => simp [intOf]; omega
        · obtain rfl : k = 64 := by omega
          have hbk : decide (((64 : Nat) : Int) < 64) = false := rfl
          have HR := Lib.hid hR; have HZ := Lib.hid hZ
          clear hR hZ
          go_wp2_with (first
            | refine wpList_load_row rfl 103 _ rfl (w.heap.size + 1 + 1) rfl 103 (numV (wrow L 64)) (0, 0) _ HR.out Tryz.underlying103 rfl (by rw [numV_size, wrow_len _ _ hk]; exact size43) ?_
            | refine wpList_store_row rfl 103 _ _ rfl (w.heap.size + 1) (numV (wrow L 64)) rfl rfl 103 (zrow 64) HZ.out (by rw [numV_size, wrow_len _ _ hk]; exact size43) (by rw [numV_size, zrow_size, wrow_len _ _ hk]) (numV_one _) ?_)
          refine bodyPost_ret (v := .agg (numV (wrow L 64))) (results_cell_row rfl _ _ (w.heap.size + 1) 103 (numV (wrow L 64)) (0, 0) _ rfl (setRow_heap _ _ _ _ _ _ HZ.out) Tryz.underlying103 rfl (by rw [numV_size, wrow_len _ _ hk]; exact size43)) rfl ⟨by rw [wrow_full], below_setRow hb (by omega) _⟩
end Go.Proofs.YtohicccbaenegaaGreatDoor

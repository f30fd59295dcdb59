/-
  Contracts over this translation: a hash's bytes; a block behind a hash.
-/
import Derived.WalkKit
import Derived.LoopTactic
import Derived.Outline
import Derived.Laws.BitsAllLaws
import Derived.Lib.Hide
import Derived.Below
import Derived.Laws.Rows
import Derived.Laws.CopyOwn
import Derived.Test.YtohicccbaenegaaGreatDoorProg
import Derived.Test.YtohicccbaenegaaGreatDoorYShm
import Derived.Test.YtohicccbaenegaaGreatDoorYShd
import Derived.Test.YtohicccbaenegaaGreatDoorYShn
import Derived.Test.YtohicccbaenegaaGreatDoorQ0
import Derived.Great.BuildSlice
import Derived.BigRegion
import Derived.Deep.QuietTactic
import Derived.BigQuiet
import Derived.StillTailTactics
import Derived.IntWalk
import Derived.WalkSmall
import Derived.RegionTactic
set_option linter.unusedVariables false
set_option pp.maxSteps 200000
namespace Go.Proofs.YtohicccbaenegaaGreatDoor
open Go.RowKit

set_option maxRecDepth 100000 in
set_option maxHeartbeats 1000000 in

theorem str_bytes (l : List UInt8) : strOfNums (l.map fun u : UInt8 => (u.toNat : Int)) = ⟨l.toArray⟩ := by
  unfold strOfNums
  rw [List.map_map]
  congr 2
  exact (List.map_congr_left (fun u _ => by simp)).trans (List.map_id l)
theorem bytV_ints (l : List UInt8) : bytV l = ((l.map fun u : UInt8 => (u.toNat : Int)).map (Value.int .u8)).toArray := by simp [bytV]
/-- A row of bytes, from its start, as a string. -/
theorem conv_bytes {W : World} {B : Nat} {l : List UInt8} {T : TypeId} (h : Row W B (bytV l) T) (n cap : Nat) (hn : l.length = n) :
    (convert 54 9 (.slice (some ⟨B, 0, none⟩) n cap)).run Tryz.prog W = .ok (.string ⟨l.toArray⟩) W := by
  have h' : W.heap[B]? = some (.cells ((l.map fun u : UInt8 => (u.toNat : Int)).map (Value.int .u8)).toArray T (0, 0)) := by rw [← bytV_ints]; exact h
  rw [conv_row 54 5 9 Tryz.underlying54 Tryz.underlying5 Tryz.underlying9 W B T (0, 0) _ h' n cap (by simpa using hn), str_bytes]
theorem zero67 : (Tryz.prog.info? 142).bind (fun i => i.zero.map (·.cells)) = some (zbyt 32) := by kernel_rfl
def browL (s : St) (k : Nat) : List UInt8 := (List.range 32).map fun j => if j < k then byteAt s j else 0
theorem browL_zero (s : St) : browL s 0 = List.replicate 32 0 := by simp [browL, List.map_const']
theorem browL_full (s : St) : browL s 32 = s.bytes := by
  rw [← bytes_row]
  unfold browL
  apply List.map_congr_left
  intro j hj
  rw [if_pos (List.mem_range.1 hj)]
theorem browL_len (s : St) (k : Nat) : (browL s k).length = 32 := by simp [browL]
theorem browL_set (s : St) (k : Nat) (h : k < 32) : (browL s k).set k (byteAt s k) = browL s (k + 1) := by
  apply List.ext_getElem?
  intro i
  unfold browL
  rw [List.getElem?_set]
  by_cases hi : i < 32
  · by_cases e : k = i
    · subst e; simp [h]
    · simp only [e, if_false, List.getElem?_map, List.getElem?_range hi, Option.map_some]
      by_cases h2 : i < k
      · rw [if_pos h2, if_pos (by omega)]
      · rw [if_neg h2, if_neg (by omega)]
  · simp [hi]
    omega
set_option maxRecDepth 100000 in
set_option maxHeartbeats 2000000 in
theorem bytes_any (s : St) (hs : s.ok) (w : World) : Calls Tryz.prog 77 #[.agg (numV s.list)] w fun e w' => e = .returned (.string ⟨s.bytes.toArray⟩) ∧ Below w.heap.size w w' := by
  go_enter Tryz.func77, Tryz.ntmps77
  go_wp2_with (refine wpList_alloc_zero rfl _ rfl _ zero67 ?_)
  go_loopw [6, 4, 5] (fun i _ _ wr => ∃ k : Nat, k ≤ 32 ∧ i = .int .i64 k ∧ Row wr w.heap.size (numV s.list) 112 ∧ Row wr (w.heap.size + 1) (bytV (browL s k)) 142 ∧ Below w.heap.size w wr) (fun i _ _ _ => 32 - (intOf i).toNat)
  case atStart =>
    refine ⟨0, by omega, rfl, (Row.made _ _ _).alloc _, ?_, ((Below.refl _ _).alloc (Nat.le_refl _) _).alloc (by simp) _⟩
    rw [browL_zero]
    have := Row.made (w.alloc (.cells (numV s.list) 112)) (zbyt 32) 142
    simpa [zbyt] using this
  case round =>
    obtain ⟨k, hk, rfl, r1, r2, hb⟩ := hrel
    by_cases hlt : k < 32
    · have hbk : decide ((k : Int) < 32) = true := by simpa using (show (k : Int) < 32 by omega)
      obtain ⟨q, hq⟩ : ∃ q, q = k / 4 := ⟨_, rfl⟩
      obtain ⟨r, hr⟩ : ∃ r, r = k % 4 := ⟨_, rfl⟩
      obtain ⟨c, hc⟩ : ∃ c, c = 8 * (3 - r) := ⟨_, rfl⟩
      have e1 : (k : Int) % 4 = (r : Int) := by omega
      have e2 : (k : Int) / 4 = (q : Int) := by omega
      have e3 : (8 : Int) * (4 - ((r : Int) + 1)) = (c : Int) := by omega
      have bq : (0 : Int) ≤ (q : Int) ∧ (q : Int) < 8 := by omega
      have br : (0 : Int) ≤ (r : Int) ∧ (r : Int) < 4 := by omega
      have bc : c ≤ 24 := by omega
      have bk : (0 : Int) ≤ (k : Int) ∧ (k : Int) < 32 := by omega
      obtain ⟨x, hx⟩ : ∃ x, x = s.list.getD q 0 := ⟨_, rfl⟩
      have cx : wr.cell? ⟨w.heap.size, q, none⟩ = some (.int .u32 x) := by rw [r1.cell, numV_get _ _ (by rw [list_len]; omega), hx]
      have cf := r2.free k
      have cr : ∃ v, wr.cell? ⟨w.heap.size + 1, k, none⟩ = some v := ⟨_, by rw [r2.cell, bytV_get _ _ (by rw [browL_len]; exact hlt)]⟩
      obtain ⟨v, cr⟩ := cr
      have lx : x < 4294967296 := by
        obtain ⟨h0, h1, h2, h3, h4, h5, h6, h7⟩ := hs
        rw [hx]
        exact getD_lt (l := s.list) (by intro y hy; simp only [St.list, List.mem_cons, List.not_mem_nil, or_false] at hy; rcases hy with rfl | rfl | rfl | rfl | rfl | rfl | rfl | rfl <;> assumption) q
      have HB := Lib.hid (show byteAt s k = UInt8.ofNat (x / 2 ^ c) by unfold byteAt; rw [← hq, ← hr, ← hc, hx])
      have R1 := Lib.hid r1; have R2 := Lib.hid r2
      clear hq hr hc hx r1 r2
      go_wp2_with fail
      go_roundw
      case rel =>
        have h8 : (x : Int) / 2 ^ c % 256 = ((UInt8.ofNat (x / 2 ^ c)).toNat : Int) := by
          rw [UInt8.toNat_ofNat', Int.natCast_emod, Int.natCast_ediv, Int.natCast_pow]; rfl
        rw [h8, ← HB.out]
        refine ⟨k + 1, by omega, by go_num, R1.out.other _ _ (by show w.heap.size ≠ w.heap.size + 1; omega), ?_, hb.setCell (by show w.heap.size ≤ w.heap.size + 1; omega) _⟩
        have := R2.out.set k (.int .u8 ((byteAt s k).toNat : Nat))
        rw [bytV_set, browL_set s k hlt] at this
        exact this
      case measure => simp [intOf]; omega
    · obtain rfl : k = 32 := by omega
      have hbk : decide (((32 : Nat) : Int) < 32) = false := rfl
      rw [browL_full] at r2
      have R2 := Lib.hid r2
      clear r1 r2
      go_wp2_with (refine wpList_convert rfl _ _ _ rfl _ _ _ rfl (conv_bytes R2.out 32 32 (bytes_len s)) ?_)
      go_ret
      exact ⟨rfl, hb⟩
theorem size53 : (Tryz.prog.info? 112).map (·.size) = some 8 := by kernel_rfl
theorem zero53 : (Tryz.prog.info? 112).bind (fun i => i.zero.map (·.cells)) = some (zrow 8) := by kernel_rfl
theorem size25 : (Tryz.prog.info? 71).map (·.size) = some 64 := by kernel_rfl
set_option maxRecDepth 100000 in
set_option maxHeartbeats 2000000 in
theorem behind_any (l : List UInt8) (hl : l.length = 64) (s : St) (hs : s.ok) (w : World) : Calls Tryz.prog 75 #[.agg (numV s.list), .agg (bytV l)] w fun e w' => e = .returned (.agg (numV (blk s l).list)) ∧ Below w.heap.size w w' := by
  have CB := Lib.hid (fun w => Block_any l hl s hs w)
  obtain ⟨f, hf⟩ : ∃ f, f = blk s l := ⟨_, rfl⟩
  rw [← byt_eq, show blkS s (byt l) = f from hf.symm] at CB
  have HF := Lib.hid hf; clear hf
  have hV8 : (numV s.list).size = 8 := by rw [numV_size]; rfl
  have hX8 : (bytV l).size = 64 := by rw [bytV_size, hl]
  obtain ⟨V, hV⟩ : ∃ V, V = numV s.list := ⟨_, rfl⟩
  obtain ⟨X, hX⟩ : ∃ X, X = bytV l := ⟨_, rfl⟩
  rw [← hX] at CB hX8 ⊢
  rw [← hV] at CB hV8 ⊢
  have HV := Lib.hid hV; have HX := Lib.hid hX; have HV8 := Lib.hid hV8; have HX8 := Lib.hid hX8
  clear hV hX hV8 hX8
  obtain ⟨q1, q2, q3, qb, qz⟩ := alloc3 w V X (zrow 8) 112 71 112
  have Q1 := Lib.hid q1; have Q2 := Lib.hid q2; have Q3 := Lib.hid q3; have QZ := Lib.hid qz
  clear q1 q2 q3 qz
  go_enter Tryz.func75, Tryz.ntmps75
  go_wp2_with (first
    | refine wpList_alloc_zero rfl _ rfl _ zero53 ?_
    | refine wpList_load_row rfl 112 _ rfl w.heap.size rfl 112 V (0, 0) _ Q1.out Tryz.underlying112 rfl (by rw [HV8.out]; exact size53) ?_
    | refine wpList_load_row rfl 71 _ rfl (w.heap.size + 1) rfl 71 X (0, 0) _ Q2.out Tryz.underlying71 rfl (by rw [HX8.out]; exact size25) ?_)
  refine (CB.out _).mono ?_
  rintro e w1 ⟨rfl, hb1⟩
  have r3 := Q3.out.step hb1
  have hb1' := below_step qb (hb1.mono (by simp))
  have R3 := Lib.hid r3
  clear Q1 Q2 Q3 QZ r3 hb1 qb
  go_wp2_with (refine wpList_store_row rfl 112 _ _ rfl (w.heap.size + 1 + 1) (numV f.list) rfl rfl 112 (zrow 8) R3.out (by rw [numV_size]; exact size53) (by rw [numV_size, zrow_size]; rfl) (numV_one _) ?_)
  refine bodyPost_ret (v := .agg (numV f.list)) (results_cell_row rfl _ _ (w.heap.size + 1 + 1) 112 (numV f.list) (0, 0) _ rfl (setRow_heap _ _ _ _ _ _ R3.out) Tryz.underlying112 rfl (by rw [numV_size]; exact size53)) rfl ?_
  exact ⟨by rw [HF.out], below_setRow hb1' (by omega) _⟩
end Go.Proofs.YtohicccbaenegaaGreatDoor

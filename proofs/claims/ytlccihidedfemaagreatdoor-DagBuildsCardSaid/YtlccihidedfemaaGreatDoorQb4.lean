/-
  Texts put together: contracts and laws that this seat's proofs share.
-/
import Derived.WalkKit
import Derived.LoopTactic
import Derived.Outline
import Derived.Laws.BitsAllLaws
import Derived.Lib.Hide
import Derived.Below
import Derived.Laws.Rows
import Derived.Laws.CopyOwn
import Derived.Test.YtlccihidedfemaaGreatDoorProg
import Derived.Test.YtlccihidedfemaaGreatDoorQb0
import Derived.Test.YtlccihidedfemaaGreatDoorQb3
import Derived.Great.BuildSlice
import Derived.BigRegion
import Derived.Deep.QuietTactic
import Derived.BigQuiet
import Derived.StillTailTactics
import Derived.IntWalk
import Derived.WalkSmall
import Derived.RegionTactic
import Derived.Test.YtlccihidedfemaaGreatDoorQb2
import Derived.Deep.MidRow
import Derived.Laws.CopyRow
import Derived.Lib.BufferWrite
import Derived.Lib.SlBuf
import Derived.Shelf.Strings.Builder2
import Derived.Deep.LoopGhost
import Derived.Laws.AppendOwn
import Derived.Laws.IdiomStrings
import Derived.OwnWalk
import Derived.WalkLawsBesides
set_option linter.unusedVariables false
set_option pp.maxSteps 200000
namespace Go.Proofs.YtlccihidedfemaaGreatDoor
open Go.RowKit
set_option maxRecDepth 100000 in
set_option maxHeartbeats 1000000 in
theorem rotr_int (x n : Nat) (hx : x < 4294967296) (h0 : 1 ≤ n) (h1 : n ≤ 31) : bits .or .u32 ((x : Int) / 2 ^ n) ((x : Int) * 2 ^ (32 - n) % 4294967296) = (rotr x n : Nat) := by
 have e1 : (x : Int) / 2 ^ n = ((x / 2 ^ n : Nat) : Int) := by rw [Int.natCast_ediv, Int.natCast_pow]; rfl
 have e2 : (x : Int) * 2 ^ (32 - n) % 4294967296 = ((x * 2 ^ (32 - n) % 4294967296 : Nat) : Int) := by rw [Int.natCast_emod, Int.natCast_mul, Int.natCast_pow]; rfl
 rw [e1, e2, u32_or_nat _ _ (Nat.lt_of_le_of_lt (Nat.div_le_self _ _) hx) (Nat.mod_lt _ (by decide))]; rfl
theorem or32_comm (a b : Nat) (ha : a < 4294967296) (hb : b < 4294967296) : bits .or .u32 (a : Int) (b : Int) = bits .or .u32 (b : Int) (a : Int) := by
 rw [u32_or_nat _ _ ha hb, u32_or_nat _ _ hb ha, Nat.or_comm]
theorem rotl_int (x n m : Nat) (hx : x < 4294967296) (hm : n + m = 32) (h0 : 1 ≤ n) (h1 : n ≤ 31) : bits .or .u32 ((x : Int) * 2 ^ m % 4294967296) ((x : Int) / 2 ^ (32 - m)) = (rotr x n : Nat) := by
 have e1 : (x : Int) / 2 ^ n = ((x / 2 ^ n : Nat) : Int) := by rw [Int.natCast_ediv, Int.natCast_pow]; rfl
 have e2 : (x : Int) * 2 ^ m % 4294967296 = ((x * 2 ^ m % 4294967296 : Nat) : Int) := by rw [Int.natCast_emod, Int.natCast_mul, Int.natCast_pow]; rfl
 rw [show 32 - m = n by omega, e1, e2, or32_comm _ _ (Nat.mod_lt _ (by decide)) (Nat.lt_of_le_of_lt (Nat.div_le_self _ _) hx), ← e1, ← e2, show m = 32 - n by omega]
 exact rotr_int x n hx h0 h1
theorem neg31 (n m : Nat) (hm : n + m = 32) (h0 : 1 ≤ n) (h1 : n ≤ 31) : bits .and .u64 (IntKind.u64.wrap (-(n : Int))) 31 = (m : Int) := by
 have e : IntKind.u64.wrap (-(n : Int)) = ((18446744073709551616 - n : Nat) : Int) := by
  show (-(n : Int)) % 18446744073709551616 = _
  omega
 have h := u64_and_nat (18446744073709551616 - n) 31 (by omega) (by decide)
 rw [nat_mask5] at h
 rw [e]
 exact h.trans (by omega)
theorem rot_any (x n : Nat) (hx : x < 4294967296) (h0 : 1 ≤ n) (h1 : n ≤ 31) (w : World) : Calls Tryz.prog 75 #[.int .u32 x, .int .u64 n] w fun e w' => e = .returned (.int .u32 (rotr x n)) ∧ w = w' := by
 go_enter Tryz.func75, Tryz.ntmps75
 go_wp2
 go_ret
 exact ⟨congrArg (fun z => Ending.returned (.int .u32 z)) (rotr_int x n hx h0 h1), rfl⟩
set_option maxRecDepth 100000 in
set_option maxHeartbeats 1000000 in
theorem down_any (x n : Nat) (hx : x < 4294967296) (h0 : 1 ≤ n) (h1 : n ≤ 31) (w : World) : Calls Tryz.prog 184 #[.int .u32 x, .int .i64 n] w fun e w' => e = .returned (.int .u32 (rotr x n)) ∧ w = w' := by
 obtain ⟨m, hm⟩ : ∃ m, n + m = 32 := ⟨32 - n, by omega⟩
 have HM := Lib.hid hm
 have e := neg31 n m hm h0 h1
 have hm1 : 1 ≤ m := by omega
 have hm2 : m ≤ 31 := by omega
 clear hm
 go_enter Tryz.func184, Tryz.ntmps184
 go_wp2
 go_ret
 exact ⟨congrArg (fun z => Ending.returned (.int .u32 z)) (rotl_int x n m hx HM.out h0 h1), rfl⟩
theorem down_z (x : Nat) (z : Int) (hx : x < 4294967296) (h : 1 ≤ z ∧ z ≤ 31) (w : World) : Calls Tryz.prog 184 #[.int .u32 x, .int .i64 z] w fun e w' => e = .returned (.int .u32 (rotr x z.toNat)) ∧ w = w' := by
 have := down_any x z.toNat hx (by omega) (by omega) w
 rwa [show ((z.toNat : Nat) : Int) = z by omega] at this
theorem rot_z (x : Nat) (z : Int) (hx : x < 4294967296) (h : 1 ≤ z ∧ z ≤ 31) (w : World) : Calls Tryz.prog 75 #[.int .u32 x, .int .u64 z] w fun e w' => e = .returned (.int .u32 (rotr x z.toNat)) ∧ w = w' := by
 have := rot_any x z.toNat hx (by omega) (by omega) w
 rwa [show ((z.toNat : Nat) : Int) = z by omega] at this
theorem xor3_int (a b c : Nat) (ha : a < 4294967296) (hb : b < 4294967296) (hc : c < 4294967296) : bits .xor .u32 (bits .xor .u32 (a : Int) (b : Int)) (c : Int) = ((a ^^^ b ^^^ c : Nat) : Int) := by
 rw [u32_xor_nat _ _ ha hb, u32_xor_nat _ _ (xor_lt ha hb) hc]
theorem sg0_int (x : Nat) (h : x < 4294967296) : bits .xor .u32 (bits .xor .u32 (rotr x 7 : Nat) (rotr x 18 : Nat)) ((x : Int) / 8) = (sg0 x : Nat) := by
 rw [show (x : Int) / 8 = ((x / 8 : Nat) : Int) by omega, xor3_int _ _ _ (rotr_lt _ h) (rotr_lt _ h) (by omega)]; rfl
theorem sg1_int (x : Nat) (h : x < 4294967296) : bits .xor .u32 (bits .xor .u32 (rotr x 17 : Nat) (rotr x 19 : Nat)) ((x : Int) / 1024) = (sg1 x : Nat) := by
 rw [show (x : Int) / 1024 = ((x / 1024 : Nat) : Int) by omega, xor3_int _ _ _ (rotr_lt _ h) (rotr_lt _ h) (by omega)]; rfl
theorem ad4_int (a b c d : Nat) : ((a : Int) + b + c + d) % 4294967296 = (ad (ad (ad a b) c) d : Nat) := by unfold ad; omega
theorem or3_int (a b c d : Nat) (ha : a < 256) (hb : b < 256) (hc : c < 256) (hd : d < 256) :
  bits .or .u32 (bits .or .u32 (bits .or .u32 ((a : Int) % 4294967296 * 16777216 % 4294967296) ((b : Int) % 4294967296 * 65536 % 4294967296)) ((c : Int) % 4294967296 * 256 % 4294967296)) ((d : Int) % 4294967296) =
   ((a * 16777216 % 4294967296 ||| b * 65536 % 4294967296 ||| c * 256 % 4294967296 ||| d : Nat) : Int) := by
 have e1 : (a : Int) % 4294967296 * 16777216 % 4294967296 = ((a * 16777216 % 4294967296 : Nat) : Int) := by omega
 have e2 : (b : Int) % 4294967296 * 65536 % 4294967296 = ((b * 65536 % 4294967296 : Nat) : Int) := by omega
 have e3 : (c : Int) % 4294967296 * 256 % 4294967296 = ((c * 256 % 4294967296 : Nat) : Int) := by omega
 have e4 : (d : Int) % 4294967296 = ((d : Nat) : Int) := by omega
 have l1 : a * 16777216 % 4294967296 < 4294967296 := Nat.mod_lt _ (by decide)
 have l2 : b * 65536 % 4294967296 < 4294967296 := Nat.mod_lt _ (by decide)
 have l3 : c * 256 % 4294967296 < 4294967296 := Nat.mod_lt _ (by decide)
 rw [e1, e2, e3, e4, u32_or_nat _ _ l1 l2, u32_or_nat _ _ (or_lt l1 l2) l3, u32_or_nat _ _ (or_lt (or_lt l1 l2) l3) (by omega)]
set_option maxRecDepth 100000 in
set_option maxHeartbeats 1000000 in
theorem spread_any (l : List UInt8) (hl : l.length = 64) (w : World) : Calls Tryz.prog 172 #[.agg (bytV l)] w fun e w' => e = .returned (.agg (numV (wlist (fun i => (l.getD i 0).toNat) 64))) ∧ Below w.heap.size w w' := by
 obtain ⟨L, hL⟩ : ∃ L : Nat → Nat, L = fun i => (l.getD i 0).toNat := ⟨_, rfl⟩
 have HL := Lib.hid hL
 have hl8 : ∀ i, L i < 256 := fun i => by rw [hL]; exact UInt8.toNat_lt _
 rw [← hL]
 clear hL
 go_enter Tryz.func172, Tryz.ntmps172
 go_wp2_with (first
  | refine wpList_alloc_zero rfl _ rfl _ zero43 ?_)
 go_loopw [11, 4, 5] (fun i _ _ wr => ∃ k : Nat, k ≤ 16 ∧ i = .int .i64 k ∧ Row wr w.heap.size (bytV l) 89 ∧ Row wr (w.heap.size + 1) (zrow 64) 116 ∧ Row wr (w.heap.size + 1 + 1) (numV (wrow L k)) 116 ∧ Below w.heap.size w wr) (fun i _ _ _ => 16 - (intOf i).toNat)
 case atStart => 
  refine ⟨0, by omega, rfl, ?_, ?_, ?_, ?_⟩
  ·exact ((Row.made _ _ _).alloc _).alloc _
  ·have := (Row.made (w.alloc (.cells (bytV l) 89)) (zrow 64) 116).alloc (.cells (zrow 64) 116)
   simpa using this
  ·show Row _ _ (zrow 64) _
   have := Row.made ((w.alloc (.cells (bytV l) 89)).alloc (.cells (zrow 64) 116)) (zrow 64) 116
   simpa using this
  ·exact (((Below.refl _ _).alloc (Nat.le_refl _) _).alloc (by simp) _).alloc (by simp; omega) _
 case round =>
  obtain ⟨k, hk, rfl, hB, hZ, hR, hb⟩ := hrel
  by_cases hlt : k < 16
  ·have hbk : decide ((k : Int) < 16) = true := by simpa using (show (k : Int) < 16 by omega)
   have c0 : wr.cell? ⟨w.heap.size, k * 4, none⟩ = some (.int .u8 (L (k * 4))) := by rw [hB.cell, bytV_get _ _ (by omega), HL.out]
   have c1 : wr.cell? ⟨w.heap.size, k * 4 + 1, none⟩ = some (.int .u8 (L (k * 4 + 1))) := by rw [hB.cell, bytV_get _ _ (by omega), HL.out]
   have c2 : wr.cell? ⟨w.heap.size, k * 4 + 2, none⟩ = some (.int .u8 (L (k * 4 + 2))) := by rw [hB.cell, bytV_get _ _ (by omega), HL.out]
   have c3 : wr.cell? ⟨w.heap.size, k * 4 + 3, none⟩ = some (.int .u8 (L (k * 4 + 3))) := by rw [hB.cell, bytV_get _ _ (by omega), HL.out]
   have cf := hR.free k
   have cr : wr.cell? ⟨w.heap.size + 1 + 1, k, none⟩ = some (.int .u32 0) := by
    rw [hR.cell, numV_get _ _ (by rw [wrow_len _ _ (by omega)]; omega), wrow, List.getD_eq_getElem?_getD, List.getElem?_append_right (by rw [wlist_len]; exact Nat.le_refl _), List.getElem?_replicate]
    split <;> rfl
   have t0 : ((k : Int) * 4).toNat = k * 4 := by omega
   have t1 : ((k : Int) * 4 + 1).toNat = k * 4 + 1 := by omega
   have t2 : ((k : Int) * 4 + 2).toNat = k * 4 + 2 := by omega
   have t3 : ((k : Int) * 4 + 3).toNat = k * 4 + 3 := by omega
   have s1 : IntKind.i64.wrap ((k : Int) * 4 + 1) = (k : Int) * 4 + 1 := IntWalk.i64_in _ (by omega)
   have s2 : IntKind.i64.wrap ((k : Int) * 4 + 2) = (k : Int) * 4 + 2 := IntWalk.i64_in _ (by omega)
   have s3 : IntKind.i64.wrap ((k : Int) * 4 + 3) = (k : Int) * 4 + 3 := IntWalk.i64_in _ (by omega)
   have b0 : (0 : Int) ≤ (k : Int) * 4 ∧ (k : Int) * 4 < 64 := by omega
   have b1 : (0 : Int) ≤ (k : Int) * 4 + 1 ∧ (k : Int) * 4 + 1 < 64 := by omega
   have b2 : (0 : Int) ≤ (k : Int) * 4 + 2 ∧ (k : Int) * 4 + 2 < 64 := by omega
   have b3 : (0 : Int) ≤ (k : Int) * 4 + 3 ∧ (k : Int) * 4 + 3 < 64 := by omega
   have b4 : (0 : Int) ≤ (k : Int) ∧ (k : Int) < 64 := by omega
   have HB := Lib.hid hB; have HR := Lib.hid hR; have HZ := Lib.hid hZ
   clear hB hR hZ
   go_wp2_with fail
   go_still_tail 27, (by kernel_rfl)
   change wpList _ _ _ _ _ wr.drew
   clear t0 t1 t2 t3 s1 s2 s3 b0 b1 b2 b3 c0 c1 c2 c3
   go_wp2
   go_roundw
   case rel => 
    refine ⟨k + 1, by omega, by go_num, ?_, ?_, ?_, ?_⟩
    ·exact (Row.drew HB.out).other _ _ (by show w.heap.size ≠ w.heap.size + 1 + 1; omega)
    ·exact (Row.drew HZ.out).other _ _ (by show w.heap.size + 1 ≠ w.heap.size + 1 + 1; omega)
    ·have := (Row.drew HR.out).set k (.int .u32 (lead L k : Nat))
     rw [numV_set, ← nxt_lead L (wlist L k) k hlt, wrow_set L k (by omega), nxt_lead L (wlist L k) k hlt] at this
     rw [or3_int _ _ _ _ (hl8 _) (hl8 _) (hl8 _) (hl8 _)]
     exact this
    ·exact (hb.drew).setCell (by show w.heap.size ≤ w.heap.size + 1 + 1; omega) _
   case measure => simp [intOf]; omega
  ·have hk16 : k = 16 := by omega
   have hR' : Row wr (w.heap.size + 1 + 1) (numV (wrow L 16)) 116 := by rw [← hk16]; exact hR
   have hbk : decide ((k : Int) < 16) = false := by rw [hk16]; rfl
   clear hR hk16 hlt hk
   have hR := hR'
   clear hR'
   have HB := Lib.hid hB; have HR := Lib.hid hR; have HZ := Lib.hid hZ
   clear hB hR hZ
   go_wp2_with fail
   go_loopw [6] (fun i wr => ∃ k : Nat, 16 ≤ k ∧ k ≤ 64 ∧ i = .int .i64 k ∧ Row wr (w.heap.size + 1) (zrow 64) 116 ∧ Row wr (w.heap.size + 1 + 1) (numV (wrow L k)) 116 ∧ Below w.heap.size w wr) (fun i _ => 64 - (intOf i).toNat)
   case atStart => exact ⟨16, by omega, by omega, rfl, HZ.out, HR.out, hb⟩
   case round =>
    clear HB HR HZ hb
    obtain ⟨k, hk0, hk, rfl, hZ, hR, hb⟩ := hrel
    by_cases hlt : k < 64
    ·have hbk : decide ((k : Int) < 64) = true := by simpa using (show (k : Int) < 64 by omega)
     have hm := wlist_mem L hl8 k
     obtain ⟨x, hx⟩ : ∃ x, x = (wlist L k).getD (k - 15) 0 := ⟨_, rfl⟩
     obtain ⟨y, hy⟩ : ∃ y, y = (wlist L k).getD (k - 2) 0 := ⟨_, rfl⟩
     obtain ⟨p, hp⟩ : ∃ y, y = (wlist L k).getD (k - 16) 0 := ⟨_, rfl⟩
     obtain ⟨q, hq⟩ : ∃ y, y = (wlist L k).getD (k - 7) 0 := ⟨_, rfl⟩
     have lx : x < 4294967296 := by rw [hx]; exact getD_lt hm _
     have ly : y < 4294967296 := by rw [hy]; exact getD_lt hm _
     have lp : p < 4294967296 := by rw [hp]; exact getD_lt hm _
     have lq : q < 4294967296 := by rw [hq]; exact getD_lt hm _
     have cc : ∀ j, j < k → wr.cell? ⟨w.heap.size + 1 + 1, j, none⟩ = some (.int .u32 ((wlist L k).getD j 0 : Nat)) := fun j hj => by
      rw [hR.cell, numV_get _ _ (by rw [wrow_len _ _ hk]; omega), wrow_get _ _ _ hj]
     have c15 := cc (k - 15) (by omega)
     have c2 := cc (k - 2) (by omega)
     have c16 := cc (k - 16) (by omega)
     have c7 := cc (k - 7) (by omega)
     rw [← hx] at c15; rw [← hy] at c2; rw [← hp] at c16; rw [← hq] at c7
     have cf := hR.free k
     have cr : ∃ v, wr.cell? ⟨w.heap.size + 1 + 1, k, none⟩ = some v := by
      rw [hR.cell, numV_get _ _ (by rw [wrow_len _ _ hk]; omega)]
      exact ⟨_, rfl⟩
     obtain ⟨v, cr⟩ := cr
     clear cc hm
     have HV := Lib.hid (nxt_on L (wlist L k) k hk0)
     have HX := Lib.hid hx; have HY := Lib.hid hy; have HP := Lib.hid hp; have HQ := Lib.hid hq
     clear hx hy hp hq
     have t1 : ((k : Int) - 15).toNat = k - 15 := by omega
     have t2 : ((k : Int) - 2).toNat = k - 2 := by omega
     have t3 : ((k : Int) - 16).toNat = k - 16 := by omega
     have t4 : ((k : Int) - 7).toNat = k - 7 := by omega
     have s1 : IntKind.i64.wrap ((k : Int) - 15) = (k : Int) - 15 := IntWalk.i64_in _ (by omega)
     have s2 : IntKind.i64.wrap ((k : Int) - 2) = (k : Int) - 2 := IntWalk.i64_in _ (by omega)
     have s3 : IntKind.i64.wrap ((k : Int) - 16) = (k : Int) - 16 := IntWalk.i64_in _ (by omega)
     have s4 : IntKind.i64.wrap ((k : Int) - 7) = (k : Int) - 7 := IntWalk.i64_in _ (by omega)
     have b1 : (0 : Int) ≤ (k : Int) - 15 ∧ (k : Int) - 15 < 64 := by omega
     have b2 : (0 : Int) ≤ (k : Int) - 2 ∧ (k : Int) - 2 < 64 := by omega
     have b3 : (0 : Int) ≤ (k : Int) - 16 ∧ (k : Int) - 16 < 64 := by omega
     have b4 : (0 : Int) ≤ (k : Int) - 7 ∧ (k : Int) - 7 < 64 := by omega
     have b6 : (16 : Int) ≤ (k : Int) := by omega
     have b7 : (7 : Int) ≤ (k : Int) := by omega
     have b8 : (k : Int) - 16 < 64 := by omega
     have b9 : (k : Int) - 7 < 64 := by omega
     have b10 : (0 : Int) ≤ (k : Int) - 16 := by omega
     have b11 : (0 : Int) ≤ (k : Int) - 7 := by omega
     have b5 : (0 : Int) ≤ (k : Int) ∧ (k : Int) < 64 := by omega
     have HR := Lib.hid hR; have HZ := Lib.hid hZ
     clear hR hZ
     have HL8 := Lib.hid hl8; clear hl8
     go_wp2_with fail
     go_quiet (fail)
     go_wp2_with (go_at_call 184; refine (down_z _ _ (by assumption) (by decide) _).mono ?_; rintro e w1 ⟨rfl, rfl⟩)
     obtain ⟨W2, hW2⟩ : ∃ W2, W2 = wr.drewN nq := ⟨_, rfl⟩
     rw [← hW2]
     have d16 : W2.cell? ⟨w.heap.size + 1 + 1, k - 16, none⟩ = some (.int .u32 p) := by rw [hW2]; exact c16
     have d7 : W2.cell? ⟨w.heap.size + 1 + 1, k - 7, none⟩ = some (.int .u32 q) := by rw [hW2]; exact c7
     have df : W2.frozen? ⟨w.heap.size + 1 + 1, k, none⟩ = false := by rw [hW2]; exact cf
     have dr : W2.cell? ⟨w.heap.size + 1 + 1, k, none⟩ = some v := by rw [hW2]; exact cr
     have HR2 : Hid (Row W2 (w.heap.size + 1 + 1) (numV (wrow L k)) 116) := Lib.hid (by rw [hW2]; exact HR.out)
     have HZ2 : Hid (Row W2 (w.heap.size + 1) (zrow 64) 116) := Lib.hid (by rw [hW2]; exact HZ.out)
     have hb2 : Below w.heap.size w W2 := by rw [hW2]; exact below_drewN hb nq
     clear hW2 c16 c7 cf cr HR HZ hb c15 c2 t1 t2 s1 s2 b1 b2
     go_still_tail 15, (by kernel_rfl)
     change wpList _ _ _ _ _ W2.drew
     clear t3 t4 s3 s4 b3 b4 d16 d7
     go_wp2
     go_roundw
     case rel =>
      refine ⟨k + 1, by omega, by omega, by go_num, ?_, ?_, ?_⟩
      ·exact (Row.drew HZ2.out).other _ _ (by show w.heap.size + 1 ≠ w.heap.size + 1 + 1; omega)
      ·have := (Row.drew HR2.out).set k (.int .u32 (nxt L (wlist L k) k : Nat))
       rw [numV_set, wrow_set L k (by omega), HV.out, ← HX.out, ← HY.out, ← HP.out, ← HQ.out] at this
       rw [sg0_int x lx, sg1_int y ly, ad4_int]
       exact this
      ·exact (hb2.drew).setCell (by show w.heap.size ≤ w.heap.size + 1 + 1; omega) _
     case measure => simp [intOf]; omega
    ·obtain rfl : k = 64 := by omega
     have hbk : decide (((64 : Nat) : Int) < 64) = false := rfl
     have HR := Lib.hid hR; have HZ := Lib.hid hZ
     clear hR hZ
     go_wp2_with (first
      | refine wpList_load_row rfl 116 _ rfl (w.heap.size + 1 + 1) rfl 116 (numV (wrow L 64)) (0, 0) _ HR.out Tryz.underlying116 rfl (by rw [numV_size, wrow_len _ _ hk]; exact size43) ?_
      | refine wpList_store_row rfl 116 _ _ rfl (w.heap.size + 1) (numV (wrow L 64)) rfl rfl 116 (zrow 64) HZ.out (by rw [numV_size, wrow_len _ _ hk]; exact size43) (by rw [numV_size, zrow_size, wrow_len _ _ hk]) (numV_one _) ?_)
     refine bodyPost_ret (v := .agg (numV (wrow L 64))) (results_cell_row rfl _ _ (w.heap.size + 1) 116 (numV (wrow L 64)) (0, 0) _ rfl (setRow_heap _ _ _ _ _ _ HZ.out) Tryz.underlying116 rfl (by rw [numV_size, wrow_len _ _ hk]; exact size43)) rfl ⟨by rw [wrow_full], below_setRow hb (by omega) _⟩
end Go.Proofs.YtlccihidedfemaaGreatDoor
set_option linter.unusedVariables false
set_option pp.maxSteps 200000
namespace Go.Proofs.YtlccihidedfemaaGreatDoor
open Go.RowKit
set_option maxRecDepth 100000 in
set_option maxHeartbeats 1000000 in
set_option maxRecDepth 100000 in
set_option maxHeartbeats 1000000 in
theorem refWords_any (l : List UInt8) (hl : l.length = 64) (w : World) : Calls Tryz.prog 73 #[.agg (bytV l)] w fun e w' => e = .returned (.agg (numV (wlist (fun i => (l.getD i 0).toNat) 64))) ∧ Below w.heap.size w w' := by
 obtain ⟨L, hL⟩ : ∃ L : Nat → Nat, L = fun i => (l.getD i 0).toNat := ⟨_, rfl⟩
 have HL := Lib.hid hL
 have hl8 : ∀ i, L i < 256 := fun i => by rw [hL]; exact UInt8.toNat_lt _
 rw [← hL]
 clear hL
 go_enter Tryz.func73, Tryz.ntmps73
 go_wp2_with (first
  | refine wpList_alloc_zero rfl _ rfl _ zero43 ?_)
 go_loopw [4] (fun i wr => ∃ k : Nat, k ≤ 16 ∧ i = .int .i64 k ∧ Row wr w.heap.size (bytV l) 89 ∧ Row wr (w.heap.size + 1) (zrow 64) 116 ∧ Row wr (w.heap.size + 1 + 1) (numV (wrow L k)) 116 ∧ Below w.heap.size w wr) (fun i _ => 16 - (intOf i).toNat)
 case atStart => 
  refine ⟨0, by omega, rfl, ?_, ?_, ?_, ?_⟩
  ·exact ((Row.made _ _ _).alloc _).alloc _
  ·have := (Row.made (w.alloc (.cells (bytV l) 89)) (zrow 64) 116).alloc (.cells (zrow 64) 116)
   simpa using this
  ·show Row _ _ (zrow 64) _
   have := Row.made ((w.alloc (.cells (bytV l) 89)).alloc (.cells (zrow 64) 116)) (zrow 64) 116
   simpa using this
  ·exact (((Below.refl _ _).alloc (Nat.le_refl _) _).alloc (by simp) _).alloc (by simp; omega) _
 case round =>
  obtain ⟨k, hk, rfl, hB, hZ, hR, hb⟩ := hrel
  by_cases hlt : k < 16
  ·have hbk : decide ((k : Int) < 16) = true := by simpa using (show (k : Int) < 16 by omega)
   have c0 : wr.cell? ⟨w.heap.size, k * 4, none⟩ = some (.int .u8 (L (k * 4))) := by rw [hB.cell, bytV_get _ _ (by omega), HL.out]
   have c1 : wr.cell? ⟨w.heap.size, k * 4 + 1, none⟩ = some (.int .u8 (L (k * 4 + 1))) := by rw [hB.cell, bytV_get _ _ (by omega), HL.out]
   have c2 : wr.cell? ⟨w.heap.size, k * 4 + 2, none⟩ = some (.int .u8 (L (k * 4 + 2))) := by rw [hB.cell, bytV_get _ _ (by omega), HL.out]
   have c3 : wr.cell? ⟨w.heap.size, k * 4 + 3, none⟩ = some (.int .u8 (L (k * 4 + 3))) := by rw [hB.cell, bytV_get _ _ (by omega), HL.out]
   have cf := hR.free k
   have cr : wr.cell? ⟨w.heap.size + 1 + 1, k, none⟩ = some (.int .u32 0) := by
    rw [hR.cell, numV_get _ _ (by rw [wrow_len _ _ (by omega)]; omega), wrow, List.getD_eq_getElem?_getD, List.getElem?_append_right (by rw [wlist_len]; exact Nat.le_refl _), List.getElem?_replicate]
    split <;> rfl
   have t0 : (4 * (k : Int)).toNat = k * 4 := by omega
   have t1 : (4 * (k : Int) + 1).toNat = k * 4 + 1 := by omega
   have t2 : (4 * (k : Int) + 2).toNat = k * 4 + 2 := by omega
   have t3 : (4 * (k : Int) + 3).toNat = k * 4 + 3 := by omega
   have s0 : IntKind.i64.wrap (4 * (k : Int)) = 4 * (k : Int) := IntWalk.i64_in _ (by omega)
   have s1 : IntKind.i64.wrap (4 * (k : Int) + 1) = 4 * (k : Int) + 1 := IntWalk.i64_in _ (by omega)
   have s2 : IntKind.i64.wrap (4 * (k : Int) + 2) = 4 * (k : Int) + 2 := IntWalk.i64_in _ (by omega)
   have s3 : IntKind.i64.wrap (4 * (k : Int) + 3) = 4 * (k : Int) + 3 := IntWalk.i64_in _ (by omega)
   have b0 : (0 : Int) ≤ 4 * (k : Int) ∧ 4 * (k : Int) < 64 := by omega
   have b1 : (0 : Int) ≤ 4 * (k : Int) + 1 ∧ 4 * (k : Int) + 1 < 64 := by omega
   have b2 : (0 : Int) ≤ 4 * (k : Int) + 2 ∧ 4 * (k : Int) + 2 < 64 := by omega
   have b3 : (0 : Int) ≤ 4 * (k : Int) + 3 ∧ 4 * (k : Int) + 3 < 64 := by omega
   have b4 : (0 : Int) ≤ (k : Int) ∧ (k : Int) < 64 := by omega
   have HB := Lib.hid hB; have HR := Lib.hid hR; have HZ := Lib.hid hZ
   clear hB hR hZ
   go_wp2_with fail
   go_still_tail 31, (by kernel_rfl)
   change wpList _ _ _ _ _ wr.drew
   clear t0 t1 t2 t3 s0 s1 s2 s3 b0 b1 b2 b3 c0 c1 c2 c3
   go_wp2
   go_roundw
   case rel => 
    refine ⟨k + 1, by omega, by go_num, ?_, ?_, ?_, ?_⟩
    ·exact (Row.drew HB.out).other _ _ (by show w.heap.size ≠ w.heap.size + 1 + 1; omega)
    ·exact (Row.drew HZ.out).other _ _ (by show w.heap.size + 1 ≠ w.heap.size + 1 + 1; omega)
    ·have := (Row.drew HR.out).set k (.int .u32 (lead L k : Nat))
     rw [numV_set, ← nxt_lead L (wlist L k) k hlt, wrow_set L k (by omega), nxt_lead L (wlist L k) k hlt] at this
     rw [or3_int _ _ _ _ (hl8 _) (hl8 _) (hl8 _) (hl8 _)]
     exact this
    ·exact (hb.drew).setCell (by show w.heap.size ≤ w.heap.size + 1 + 1; omega) _
   case measure => simp [intOf]; omega
  ·have hk16 : k = 16 := by omega
   have hR' : Row wr (w.heap.size + 1 + 1) (numV (wrow L 16)) 116 := by rw [← hk16]; exact hR
   have hbk : decide ((k : Int) < 16) = false := by rw [hk16]; rfl
   clear hR hk16 hlt hk
   have hR := hR'
   clear hR'
   have HB := Lib.hid hB; have HR := Lib.hid hR; have HZ := Lib.hid hZ
   clear hB hR hZ
   go_wp2_with fail
   go_loopw [5] (fun i wr => ∃ k : Nat, 16 ≤ k ∧ k ≤ 64 ∧ i = .int .i64 k ∧ Row wr (w.heap.size + 1) (zrow 64) 116 ∧ Row wr (w.heap.size + 1 + 1) (numV (wrow L k)) 116 ∧ Below w.heap.size w wr) (fun i _ => 64 - (intOf i).toNat)
   case atStart => exact ⟨16, by omega, by omega, rfl, HZ.out, HR.out, hb⟩
   case round =>
    clear HB HR HZ hb
    obtain ⟨k, hk0, hk, rfl, hZ, hR, hb⟩ := hrel
    by_cases hlt : k < 64
    ·have hbk : decide ((k : Int) < 64) = true := by simpa using (show (k : Int) < 64 by omega)
     have hm := wlist_mem L hl8 k
     obtain ⟨x, hx⟩ : ∃ x, x = (wlist L k).getD (k - 15) 0 := ⟨_, rfl⟩
     obtain ⟨y, hy⟩ : ∃ y, y = (wlist L k).getD (k - 2) 0 := ⟨_, rfl⟩
     obtain ⟨p, hp⟩ : ∃ y, y = (wlist L k).getD (k - 16) 0 := ⟨_, rfl⟩
     obtain ⟨q, hq⟩ : ∃ y, y = (wlist L k).getD (k - 7) 0 := ⟨_, rfl⟩
     have lx : x < 4294967296 := by rw [hx]; exact getD_lt hm _
     have ly : y < 4294967296 := by rw [hy]; exact getD_lt hm _
     have lp : p < 4294967296 := by rw [hp]; exact getD_lt hm _
     have lq : q < 4294967296 := by rw [hq]; exact getD_lt hm _
     have cc : ∀ j, j < k → wr.cell? ⟨w.heap.size + 1 + 1, j, none⟩ = some (.int .u32 ((wlist L k).getD j 0 : Nat)) := fun j hj => by
      rw [hR.cell, numV_get _ _ (by rw [wrow_len _ _ hk]; omega), wrow_get _ _ _ hj]
     have c15 := cc (k - 15) (by omega)
     have c2 := cc (k - 2) (by omega)
     have c16 := cc (k - 16) (by omega)
     have c7 := cc (k - 7) (by omega)
     rw [← hx] at c15; rw [← hy] at c2; rw [← hp] at c16; rw [← hq] at c7
     have cf := hR.free k
     have cr : ∃ v, wr.cell? ⟨w.heap.size + 1 + 1, k, none⟩ = some v := by
      rw [hR.cell, numV_get _ _ (by rw [wrow_len _ _ hk]; omega)]
      exact ⟨_, rfl⟩
     obtain ⟨v, cr⟩ := cr
     clear cc hm
     have HV := Lib.hid (nxt_on L (wlist L k) k hk0)
     have HX := Lib.hid hx; have HY := Lib.hid hy; have HP := Lib.hid hp; have HQ := Lib.hid hq
     clear hx hy hp hq
     have t1 : ((k : Int) - 15).toNat = k - 15 := by omega
     have t2 : ((k : Int) - 2).toNat = k - 2 := by omega
     have t3 : ((k : Int) - 16).toNat = k - 16 := by omega
     have t4 : ((k : Int) - 7).toNat = k - 7 := by omega
     have s1 : IntKind.i64.wrap ((k : Int) - 15) = (k : Int) - 15 := IntWalk.i64_in _ (by omega)
     have s2 : IntKind.i64.wrap ((k : Int) - 2) = (k : Int) - 2 := IntWalk.i64_in _ (by omega)
     have s3 : IntKind.i64.wrap ((k : Int) - 16) = (k : Int) - 16 := IntWalk.i64_in _ (by omega)
     have s4 : IntKind.i64.wrap ((k : Int) - 7) = (k : Int) - 7 := IntWalk.i64_in _ (by omega)
     have b1 : (0 : Int) ≤ (k : Int) - 15 ∧ (k : Int) - 15 < 64 := by omega
     have b2 : (0 : Int) ≤ (k : Int) - 2 ∧ (k : Int) - 2 < 64 := by omega
     have b3 : (0 : Int) ≤ (k : Int) - 16 ∧ (k : Int) - 16 < 64 := by omega
     have b4 : (0 : Int) ≤ (k : Int) - 7 ∧ (k : Int) - 7 < 64 := by omega
     have b6 : (16 : Int) ≤ (k : Int) := by omega
     have b7 : (7 : Int) ≤ (k : Int) := by omega
     have b8 : (k : Int) - 16 < 64 := by omega
     have b9 : (k : Int) - 7 < 64 := by omega
     have b10 : (0 : Int) ≤ (k : Int) - 16 := by omega
     have b11 : (0 : Int) ≤ (k : Int) - 7 := by omega
     have b5 : (0 : Int) ≤ (k : Int) ∧ (k : Int) < 64 := by omega
     have HR := Lib.hid hR; have HZ := Lib.hid hZ
     clear hR hZ
     have HL8 := Lib.hid hl8; clear hl8
     go_wp2_with (go_at_call 75; refine (rot_z _ _ (by assumption) (by decide) _).mono ?_; rintro e w1 ⟨rfl, rfl⟩)
     obtain ⟨W2, hW2⟩ : ∃ W2, W2 = wr := ⟨_, rfl⟩
     rw [← hW2]
     have d16 : W2.cell? ⟨w.heap.size + 1 + 1, k - 16, none⟩ = some (.int .u32 p) := by rw [hW2]; exact c16
     have d7 : W2.cell? ⟨w.heap.size + 1 + 1, k - 7, none⟩ = some (.int .u32 q) := by rw [hW2]; exact c7
     have df : W2.frozen? ⟨w.heap.size + 1 + 1, k, none⟩ = false := by rw [hW2]; exact cf
     have dr : W2.cell? ⟨w.heap.size + 1 + 1, k, none⟩ = some v := by rw [hW2]; exact cr
     have HR2 : Hid (Row W2 (w.heap.size + 1 + 1) (numV (wrow L k)) 116) := Lib.hid (by rw [hW2]; exact HR.out)
     have HZ2 : Hid (Row W2 (w.heap.size + 1) (zrow 64) 116) := Lib.hid (by rw [hW2]; exact HZ.out)
     have hb2 : Below w.heap.size w W2 := by rw [hW2]; exact hb
     clear hW2 c16 c7 cf cr HR HZ hb c15 c2 t1 t2 s1 s2 b1 b2
     go_still_tail 15, (by kernel_rfl)
     change wpList _ _ _ _ _ W2.drew
     clear t3 t4 s3 s4 b3 b4 d16 d7
     go_wp2
     go_roundw
     case rel =>
      refine ⟨k + 1, by omega, by omega, by go_num, ?_, ?_, ?_⟩
      ·exact (Row.drew HZ2.out).other _ _ (by show w.heap.size + 1 ≠ w.heap.size + 1 + 1; omega)
      ·have := (Row.drew HR2.out).set k (.int .u32 (nxt L (wlist L k) k : Nat))
       rw [numV_set, wrow_set L k (by omega), HV.out, ← HX.out, ← HY.out, ← HP.out, ← HQ.out] at this
       rw [sg0_int x lx, sg1_int y ly, ad4_int]
       exact this
      ·exact (hb2.drew).setCell (by show w.heap.size ≤ w.heap.size + 1 + 1; omega) _
     case measure => simp [intOf]; omega
    ·obtain rfl : k = 64 := by omega
     have hbk : decide (((64 : Nat) : Int) < 64) = false := rfl
     have HR := Lib.hid hR; have HZ := Lib.hid hZ
     clear hR hZ
     go_wp2_with (first
      | refine wpList_load_row rfl 116 _ rfl (w.heap.size + 1 + 1) rfl 116 (numV (wrow L 64)) (0, 0) _ HR.out Tryz.underlying116 rfl (by rw [numV_size, wrow_len _ _ hk]; exact size43) ?_
      | refine wpList_store_row rfl 116 _ _ rfl (w.heap.size + 1) (numV (wrow L 64)) rfl rfl 116 (zrow 64) HZ.out (by rw [numV_size, wrow_len _ _ hk]; exact size43) (by rw [numV_size, zrow_size, wrow_len _ _ hk]) (numV_one _) ?_)
     refine bodyPost_ret (v := .agg (numV (wrow L 64))) (results_cell_row rfl _ _ (w.heap.size + 1) 116 (numV (wrow L 64)) (0, 0) _ rfl (setRow_heap _ _ _ _ _ _ HZ.out) Tryz.underlying116 rfl (by rw [numV_size, wrow_len _ _ hk]; exact size43)) rfl ⟨by rw [wrow_full], below_setRow hb (by omega) _⟩
end Go.Proofs.YtlccihidedfemaaGreatDoor
set_option linter.unusedVariables false
namespace Go.Proofs.YtlccihidedfemaaGreatDoor
open Go.RowKit
def setSeg : Array Value → Nat → List Value → Array Value
 | xs, _, [] => xs
 | xs, o, v :: r => setSeg (xs.setIfInBounds o v) (o + 1) r
theorem setSeg_eq : ∀ (vs : List Value) (A M B : List Value), M.length = vs.length → setSeg (A ++ M ++ B).toArray A.length vs = (A ++ vs ++ B).toArray
 | [], A, M, B, h => by
  have : M = [] := List.length_eq_zero_iff.1 h
  subst this; rfl
 | v :: r, A, [], B, h => by simp at h
 | v :: r, A, m :: M, B, h => by
  have := setSeg_eq r (A ++ [v]) M B (by simpa using h)
  rw [setSeg, show (A ++ m :: M ++ B).toArray.setIfInBounds A.length v = (A ++ [v] ++ M ++ B).toArray by simp]
  simp only [List.length_append, List.length_singleton] at this
  rw [this]; simp
theorem Row.setCells {W : World} {B : Nat} {T : TypeId} : ∀ (vs : List Value) {xs : Array Value} {W : World} (h : Row W B xs T) (o : Nat), Row (W.setCells B o vs) B (setSeg xs o vs) T
 | [], _, _, h, _ => h
 | v :: r, _, _, h, o => Row.setCells (W := W) r (h.set o v) (o + 1)
theorem below_setCells {b g : Nat} {w : World} : ∀ (vs : List Value) {W : World} (h : Below b w W) (o : Nat) (hg : b ≤ g), Below b w (W.setCells g o vs)
 | [], _, h, _, _ => h
 | v :: r, _, h, o, hg => below_setCells r (h.setCell hg v) (o + 1) hg
theorem Row.range {W : World} {B : Nat} {T : TypeId} {A M C : List Value} (h : Row W B (A ++ M ++ C).toArray T) : W.rangeAt B A.length M := fun j v hv => by
 rw [h.cell]
 have hj : j < M.length := (List.getElem?_eq_some_iff.1 hv).1
 simp only [List.getElem?_toArray]
 rw [List.append_assoc, List.getElem?_append_right (by omega), List.getElem?_append_left (by omega), show A.length + j - A.length = j by omega, hv]
theorem Row.there {W : World} {B : Nat} {T : TypeId} {xs : Array Value} (h : Row W B xs T) (o n : Nat) (hn : o + n ≤ xs.size) : W.there B o n := fun j hj => by
 refine ⟨?_, h.free _⟩
 rw [h.cell, Array.getElem?_eq_getElem (by omega)]
 rfl
theorem run_copy_part {P : Program} (w : World) (dT sT ty elem : TypeId) (g dLen dCap : Nat) (s : ByteArray) (A M C : List Value) (t : TypeId)
  (hu : P.underlying dT = some (.slice elem)) (hs : (P.info? elem).map (·.size) = some 1) (hg : Row w g (A ++ M ++ C).toArray t) (n : Nat) (hn : Nat.min s.size dLen = n) (hM : M.length = n) :
  (Builtin.copy_ #[dT, sT] ty #[.slice (some ⟨g, A.length, none⟩) dLen dCap, .string s]).run P w =
   .ok (goInt n) (w.setRow g (A ++ Lib.byteCells (s.data.toList.take n) ++ C).toArray) := by
 have hle : n ≤ s.size := by rw [← hn]; exact Nat.min_le_left _ _
 have hl : (Lib.byteCells (s.data.toList.take n)).length = n := by rw [Lib.byteCells_length, List.length_take, ← Lib.size_eq]; omega
 have hst := run_storeCells_at P g A.length t (Lib.byteCells (s.data.toList.take n)) 0 (A ++ M ++ C).toArray w hg (by rw [hl]; simp; omega) (Lib.byteCells_one _)
 rw [hl] at hst
 simp only [Nat.add_zero] at hst
 rw [show ((A ++ M ++ C).toArray.toList.take A.length ++ Lib.byteCells (s.data.toList.take n) ++ (A ++ M ++ C).toArray.toList.drop (A.length + n)) = A ++ Lib.byteCells (s.data.toList.take n) ++ C by
  simp [← hM, List.append_assoc, ← List.drop_drop]] at hst
 have hx : List.take n (List.map (fun b : UInt8 => Value.int IntKind.u8 (b.toNat : Int)) s.data.toList) = Lib.byteCells (s.data.toList.take n) := by
  rw [← List.map_take]; rfl
 cases hq : P.info? elem with
 | none => simp [hq] at hs
 | some i =>
  simp [Builtin.copy_, run_underlying hu, Builtin.lenOf, Builtin.firstCells, sizeOf, typeInfo, hq, hn]
  rw [hx, hst]
  simp [Result.andThen]
theorem Row.rangeA {W : World} {B : Nat} {T : TypeId} {A C : List Value} {M : Array Value} (h : Row W B (A ++ M.toList ++ C).toArray T) (n : Nat) (hn : A.length = n) : W.rangeAt B n M.toList := by subst hn; exact h.range
end Go.Proofs.YtlccihidedfemaaGreatDoor
set_option linter.unusedVariables false
namespace Go.Proofs.YtlccihidedfemaaGreatDoor
open Go.RowKit Go.Shelf
set_option maxHeartbeats 2000000 in
set_option maxRecDepth 100000 in
theorem WriteString_k_Bus (B b : Nat) (bs : List Value) (s : ByteArray) (w : World) (h : Lib.IsBuilderF 154 5 B b bs w) (hlen : bs.length + s.size ≤ 140737488355328) (hBw : B ≤ w.heap.size) :
  Calls Tryz.prog 126 #[.pointer (some ⟨b, 0, none⟩), .string s] w fun e w' => e = .returned (.tuple #[.int .i64 s.size, .nilIface]) ∧ (Lib.BuilderAtF 154 5 B b (.pointer (some ⟨b, 0, none⟩)) (bs ++ Lib.strCells s) w' ∧ Below B w w' ∧ Lib.OthersKept 5 (some b) w w') := by
 obtain ⟨i0, hi, hz0, hz1, hz2⟩ := info_parts infoByte
 go_enter Tryz.func126, Tryz.ntmps126
 go_wp2_with (go_at_call 146; refine (copyCheck_k B b bs _ h).mono ?_)
 rintro e w1 ⟨rfl, h1, hb1, hk1⟩
 obtain ⟨hB, v, hbk, hown, hne⟩ := h1
 have c0 : w1.cell? ⟨b, 0, none⟩ = some (.pointer (some ⟨b, 0, none⟩)) := by rw [Lib.cell_of_heap hbk]; rfl
 have c1 : w1.cell? ⟨b, 1, none⟩ = some v := by rw [Lib.cell_of_heap hbk]; rfl
 go_wp2_with (at_builtin; refine Lib.wpList_append_own_stringF _ rfl _ _ 83 9 rfl B 5 i0 Tryz.underlying83 Tryz.underlying9 hi hz0 hz1 hz2 _ _ _ rfl hown s rfl ?c3 ?c4 ?c5 ?_)
 case c3 => unfold maxLen; omega
 case c4 => omega
 case c5 => have := hb1.size; omega
 intro v' w2 hown' hgrow _
 have hlt : b < w1.heap.size := (Array.getElem?_eq_some_iff.1 hbk).1
 have hb2 : w2.heap[b]? = some (.cells #[.pointer (some ⟨b, 0, none⟩), v] 154 (0, 0)) := by
  rw [hgrow.block b hlt (fun e => hne e.symm)]
  exact hbk
 have d0 : w2.cell? ⟨b, 0, none⟩ = some (.pointer (some ⟨b, 0, none⟩)) := by rw [Lib.cell_of_heap hb2]; rfl
 have d1 : w2.cell? ⟨b, 1, none⟩ = some v := by rw [Lib.cell_of_heap hb2]; rfl
 have f1 : w2.frozen? ⟨b, 1, none⟩ = false := Lib.frozen_of_heap hb2 1
 obtain ⟨ao, n', cap, rfl⟩ : ∃ ao n' cap, v' = .slice ao n' cap := by
  rcases hown'.2 with ⟨hv, _⟩ | ⟨g, cap, cur, fz, hv, _⟩
  ·exact ⟨_, _, _, hv⟩
  ·exact ⟨_, _, _, hv⟩
 go_wp2
 go_ret2
 refine ⟨rfl, ?_, ?_, (hk1.grown hgrow (Lib.ownsRowF_kind hown)).setCell ⟨b, 1, none⟩ rfl _⟩
 ·exact Lib.BuilderAtF.put (T := 154) (e := 5) hB hb2 (bs' := bs ++ Lib.strCells s) (by simpa [Lib.strCells_length] using hown') (by decide)
 ·exact (hb1.grown hgrow (by have := hb1.size; omega) (fun k hk => (hown.lt k hk).1)).setCell (p := ⟨b, 1, none⟩) hB _
theorem size_mk (l : List UInt8) : (⟨l.toArray⟩ : ByteArray).size = l.length := by simp [ByteArray.size]
theorem builder_step {T e : TypeId} {B b : Nat} {bs : List Value} {w w' : World} (h : Lib.IsBuilderF T e B b bs w) (hb : Below w.heap.size w w') : Lib.IsBuilderF T e B b bs w' := by
 have hg : w.grownBy w' none := ⟨hb.os, hb.tape, hb.output, hb.size, fun k hk _ => hb.block k hk⟩
 have key : ∀ p, Lib.BuilderAtF T e B b p bs w → Lib.BuilderAtF T e B b p bs w' := by
  rintro p ⟨hB, v, hbk, hown, hne⟩
  refine ⟨hB, v, ?_, hown.kept hg ?_, hne⟩
  ·rw [hb.block b (Array.getElem?_eq_some_iff.1 hbk).1]; exact hbk
  ·cases hv : v.ownBlock with
   | none => exact .inl rfl
   | some g => exact .inr (by simp)
 exact h.imp (key _) (key _)
set_option maxHeartbeats 1000000 in
set_option maxRecDepth 100000 in
theorem Len_k (B b : Nat) (bs : List Value) (w : World) (h : Lib.IsBuilderF 154 5 B b bs w) :
  Calls Tryz.prog 175 #[.pointer (some ⟨b, 0, none⟩)] w fun e w' => e = .returned (.int .i64 bs.length) ∧ w = w' := by
 obtain ⟨p, hB, v, hbk, hown, hne⟩ : ∃ p, Lib.BuilderAtF 154 5 B b p bs w := by
  rcases h with h | h
  ·exact ⟨_, h⟩
  ·exact ⟨_, h⟩
 obtain ⟨ao, cap, rfl⟩ : ∃ ao cap, v = .slice ao bs.length cap := by
  rcases hown.2 with ⟨hv, h0⟩ | ⟨g, cap, cur, fz, hv, _⟩
  ·exact ⟨none, 0, by rw [hv, h0]⟩
  ·exact ⟨_, _, hv⟩
 have c1 : w.cell? ⟨b, 1, none⟩ = some (.slice ao bs.length cap) := by rw [Lib.cell_of_heap hbk]; rfl
 go_enter Tryz.func175, Tryz.ntmps175
 go_wp2
 go_ret
 exact ⟨rfl, rfl⟩
theorem sizeByte_Bum : (Tryz.prog.info? 5).map (fun i => i.size) = some 1 := by kernel_rfl
set_option maxHeartbeats 2000000 in
set_option maxRecDepth 1000000 in
theorem grow_fresh_Bum (B b n : Nat) (w : World) (hB : B ≤ b) (hbk : w.heap[b]? = some (.cells #[.pointer (some ⟨b, 0, none⟩), .slice none 0 0] 154 (0, 0))) (hBw : B ≤ w.heap.size) (hn : n ≤ 281474976710656) :
  Calls Tryz.prog 152 #[.pointer (some ⟨b, 0, none⟩), .int .i64 n] w fun e w' => e = .returned (.tuple #[]) ∧ (Lib.BuilderAt 154 5 B b (.pointer (some ⟨b, 0, none⟩)) [] w' ∧ Below B w w') := by
 obtain ⟨cs, hrun, hle, hmax⟩ := Lib.run_makeNoZero (P := Tryz.prog) w.drew #[3] 83 5 Tryz.underlying83 n hn
 have hw : IntKind.i64.wrap (IntKind.i64.wrap 0 + (n : Int)) = n := by
  rw [IntKind.wrap_i64, IntKind.wrap_i64]
  omega
 have hcall : (callFunc 169 #[.int .i64 (n : Int)]).run Tryz.prog w.drew = .ok (.value (.slice (some ⟨w.drew.heap.size, 0, none⟩) n cs.size)) (w.drew.drew.drew.alloc (.cells cs 5)) := by
  rw [run_callFunc_extern Tryz.func169 (by kernel_rfl) (by kernel_rfl) (by kernel_rfl) (e := Extern.BytealgMakeNoZero.makeNoZero #[3] #[83]) (by kernel_rfl), hrun]
  rfl
 have hlt : b < w.heap.size := (Array.getElem?_eq_some_iff.1 hbk).1
 have c1 : w.drew.cell? ⟨b, 1, none⟩ = some (.slice none 0 0) := by
  have : w.drew.heap[b]? = _ := hbk
  rw [Lib.cell_of_heap this]; rfl
 have c2 : (w.alloc (.cells cs 5)).cell? ⟨b, 1, none⟩ = some (.slice none 0 0) := by
  have : (w.alloc (.cells cs 5)).heap[b]? = _ := (Lib.alloc_old w _ b hlt).trans hbk
  rw [Lib.cell_of_heap this]; rfl
 have f2 : (w.alloc (.cells cs 5)).frozen? ⟨b, 1, none⟩ = false := Lib.frozen_of_heap ((Lib.alloc_old w _ b hlt).trans hbk) 1
 have hcopy : ∀ W : World, (Builtin.copy_ #[83, 83] 3 #[.slice (some ⟨w.heap.size, 0, none⟩) 0 cs.size, .slice none 0 0]).run Tryz.prog W = .ok (goInt 0) W :=
  fun W => run_copy_none W 83 83 3 5 _ _ 0 cs.size 0 0 Tryz.underlying83 sizeByte_Bum rfl
 go_enter Tryz.func152, Tryz.ntmps152
 go_wp2
 have hfin := Lib.grown_fresh (T := 154) (e := 5) (cs := cs) hB hbk hBw (hmax (by unfold maxLen; omega)) (by decide)
 go_region
 all_goals (go_wp2; go_end0; exact ⟨rfl, by first | exact hfin | (rw [World.setCell_alloc_past _ b 1 _ hlt] at hfin; exact hfin)⟩)
set_option maxHeartbeats 2000000 in
set_option maxRecDepth 1000000 in
theorem Grow_fresh_Bum (B b n : Nat) (w : World) (hB : B ≤ b) (hbk : w.heap[b]? = some (.cells #[.pointer none, .slice none 0 0] 154 (0, 0))) (hBw : B ≤ w.heap.size) (hn1 : 1 ≤ n) (hn : n ≤ 281474976710656) :
  Calls Tryz.prog 136 #[.pointer (some ⟨b, 0, none⟩), .int .i64 n] w fun e w' => e = .returned (.tuple #[]) ∧ (Lib.BuilderAt 154 5 B b (.pointer (some ⟨b, 0, none⟩)) [] w' ∧ Below B w w') := by
 have h0 : w.cell? ⟨b, 0, none⟩ = some (.pointer none) := by rw [Lib.cell_of_heap hbk]; rfl
 have hsh : w.shape? b = some (154, 2) := by unfold World.shape?; rw [hbk]; rfl
 have hfz : w.frozen? ⟨b, 0, none⟩ = false := Lib.frozen_of_heap hbk 0
 have hbk1 : (w.setCell ⟨b, 0, none⟩ (.pointer (some ⟨b, 0, none⟩))).heap[b]? = some (.cells #[.pointer (some ⟨b, 0, none⟩), .slice none 0 0] 154 (0, 0)) := by
  simp [World.setCell, Array.getElem?_modify, hbk]
 have c1 : (w.setCell ⟨b, 0, none⟩ (.pointer (some ⟨b, 0, none⟩))).cell? ⟨b, 1, none⟩ = some (.slice none 0 0) := by rw [Lib.cell_of_heap hbk1]; rfl
 have hb1 : Below B w (w.setCell ⟨b, 0, none⟩ (.pointer (some ⟨b, 0, none⟩))) := (Below.refl B w).setCell (p := ⟨b, 0, none⟩) hB _
 obtain ⟨W1, hW1⟩ : ∃ W1, W1 = w.setCell ⟨b, 0, none⟩ (.pointer (some ⟨b, 0, none⟩)) := ⟨_, rfl⟩
 have CC := Lib.hid (copyCheck_fresh b w h0 hsh hfz)
 rw [← hW1] at hbk1 c1 hb1 CC
 have HB := Lib.hid hbk1
 have hp : (0 : Int) < (n : Int) := by omega
 clear hW1 hbk1 h0 hsh hfz
 go_enter Tryz.func136, Tryz.ntmps136
 go_wp2_with fail
 refine CC.out.mono ?_
 rintro e w1 ⟨rfl, rfl⟩
 go_wp2_with fail
 go_quiet (fail)
 go_wp2_with fail
 have hbk2 : (w1.drewN nq).heap[b]? = some (.cells #[.pointer (some ⟨b, 0, none⟩), .slice none 0 0] 154 (0, 0)) := HB.out
 refine (grow_fresh_Bum B b n _ hB hbk2 (Nat.le_trans hBw hb1.size) hn).mono ?_
 rintro e w2 ⟨rfl, hA, hb2⟩
 go_wp2_with fail
 go_end0
 exact ⟨rfl, hA, (below_drewN hb1 nq).trans hb2⟩
theorem run_min3 {P : Program} {w : World} (ts : Array TypeId) (t : TypeId) (x y z : Int) :
  (Builtin.min_ ts t #[.int .i64 x, .int .i64 y, .int .i64 z]).run P w = .ok (.int .i64 (if z < (if y < x then y else x) then z else (if y < x then y else x))) w := by
 simp [Builtin.min_, Builtin.min2]
set_option maxHeartbeats 2000000 in
set_option maxRecDepth 100000 in
theorem Mul64_one (c : Nat) (hc : c < 4294967296) (w : World) : Calls Tryz.prog 186 #[.int .u64 1, .int .u64 c] w fun e w' => e = .returned (.tuple #[.int .u64 0, .int .u64 c]) ∧ w = w' := by
 have e1 : bits .and .u64 1 4294967295 = 1 := by decide
 have e2 : bits .and .u64 (c : Int) 4294967295 = (c : Int) := by
  have := u64_and_nat c 4294967295 (by omega) (by decide)
  rw [nat_mask32, Nat.mod_eq_of_lt hc] at this
  exact this
 have e3 : (c : Int) / 4294967296 = 0 := by omega
 have e4 : bits .and .u64 0 4294967295 = 0 := by decide
 go_enter Tryz.func186, Tryz.ntmps186
 go_wp2
 go_ret2
 exact ⟨rfl, rfl⟩
set_option maxHeartbeats 2000000 in
set_option maxRecDepth 100000 in
theorem Mul_one (c : Nat) (hc : c < 4294967296) (w : World) : Calls Tryz.prog 173 #[.int .u64 1, .int .u64 c] w fun e w' => e = .returned (.tuple #[.int .u64 0, .int .u64 c]) ∧ w = w' := by
 go_enter Tryz.func173, Tryz.ntmps173
 go_wp2_with fail
 refine (Mul64_one c hc _).mono ?_
 rintro e w1 ⟨rfl, rfl⟩
 go_wp2_with fail
 go_ret2
 exact ⟨rfl, rfl⟩
def zeros (c : Nat) : ByteArray := ⟨(List.replicate c (0 : UInt8)).toArray⟩
set_option maxHeartbeats 4000000 in
set_option maxRecDepth 100000 in
theorem Repeat_zero (c : Nat) (hc : c ≤ 64) (w : World) : Calls Tryz.prog 159 #[.string ⟨#[0]⟩, .int .i64 c] w fun e w' => e = .returned (.string (zeros c)) ∧ Below w.heap.size w w' := by
 by_cases h0 : c = 0
 ·subst h0
  go_enter Tryz.func159, Tryz.ntmps159
  go_wp2
  go_ret
  exact ⟨rfl, Below.refl _ _⟩
 ·by_cases h1 : c = 1
  ·subst h1
   go_enter Tryz.func159, Tryz.ntmps159
   go_wp2
   go_ret
   exact ⟨rfl, Below.refl _ _⟩
  ·have hb0 : ((c : Int) == 0) = false := by rw [beq_eq_false_iff_ne]; omega
   have hb1 : ((c : Int) == 1) = false := by rw [beq_eq_false_iff_ne]; omega
   have hb2 : ¬ (c : Int) < 0 := by omega
   have hb3 : ¬ (9223372036854775807 : Int) < (c : Int) := by omega
   have hb4 : ¬ (8192 : Int) < (c : Int) := by omega
   have hb5 : decide ((9223372036854775807 : Int) < (c : Int)) = false := by simpa using (show ¬ (9223372036854775807 : Int) < (c : Int) by omega)
   have hb6 : decide ((8192 : Int) < (c : Int)) = false := by simpa using (show ¬ (8192 : Int) < (c : Int) by omega)
   have hb7 : decide ((c : Int) < 0) = false := by simp
   have hu : IntKind.u64.wrap (c : Int) = (c : Int) := by show (c : Int) % 18446744073709551616 = _; omega
   have hi : IntKind.i64.wrap (c : Int) = (c : Int) := by rw [IntKind.wrap_i64]; omega
   go_enter Tryz.func159, Tryz.ntmps159
   go_wp2_with fail
   refine (Mul_one c (by omega) _).mono ?_
   rintro e w1 ⟨rfl, rfl⟩
   go_wp2_with fail
   have b0 : Below w.heap.size w (w.alloc (.cells #[.pointer none, .slice none 0 0] 154)) := (Below.refl _ w).alloc (Nat.le_refl _) _
   refine (Grow_fresh_Bum w.heap.size w.heap.size c _ (Nat.le_refl _) (heap_alloc_new _ _) b0.size (by omega) (by omega)).mono ?_
   rintro e W1 ⟨rfl, hA, hbg⟩
   have b1 := b0.trans hbg
   have HA := Lib.hid hA
   clear hA b0 hbg
   go_wp2_with fail
   refine (WriteString_k_Bus w.heap.size w.heap.size [] ⟨#[0]⟩ _ (Lib.IsBuilderF.of (Or.inr HA.out)) (by decide) b1.size).mono ?_
   rintro e W2 ⟨rfl, h2, hb2', _⟩
   have b2 := b1.trans hb2'
   have h2' : Lib.IsBuilderF 154 5 w.heap.size w.heap.size (Lib.byteCells (List.replicate 1 (0 : UInt8))) W2 := Or.inr h2
   have H2 := Lib.hid h2'
   clear HA b1 hb2' h2 h2'
   go_wp2_with fail
   go_loopg [] (c - 1) (fun g wx => ∃ q : Nat, 1 ≤ q ∧ q + g = c ∧ Lib.IsBuilderF 154 5 w.heap.size w.heap.size (Lib.byteCells (List.replicate q (0 : UInt8))) wx ∧ Below w.heap.size w wx)
   case atStart => exact ⟨1, Nat.le_refl _, by omega, H2.out, b2⟩
   case round =>
    obtain ⟨q, hq1, hqg, hB, hbx⟩ := hrel
    clear H2 b2
    have hlen : (Lib.byteCells (List.replicate q (0 : UInt8))).length = q := by rw [Lib.byteCells_length, List.length_replicate]
    have CL := Lib.hid (Len_k w.heap.size w.heap.size _ wr hB)
    rw [hlen] at CL
    have hne : List.replicate q (0 : UInt8) ≠ [] := by
     intro e
     have := congrArg List.length e
     rw [List.length_replicate] at this
     simp at this; omega
    have CS := Lib.hid (String_full_k w.heap.size w.heap.size (List.replicate q (0 : UInt8)) wr hB hne)
    obtain ⟨S, hS⟩ : ∃ S : ByteArray, S = ⟨(List.replicate q (0 : UInt8)).toArray⟩ := ⟨_, rfl⟩
    have hSs : S.size = q := by rw [hS]; simp [ByteArray.size]
    rw [← hS] at CS
    have HS := Lib.hid hS
    have HB := Lib.hid hB
    clear hB hne hlen hS
    cases gk with
    | zero =>
     obtain rfl : q = c := by omega
     have hlt : decide ((q : Int) < (q : Int)) = false := by simp
     go_wp2_with fail
     refine CL.out.mono ?_
     rintro e W3 ⟨rfl, rfl⟩
     go_wp2_with fail
     refine CS.out.mono ?_
     rintro e W4 ⟨rfl, h4, hb4, _⟩
     go_wp2_with fail
     go_ret
     exact ⟨congrArg (fun x => Ending.returned (.string x)) HS.out, hbx.trans hb4⟩
    | succ g =>
     have hqc : q < c := by omega
     have hlt : decide ((q : Int) < (c : Int)) = true := by simpa using hqc
     obtain ⟨k, hk⟩ : ∃ k, k = min (c - q) q := ⟨_, rfl⟩
     have hk1 : 1 ≤ k := by omega
     have hk2 : k ≤ q := by omega
     have hk3 : q + k ≤ c := by omega
     have hmin : ∀ (ts : Array TypeId) (t : TypeId) (W : World), (Builtin.min_ ts t #[.int .i64 ((c : Int) - (q : Int)), .int .i64 (q : Int), .int .i64 (c : Int)]).run Tryz.prog W = .ok (.int .i64 (k : Int)) W := fun ts t W => by
      rw [run_min3]
      congr 2
      split <;> split <;> omega
     have hsub : IntKind.i64.wrap ((c : Int) - (q : Int)) = (c : Int) - (q : Int) := by rw [IntKind.wrap_i64]; omega
     have hd := fun W => run_slice_to (P := Tryz.prog) Tryz.underlying9 S k (by omega) W
     clear hk
     go_wp2_with fail
     refine CL.out.mono ?_
     rintro e W3 ⟨rfl, rfl⟩
     go_wp2_with fail
     refine CL.out.mono ?_
     rintro e W3 ⟨rfl, rfl⟩
     go_wp2_with fail
     refine CL.out.mono ?_
     rintro e W3 ⟨rfl, rfl⟩
     go_wp2_with fail
     refine CS.out.mono ?_
     rintro e W4 ⟨rfl, h4, hb4, _⟩
     go_wp2_with fail
     refine (WriteString_k_Bus w.heap.size w.heap.size _ (S.extract 0 k) _ h4 ?_ (Nat.le_trans hbx.size hb4.size)).mono ?_
     ·rw [Lib.byteCells_length, List.length_replicate, ByteArray.size_extract]; omega
     rintro e W5 ⟨rfl, h5, hb5', _⟩
     go_wp2_with fail
     go_roundg (c - (q + k))
     case measure => omega
     case rel =>
      refine ⟨q + k, by omega, by omega, Or.inr ?_, (hbx.trans hb4).trans hb5'⟩
      have e : Lib.byteCells (List.replicate q (0 : UInt8)) ++ Lib.strCells (S.extract 0 k) = Lib.byteCells (List.replicate (q + k) (0 : UInt8)) := by
       rw [Lib.strCells_eq, ← Lib.byteCells_append, Lib.extract_data, HS.out]
       simp only [List.drop_zero, Nat.sub_zero]
       rw [List.take_replicate, Nat.min_eq_left hk2, List.replicate_append_replicate]
      rw [e] at h5
      exact h5
end Go.Proofs.YtlccihidedfemaaGreatDoor
set_option linter.unusedVariables false
namespace Go.Proofs.YtlccihidedfemaaGreatDoor
open Go.RowKit
def Loose (fz : Nat × Nat) (n : Nat) : Prop := ∀ i, i < n → (decide (fz.1 ≤ i) && decide (i < fz.2)) = false
theorem loose_zero (n : Nat) : Loose (0, 0) n := fun i _ => by simp
theorem loose_edge (n : Nat) : Loose (n, n + 1) n := fun i h => by simp; omega
theorem frozen_loose {w : World} {g i : Nat} {cur : Array Value} {t : TypeId} {fz : Nat × Nat} (hg : w.heap[g]? = some (.cells cur t fz)) (hf : Loose fz cur.size) (hi : i < cur.size) : w.frozen? ⟨g, i, none⟩ = false := by
 have := hf i hi
 simp only [World.frozen?, hg]
 simpa using this
theorem run_storeCells_atE (P : Program) (g o : Nat) (t : TypeId) (fz : Nat × Nat) : ∀ (vs : List Value) (i : Nat) (cur : Array Value) (w : World), w.heap[g]? = some (.cells cur t fz) → Loose fz cur.size → o + i + vs.length ≤ cur.size → (∀ v ∈ vs, v.oneCell' = true) →
  (storeCells ⟨g, o, none⟩ vs i).run P w = .ok () (w.setRow g (cur.toList.take (o + i) ++ vs ++ cur.toList.drop (o + i + vs.length)).toArray)
 | [], i, cur, w, hg, _, _, _ => by
  simp only [storeCells, List.append_nil, List.length_nil, Nat.add_zero, List.take_append_drop, Array.toArray_toList]
  rw [setRow_self w g cur t fz hg]
  rfl
 | v :: rest, i, cur, w, hg, hf, hl, h1 => by
  have hi : o + i < cur.size := by simp at hl; omega
  have hadd : (⟨g, o, none⟩ : Addr).add i = ⟨g, o + i, none⟩ := by unfold Addr.add; split <;> simp_all
  have hcell : w.cell? ⟨g, o + i, none⟩ = some cur[o + i] := by simp [World.cell?, hg, hi]
  have hfro := frozen_loose hg hf hi
  have hst : (store ((⟨g, o, none⟩ : Addr).add i) v).run P w = .ok () (w.setRow g (cur.setIfInBounds (o + i) v)) := by
   rw [hadd, run_store P w _ v _ (h1 v (by simp)), hcell]
   simp [hfro, setCell_eq_setRow w g (o + i) cur t fz v hg]
  have ih := run_storeCells_atE P g o t fz rest (i + 1) (cur.setIfInBounds (o + i) v) (w.setRow g (cur.setIfInBounds (o + i) v)) (setRow_heap w g cur _ t _ hg) (by simpa using hf) (by simp at hl ⊢; omega) (fun x hx => h1 x (by simp [hx]))
  simp only [storeCells, Sem.run_bind, hst, Result.andThen_ok, ih, setRow_setRow]
  congr 3
  have e := list_seg_step cur.toList (o + i) v rest (by simp at hl ⊢; omega)
  simpa [Array.toList_setIfInBounds, Nat.add_assoc] using e
def ownsE (w : World) (base : Nat) (e : TypeId) (v : Value) (n : Nat) (xs : List Value) : Prop :=
 xs.length = n ∧ ∃ g cap cur fz, v = .slice (some ⟨g, 0, none⟩) n cap ∧ base ≤ g ∧ w.heap[g]? = some (.cells cur e fz) ∧ Loose fz cur.size ∧ n ≤ cap ∧ cap ≤ maxLen ∧ cur.size = cap ∧ cur.toList.take n = xs
theorem ownsE.cells {w : World} {base : Nat} {e : TypeId} {v : Value} {n : Nat} {xs : List Value} (h : ownsE w base e v n xs) : ∃ g cap, v = .slice (some ⟨g, 0, none⟩) n cap ∧ base ≤ g ∧ g < w.heap.size ∧ n ≤ cap ∧ ∀ j u, xs[j]? = some u → w.cell? ⟨g, j, none⟩ = some u := by
 obtain ⟨hl, g, cap, cur, fz, rfl, hb, hg, hf, hc, hm, hs, ht⟩ := h
 refine ⟨g, cap, rfl, hb, (Array.getElem?_eq_some_iff.1 hg).1, hc, fun j u hj => ?_⟩
 rw [cell_of_row w g j _ _ _ hg]
 have hjn : j < n := by rw [← hl]; exact (List.getElem?_eq_some_iff.1 hj).1
 rw [← ht, List.getElem?_take, if_pos hjn] at hj
 rw [← hj]; simp
theorem ownsE.step {w w' : World} {base : Nat} {e : TypeId} {v : Value} {n : Nat} {xs : List Value} (h : ownsE w base e v n xs) (hb : Below w.heap.size w w') : ownsE w' base e v n xs := by
 obtain ⟨hl, g, cap, cur, fz, rfl, h1, hg, h2⟩ := h
 exact ⟨hl, g, cap, cur, fz, rfl, h1, by rw [hb.block g (Array.getElem?_eq_some_iff.1 hg).1]; exact hg, h2⟩
theorem ownsE_conv (w : World) (e : TypeId) (s : ByteArray) (hs : s.size ≤ maxLen) (base : Nat) (hb : base ≤ w.heap.size) :
  ownsE (w.drew.alloc (.cells (bytesRow s (grownCap w s.size 0 e)) e ((bytesRow s (grownCap w s.size 0 e)).size, (bytesRow s (grownCap w s.size 0 e)).size + 1))) base e (.slice (some ⟨w.heap.size, 0, none⟩) s.size (grownCap w s.size 0 e)) s.size (s.data.toList.map fun b : UInt8 => Value.int .u8 (b.toNat : Int)) := by
 have hge := grownCap_ge w s.size 0 e
 refine ⟨by rw [List.length_map]; rfl, w.heap.size, _, _, _, rfl, hb, heap_alloc_new w.drew _, loose_edge _, hge, grownCap_le_maxLen w _ _ e hs, ?_, ?_⟩
 ·simp [bytesRow] at hge ⊢; omega
 ·have h1 : s.data.toList.length = s.size := by rw [Array.length_toList]; rfl
  simp [bytesRow]
theorem run_append_ownE {P : Program} (w : World) (base : Nat) (t ty e : TypeId) (i : TypeInfo) (z : Value) (ht : P.underlying t = some (.slice e)) (hi : P.info? e = some i) (hz : i.zero = some z)
  (hsize : i.size = 1) (hby : i.bytes = 1) (hzs : z.cells.size = 1)
  (v : Value) (n : Nat) (xs : List Value) (hown : ownsE w base e v n xs)
  (a : Addr) (m c : Nat) (news : List Value) (hl : news.length = m) (hnews : ∀ j u, news[j]? = some u → w.cell? (a.add j) = some u) (h1 : ∀ u ∈ news, u.oneCell' = true)
  (h63 : n + m ≤ 140737488355328) (hbase : base ≤ w.heap.size) :
  ∃ v' w', (Builtin.append_ #[t, t] ty #[v, .slice (some a) m c]).run P w = .ok v' w' ∧ ownsE w' base e v' (n + m) (xs ++ news) ∧ w.grownBy w' v.ownBlock := by
 obtain ⟨hxl, g, cap, cur, fz, rfl, hbg, hg, hf, hnc, hcm, hcs, htake⟩ := hown
 have hlen : (xs ++ news).length = n + m := by rw [List.length_append, hxl, hl]
 by_cases hroom : n + m ≤ cap
 ·have hfit : n + 0 + news.length ≤ cur.size := by rw [hl, hcs]; omega
  have hfc := run_firstCells_some (P := P) w i.size m a m c news (by rw [hsize, hl, Nat.mul_one]) hnews
  have hst := run_storeCells_atE P g n e fz news 0 cur w hg hf hfit h1
  simp only [Nat.add_zero] at hst
  have hr : (Builtin.append_ #[t, t] ty #[.slice (some ⟨g, 0, none⟩) n cap, .slice (some a) m c]).run P w = .ok (.slice (some ⟨g, 0, none⟩) (n + m) cap) (w.setRow g (cur.toList.take n ++ news ++ cur.toList.drop (n + news.length)).toArray) := by
   rw [hsize] at hfc
   simp [Builtin.append_, run_underlying ht, sizeOf, typeInfo, hi, hsize, Builtin.lenOf, hroom, hfc, Addr.add_lit, hst]
  have hsz : (cur.toList.take n ++ news ++ cur.toList.drop (n + news.length)).toArray.size = cur.size := by
   simp only [List.size_toArray, List.length_append, List.length_take, List.length_drop, Array.length_toList]
   omega
  refine ⟨_, _, hr, ⟨hlen, g, cap, _, fz, rfl, hbg, setRow_heap w g cur _ e _ hg, by rw [hsz]; exact hf, hroom, hcm, by rw [hsz]; exact hcs, ?_⟩, ⟨rfl, rfl, rfl, by simp, fun k _ hk => setRow_other w g k _ (fun e => hk (by simp [Value.ownBlock, e]))⟩⟩
  rw [htake, ← hlen]
  exact List.take_left
 ·have holds : ∀ j u, xs[j]? = some u → w.cell? ((⟨g, 0, none⟩ : Addr).add j) = some u := fun j u hj => by
   have e1 : (⟨g, 0, none⟩ : Addr).add j = ⟨g, j, none⟩ := by unfold Addr.add; split <;> simp_all
   rw [e1, cell_of_row w g j _ _ _ hg]
   have hjn : j < n := by rw [← hxl]; exact (List.getElem?_eq_some_iff.1 hj).1
   rw [← htake, List.getElem?_take, if_pos hjn] at hj
   rw [← hj]; simp
  have hr := run_append_grow (P := P) w t ty e i z ht hi hz ⟨g, 0, none⟩ n cap xs (by rw [hsize, Nat.mul_one]; exact hxl) holds a m c news (by rw [hsize, Nat.mul_one]; exact hl) hnews (by omega) (by omega) (growslice_fits (by omega) (by rw [hby]; omega))
  have hge := grownCap_ge w (n + m) cap e
  have hcm2 : grownCap w (n + m) cap e ≤ maxLen := grownCap_le_maxLen w (n + m) cap e (by unfold maxLen; omega)
  refine ⟨_, _, hr, ⟨hlen, w.heap.size, _, _, _, rfl, hbase, heap_alloc_new w.drew _, loose_zero _, hge, hcm2, ?_, ?_⟩, ⟨rfl, rfl, rfl, by simp, fun k hk _ => by show (w.heap.push _)[k]? = _; rw [Array.getElem?_push, if_neg (Nat.ne_of_lt hk)]⟩⟩
  ·simp only [Array.size_append, List.size_toArray, size_zeroCells, hzs, hxl, hl]
   omega
  ·simp only [Array.toList_append, List.append_assoc]
   rw [← List.append_assoc, ← hlen]
   exact List.take_left
theorem wpList_append_ownE {P : Program} {w : World} {ops : Array Oper} {rest : List Oper} {o : Oper} {a : Act} {Q : Exit → Act → World → Prop} (hgd : o.guard = none) (s x : Operand) (t : TypeId)
  (ho : o.op = .call { callee := .builtin .append, args := #[s, x], argTypes := #[t, t] })
  (base : Nat) (e : TypeId) (i : TypeInfo) (z : Value) (ht : P.underlying t = some (.slice e)) (hi : P.info? e = some i) (hz : i.zero = some z)
  (hsize : i.size = 1) (hby : i.bytes = 1) (hzs : z.cells.size = 1)
  (v : Value) (n : Nat) (xs : List Value) (hs : a.eval s = v) (hown : ownsE w base e v n xs)
  (ad : Addr) (m c : Nat) (news : List Value) (hx : a.eval x = .slice (some ad) m c) (hl : news.length = m) (hnews : ∀ j u, news[j]? = some u → w.cell? (ad.add j) = some u) (h1 : ∀ u ∈ news, u.oneCell' = true)
  (h63 : n + m ≤ 140737488355328) (hbase : base ≤ w.heap.size)
  (h : ∀ v' w', ownsE w' base e v' (n + m) (xs ++ news) → w.grownBy w' v.ownBlock → wpList P ops Q rest (a.put o.dst v') w') : wpList P ops Q (o :: rest) a w :=
 wpList_plain hgd fun _ hK => by
  obtain ⟨v', w', hr, h2, h3⟩ := run_append_ownE (P := P) w base t o.type e i z ht hi hz hsize hby hzs v n xs hown ad m c news hl hnews h1 h63 hbase
  unfold Oper.wp execOp
  simp only [ho, resolve, invoke, builtin, Sem.run_bind, Sem.run_pure, Result.andThen_ok, List.map_toArray, List.map_cons, List.map_nil, hs, hx, hr]
  exact hK _ _ (h v' w' h2 h3)
theorem ownsE.below {w w1 w' : World} {base : Nat} {e : TypeId} {v : Value} {n : Nat} {xs : List Value} (h : ownsE w base e v n xs) (hb : Below base w1 w) (hz : base ≤ w.heap.size) (hg : w.grownBy w' v.ownBlock) : Below base w1 w' := by
 obtain ⟨hl, g, cap, cur, fz, rfl, h1, _⟩ := h
 exact hb.grown hg hz (fun k hk => by simp [Value.ownBlock] at hk; omega)
end Go.Proofs.YtlccihidedfemaaGreatDoor
set_option linter.unusedVariables false
namespace Go.Proofs.YtlccihidedfemaaGreatDoor
open Go.RowKit
attribute [local go_sem] Oper.semAt_some
theorem grownBy_set (w : World) (b i : Nat) (u : Value) : w.grownBy (w.setCell ⟨b, i, none⟩ u) (some b) :=
 ⟨rfl, rfl, rfl, by simp [World.setCell], fun k hk hr => Below.heap_setCell _ _ _ _ (fun e => hr (by rw [e]))⟩
theorem Row.turned {w w' : World} {b B : Nat} {xs : Array Value} {T : TypeId} (h : Row w B xs T) (hg : w.grownBy w' (some b)) (hne : B ≠ b) : Row w' B xs T := by
 unfold Row; rw [hg.block B h.lt (fun e => hne (by cases e; rfl))]; exact h
end Go.Proofs.YtlccihidedfemaaGreatDoor
set_option linter.unusedVariables false
namespace Go.Proofs.YtlccihidedfemaaGreatDoor
theorem sum_add {α : Type} (f g : α → Nat) : ∀ L : List α, (L.map fun x => f x + g x).sum = (L.map f).sum + (L.map g).sum
 | [] => rfl
 | x :: L => by simp only [List.map_cons, List.sum_cons, sum_add f g L]; omega
theorem sum_le {α : Type} {f g : α → Nat} : ∀ {L : List α}, (∀ x ∈ L, f x ≤ g x) → (L.map f).sum ≤ (L.map g).sum
 | [], _ => Nat.le_refl _
 | x :: L, h => by
  have h1 := h x (by simp)
  have h2 := sum_le fun y hy => h y (List.mem_cons_of_mem x hy)
  simp only [List.map_cons, List.sum_cons]; omega
theorem sum_zero {α : Type} : ∀ L : List α, (L.map fun _ => 0).sum = 0
 | [] => rfl
 | _ :: L => by simp only [List.map_cons, List.sum_cons, sum_zero L]
theorem sum_swap {α β : Type} (f : α → β → Nat) (M : List β) : ∀ L : List α, (L.map fun x => (M.map fun y => f x y).sum).sum = (M.map fun y => (L.map fun x => f x y).sum).sum
 | [] => by simp only [List.map_nil, List.sum_nil]; exact (sum_zero M).symm
 | x :: L => by
  simp only [List.map_cons, List.sum_cons]
  rw [sum_swap f M L, ← sum_add]
theorem sum_mem {α : Type} {f : α → Nat} {x : α} : ∀ {L : List α}, x ∈ L → f x ≤ (L.map f).sum
 | y :: L, h => by
  simp only [List.map_cons, List.sum_cons]
  rcases List.mem_cons.1 h with rfl | h
  ·omega
  ·have := sum_mem (f := f) h; omega
def wI (x : It) : Nat := x.b.length + 1
def inP (A B : List (List UInt8)) : Bool := decide (A.length < B.length ∧ B.take A.length = A)
def beg (A B : List (List UInt8)) : Bool := decide (A.length ≤ B.length ∧ B.take A.length = A)
def wBelow (I : List It) (A : List (List UInt8)) : Nat := (I.map fun y => if inP A (cs y.t) then wI y else 0).sum
theorem below_self {I : List It} {x : It} (hx : x ∈ I) : wI x + wBelow I (cs x.t) ≤ (I.map fun y => if beg (cs x.t) (cs y.t) then wI y else 0).sum := by
 have h1 : (I.map fun y => if beg (cs x.t) (cs y.t) then wI y else 0).sum = (I.map fun y => (if cs y.t = cs x.t then wI y else 0) + if inP (cs x.t) (cs y.t) then wI y else 0).sum := by
  congr 1
  refine List.map_congr_left fun y _ => ?_
  by_cases h2 : cs y.t = cs x.t
  ·have hb : beg (cs x.t) (cs y.t) = true := decide_eq_true ⟨by rw [h2]; exact Nat.le_refl _, by rw [h2, List.take_length]⟩
   have hp : inP (cs x.t) (cs y.t) = false := decide_eq_false fun h => by have := h.1; rw [h2] at this; omega
   rw [hb, hp, if_pos h2]; simp
  ·by_cases h3 : inP (cs x.t) (cs y.t) = true
   ·have h4 := of_decide_eq_true h3
    have hb : beg (cs x.t) (cs y.t) = true := decide_eq_true ⟨Nat.le_of_lt h4.1, h4.2⟩
    rw [hb, h3, if_neg h2]; simp
   ·have hb : beg (cs x.t) (cs y.t) = false := decide_eq_false fun h => by
     rcases Nat.lt_or_ge (cs x.t).length (cs y.t).length with h5 | h5
     ·exact h3 (decide_eq_true ⟨h5, h.2⟩)
     ·have := h.2
      rw [List.take_of_length_le h5] at this
      exact h2 this
    rw [hb, if_neg h2]
    have : inP (cs x.t) (cs y.t) = false := by simpa using h3
    rw [this]; simp
 rw [h1, sum_add]
 have h6 := sum_mem (f := fun y => if cs y.t = cs x.t then wI y else 0) hx
 rw [if_pos rfl] at h6
 unfold wBelow
 omega
theorem one_only {I : List It} (F : TFit I) (d : List UInt8) (y : It) : ((inD I d).map fun x => if beg (cs x.t) (cs y.t) then wI y else 0).sum ≤ if inP (cs d) (cs y.t) then wI y else 0 := by
 have key : ∀ X : List It, (∀ x ∈ X, x ∈ inD I d) → Rise X → (X.map fun x => if beg (cs x.t) (cs y.t) then wI y else 0).sum ≤ if inP (cs d) (cs y.t) then wI y else 0 := by
  intro X
  induction X with
  | nil => intro _ _; exact Nat.zero_le _
  | cons x X ih =>
   intro hX hr
   obtain ⟨hr1, hr2⟩ := rise_cons.1 hr
   have hx := mem_inD.1 (hX x (by simp))
   have ex := (dir_iff (F.path x hx.1)).1 hx.2
   simp only [List.map_cons, List.sum_cons]
   by_cases hb : beg (cs x.t) (cs y.t) = true
   ·have h1 := of_decide_eq_true hb
    have hp : inP (cs d) (cs y.t) = true := decide_eq_true (by
     have h2 := h1.1
     rw [ex, List.length_append] at h2
     refine ⟨by simp at h2; omega, ?_⟩
     have h3 := congrArg (List.take (cs d).length) h1.2
     rw [List.take_take, ex] at h3
     rw [List.length_append, List.take_left] at h3
     rwa [Nat.min_eq_left (by omega)] at h3)
    have hz : (X.map fun x => if beg (cs x.t) (cs y.t) then wI y else 0).sum = 0 := by
     have : X.map (fun x => if beg (cs x.t) (cs y.t) then wI y else 0) = X.map fun _ => 0 := List.map_congr_left fun u hu => by
      refine if_neg fun hbu => ?_
      have hu2 := mem_inD.1 (hX u (List.mem_cons_of_mem _ hu))
      have eu := (dir_iff (F.path u hu2.1)).1 hu2.2
      have h4 := of_decide_eq_true hbu
      have hl : (cs u.t).length = (cs x.t).length := by rw [eu, ex]; simp
      have he : cs u.t = cs x.t := by rw [← h4.2, ← h1.2, hl]
      have := hr1 u hu
      rw [cs_inj he, order_self] at this
      cases this
     rw [this]; exact sum_zero X
    rw [hz, if_pos hb, if_pos hp]; omega
   ·rw [if_neg hb, Nat.zero_add]
    exact ih (fun u hu => hX u (List.mem_cons_of_mem _ hu)) hr2
 exact key _ (fun x hx => hx) (rise_filter F.rise _)
theorem flat_len {α β : Type} (f : α → List β) : ∀ L : List α, (L.flatMap f).length = (L.map fun x => (f x).length).sum
 | [] => rfl
 | x :: L => by rw [List.flatMap_cons, List.length_append, flat_len f L]; simp
theorem seqF_len {c : List UInt8 → Nat} {I : List It} (R : ReadyT c I) (x : It) : (seqF c x.b).length ≤ wI x := by
 obtain ⟨mn, mx, H, _⟩ := R.cut
 unfold seqF wI
 have := pcs_len H.pos x.b.length x.b (Nat.le_refl _)
 simp; omega
theorem seqD_len {c : List UInt8 → Nat} {I : List It} (R : ReadyT c I) : ∀ (k : Nat) (d : List UInt8), (seqD c I k d).length ≤ 1 + wBelow I (cs d)
 | 0, d => by show 1 ≤ _; omega
 | k + 1, d => by
  show (((inD I d).flatMap fun x => if x.d then seqD c I k x.t else seqF c x.b) ++ [dirN c I (k + 1) d]).length ≤ _
  rw [List.length_append, flat_len]
  have h1 : ((inD I d).map fun x => (if x.d then seqD c I k x.t else seqF c x.b).length).sum ≤ ((inD I d).map fun x => (I.map fun y => if beg (cs x.t) (cs y.t) then wI y else 0).sum).sum := sum_le fun x hx => by
   refine Nat.le_trans ?_ (below_self (mem_inD.1 hx).1)
   cases x.d
   ·have := seqF_len R x; simp; omega
   ·have := seqD_len R k x.t
    have h2 : 1 ≤ wI x := by unfold wI; omega
    simp; omega
  rw [sum_swap] at h1
  have h3 : (I.map fun y => ((inD I d).map fun x => if beg (cs x.t) (cs y.t) then wI y else 0).sum).sum ≤ wBelow I (cs d) := sum_le fun y _ => one_only R.fit d y
  simp only [List.length_singleton]
  omega
theorem wBelow_le (I : List It) (A : List (List UInt8)) : wBelow I A ≤ sizeT I + I.length := by
 unfold wBelow sizeT
 have h1 : (I.map fun y => if inP A (cs y.t) then wI y else 0).sum ≤ (I.map fun y => y.c.size + 1).sum := sum_le fun y _ => by
  have : wI y = y.c.size + 1 := by unfold wI It.b; rw [Lib.size_eq]
  split <;> omega
 rw [sum_add] at h1
 have h2 : (I.map fun _ => 1).sum = I.length := by
  have : ∀ L : List It, (L.map fun _ => 1).sum = L.length := fun L => by induction L with
   | nil => rfl
   | cons x L ih => simp only [List.map_cons, List.sum_cons, ih, List.length_cons]; omega
  exact this I
 omega
theorem seqT_len {c : List UInt8 → Nat} {I : List It} (R : ReadyT c I) : (seqT c I).length ≤ 70000 := by
 have h1 := seqD_len R 9 []
 have h2 := wBelow_le I (cs [])
 have h3 := R.fit.size
 have h4 := R.fit.len
 unfold seqT
 omega
end Go.Proofs.YtlccihidedfemaaGreatDoor
namespace Go.Proofs.YtlccihidedfemaaGreatDoor
theorem inP_iff {A B : List (List UInt8)} : inP A B = true ↔ ∃ r, r ≠ [] ∧ B = A ++ r := by
 unfold inP
 rw [decide_eq_true_eq]
 constructor
 ·rintro ⟨h1, h2⟩
  refine ⟨B.drop A.length, fun e => ?_, ?_⟩
  ·have := congrArg List.length e
   rw [List.length_drop] at this
   simp at this; omega
  ·conv => lhs; rw [← List.take_append_drop A.length B, h2]
 ·rintro ⟨r, hr, rfl⟩
  refine ⟨?_, by simp⟩
  rw [List.length_append]
  have := List.length_pos_iff.2 hr
  omega
def blkT (L : List It) (d : List UInt8) : List It := L.filter fun y => inP (cs d) (cs y.t)
theorem mem_blk {L : List It} {d : List UInt8} {y : It} : y ∈ blkT L d ↔ y ∈ L ∧ inP (cs d) (cs y.t) = true := by unfold blkT; simp
theorem order_cs {L : List It} (F : TFit L) {x y : It} (hx : x ∈ L) (hy : y ∈ L) : orderS x.t y.t = cmpP (cs x.t) (cs y.t) := by
 rw [(path_ok (F.path x hx)).pts, (path_ok (F.path y hy)).pts]; rfl
theorem it_one {L : List It} (F : TFit L) {x y : It} (hx : x ∈ L) (hy : y ∈ L) (e : x.t = y.t) : x = y := by
 have key : ∀ L : List It, Rise L → ∀ x ∈ L, ∀ y ∈ L, x.t = y.t → x = y := by
  intro L
  induction L with
  | nil => intro _ x hx; cases hx
  | cons a L ih =>
   intro h x hx y hy e
   obtain ⟨h1, h2⟩ := List.pairwise_cons.1 h
   rcases List.mem_cons.1 hx with rfl | hx' <;> rcases List.mem_cons.1 hy with rfl | hy'
   ·rfl
   ·exact absurd e (order_ne (h1 y hy'))
   ·exact absurd e.symm (order_ne (h1 x hx'))
   ·exact ih h2 x hx' y hy' e
 exact key L F.rise x hx y hy e
theorem rise_ext_it : ∀ {L M : List It}, Rise L → Rise M → (∀ y, y ∈ L ↔ y ∈ M) → L = M
 | [], [], _, _, _ => rfl
 | [], y :: M, _, _, h => absurd ((h y).2 (by simp)) (by simp)
 | x :: L, [], _, _, h => absurd ((h x).1 (by simp)) (by simp)
 | x :: L, y :: M, hL, hM, h => by
  obtain ⟨a1, a2⟩ := List.pairwise_cons.1 hL
  obtain ⟨b1, b2⟩ := List.pairwise_cons.1 hM
  have irr : ∀ z : It, orderS z.t z.t ≠ -1 := fun z e => by rw [order_self] at e; cases e
  have hxy : x = y := by
   rcases List.mem_cons.1 ((h x).1 (by simp)) with e | e
   ·exact e
   ·rcases List.mem_cons.1 ((h y).2 (by simp)) with e' | e'
    ·exact e'.symm
    ·exact absurd (order_trans (b1 x e) (a1 y e')) (irr y)
  subst hxy
  congr 1
  refine rise_ext_it a2 b2 (fun z => ⟨fun hz => ?_, fun hz => ?_⟩)
  ·rcases List.mem_cons.1 ((h z).1 (List.mem_cons_of_mem _ hz)) with e | e
   ·exact absurd (e ▸ a1 z hz) (irr _)
   ·exact e
  ·rcases List.mem_cons.1 ((h z).2 (List.mem_cons_of_mem _ hz)) with e | e
   ·exact absurd (e ▸ b1 z hz) (irr _)
   ·exact e
theorem in_cs {L : List It} (F : TFit L) {d : List UInt8} {x : It} (hx : x ∈ inD L d) : cs x.t = cs d ++ [lastN x.t] := (dir_iff (F.path x (mem_inD.1 hx).1)).1 (mem_inD.1 hx).2
theorem in_blk {L : List It} (F : TFit L) {d : List UInt8} {x : It} (hx : x ∈ inD L d) : inP (cs d) (cs x.t) = true := inP_iff.2 ⟨_, by simp, in_cs F hx⟩
theorem sub_blk {L : List It} (F : TFit L) {d : List UInt8} {x y : It} (hx : x ∈ inD L d) (hy : inP (cs x.t) (cs y.t) = true) : inP (cs d) (cs y.t) = true := by
 obtain ⟨r, hr, e⟩ := inP_iff.1 hy
 exact inP_iff.2 ⟨[lastN x.t] ++ r, by simp, by rw [e, in_cs F hx, List.append_assoc]⟩
theorem blk_eq {L : List It} (F : TFit L) (d : List UInt8) : blkT L d = (inD L d).flatMap fun x => x :: blkT L x.t := by
 refine rise_ext_it (F.rise.sublist List.filter_sublist) ?_ (fun y => ?_)
 ·unfold Rise
  rw [List.pairwise_flatMap]
  refine ⟨fun x hx => List.pairwise_cons.2 ⟨fun y hy => ?_, F.rise.sublist List.filter_sublist⟩, ?_⟩
  ·obtain ⟨h1, h2⟩ := mem_blk.1 hy
   obtain ⟨r, hr, e⟩ := inP_iff.1 h2
   rw [order_cs F (mem_inD.1 hx).1 h1, e]
   exact cmp_below _ hr
  ·have hs : (inD L d).Pairwise fun a b => orderS a.t b.t = -1 := F.rise.sublist List.filter_sublist
   refine hs.imp_of_mem fun {x1 x2} m1 m2 ho a ha b hb => ?_
   have hl : ∀ {x z : It}, x ∈ inD L d → z ∈ x :: blkT L x.t → z ∈ L ∧ ∃ r, cs z.t = cs d ++ lastN x.t :: r := fun {x z} hx hz => by
    rcases List.mem_cons.1 hz with e | hz
    ·subst e; exact ⟨(mem_inD.1 hx).1, [], in_cs F hx⟩
    ·obtain ⟨h1, h2⟩ := mem_blk.1 hz
     obtain ⟨r, hr, e⟩ := inP_iff.1 h2
     exact ⟨h1, r, by rw [e, in_cs F hx, List.append_assoc]; rfl⟩
   obtain ⟨ha1, ra, ea⟩ := hl m1 ha
   obtain ⟨hb1, rb, eb⟩ := hl m2 hb
   rw [order_cs F (mem_inD.1 m1).1 (mem_inD.1 m2).1, in_cs F m1, in_cs F m2, cmp_app] at ho
   rw [order_cs F ha1 hb1, ea, eb, cmp_app, cmp_cons, if_pos (cmp_names ho)]
 ·rw [mem_blk, List.mem_flatMap]
  constructor
  ·rintro ⟨h1, h2⟩
   obtain ⟨r, hr, e⟩ := inP_iff.1 h2
   cases r with
   | nil => exact absurd rfl hr
   | cons n r =>
    cases r with
    | nil =>
     refine ⟨y, mem_inD.2 ⟨h1, (dir_of (F.path y h1) e).1⟩, by simp⟩
    | cons m r =>
     have e' : cs y.t = (cs d ++ [n]) ++ (m :: r) := by rw [e]; simp
     obtain ⟨z, hz, hzc, _⟩ := above_dir F (cs d ++ [n]) (by simp) r.length (m :: r) y rfl h1 e'
     refine ⟨z, mem_inD.2 ⟨hz, (dir_of (F.path z hz) hzc).1⟩, List.mem_cons_of_mem _ (mem_blk.2 ⟨h1, inP_iff.2 ⟨m :: r, by simp, by rw [e', hzc]⟩⟩)⟩
  ·rintro ⟨x, hx, hy⟩
   rcases List.mem_cons.1 hy with e | hy
   ·subst e; exact ⟨(mem_inD.1 hx).1, in_blk F hx⟩
   ·obtain ⟨h1, h2⟩ := mem_blk.1 hy
    exact ⟨h1, sub_blk F hx h2⟩
theorem file_blk {L : List It} (F : TFit L) {x : It} (hx : x ∈ L) (hd : x.d = false) : blkT L x.t = [] := by
 refine List.filter_eq_nil_iff.2 fun y hy hp => ?_
 obtain ⟨r, hr, e⟩ := inP_iff.1 hp
 obtain ⟨m, r', rfl⟩ := List.exists_cons_of_ne_nil hr
 obtain ⟨z, hz, hzc, hzd⟩ := above_dir F (cs x.t) (path_ok (F.path x hx)).nil r'.length (m :: r') y rfl hy e
 have := it_one F hz hx (cs_inj hzc)
 rw [this, hd] at hzd; cases hzd
theorem blk_top {L : List It} (F : TFit L) : blkT L [] = L := by
 refine List.filter_eq_self.2 fun y hy => inP_iff.2 ⟨cs y.t, (path_ok (F.path y hy)).nil, rfl⟩
def OffT (d : List UInt8) (Post : List It) : Prop := ∀ y ∈ Post.head?, inP (cs d) (cs y.t) = false
theorem off_dir {L : List It} (F : TFit L) {d : List UInt8} {Post : List It} (h : OffT d Post) {y : It} (hy : y ∈ Post.head?) (hm : y ∈ L) : dirS y.t ≠ d := fun e => by
 have h1 := h y hy
 rw [inP_iff.2 ⟨[lastN y.t], by simp, (dir_iff (F.path y hm)).1 e⟩] at h1; cases h1
theorem off_next {L : List It} (F : TFit L) {d : List UInt8} {x : It} {C Post : List It} (h : OffT d Post) (hx : x ∈ inD L d) (hC : ∀ y ∈ C, y ∈ inD L d) : OffT x.t ((C.flatMap fun y => y :: blkT L y.t) ++ Post) := by
 cases C with
 | nil =>
  intro y hy
  have h1 := h y hy
  rcases hb : inP (cs x.t) (cs y.t) with _ | _
  ·rfl
  ·rw [sub_blk F hx hb] at h1; cases h1
 | cons z C =>
  intro y hy
  simp at hy
  subst hy
  refine decide_eq_false fun hh => ?_
  have := hh.1
  rw [in_cs F hx, in_cs F (hC z (by simp)), List.length_append, List.length_append] at this
  simp at this
theorem off_nil (d : List UInt8) : OffT d [] := fun y hy => by cases hy
end Go.Proofs.YtlccihidedfemaaGreatDoor
set_option linter.unusedVariables false
namespace Go.Proofs.YtlccihidedfemaaGreatDoor
open Go.RowKit
attribute [local go_sem] Oper.semAt_some
theorem last_at {t : List UInt8} (hp : pathB t = true) : 0 < (strsOf (splitS t)).length ∧ ∀ h : (strsOf (splitS t)).length - 1 < (strsOf (splitS t)).length, (strsOf (splitS t))[(strsOf (splitS t)).length - 1].data.toList = lastN t := by
 have h0 : 0 < (splitS t).length := of_decide_eq_true hp
 refine ⟨by rw [strsOf_len]; exact h0, fun h => ?_⟩
 rw [strsOf_at (splitS t) _ h (by rw [strsOf_len]; omega)]
 unfold lastN
 simp only [strsOf_len]
 rw [List.getLastD_eq_getLast?, List.getLast?_eq_getElem?, List.getElem?_eq_getElem (by omega)]
 rfl
end Go.Proofs.YtlccihidedfemaaGreatDoor

/-
  Texts put together: contracts and laws that this seat's proofs share.
-/
import Derived.WalkKit
import Derived.LoopTactic
import Derived.Outline
import Derived.Laws.BitsAllLaws
import Derived.Lib.Hide
import Derived.Below
import Derived.Laws.Rows
import Derived.Laws.CopyOwn
import Derived.Test.YtjpjpmkadoaipaaGreatDoorProg
import Derived.Test.YtjpjpmkadoaipaaGreatDoorQb1
import Derived.Test.YtjpjpmkadoaipaaGreatDoorQb0
import Derived.Great.BuildSlice
import Derived.BigRegion
import Derived.RegionTactic
import Derived.Deep.QuietTactic
import Derived.BigQuiet
import Derived.StillTailTactics
import Derived.IntWalk
import Derived.WalkSmall
import Derived.Deep.MidRow
import Derived.Laws.CopyRow
import Derived.Lib.BufferWrite
import Derived.Lib.SlBuf
import Derived.Test.YtjpjpmkadoaipaaGreatDoorQb2
import Derived.Shelf.Strings.Builder2
import Derived.Deep.LoopGhost
import Derived.Laws.AppendOwn
import Derived.Laws.IdiomStrings
import Derived.OwnWalk
import Derived.Deep.RegionHeldLaw
import Derived.Deep.AppendLies
set_option linter.unusedVariables false
namespace Go.Proofs.YtjpjpmkadoaipaaGreatDoor
open Go.RowKit
set_option maxRecDepth 100000 in
set_option maxHeartbeats 1000000 in
theorem size43 : (Tryz.prog.info? 156).map (·.size) = some 64 := by kernel_rfl
theorem size24 : (Tryz.prog.info? 117).map (·.size) = some 8 := by kernel_rfl
theorem zero43 : (Tryz.prog.info? 156).bind (fun i => i.zero.map (·.cells)) = some (zrow 64) := by kernel_rfl
theorem zero24 : (Tryz.prog.info? 117).bind (fun i => i.zero.map (·.cells)) = some (zrow 8) := by kernel_rfl
def kint : List Int := [1116352408, 1899447441, 3049323471, 3921009573, 961987163, 1508970993, 2453635748, 2870763221, 3624381080, 310598401, 607225278, 1426881987, 1925078388, 2162078206, 2614888103, 3248222580, 3835390401, 4022224774, 264347078, 604807628, 770255983, 1249150122, 1555081692, 1996064986, 2554220882, 2821834349, 2952996808, 3210313671, 3336571891, 3584528711, 113926993, 338241895, 666307205, 773529912, 1294757372, 1396182291, 1695183700, 1986661051, 2177026350, 2456956037, 2730485921, 2820302411, 3259730800, 3345764771, 3516065817, 3600352804, 4094571909, 275423344, 430227734, 506948616, 659060556, 883997877, 958139571, 1322822218, 1537002063, 1747873779, 1955562222, 2024104815, 2227730452, 2361852424, 2428436474, 2756734187, 3204031479, 3329325298]
theorem kint_eq : (kint.map (Value.int .u32)).toArray = numV ktab := by kernel_rfl
theorem ktab_len : ktab.length = 64 := rfl
set_option maxRecDepth 100000 in
set_option maxHeartbeats 1000000 in
theorem constants_any (w : World) : Calls Tryz.prog 171 #[] w fun e w' => e = .returned (.agg (numV ktab)) ∧ Below w.heap.size w w' := by
 go_enter Tryz.func171, Tryz.ntmps171
 go_wp2_with (first
  | refine wpList_alloc_zero rfl _ rfl _ zero43 ?_
  | (refine Great.wpList_buildFlatArr rfl 156 115 64 _ rfl .u32 kint Tryz.underlying156 (by kernel_rfl) (by kernel_rfl) (by kernel_rfl) ?_; rw [kint_eq])
  | refine wpList_store_row rfl 156 _ _ rfl w.heap.size (numV ktab) rfl rfl 156 (zrow 64) (heap_alloc_new _ _) (by rw [numV_size]; exact size43) (by rw [numV_size]; kernel_rfl) (numV_one _) ?_)
 refine bodyPost_ret (v := .agg (numV ktab)) (results_cell_row rfl _ _ w.heap.size 156 (numV ktab) (0, 0) _ rfl (setRow_heap _ _ (zrow 64) _ _ _ (heap_alloc_new _ _)) Tryz.underlying156 rfl (by rw [numV_size]; kernel_rfl)) rfl ⟨rfl, below_setRow ((Below.refl _ _).alloc (Nat.le_refl _) _) (Nat.le_refl _) _⟩
set_option maxRecDepth 100000 in
set_option maxHeartbeats 1000000 in
theorem refConstants_any (w : World) : Calls Tryz.prog 88 #[] w fun e w' => e = .returned (.agg (numV ktab)) ∧ Below w.heap.size w w' := by
 go_enter Tryz.func88, Tryz.ntmps88
 go_wp2_with (first
  | refine wpList_alloc_zero rfl _ rfl _ zero43 ?_
  | (refine Great.wpList_buildFlatArr rfl 156 115 64 _ rfl .u32 kint Tryz.underlying156 (by kernel_rfl) (by kernel_rfl) (by kernel_rfl) ?_; rw [kint_eq])
  | refine wpList_store_row rfl 156 _ _ rfl w.heap.size (numV ktab) rfl rfl 156 (zrow 64) (heap_alloc_new _ _) (by rw [numV_size]; exact size43) (by rw [numV_size]; kernel_rfl) (numV_one _) ?_)
 refine bodyPost_ret (v := .agg (numV ktab)) (results_cell_row rfl _ _ w.heap.size 156 (numV ktab) (0, 0) _ rfl (setRow_heap _ _ (zrow 64) _ _ _ (heap_alloc_new _ _)) Tryz.underlying156 rfl (by rw [numV_size]; kernel_rfl)) rfl ⟨rfl, below_setRow ((Below.refl _ _).alloc (Nat.le_refl _) _) (Nat.le_refl _) _⟩
set_option maxRecDepth 100000 in
set_option maxHeartbeats 1000000 in
theorem First_any (w : World) : Calls Tryz.prog 94 #[] w fun e w' => e = .returned (.agg (numV first.list)) ∧ Below w.heap.size w w' := by
 go_enter Tryz.func94, Tryz.ntmps94
 go_wp2_with (first
  | refine wpList_alloc_zero rfl _ rfl _ zero24 ?_
  | refine wpList_store_row rfl 117 _ _ rfl w.heap.size (numV first.list) rfl rfl 117 (zrow 8) (heap_alloc_new _ _) (by rw [numV_size]; exact size24) (by rw [numV_size]; kernel_rfl) (numV_one _) ?_)
 refine bodyPost_ret (v := .agg (numV first.list)) (results_cell_row rfl _ _ w.heap.size 117 (numV first.list) (0, 0) _ rfl (setRow_heap _ _ (zrow 8) _ _ _ (heap_alloc_new _ _)) Tryz.underlying117 rfl (by rw [numV_size]; kernel_rfl)) rfl ⟨rfl, below_setRow ((Below.refl _ _).alloc (Nat.le_refl _) _) (Nat.le_refl _) _⟩
set_option maxRecDepth 100000 in
set_option maxHeartbeats 1000000 in
theorem refFirst_any (w : World) : Calls Tryz.prog 63 #[] w fun e w' => e = .returned (.agg (numV first.list)) ∧ Below w.heap.size w w' := by
 go_enter Tryz.func63, Tryz.ntmps63
 go_wp2_with (first
  | refine wpList_alloc_zero rfl _ rfl _ zero24 ?_
  | refine wpList_store_row rfl 117 _ _ rfl w.heap.size (numV first.list) rfl rfl 117 (zrow 8) (heap_alloc_new _ _) (by rw [numV_size]; exact size24) (by rw [numV_size]; kernel_rfl) (numV_one _) ?_)
 refine bodyPost_ret (v := .agg (numV first.list)) (results_cell_row rfl _ _ w.heap.size 117 (numV first.list) (0, 0) _ rfl (setRow_heap _ _ (zrow 8) _ _ _ (heap_alloc_new _ _)) Tryz.underlying117 rfl (by rw [numV_size]; kernel_rfl)) rfl ⟨rfl, below_setRow ((Below.refl _ _).alloc (Nat.le_refl _) _) (Nat.le_refl _) _⟩
end Go.Proofs.YtjpjpmkadoaipaaGreatDoor
set_option linter.unusedVariables false
set_option pp.maxSteps 200000
namespace Go.Proofs.YtjpjpmkadoaipaaGreatDoor
open Go.RowKit
set_option maxRecDepth 100000 in
set_option maxHeartbeats 1000000 in
theorem rotr_int (x n : Nat) (hx : x < 4294967296) (h0 : 1 ≤ n) (h1 : n ≤ 31) : bits .or .u32 ((x : Int) / 2 ^ n) ((x : Int) * 2 ^ (32 - n) % 4294967296) = (rotr x n : Nat) := by
 have e1 : (x : Int) / 2 ^ n = ((x / 2 ^ n : Nat) : Int) := by rw [Int.natCast_ediv, Int.natCast_pow]; rfl
 have e2 : (x : Int) * 2 ^ (32 - n) % 4294967296 = ((x * 2 ^ (32 - n) % 4294967296 : Nat) : Int) := by rw [Int.natCast_emod, Int.natCast_mul, Int.natCast_pow]; rfl
 rw [e1, e2, u32_or_nat _ _ (Nat.lt_of_le_of_lt (Nat.div_le_self _ _) hx) (Nat.mod_lt _ (by decide))]; rfl
theorem or32_comm (a b : Nat) (ha : a < 4294967296) (hb : b < 4294967296) : bits .or .u32 (a : Int) (b : Int) = bits .or .u32 (b : Int) (a : Int) := by
 rw [u32_or_nat _ _ ha hb, u32_or_nat _ _ hb ha, Nat.or_comm]
theorem rotl_int (x n m : Nat) (hx : x < 4294967296) (hm : n + m = 32) (h0 : 1 ≤ n) (h1 : n ≤ 31) : bits .or .u32 ((x : Int) * 2 ^ m % 4294967296) ((x : Int) / 2 ^ (32 - m)) = (rotr x n : Nat) := by
 have e1 : (x : Int) / 2 ^ n = ((x / 2 ^ n : Nat) : Int) := by rw [Int.natCast_ediv, Int.natCast_pow]; rfl
 have e2 : (x : Int) * 2 ^ m % 4294967296 = ((x * 2 ^ m % 4294967296 : Nat) : Int) := by rw [Int.natCast_emod, Int.natCast_mul, Int.natCast_pow]; rfl
 rw [show 32 - m = n by omega, e1, e2, or32_comm _ _ (Nat.mod_lt _ (by decide)) (Nat.lt_of_le_of_lt (Nat.div_le_self _ _) hx), ← e1, ← e2, show m = 32 - n by omega]
 exact rotr_int x n hx h0 h1
theorem neg31 (n m : Nat) (hm : n + m = 32) (h0 : 1 ≤ n) (h1 : n ≤ 31) : bits .and .u64 (IntKind.u64.wrap (-(n : Int))) 31 = (m : Int) := by
 have e : IntKind.u64.wrap (-(n : Int)) = ((18446744073709551616 - n : Nat) : Int) := by
  show (-(n : Int)) % 18446744073709551616 = _
  omega
 have h := u64_and_nat (18446744073709551616 - n) 31 (by omega) (by decide)
 rw [nat_mask5] at h
 rw [e]
 exact h.trans (by omega)
theorem rot_any (x n : Nat) (hx : x < 4294967296) (h0 : 1 ≤ n) (h1 : n ≤ 31) (w : World) : Calls Tryz.prog 89 #[.int .u32 x, .int .u64 n] w fun e w' => e = .returned (.int .u32 (rotr x n)) ∧ w = w' := by
 go_enter Tryz.func89, Tryz.ntmps89
 go_wp2
 go_ret
 exact ⟨congrArg (fun z => Ending.returned (.int .u32 z)) (rotr_int x n hx h0 h1), rfl⟩
set_option maxRecDepth 100000 in
set_option maxHeartbeats 1000000 in
theorem down_any (x n : Nat) (hx : x < 4294967296) (h0 : 1 ≤ n) (h1 : n ≤ 31) (w : World) : Calls Tryz.prog 172 #[.int .u32 x, .int .i64 n] w fun e w' => e = .returned (.int .u32 (rotr x n)) ∧ w = w' := by
 obtain ⟨m, hm⟩ : ∃ m, n + m = 32 := ⟨32 - n, by omega⟩
 have HM := Lib.hid hm
 have e := neg31 n m hm h0 h1
 have hm1 : 1 ≤ m := by omega
 have hm2 : m ≤ 31 := by omega
 clear hm
 go_enter Tryz.func172, Tryz.ntmps172
 go_wp2
 go_ret
 exact ⟨congrArg (fun z => Ending.returned (.int .u32 z)) (rotl_int x n m hx HM.out h0 h1), rfl⟩
theorem down_z (x : Nat) (z : Int) (hx : x < 4294967296) (h : 1 ≤ z ∧ z ≤ 31) (w : World) : Calls Tryz.prog 172 #[.int .u32 x, .int .i64 z] w fun e w' => e = .returned (.int .u32 (rotr x z.toNat)) ∧ w = w' := by
 have := down_any x z.toNat hx (by omega) (by omega) w
 rwa [show ((z.toNat : Nat) : Int) = z by omega] at this
theorem rot_z (x : Nat) (z : Int) (hx : x < 4294967296) (h : 1 ≤ z ∧ z ≤ 31) (w : World) : Calls Tryz.prog 89 #[.int .u32 x, .int .u64 z] w fun e w' => e = .returned (.int .u32 (rotr x z.toNat)) ∧ w = w' := by
 have := rot_any x z.toNat hx (by omega) (by omega) w
 rwa [show ((z.toNat : Nat) : Int) = z by omega] at this
theorem xor3_int (a b c : Nat) (ha : a < 4294967296) (hb : b < 4294967296) (hc : c < 4294967296) : bits .xor .u32 (bits .xor .u32 (a : Int) (b : Int)) (c : Int) = ((a ^^^ b ^^^ c : Nat) : Int) := by
 rw [u32_xor_nat _ _ ha hb, u32_xor_nat _ _ (xor_lt ha hb) hc]
theorem sg0_int (x : Nat) (h : x < 4294967296) : bits .xor .u32 (bits .xor .u32 (rotr x 7 : Nat) (rotr x 18 : Nat)) ((x : Int) / 8) = (sg0 x : Nat) := by
 rw [show (x : Int) / 8 = ((x / 8 : Nat) : Int) by omega, xor3_int _ _ _ (rotr_lt _ h) (rotr_lt _ h) (by omega)]; rfl
theorem sg1_int (x : Nat) (h : x < 4294967296) : bits .xor .u32 (bits .xor .u32 (rotr x 17 : Nat) (rotr x 19 : Nat)) ((x : Int) / 1024) = (sg1 x : Nat) := by
 rw [show (x : Int) / 1024 = ((x / 1024 : Nat) : Int) by omega, xor3_int _ _ _ (rotr_lt _ h) (rotr_lt _ h) (by omega)]; rfl
theorem ad4_int (a b c d : Nat) : ((a : Int) + b + c + d) % 4294967296 = (ad (ad (ad a b) c) d : Nat) := by unfold ad; omega
theorem or3_int (a b c d : Nat) (ha : a < 256) (hb : b < 256) (hc : c < 256) (hd : d < 256) :
  bits .or .u32 (bits .or .u32 (bits .or .u32 ((a : Int) % 4294967296 * 16777216 % 4294967296) ((b : Int) % 4294967296 * 65536 % 4294967296)) ((c : Int) % 4294967296 * 256 % 4294967296)) ((d : Int) % 4294967296) =
   ((a * 16777216 % 4294967296 ||| b * 65536 % 4294967296 ||| c * 256 % 4294967296 ||| d : Nat) : Int) := by
 have e1 : (a : Int) % 4294967296 * 16777216 % 4294967296 = ((a * 16777216 % 4294967296 : Nat) : Int) := by omega
 have e2 : (b : Int) % 4294967296 * 65536 % 4294967296 = ((b * 65536 % 4294967296 : Nat) : Int) := by omega
 have e3 : (c : Int) % 4294967296 * 256 % 4294967296 = ((c * 256 % 4294967296 : Nat) : Int) := by omega
 have e4 : (d : Int) % 4294967296 = ((d : Nat) : Int) := by omega
 have l1 : a * 16777216 % 4294967296 < 4294967296 := Nat.mod_lt _ (by decide)
 have l2 : b * 65536 % 4294967296 < 4294967296 := Nat.mod_lt _ (by decide)
 have l3 : c * 256 % 4294967296 < 4294967296 := Nat.mod_lt _ (by decide)
 rw [e1, e2, e3, e4, u32_or_nat _ _ l1 l2, u32_or_nat _ _ (or_lt l1 l2) l3, u32_or_nat _ _ (or_lt (or_lt l1 l2) l3) (by omega)]
set_option maxRecDepth 100000 in
set_option maxHeartbeats 1000000 in
theorem spread_any (l : List UInt8) (hl : l.length = 64) (w : World) : Calls Tryz.prog 157 #[.agg (bytV l)] w fun e w' => e = .returned (.agg (numV (wlist (fun i => (l.getD i 0).toNat) 64))) ∧ Below w.heap.size w w' := by
 obtain ⟨L, hL⟩ : ∃ L : Nat → Nat, L = fun i => (l.getD i 0).toNat := ⟨_, rfl⟩
 have HL := Lib.hid hL
 have hl8 : ∀ i, L i < 256 := fun i => by rw [hL]; exact UInt8.toNat_lt _
 rw [← hL]
 clear hL
 go_enter Tryz.func157, Tryz.ntmps157
 go_wp2_with (first
  | refine wpList_alloc_zero rfl _ rfl _ zero43 ?_)
 go_loopw [11, 4, 5] (fun i _ _ wr => ∃ k : Nat, k ≤ 16 ∧ i = .int .i64 k ∧ Row wr w.heap.size (bytV l) 119 ∧ Row wr (w.heap.size + 1) (zrow 64) 156 ∧ Row wr (w.heap.size + 1 + 1) (numV (wrow L k)) 156 ∧ Below w.heap.size w wr) (fun i _ _ _ => 16 - (intOf i).toNat)
 case atStart => 
  refine ⟨0, by omega, rfl, ?_, ?_, ?_, ?_⟩
  ·exact ((Row.made _ _ _).alloc _).alloc _
  ·have := (Row.made (w.alloc (.cells (bytV l) 119)) (zrow 64) 156).alloc (.cells (zrow 64) 156)
   simpa using this
  ·show Row _ _ (zrow 64) _
   have := Row.made ((w.alloc (.cells (bytV l) 119)).alloc (.cells (zrow 64) 156)) (zrow 64) 156
   simpa using this
  ·exact (((Below.refl _ _).alloc (Nat.le_refl _) _).alloc (by simp) _).alloc (by simp; omega) _
 case round =>
  obtain ⟨k, hk, rfl, hB, hZ, hR, hb⟩ := hrel
  by_cases hlt : k < 16
  ·have hbk : decide ((k : Int) < 16) = true := by simpa using (show (k : Int) < 16 by omega)
   have c0 : wr.cell? ⟨w.heap.size, k * 4, none⟩ = some (.int .u8 (L (k * 4))) := by rw [hB.cell, bytV_get _ _ (by omega), HL.out]
   have c1 : wr.cell? ⟨w.heap.size, k * 4 + 1, none⟩ = some (.int .u8 (L (k * 4 + 1))) := by rw [hB.cell, bytV_get _ _ (by omega), HL.out]
   have c2 : wr.cell? ⟨w.heap.size, k * 4 + 2, none⟩ = some (.int .u8 (L (k * 4 + 2))) := by rw [hB.cell, bytV_get _ _ (by omega), HL.out]
   have c3 : wr.cell? ⟨w.heap.size, k * 4 + 3, none⟩ = some (.int .u8 (L (k * 4 + 3))) := by rw [hB.cell, bytV_get _ _ (by omega), HL.out]
   have cf := hR.free k
   have cr : wr.cell? ⟨w.heap.size + 1 + 1, k, none⟩ = some (.int .u32 0) := by
    rw [hR.cell, numV_get _ _ (by rw [wrow_len _ _ (by omega)]; omega), wrow, List.getD_eq_getElem?_getD, List.getElem?_append_right (by rw [wlist_len]; exact Nat.le_refl _), List.getElem?_replicate]
    split <;> rfl
   have t0 : ((k : Int) * 4).toNat = k * 4 := by omega
   have t1 : ((k : Int) * 4 + 1).toNat = k * 4 + 1 := by omega
   have t2 : ((k : Int) * 4 + 2).toNat = k * 4 + 2 := by omega
   have t3 : ((k : Int) * 4 + 3).toNat = k * 4 + 3 := by omega
   have s1 : IntKind.i64.wrap ((k : Int) * 4 + 1) = (k : Int) * 4 + 1 := IntWalk.i64_in _ (by omega)
   have s2 : IntKind.i64.wrap ((k : Int) * 4 + 2) = (k : Int) * 4 + 2 := IntWalk.i64_in _ (by omega)
   have s3 : IntKind.i64.wrap ((k : Int) * 4 + 3) = (k : Int) * 4 + 3 := IntWalk.i64_in _ (by omega)
   have b0 : (0 : Int) ≤ (k : Int) * 4 ∧ (k : Int) * 4 < 64 := by omega
   have b1 : (0 : Int) ≤ (k : Int) * 4 + 1 ∧ (k : Int) * 4 + 1 < 64 := by omega
   have b2 : (0 : Int) ≤ (k : Int) * 4 + 2 ∧ (k : Int) * 4 + 2 < 64 := by omega
   have b3 : (0 : Int) ≤ (k : Int) * 4 + 3 ∧ (k : Int) * 4 + 3 < 64 := by omega
   have b4 : (0 : Int) ≤ (k : Int) ∧ (k : Int) < 64 := by omega
   have HB := Lib.hid hB; have HR := Lib.hid hR; have HZ := Lib.hid hZ
   clear hB hR hZ
   go_wp2_with fail
   go_still_tail 27, (by kernel_rfl)
   change wpList _ _ _ _ _ wr.drew
   clear t0 t1 t2 t3 s1 s2 s3 b0 b1 b2 b3 c0 c1 c2 c3
   go_wp2
   go_roundw
   case rel => 
    refine ⟨k + 1, by omega, by go_num, ?_, ?_, ?_, ?_⟩
    ·exact (Row.drew HB.out).other _ _ (by show w.heap.size ≠ w.heap.size + 1 + 1; omega)
    ·exact (Row.drew HZ.out).other _ _ (by show w.heap.size + 1 ≠ w.heap.size + 1 + 1; omega)
    ·have := (Row.drew HR.out).set k (.int .u32 (lead L k : Nat))
     rw [numV_set, ← nxt_lead L (wlist L k) k hlt, wrow_set L k (by omega), nxt_lead L (wlist L k) k hlt] at this
     rw [or3_int _ _ _ _ (hl8 _) (hl8 _) (hl8 _) (hl8 _)]
     exact this
    ·exact (hb.drew).setCell (by show w.heap.size ≤ w.heap.size + 1 + 1; omega) _
   case measure => simp [intOf]; omega
  ·have hk16 : k = 16 := by omega
   have hR' : Row wr (w.heap.size + 1 + 1) (numV (wrow L 16)) 156 := by rw [← hk16]; exact hR
   have hbk : decide ((k : Int) < 16) = false := by rw [hk16]; rfl
   clear hR hk16 hlt hk
   have hR := hR'
   clear hR'
   have HB := Lib.hid hB; have HR := Lib.hid hR; have HZ := Lib.hid hZ
   clear hB hR hZ
   go_wp2_with fail
   go_loopw [6] (fun i wr => ∃ k : Nat, 16 ≤ k ∧ k ≤ 64 ∧ i = .int .i64 k ∧ Row wr (w.heap.size + 1) (zrow 64) 156 ∧ Row wr (w.heap.size + 1 + 1) (numV (wrow L k)) 156 ∧ Below w.heap.size w wr) (fun i _ => 64 - (intOf i).toNat)
   case atStart => exact ⟨16, by omega, by omega, rfl, HZ.out, HR.out, hb⟩
   case round =>
    clear HB HR HZ hb
    obtain ⟨k, hk0, hk, rfl, hZ, hR, hb⟩ := hrel
    by_cases hlt : k < 64
    ·have hbk : decide ((k : Int) < 64) = true := by simpa using (show (k : Int) < 64 by omega)
     have hm := wlist_mem L hl8 k
     obtain ⟨x, hx⟩ : ∃ x, x = (wlist L k).getD (k - 15) 0 := ⟨_, rfl⟩
     obtain ⟨y, hy⟩ : ∃ y, y = (wlist L k).getD (k - 2) 0 := ⟨_, rfl⟩
     obtain ⟨p, hp⟩ : ∃ y, y = (wlist L k).getD (k - 16) 0 := ⟨_, rfl⟩
     obtain ⟨q, hq⟩ : ∃ y, y = (wlist L k).getD (k - 7) 0 := ⟨_, rfl⟩
     have lx : x < 4294967296 := by rw [hx]; exact getD_lt hm _
     have ly : y < 4294967296 := by rw [hy]; exact getD_lt hm _
     have lp : p < 4294967296 := by rw [hp]; exact getD_lt hm _
     have lq : q < 4294967296 := by rw [hq]; exact getD_lt hm _
     have cc : ∀ j, j < k → wr.cell? ⟨w.heap.size + 1 + 1, j, none⟩ = some (.int .u32 ((wlist L k).getD j 0 : Nat)) := fun j hj => by
      rw [hR.cell, numV_get _ _ (by rw [wrow_len _ _ hk]; omega), wrow_get _ _ _ hj]
     have c15 := cc (k - 15) (by omega)
     have c2 := cc (k - 2) (by omega)
     have c16 := cc (k - 16) (by omega)
     have c7 := cc (k - 7) (by omega)
     rw [← hx] at c15; rw [← hy] at c2; rw [← hp] at c16; rw [← hq] at c7
     have cf := hR.free k
     have cr : ∃ v, wr.cell? ⟨w.heap.size + 1 + 1, k, none⟩ = some v := by
      rw [hR.cell, numV_get _ _ (by rw [wrow_len _ _ hk]; omega)]
      exact ⟨_, rfl⟩
     obtain ⟨v, cr⟩ := cr
     clear cc hm
     have HV := Lib.hid (nxt_on L (wlist L k) k hk0)
     have HX := Lib.hid hx; have HY := Lib.hid hy; have HP := Lib.hid hp; have HQ := Lib.hid hq
     clear hx hy hp hq
     have t1 : ((k : Int) - 15).toNat = k - 15 := by omega
     have t2 : ((k : Int) - 2).toNat = k - 2 := by omega
     have t3 : ((k : Int) - 16).toNat = k - 16 := by omega
     have t4 : ((k : Int) - 7).toNat = k - 7 := by omega
     have s1 : IntKind.i64.wrap ((k : Int) - 15) = (k : Int) - 15 := IntWalk.i64_in _ (by omega)
     have s2 : IntKind.i64.wrap ((k : Int) - 2) = (k : Int) - 2 := IntWalk.i64_in _ (by omega)
     have s3 : IntKind.i64.wrap ((k : Int) - 16) = (k : Int) - 16 := IntWalk.i64_in _ (by omega)
     have s4 : IntKind.i64.wrap ((k : Int) - 7) = (k : Int) - 7 := IntWalk.i64_in _ (by omega)
     have b1 : (0 : Int) ≤ (k : Int) - 15 ∧ (k : Int) - 15 < 64 := by omega
     have b2 : (0 : Int) ≤ (k : Int) - 2 ∧ (k : Int) - 2 < 64 := by omega
     have b3 : (0 : Int) ≤ (k : Int) - 16 ∧ (k : Int) - 16 < 64 := by omega
     have b4 : (0 : Int) ≤ (k : Int) - 7 ∧ (k : Int) - 7 < 64 := by omega
     have b6 : (16 : Int) ≤ (k : Int) := by omega
     have b7 : (7 : Int) ≤ (k : Int) := by omega
     have b8 : (k : Int) - 16 < 64 := by omega
     have b9 : (k : Int) - 7 < 64 := by omega
     have b10 : (0 : Int) ≤ (k : Int) - 16 := by omega
     have b11 : (0 : Int) ≤ (k : Int) - 7 := by omega
     have b5 : (0 : Int) ≤ (k : Int) ∧ (k : Int) < 64 := by omega
     have HR := Lib.hid hR; have HZ := Lib.hid hZ
     clear hR hZ
     have HL8 := Lib.hid hl8; clear hl8
     go_wp2_with fail
     go_quiet (fail)
     go_wp2_with (go_at_call 172; refine (down_z _ _ (by assumption) (by decide) _).mono ?_; rintro e w1 ⟨rfl, rfl⟩)
     obtain ⟨W2, hW2⟩ : ∃ W2, W2 = wr.drewN nq := ⟨_, rfl⟩
     rw [← hW2]
     have d16 : W2.cell? ⟨w.heap.size + 1 + 1, k - 16, none⟩ = some (.int .u32 p) := by rw [hW2]; exact c16
     have d7 : W2.cell? ⟨w.heap.size + 1 + 1, k - 7, none⟩ = some (.int .u32 q) := by rw [hW2]; exact c7
     have df : W2.frozen? ⟨w.heap.size + 1 + 1, k, none⟩ = false := by rw [hW2]; exact cf
     have dr : W2.cell? ⟨w.heap.size + 1 + 1, k, none⟩ = some v := by rw [hW2]; exact cr
     have HR2 : Hid (Row W2 (w.heap.size + 1 + 1) (numV (wrow L k)) 156) := Lib.hid (by rw [hW2]; exact HR.out)
     have HZ2 : Hid (Row W2 (w.heap.size + 1) (zrow 64) 156) := Lib.hid (by rw [hW2]; exact HZ.out)
     have hb2 : Below w.heap.size w W2 := by rw [hW2]; exact below_drewN hb nq
     clear hW2 c16 c7 cf cr HR HZ hb c15 c2 t1 t2 s1 s2 b1 b2
     go_still_tail 15, (by kernel_rfl)
     change wpList _ _ _ _ _ W2.drew
     clear t3 t4 s3 s4 b3 b4 d16 d7
     go_wp2
     go_roundw
     case rel =>
      refine ⟨k + 1, by omega, by omega, by go_num, ?_, ?_, ?_⟩
      ·exact (Row.drew HZ2.out).other _ _ (by show w.heap.size + 1 ≠ w.heap.size + 1 + 1; omega)
      ·have := (Row.drew HR2.out).set k (.int .u32 (nxt L (wlist L k) k : Nat))
       rw [numV_set, wrow_set L k (by omega), HV.out, ← HX.out, ← HY.out, ← HP.out, ← HQ.out] at this
       rw [sg0_int x lx, sg1_int y ly, ad4_int]
       exact this
      ·exact (hb2.drew).setCell (by show w.heap.size ≤ w.heap.size + 1 + 1; omega) _
     case measure => simp [intOf]; omega
    ·obtain rfl : k = 64 := by omega
     have hbk : decide (((64 : Nat) : Int) < 64) = false := rfl
     have HR := Lib.hid hR; have HZ := Lib.hid hZ
     clear hR hZ
     go_wp2_with (first
      | refine wpList_load_row rfl 156 _ rfl (w.heap.size + 1 + 1) rfl 156 (numV (wrow L 64)) (0, 0) _ HR.out Tryz.underlying156 rfl (by rw [numV_size, wrow_len _ _ hk]; exact size43) ?_
      | refine wpList_store_row rfl 156 _ _ rfl (w.heap.size + 1) (numV (wrow L 64)) rfl rfl 156 (zrow 64) HZ.out (by rw [numV_size, wrow_len _ _ hk]; exact size43) (by rw [numV_size, zrow_size, wrow_len _ _ hk]) (numV_one _) ?_)
     refine bodyPost_ret (v := .agg (numV (wrow L 64))) (results_cell_row rfl _ _ (w.heap.size + 1) 156 (numV (wrow L 64)) (0, 0) _ rfl (setRow_heap _ _ _ _ _ _ HZ.out) Tryz.underlying156 rfl (by rw [numV_size, wrow_len _ _ hk]; exact size43)) rfl ⟨by rw [wrow_full], below_setRow hb (by omega) _⟩
end Go.Proofs.YtjpjpmkadoaipaaGreatDoor
set_option linter.unusedVariables false
set_option pp.maxSteps 200000
namespace Go.Proofs.YtjpjpmkadoaipaaGreatDoor
open Go.RowKit
set_option maxRecDepth 100000 in
set_option maxHeartbeats 1000000 in
set_option maxRecDepth 100000 in
set_option maxHeartbeats 1000000 in
theorem refWords_any (l : List UInt8) (hl : l.length = 64) (w : World) : Calls Tryz.prog 87 #[.agg (bytV l)] w fun e w' => e = .returned (.agg (numV (wlist (fun i => (l.getD i 0).toNat) 64))) ∧ Below w.heap.size w w' := by
 obtain ⟨L, hL⟩ : ∃ L : Nat → Nat, L = fun i => (l.getD i 0).toNat := ⟨_, rfl⟩
 have HL := Lib.hid hL
 have hl8 : ∀ i, L i < 256 := fun i => by rw [hL]; exact UInt8.toNat_lt _
 rw [← hL]
 clear hL
 go_enter Tryz.func87, Tryz.ntmps87
 go_wp2_with (first
  | refine wpList_alloc_zero rfl _ rfl _ zero43 ?_)
 go_loopw [4] (fun i wr => ∃ k : Nat, k ≤ 16 ∧ i = .int .i64 k ∧ Row wr w.heap.size (bytV l) 119 ∧ Row wr (w.heap.size + 1) (zrow 64) 156 ∧ Row wr (w.heap.size + 1 + 1) (numV (wrow L k)) 156 ∧ Below w.heap.size w wr) (fun i _ => 16 - (intOf i).toNat)
 case atStart => 
  refine ⟨0, by omega, rfl, ?_, ?_, ?_, ?_⟩
  ·exact ((Row.made _ _ _).alloc _).alloc _
  ·have := (Row.made (w.alloc (.cells (bytV l) 119)) (zrow 64) 156).alloc (.cells (zrow 64) 156)
   simpa using this
  ·show Row _ _ (zrow 64) _
   have := Row.made ((w.alloc (.cells (bytV l) 119)).alloc (.cells (zrow 64) 156)) (zrow 64) 156
   simpa using this
  ·exact (((Below.refl _ _).alloc (Nat.le_refl _) _).alloc (by simp) _).alloc (by simp; omega) _
 case round =>
  obtain ⟨k, hk, rfl, hB, hZ, hR, hb⟩ := hrel
  by_cases hlt : k < 16
  ·have hbk : decide ((k : Int) < 16) = true := by simpa using (show (k : Int) < 16 by omega)
   have c0 : wr.cell? ⟨w.heap.size, k * 4, none⟩ = some (.int .u8 (L (k * 4))) := by rw [hB.cell, bytV_get _ _ (by omega), HL.out]
   have c1 : wr.cell? ⟨w.heap.size, k * 4 + 1, none⟩ = some (.int .u8 (L (k * 4 + 1))) := by rw [hB.cell, bytV_get _ _ (by omega), HL.out]
   have c2 : wr.cell? ⟨w.heap.size, k * 4 + 2, none⟩ = some (.int .u8 (L (k * 4 + 2))) := by rw [hB.cell, bytV_get _ _ (by omega), HL.out]
   have c3 : wr.cell? ⟨w.heap.size, k * 4 + 3, none⟩ = some (.int .u8 (L (k * 4 + 3))) := by rw [hB.cell, bytV_get _ _ (by omega), HL.out]
   have cf := hR.free k
   have cr : wr.cell? ⟨w.heap.size + 1 + 1, k, none⟩ = some (.int .u32 0) := by
    rw [hR.cell, numV_get _ _ (by rw [wrow_len _ _ (by omega)]; omega), wrow, List.getD_eq_getElem?_getD, List.getElem?_append_right (by rw [wlist_len]; exact Nat.le_refl _), List.getElem?_replicate]
    split <;> rfl
   have t0 : (4 * (k : Int)).toNat = k * 4 := by omega
   have t1 : (4 * (k : Int) + 1).toNat = k * 4 + 1 := by omega
   have t2 : (4 * (k : Int) + 2).toNat = k * 4 + 2 := by omega
   have t3 : (4 * (k : Int) + 3).toNat = k * 4 + 3 := by omega
   have s0 : IntKind.i64.wrap (4 * (k : Int)) = 4 * (k : Int) := IntWalk.i64_in _ (by omega)
   have s1 : IntKind.i64.wrap (4 * (k : Int) + 1) = 4 * (k : Int) + 1 := IntWalk.i64_in _ (by omega)
   have s2 : IntKind.i64.wrap (4 * (k : Int) + 2) = 4 * (k : Int) + 2 := IntWalk.i64_in _ (by omega)
   have s3 : IntKind.i64.wrap (4 * (k : Int) + 3) = 4 * (k : Int) + 3 := IntWalk.i64_in _ (by omega)
   have b0 : (0 : Int) ≤ 4 * (k : Int) ∧ 4 * (k : Int) < 64 := by omega
   have b1 : (0 : Int) ≤ 4 * (k : Int) + 1 ∧ 4 * (k : Int) + 1 < 64 := by omega
   have b2 : (0 : Int) ≤ 4 * (k : Int) + 2 ∧ 4 * (k : Int) + 2 < 64 := by omega
   have b3 : (0 : Int) ≤ 4 * (k : Int) + 3 ∧ 4 * (k : Int) + 3 < 64 := by omega
   have b4 : (0 : Int) ≤ (k : Int) ∧ (k : Int) < 64 := by omega
   have HB := Lib.hid hB; have HR := Lib.hid hR; have HZ := Lib.hid hZ
   clear hB hR hZ
   go_wp2_with fail
   go_still_tail 31, (by kernel_rfl)
   change wpList _ _ _ _ _ wr.drew
   clear t0 t1 t2 t3 s0 s1 s2 s3 b0 b1 b2 b3 c0 c1 c2 c3
   go_wp2
   go_roundw
   case rel => 
    refine ⟨k + 1, by omega, by go_num, ?_, ?_, ?_, ?_⟩
    ·exact (Row.drew HB.out).other _ _ (by show w.heap.size ≠ w.heap.size + 1 + 1; omega)
    ·exact (Row.drew HZ.out).other _ _ (by show w.heap.size + 1 ≠ w.heap.size + 1 + 1; omega)
    ·have := (Row.drew HR.out).set k (.int .u32 (lead L k : Nat))
     rw [numV_set, ← nxt_lead L (wlist L k) k hlt, wrow_set L k (by omega), nxt_lead L (wlist L k) k hlt] at this
     rw [or3_int _ _ _ _ (hl8 _) (hl8 _) (hl8 _) (hl8 _)]
     exact this
    ·exact (hb.drew).setCell (by show w.heap.size ≤ w.heap.size + 1 + 1; omega) _
   case measure => simp [intOf]; omega
  ·have hk16 : k = 16 := by omega
   have hR' : Row wr (w.heap.size + 1 + 1) (numV (wrow L 16)) 156 := by rw [← hk16]; exact hR
   have hbk : decide ((k : Int) < 16) = false := by rw [hk16]; rfl
   clear hR hk16 hlt hk
   have hR := hR'
   clear hR'
   have HB := Lib.hid hB; have HR := Lib.hid hR; have HZ := Lib.hid hZ
   clear hB hR hZ
   go_wp2_with fail
   go_loopw [5] (fun i wr => ∃ k : Nat, 16 ≤ k ∧ k ≤ 64 ∧ i = .int .i64 k ∧ Row wr (w.heap.size + 1) (zrow 64) 156 ∧ Row wr (w.heap.size + 1 + 1) (numV (wrow L k)) 156 ∧ Below w.heap.size w wr) (fun i _ => 64 - (intOf i).toNat)
   case atStart => exact ⟨16, by omega, by omega, rfl, HZ.out, HR.out, hb⟩
   case round =>
    clear HB HR HZ hb
    obtain ⟨k, hk0, hk, rfl, hZ, hR, hb⟩ := hrel
    by_cases hlt : k < 64
    ·have hbk : decide ((k : Int) < 64) = true := by simpa using (show (k : Int) < 64 by omega)
     have hm := wlist_mem L hl8 k
     obtain ⟨x, hx⟩ : ∃ x, x = (wlist L k).getD (k - 15) 0 := ⟨_, rfl⟩
     obtain ⟨y, hy⟩ : ∃ y, y = (wlist L k).getD (k - 2) 0 := ⟨_, rfl⟩
     obtain ⟨p, hp⟩ : ∃ y, y = (wlist L k).getD (k - 16) 0 := ⟨_, rfl⟩
     obtain ⟨q, hq⟩ : ∃ y, y = (wlist L k).getD (k - 7) 0 := ⟨_, rfl⟩
     have lx : x < 4294967296 := by rw [hx]; exact getD_lt hm _
     have ly : y < 4294967296 := by rw [hy]; exact getD_lt hm _
     have lp : p < 4294967296 := by rw [hp]; exact getD_lt hm _
     have lq : q < 4294967296 := by rw [hq]; exact getD_lt hm _
     have cc : ∀ j, j < k → wr.cell? ⟨w.heap.size + 1 + 1, j, none⟩ = some (.int .u32 ((wlist L k).getD j 0 : Nat)) := fun j hj => by
      rw [hR.cell, numV_get _ _ (by rw [wrow_len _ _ hk]; omega), wrow_get _ _ _ hj]
     have c15 := cc (k - 15) (by omega)
     have c2 := cc (k - 2) (by omega)
     have c16 := cc (k - 16) (by omega)
     have c7 := cc (k - 7) (by omega)
     rw [← hx] at c15; rw [← hy] at c2; rw [← hp] at c16; rw [← hq] at c7
     have cf := hR.free k
     have cr : ∃ v, wr.cell? ⟨w.heap.size + 1 + 1, k, none⟩ = some v := by
      rw [hR.cell, numV_get _ _ (by rw [wrow_len _ _ hk]; omega)]
      exact ⟨_, rfl⟩
     obtain ⟨v, cr⟩ := cr
     clear cc hm
     have HV := Lib.hid (nxt_on L (wlist L k) k hk0)
     have HX := Lib.hid hx; have HY := Lib.hid hy; have HP := Lib.hid hp; have HQ := Lib.hid hq
     clear hx hy hp hq
     have t1 : ((k : Int) - 15).toNat = k - 15 := by omega
     have t2 : ((k : Int) - 2).toNat = k - 2 := by omega
     have t3 : ((k : Int) - 16).toNat = k - 16 := by omega
     have t4 : ((k : Int) - 7).toNat = k - 7 := by omega
     have s1 : IntKind.i64.wrap ((k : Int) - 15) = (k : Int) - 15 := IntWalk.i64_in _ (by omega)
     have s2 : IntKind.i64.wrap ((k : Int) - 2) = (k : Int) - 2 := IntWalk.i64_in _ (by omega)
     have s3 : IntKind.i64.wrap ((k : Int) - 16) = (k : Int) - 16 := IntWalk.i64_in _ (by omega)
     have s4 : IntKind.i64.wrap ((k : Int) - 7) = (k : Int) - 7 := IntWalk.i64_in _ (by omega)
     have b1 : (0 : Int) ≤ (k : Int) - 15 ∧ (k : Int) - 15 < 64 := by omega
     have b2 : (0 : Int) ≤ (k : Int) - 2 ∧ (k : Int) - 2 < 64 := by omega
     have b3 : (0 : Int) ≤ (k : Int) - 16 ∧ (k : Int) - 16 < 64 := by omega
     have b4 : (0 : Int) ≤ (k : Int) - 7 ∧ (k : Int) - 7 < 64 := by omega
     have b6 : (16 : Int) ≤ (k : Int) := by omega
     have b7 : (7 : Int) ≤ (k : Int) := by omega
     have b8 : (k : Int) - 16 < 64 := by omega
     have b9 : (k : Int) - 7 < 64 := by omega
     have b10 : (0 : Int) ≤ (k : Int) - 16 := by omega
     have b11 : (0 : Int) ≤ (k : Int) - 7 := by omega
     have b5 : (0 : Int) ≤ (k : Int) ∧ (k : Int) < 64 := by omega
     have HR := Lib.hid hR; have HZ := Lib.hid hZ
     clear hR hZ
     have HL8 := Lib.hid hl8; clear hl8
     go_wp2_with (go_at_call 89; refine (rot_z _ _ (by assumption) (by decide) _).mono ?_; rintro e w1 ⟨rfl, rfl⟩)
     obtain ⟨W2, hW2⟩ : ∃ W2, W2 = wr := ⟨_, rfl⟩
     rw [← hW2]
     have d16 : W2.cell? ⟨w.heap.size + 1 + 1, k - 16, none⟩ = some (.int .u32 p) := by rw [hW2]; exact c16
     have d7 : W2.cell? ⟨w.heap.size + 1 + 1, k - 7, none⟩ = some (.int .u32 q) := by rw [hW2]; exact c7
     have df : W2.frozen? ⟨w.heap.size + 1 + 1, k, none⟩ = false := by rw [hW2]; exact cf
     have dr : W2.cell? ⟨w.heap.size + 1 + 1, k, none⟩ = some v := by rw [hW2]; exact cr
     have HR2 : Hid (Row W2 (w.heap.size + 1 + 1) (numV (wrow L k)) 156) := Lib.hid (by rw [hW2]; exact HR.out)
     have HZ2 : Hid (Row W2 (w.heap.size + 1) (zrow 64) 156) := Lib.hid (by rw [hW2]; exact HZ.out)
     have hb2 : Below w.heap.size w W2 := by rw [hW2]; exact hb
     clear hW2 c16 c7 cf cr HR HZ hb c15 c2 t1 t2 s1 s2 b1 b2
     go_still_tail 15, (by kernel_rfl)
     change wpList _ _ _ _ _ W2.drew
     clear t3 t4 s3 s4 b3 b4 d16 d7
     go_wp2
     go_roundw
     case rel =>
      refine ⟨k + 1, by omega, by omega, by go_num, ?_, ?_, ?_⟩
      ·exact (Row.drew HZ2.out).other _ _ (by show w.heap.size + 1 ≠ w.heap.size + 1 + 1; omega)
      ·have := (Row.drew HR2.out).set k (.int .u32 (nxt L (wlist L k) k : Nat))
       rw [numV_set, wrow_set L k (by omega), HV.out, ← HX.out, ← HY.out, ← HP.out, ← HQ.out] at this
       rw [sg0_int x lx, sg1_int y ly, ad4_int]
       exact this
      ·exact (hb2.drew).setCell (by show w.heap.size ≤ w.heap.size + 1 + 1; omega) _
     case measure => simp [intOf]; omega
    ·obtain rfl : k = 64 := by omega
     have hbk : decide (((64 : Nat) : Int) < 64) = false := rfl
     have HR := Lib.hid hR; have HZ := Lib.hid hZ
     clear hR hZ
     go_wp2_with (first
      | refine wpList_load_row rfl 156 _ rfl (w.heap.size + 1 + 1) rfl 156 (numV (wrow L 64)) (0, 0) _ HR.out Tryz.underlying156 rfl (by rw [numV_size, wrow_len _ _ hk]; exact size43) ?_
      | refine wpList_store_row rfl 156 _ _ rfl (w.heap.size + 1) (numV (wrow L 64)) rfl rfl 156 (zrow 64) HZ.out (by rw [numV_size, wrow_len _ _ hk]; exact size43) (by rw [numV_size, zrow_size, wrow_len _ _ hk]) (numV_one _) ?_)
     refine bodyPost_ret (v := .agg (numV (wrow L 64))) (results_cell_row rfl _ _ (w.heap.size + 1) 156 (numV (wrow L 64)) (0, 0) _ rfl (setRow_heap _ _ _ _ _ _ HZ.out) Tryz.underlying156 rfl (by rw [numV_size, wrow_len _ _ hk]; exact size43)) rfl ⟨by rw [wrow_full], below_setRow hb (by omega) _⟩
end Go.Proofs.YtjpjpmkadoaipaaGreatDoor
set_option linter.unusedVariables false
set_option pp.maxSteps 200000
namespace Go.Proofs.YtjpjpmkadoaipaaGreatDoor
open Go.RowKit
set_option maxRecDepth 100000 in
set_option maxHeartbeats 1000000 in
theorem down_q (x : Nat) (z : Int) (hx : x < 4294967296) (h : 1 ≤ z ∧ z ≤ 31) (w : World) : Calls Tryz.prog 172 #[.int .u32 x, .int .i64 z] w fun e w' => e = .returned (.int .u32 (rotr x z.toNat)) ∧ w' = w :=
 (down_z x z hx h w).mono fun _ _ ⟨he, hw⟩ => ⟨he, hw.symm⟩
theorem rot_q (x : Nat) (z : Int) (hx : x < 4294967296) (h : 1 ≤ z ∧ z ≤ 31) (w : World) : Calls Tryz.prog 89 #[.int .u32 x, .int .u64 z] w fun e w' => e = .returned (.int .u32 (rotr x z.toNat)) ∧ w' = w :=
 (rot_z x z hx h w).mono fun _ _ ⟨he, hw⟩ => ⟨he, hw.symm⟩
theorem ret_valH {k : IntKind} {a b : Int} (h : a = b) : Value.int k a = .int k b := by rw [h]
theorem bs1_int (x : Nat) (h : x < 4294967296) : bits .xor .u32 (bits .xor .u32 (rotr x 6 : Nat) (rotr x 11 : Nat)) (rotr x 25 : Nat) = (bs1 x : Nat) := xor3_int _ _ _ (rotr_lt _ h) (rotr_lt _ h) (rotr_lt _ h)
theorem bs0_int (x : Nat) (h : x < 4294967296) : bits .xor .u32 (bits .xor .u32 (rotr x 2 : Nat) (rotr x 13 : Nat)) (rotr x 22 : Nat) = (bs0 x : Nat) := xor3_int _ _ _ (rotr_lt _ h) (rotr_lt _ h) (rotr_lt _ h)
theorem not_int (x : Nat) (h : x < 4294967296) : bits .xor .u32 (if IntKind.u32.signed = true then -1 else IntKind.u32.max) (x : Int) = ((4294967295 - x : Nat) : Int) := by
 have h2 := u32_xor_nat 4294967295 x (by decide) h
 have e : (4294967295 ^^^ x) = 4294967295 - x := by
  have h1 := BitVec.toNat_not (x := BitVec.ofNat 32 x)
  rw [BitVec.not_def] at h1
  rw [BitVec.toNat_xor, BitVec.toNat_ofNat, BitVec.toNat_allOnes, Nat.mod_eq_of_lt (by omega)] at h1
  simpa using h1
 rw [e] at h2
 exact h2
theorem chs_int (e f g : Nat) (he : e < 4294967296) (hf : f < 4294967296) (hg : g < 4294967296) :
  bits .xor .u32 (bits .and .u32 (e : Int) (f : Int)) (bits .and .u32 (bits .xor .u32 (if IntKind.u32.signed = true then -1 else IntKind.u32.max) (e : Int)) (g : Int)) = (chs e f g : Nat) := by
 rw [not_int e he, u32_and_nat _ _ he hf, u32_and_nat _ _ (by omega) hg, u32_xor_nat _ _ (and_lt' he) (and_lt' (by omega))]; rfl
theorem mj_int (a b c : Nat) (ha : a < 4294967296) (hb : b < 4294967296) (hc : c < 4294967296) :
  bits .xor .u32 (bits .xor .u32 (bits .and .u32 (a : Int) (b : Int)) (bits .and .u32 (a : Int) (c : Int))) (bits .and .u32 (b : Int) (c : Int)) = (mj a b c : Nat) := by
 rw [u32_and_nat _ _ ha hb, u32_and_nat _ _ ha hc, u32_and_nat _ _ hb hc, xor3_int _ _ _ (and_lt' ha) (and_lt' ha) (and_lt' hb)]; rfl
def tt (s : St) (k w : Nat) : Nat := ad (ad (ad (ad s.h (bs1 s.e)) (chs s.e s.f s.g)) k) w
set_option maxRecDepth 100000 in
set_option maxHeartbeats 2000000 in
theorem mixed_any (L : Nat → Nat) (hL : ∀ i, L i < 256) (s : St) (hs : s.ok) (w : World) : Calls Tryz.prog 156 #[.agg (numV s.list), .agg (numV (wlist L 64))] w fun e w' => e = .returned (.agg (numV (rounds L s 64).list)) ∧ Below w.heap.size w w' := by
 have hw64 := wlist_len L 64
 have c0 : (numV s.list)[0]? = some (.int .u32 s.a) := rfl
 have c1 : (numV s.list)[1]? = some (.int .u32 s.b) := rfl
 have c2 : (numV s.list)[2]? = some (.int .u32 s.c) := rfl
 have c3 : (numV s.list)[3]? = some (.int .u32 s.d) := rfl
 have c4 : (numV s.list)[4]? = some (.int .u32 s.e) := rfl
 have c5 : (numV s.list)[5]? = some (.int .u32 s.f) := rfl
 have c6 : (numV s.list)[6]? = some (.int .u32 s.g) := rfl
 have c7 : (numV s.list)[7]? = some (.int .u32 s.h) := rfl
 obtain ⟨V, hV⟩ : ∃ V, V = numV s.list := ⟨_, rfl⟩
 obtain ⟨X, hX⟩ : ∃ X, X = numV (wlist L 64) := ⟨_, rfl⟩
 rw [← hV] at c0 c1 c2 c3 c4 c5 c6 c7
 rw [← hV, ← hX]
 have hXs : X.size = 64 := by rw [hX, numV_size, hw64]
 have HX := Lib.hid hX; have HXs := Lib.hid hXs
 have HV := Lib.hid hV; have HS := Lib.hid hs
 clear hX hXs hw64 hV hs
 go_enter Tryz.func156, Tryz.ntmps156
 go_wp2_with (first
  | refine wpList_alloc_zero rfl _ rfl _ zero24 ?_)
 obtain ⟨W1, hW1⟩ : ∃ W1, W1 = ((w.alloc (.cells V 117)).alloc (.cells X 156)).alloc (.cells (zrow 8) 117) := ⟨_, rfl⟩
 rw [← hW1]
 have hz : W1.heap.size = w.heap.size + 3 := by rw [hW1]; simp
 have r1 : Row W1 w.heap.size V 117 := by rw [hW1]; exact ((Row.made _ _ _).alloc _).alloc _
 have r2 : Row W1 (w.heap.size + 1) X 156 := by
  rw [hW1]
  have := (Row.made (w.alloc (.cells V 117)) X 156).alloc (.cells (zrow 8) 117)
  simpa using this
 have r3 : Row W1 (w.heap.size + 1 + 1) (zrow 8) 117 := by
  rw [hW1]
  have := Row.made ((w.alloc (.cells V 117)).alloc (.cells X 156)) (zrow 8) 117
  simpa using this
 have hb1 : Below w.heap.size w W1 := by rw [hW1]; exact (((Below.refl _ _).alloc (Nat.le_refl _) _).alloc (by simp) _).alloc (by simp; omega) _
 clear hW1
 have d0 := (r1.cell 0).trans c0
 have d1 := (r1.cell 1).trans c1
 have d2 := (r1.cell 2).trans c2
 have d3 := (r1.cell 3).trans c3
 have d4 := (r1.cell 4).trans c4
 have d5 := (r1.cell 5).trans c5
 have d6 := (r1.cell 6).trans c6
 have d7 := (r1.cell 7).trans c7
 clear c0 c1 c2 c3 c4 c5 c6 c7
 have R1 := Lib.hid r1; have R2 := Lib.hid r2; have R3 := Lib.hid r3; have HZ := Lib.hid hz
 clear r1 r2 r3 hz
 go_quiet (fail)
 obtain ⟨W2, hW2⟩ : ∃ W2, W2 = W1.drewN nq := ⟨_, rfl⟩
 rw [← hW2]
 have e4 : W2.cell? ⟨w.heap.size, 4, none⟩ = some (.int .u32 s.e) := by rw [hW2]; exact d4
 have e5 : W2.cell? ⟨w.heap.size, 5, none⟩ = some (.int .u32 s.f) := by rw [hW2]; exact d5
 have e6 : W2.cell? ⟨w.heap.size, 6, none⟩ = some (.int .u32 s.g) := by rw [hW2]; exact d6
 have e7 : W2.cell? ⟨w.heap.size, 7, none⟩ = some (.int .u32 s.h) := by rw [hW2]; exact d7
 have r2 : Row W2 (w.heap.size + 1) X 156 := by rw [hW2]; exact R2.out
 have r3 : Row W2 (w.heap.size + 1 + 1) (zrow 8) 117 := by rw [hW2]; exact R3.out
 have hb2 : Below w.heap.size w W2 := by rw [hW2]; exact below_drewN hb1 nq
 have hz : W2.heap.size = w.heap.size + 3 := by rw [hW2]; exact HZ.out
 clear d0 d1 d2 d3 d4 d5 d6 d7 hW2 R1 R2 R3 hb1 HZ
 have R2 := Lib.hid r2; have R3 := Lib.hid r3; have HZ := Lib.hid hz
 clear r2 r3 hz
 go_wp2_with fail
 go_quiet (fail)
 obtain ⟨W3, hW3⟩ : ∃ W3, W3 = W2.drewN nq := ⟨_, rfl⟩
 rw [← hW3]
 have r2 : Row W3 (w.heap.size + 1) X 156 := by rw [hW3]; exact R2.out
 have r3 : Row W3 (w.heap.size + 1 + 1) (zrow 8) 117 := by rw [hW3]; exact R3.out
 have hb3 : Below w.heap.size w W3 := by rw [hW3]; exact below_drewN hb2 nq
 have hz : W3.heap.size = w.heap.size + 3 := by rw [hW3]; exact HZ.out
 clear e4 e5 e6 e7 hW3 R2 R3 hb2 HZ
 have R2 := Lib.hid r2; have R3 := Lib.hid r3; have HZ := Lib.hid hz
 clear r2 r3 hz
 go_wp2_with fail
 refine (constants_any _).mono ?_
 rintro e w4 ⟨rfl, hb4⟩
 have hT : w.heap.size + 3 ≤ w4.heap.size := by have := hb4.size; have := HZ.out; omega
 have q2 : Row w4 (w.heap.size + 1) X 156 := R2.out.step hb4
 have q3 : Row w4 (w.heap.size + 1 + 1) (zrow 8) 117 := R3.out.step hb4
 have q1 : Row ((w4.alloc (.cells (zrow 64) 156)).setRow w4.heap.size (numV ktab)) w4.heap.size (numV ktab) 156 := Row.setRow (Row.made _ _ _) _
 have q4 : Row ((w4.alloc (.cells (zrow 64) 156)).setRow w4.heap.size (numV ktab)) (w.heap.size + 1) X 156 := Row.setRow_other (q2.alloc _) _ _ (by omega)
 have q5 : Row ((w4.alloc (.cells (zrow 64) 156)).setRow w4.heap.size (numV ktab)) (w.heap.size + 1 + 1) (zrow 8) 117 := Row.setRow_other (q3.alloc _) _ _ (by omega)
 have hb5 : Below w.heap.size w ((w4.alloc (.cells (zrow 64) 156)).setRow w4.heap.size (numV ktab)) := below_setRow ((below_step hb3 hb4).alloc (by omega) _) (by omega) _
 obtain ⟨T, hTe⟩ : ∃ T, T = w4.heap.size := ⟨_, rfl⟩
 have Q1 := Lib.hid q1; have Q4 := Lib.hid q4; have Q5 := Lib.hid q5; have HT := Lib.hid hT; have HTe := Lib.hid hTe
 clear q1 q2 q3 q4 q5 R2 R3 HZ hT hTe
 go_wp2_with (first
  | refine wpList_alloc_zero rfl _ rfl _ zero43 ?_
  | refine wpList_store_row rfl 156 _ _ rfl w4.heap.size (numV ktab) rfl rfl 156 (zrow 64) (heap_alloc_new _ _) (by rw [numV_size]; exact size43) (by rw [numV_size]; kernel_rfl) (numV_one _) ?_
  | refine wpList_load_row rfl 156 _ rfl (w.heap.size + 1) rfl 156 X (0, 0) _ Q4.out Tryz.underlying156 rfl (by rw [HXs.out]; exact size43) ?_)
 rw [← HTe.out]
 go_loopw [36, 5, 6, 7, 8, 9, 10, 11, 12] (fun i a b c d e f g h wr => ∃ k : Nat, k ≤ 64 ∧ i = .int .i64 k ∧ a = .int .u32 (rounds L s k).a ∧ b = .int .u32 (rounds L s k).b ∧ c = .int .u32 (rounds L s k).c ∧ d = .int .u32 (rounds L s k).d ∧ e = .int .u32 (rounds L s k).e ∧ f = .int .u32 (rounds L s k).f ∧ g = .int .u32 (rounds L s k).g ∧ h = .int .u32 (rounds L s k).h ∧ Row wr T (numV ktab) 156 ∧ Row wr (w.heap.size + 1 + 1) (zrow 8) 117 ∧ Below w.heap.size w wr) (fun i _ _ _ _ _ _ _ _ _ => 64 - (intOf i).toNat)
 case atStart => exact ⟨0, by omega, rfl, rfl, rfl, rfl, rfl, rfl, rfl, rfl, rfl, by have := Q1.out; rwa [← HTe.out] at this, by have := Q5.out; rwa [← HTe.out] at this, by rwa [← HTe.out] at hb5⟩
 case round =>
  clear Q1 Q4 Q5 hb5 hb3 hb4
  obtain ⟨k, hk, rfl, rfl, rfl, rfl, rfl, rfl, rfl, rfl, rfl, hQ, hZ, hb⟩ := hrel
  by_cases hlt : k < 64
  ·have hbk : decide ((k : Int) < 64) = true := by simpa using (show (k : Int) < 64 by omega)
   obtain ⟨la, lb, lc, ld, le, lf, lg, lh⟩ := rounds_ok L HS.out k
   have lw := wd_lt L hL k
   have lk := kt_lt k
   have HN := Lib.hid (show rounds L s (k + 1) = rnd (rounds L s k) (kt k) (wd L k) from rfl)
   obtain ⟨r, hr⟩ : ∃ r, r = rounds L s k := ⟨_, rfl⟩
   rw [← hr] at la lb lc ld le lf lg lh HN ⊢
   obtain ⟨a, b, c, d, e, f, g, h⟩ := r
   dsimp only at la lb lc ld le lf lg lh ⊢
   have hx : X[k]? = some (.int .u32 (wd L k : Nat)) := by rw [HX.out, numV_get _ _ (by rw [wlist_len]; exact hlt)]; rfl
   have ct : wr.cell? ⟨T, k, none⟩ = some (.int .u32 (kt k : Nat)) := by rw [hQ.cell, numV_get _ _ (by rw [ktab_len]; exact hlt)]; rfl
   obtain ⟨x, hxe⟩ : ∃ x, x = wd L k := ⟨_, rfl⟩
   obtain ⟨y, hye⟩ : ∃ x, x = kt k := ⟨_, rfl⟩
   rw [← hxe] at lw HN hx
   rw [← hye] at lk HN ct
   have b5 : (0 : Int) ≤ (k : Int) ∧ (k : Int) < 64 := by omega
   have HQ := Lib.hid hQ; have HZ := Lib.hid hZ; have HR := Lib.hid hr; have HXE := Lib.hid hxe; have HYE := Lib.hid hye
   clear hQ hZ hr hxe hye
   go_wp2_with (refine wpList_index_arr rfl 156 _ _ rfl 64 115 .i64 k X (.int .u32 x) rfl rfl Tryz.underlying156 hlt (by kernel_rfl) (fun w => by kernel_rfl) hx ?_)
   go_quiet ((go_at_call 172; exact Calls.quiet_of_same (down_q _ _ (by assumption) (by decide) _)))
   rw [bs1_int e le, chs_int e f g le lf lg]
   obtain ⟨t, ht⟩ : ∃ t, t = tt ⟨a, b, c, d, e, f, g, h⟩ y x := ⟨_, rfl⟩
   have htv : (((h : Int) + (bs1 e : Nat) + (chs e f g : Nat) + (y : Int)) % 4294967296 + (x : Int)) % 4294967296 = (t : Int) := by rw [ht]; show _ = ((ad (ad (ad (ad h (bs1 e)) (chs e f g)) y) x : Nat) : Int); unfold ad; omega
   rw [htv]
   have lt' : t < 4294967296 := by rw [ht]; exact ad_lt _ _
   have HT' := Lib.hid ht
   clear htv ht ct hx
   obtain ⟨W5, hW5⟩ : ∃ W5, W5 = wr.drewN nq := ⟨_, rfl⟩
   rw [← hW5]
   have hb' : Below w.heap.size w W5 := by rw [hW5]; exact below_drewN hb nq
   have HQ5 : Hid (Row W5 T (numV ktab) 156) := Lib.hid (by rw [hW5]; exact HQ.out)
   have HZ5 : Hid (Row W5 (w.heap.size + 1 + 1) (zrow 8) 117) := Lib.hid (by rw [hW5]; exact HZ.out)
   clear hW5 HQ HZ hb
   go_wp2_with (go_at_call 172; refine (down_z _ _ (by assumption) (by decide) _).mono ?_; rintro e w1 ⟨rfl, rfl⟩)
   go_roundw
   case rel =>
    refine ⟨k + 1, by omega, by go_num, ?_, ?_, ?_, ?_, ?_, ?_, ?_, ?_, HQ5.out, HZ5.out, hb'⟩
    ·rw [HN.out, bs0_int a la, mj_int a b c la lb lc]
     show _ = Value.int .u32 ((ad (tt ⟨a, b, c, d, e, f, g, h⟩ y x) (ad (bs0 a) (mj a b c)) : Nat) : Int)
     rw [← HT'.out]
     exact ret_valH (by unfold ad; omega)
    ·rw [HN.out]; rfl
    ·rw [HN.out]; rfl
    ·rw [HN.out]; rfl
    ·rw [HN.out]
     show _ = Value.int .u32 ((ad d (tt ⟨a, b, c, d, e, f, g, h⟩ y x) : Nat) : Int)
     rw [← HT'.out]
     exact ret_valH (by unfold ad; omega)
    ·rw [HN.out]; rfl
    ·rw [HN.out]; rfl
    ·rw [HN.out]; rfl
   case measure => simp [intOf]; omega
  ·obtain rfl : k = 64 := by omega
   have hbk : decide (((64 : Nat) : Int) < 64) = false := rfl
   obtain ⟨F, hF⟩ : ∃ F, F = rounds L s 64 := ⟨_, rfl⟩
   rw [← hF]
   have HF := Lib.hid hF; clear hF
   have HZ := Lib.hid hZ; clear hZ hQ
   go_wp2_with (first
    | refine wpList_store_row rfl 117 _ _ rfl (w.heap.size + 1 + 1) (numV F.list) rfl rfl 117 (zrow 8) HZ.out (by rw [numV_size]; exact size24) (by rw [numV_size, zrow_size]; rfl) (numV_one _) ?_)
   refine bodyPost_ret (v := .agg (numV F.list)) (results_cell_row rfl _ _ (w.heap.size + 1 + 1) 117 (numV F.list) (0, 0) _ rfl (setRow_heap _ _ _ _ _ _ HZ.out) Tryz.underlying117 rfl (by rw [numV_size]; exact size24)) rfl ?_
   exact ⟨by rw [HF.out], below_setRow hb (by omega) _⟩
end Go.Proofs.YtjpjpmkadoaipaaGreatDoor
set_option linter.unusedVariables false
set_option pp.maxSteps 200000
namespace Go.Proofs.YtjpjpmkadoaipaaGreatDoor
open Go.RowKit
set_option maxRecDepth 100000 in
set_option maxHeartbeats 1000000 in
def mixL (s f : St) (k : Nat) : List Nat := (List.range 8).map fun j => if j < k then ad (s.list.getD j 0) (f.list.getD j 0) else s.list.getD j 0
theorem mixL_zero (s f : St) : mixL s f 0 = s.list := rfl
theorem mixL_full (s f : St) : mixL s f 8 = (s.add f).list := rfl
theorem mixL_len (s f : St) (k : Nat) : (mixL s f k).length = 8 := by simp [mixL]
theorem mixL_get (s f : St) (k : Nat) (h : k < 8) : (mixL s f k).getD k 0 = s.list.getD k 0 := by
 simp [mixL, h]
theorem mixL_set (s f : St) (k : Nat) (h : k < 8) : (mixL s f k).set k (ad (s.list.getD k 0) (f.list.getD k 0)) = mixL s f (k + 1) := by
 match k, h with
 | 0, _ | 1, _ | 2, _ | 3, _ | 4, _ | 5, _ | 6, _ | 7, _ => rfl
 | n + 8, h => exact absurd h (by omega)
structure BkCtx where
 w0 : World
 V : Array Value
 X : Array Value
 Y : Array Value
 F : Array Value
structure bkG (c : BkCtx) (w : World) : Prop where
 below : Below c.w0.heap.size c.w0 w
 size : c.w0.heap.size + 3 ≤ w.heap.size
 r1 : Row w c.w0.heap.size c.V 117
 r2 : Row w (c.w0.heap.size + 1) c.X 119
 r3 : Row w (c.w0.heap.size + 1 + 1) (zrow 8) 117
def bkT (c : BkCtx) (i : Nat) (w w' : World) : Prop := if i = 5 then Below (c.w0.heap.size + 3) w w' else Below w.heap.size w w'
def bkV (c : BkCtx) : Nat → Act → World → Prop
 | 0 => fun a _ => slot a 8 = .agg c.V
 | 1 => fun a _ => slot a 9 = .agg c.X
 | 2 => fun a _ => slot a 10 = .agg c.Y
 | 3 => fun a _ => slot a 11 = .agg c.F
 | 4 => fun a w => ∃ B, slot a 5 = .pointer (some ⟨B, 0, none⟩) ∧ c.w0.heap.size + 3 ≤ B ∧ Row w B (zrow 8) 117
 | 5 => fun a w => ∃ B, slot a 5 = .pointer (some ⟨B, 0, none⟩) ∧ c.w0.heap.size + 3 ≤ B ∧ Row w B c.F 117
 | _ => fun _ _ => True
def bkNeeds : Nat → List Nat | 2 => [1] | 3 => [0, 2] | 5 => [3, 4] | _ => []
def bkDep : Nat → List Tmp | 0 => [8] | 1 => [9] | 2 => [10] | 3 => [11] | 4 => [5] | 5 => [5] | _ => []
theorem bk_needs (i k : Nat) (h : k ∈ bkNeeds i) : k < 6 := by
 unfold bkNeeds at h
 split at h <;> simp at h <;> omega
theorem bk_dep (c : BkCtx) (k : Nat) (a a' : Act) (w : World) (hk : k < 6) (h : ∀ t ∈ bkDep k, slot a' t = slot a t) (hv : bkV c k a w) : bkV c k a' w := by
 match k, hk with
 | 0, _ | 1, _ | 2, _ | 3, _ | 4, _ | 5, _ =>
  simp only [bkDep, List.mem_singleton, forall_eq] at h
  simp only [bkV] at hv ⊢
  rw [h]; exact hv
 | n + 6, hk => exact absurd hk (by omega)
theorem bk_T (c : BkCtx) (i k : Nat) (a : Act) (w w' : World) (hi : i < 6) (hk : k < 6) (hne : k ≠ i) (hke : keptB 6 bkNeeds [5] i k = true) (h : bkV c k a w) (hT : bkT c i w w') : bkV c k a w' := by
 match k, hk with
 | 0, _ | 1, _ | 2, _ | 3, _ => exact h
 | 4, _ =>
  have hi5 : i ≠ 5 := fun e => by subst e; revert hke; decide
  rw [bkT, if_neg hi5] at hT
  obtain ⟨B, h1, h2, h3⟩ := h
  exact ⟨B, h1, h2, h3.step hT⟩
 | 5, _ =>
  rw [bkT, if_neg (fun e => hne e.symm)] at hT
  obtain ⟨B, h1, h2, h3⟩ := h
  exact ⟨B, h1, h2, h3.step hT⟩
 | n + 6, hk => exact absurd hk (by omega)
theorem bkG_T {c : BkCtx} {i : Nat} {w w' : World} (h : bkG c w) (hT : bkT c i w w') : bkG c w' := by
 have hb : Below (c.w0.heap.size + 3) w w' := by
  unfold bkT at hT
  split at hT
  ·exact hT
  ·exact hT.mono h.size
 exact ⟨h.below.trans (hb.mono (by omega)), Nat.le_trans h.size hb.size, h.r1.below hb (by omega), h.r2.below hb (by omega), h.r3.below hb (by omega)⟩
theorem bkT_refl (c : BkCtx) (i : Nat) (w : World) : bkT c i w w := by
 unfold bkT; split <;> exact Below.refl _ _
set_option maxRecDepth 100000 in
set_option maxHeartbeats 2000000 in
theorem Block_any (l : List UInt8) (hl : l.length = 64) (s : St) (hs : s.ok) (w : World) : Calls Tryz.prog 130 #[.agg (numV s.list), .agg (bytV l)] w fun e w' => e = .returned (.agg (numV (blkS s (fun i => (l.getD i 0).toNat)).list)) ∧ Below w.heap.size w w' := by
 obtain ⟨L, hL⟩ : ∃ L : Nat → Nat, L = fun i => (l.getD i 0).toNat := ⟨_, rfl⟩
 have hl8 : ∀ i, L i < 256 := fun i => by rw [hL]; exact UInt8.toNat_lt _
 have CS := Lib.hid (fun w => spread_any l hl w)
 rw [← hL] at CS ⊢
 have CM := Lib.hid (fun w => mixed_any L hl8 s hs w)
 obtain ⟨f, hf⟩ : ∃ f, f = rounds L s 64 := ⟨_, rfl⟩
 rw [← hf] at CM
 have HF : Hid (blkS s L = s.add f) := Lib.hid (by rw [hf]; rfl)
 have hV8 : (numV s.list).size = 8 := by rw [numV_size]; rfl
 have hX8 : (bytV l).size = 64 := by rw [bytV_size, hl]
 obtain ⟨V, hV⟩ : ∃ V, V = numV s.list := ⟨_, rfl⟩
 obtain ⟨X, hX⟩ : ∃ X, X = bytV l := ⟨_, rfl⟩
 rw [← hV] at CM hV8 ⊢
 rw [← hX] at CS hX8 ⊢
 have HV := Lib.hid hV; have HX := Lib.hid hX; have HV8 := Lib.hid hV8; have HX8 := Lib.hid hX8
 clear hL hl8 hf hV hX hV8 hX8
 go_enter Tryz.func130, Tryz.ntmps130
 go_wp2_with (refine wpList_alloc_zero rfl _ rfl _ zero24 ?_)
 simp only [Act.put, List.setIfInBounds_toArray, List.set_cons_zero, List.set_cons_succ]
 rw [show ((w.alloc (.cells V 117)).alloc (.cells X 119)).heap.size = w.heap.size + 1 + 1 by simp]
 obtain ⟨W1, hW1⟩ : ∃ W1, W1 = ((w.alloc (.cells V 117)).alloc (.cells X 119)).alloc (.cells (zrow 8) 117) := ⟨_, rfl⟩
 rw [← hW1]
 have hG : bkG ⟨w, V, X, numV (wlist L 64), numV f.list⟩ { W1 with drawn := W1.drawn + 1 } := by
  refine ⟨?_, ?_, ?_, ?_, ?_⟩
  ·show Below w.heap.size w W1.drew
   rw [hW1]; exact ((((Below.refl _ _).alloc (Nat.le_refl _) _).alloc (by simp) _).alloc (by simp; omega) _).drew
  ·show w.heap.size + 3 ≤ W1.heap.size
   rw [hW1]; simp
  ·show Row W1 w.heap.size V _
   rw [hW1]; exact ((Row.made _ _ _).alloc _).alloc _
  ·show Row W1 (w.heap.size + 1) X _
   rw [hW1]
   have := (Row.made (w.alloc (.cells V 117)) X 119).alloc (.cells (zrow 8) 117)
   simpa using this
  ·show Row W1 (w.heap.size + 1 + 1) (zrow 8) _
   rw [hW1]
   have := Row.made ((w.alloc (.cells V 117)).alloc (.cells X 119)) (zrow 8) 117
   simpa using this
 clear hW1
 refine wp_region_rely (by kernel_rfl) (by kernel_rfl) (bkT ⟨w, V, X, numV (wlist L 64), numV f.list⟩) (bkG ⟨w, V, X, numV (wlist L 64), numV f.list⟩) (bkV ⟨w, V, X, numV (wlist L 64), numV f.list⟩) 6 bkNeeds [5] bkDep (by kernel_rfl) bk_needs (bk_dep _)
  (fun i k a w w' hi hk hne hke h hT => bk_T _ i k a w w' hi hk hne hke h hT) hG (fun j hj hge => absurd hj (by have : 6 ≤ j := hge; omega)) (forall_ops (S := fun i o => ∀ a w', bkG ⟨w, V, X, numV (wlist L 64), numV f.list⟩ w' → (∀ k ∈ bkNeeds i, bkV ⟨w, V, X, numV (wlist L 64), numV f.list⟩ k a w') → (∀ t, (∀ k, dstOf _ k = some t → i ∈ predsOf _ k) → slot a t = slot _ t) → a.tmps.size = _ → o.wp Tryz.prog a w' (fun a' w'' => ∃ v, a' = a.put o.dst v ∧ bkT ⟨w, V, X, numV (wlist L 64), numV f.list⟩ i w' w'' ∧ bkG ⟨w, V, X, numV (wlist L 64), numV f.list⟩ w'' ∧ bkV ⟨w, V, X, numV (wlist L 64), numV f.list⟩ i a' w'') _) ?_) ?_
 ·refine ⟨?_, ?_, ?_, ?_, ?_, ?_, trivial⟩
  ·intro a w' hG hN hO hS
   have e : slot a 2 = .pointer (some ⟨w.heap.size, 0, none⟩) := hO 2 (old_of (by kernel_rfl))
   refine wp_load_row 117 (.tmp 2) rfl w.heap.size (slotE e) 117 V (0, 0) _ hG.r1 Tryz.underlying117 rfl (by rw [HV8.out]; exact size24) ?_
   exact ⟨_, rfl, bkT_refl _ _ _, hG, slot_put_same _ _ _ (by rw [hS]; show (_ : Nat) < 25; decide)⟩
  ·intro a w' hG hN hO hS
   have e : slot a 3 = .pointer (some ⟨w.heap.size + 1, 0, none⟩) := hO 3 (old_of (by kernel_rfl))
   refine wp_load_row 119 (.tmp 3) rfl (w.heap.size + 1) (slotE e) 119 X (0, 0) _ hG.r2 Tryz.underlying119 rfl (by rw [HX8.out]; kernel_rfl) ?_
   exact ⟨_, rfl, bkT_refl _ _ _, hG, slot_put_same _ _ _ (by rw [hS]; show (_ : Nat) < 25; decide)⟩
  ·intro a w' hG hN hO hS
   have e : slot a 9 = .agg X := hN 1 (by decide)
   refine wp_callf 157 _ _ rfl (enters_of Tryz.func157 (by kernel_rfl) rfl) #[.agg X] (by simp [slotE e]) _ (CS.out w') ?_
   intro w'' hb
   have hT : bkT ⟨w, V, X, numV (wlist L 64), numV f.list⟩ 2 w' w'' := hb
   exact ⟨_, rfl, hT, bkG_T hG hT, slot_put_same _ _ _ (by rw [hS]; show (_ : Nat) < 25; decide)⟩
  ·intro a w' hG hN hO hS
   have e : slot a 8 = .agg V := hN 0 (by decide)
   have e2 : slot a 10 = .agg (numV (wlist L 64)) := hN 2 (by decide)
   refine wp_callf 156 _ _ rfl (enters_of Tryz.func156 (by kernel_rfl) rfl) #[.agg V, .agg (numV (wlist L 64))] (by simp [slotE e, slotE e2]) _ (CM.out w') ?_
   intro w'' hb
   have hT : bkT ⟨w, V, X, numV (wlist L 64), numV f.list⟩ 3 w' w'' := hb
   exact ⟨_, rfl, hT, bkG_T hG hT, slot_put_same _ _ _ (by rw [hS]; show (_ : Nat) < 25; decide)⟩
  ·intro a w' hG hN hO hS
   refine wp_alloc_zero _ rfl _ zero24 ?_
   have hT : bkT ⟨w, V, X, numV (wlist L 64), numV f.list⟩ 4 w' (w'.alloc (.cells (zrow 8) 117)) := (Below.refl _ _).alloc (Nat.le_refl _) _
   exact ⟨_, rfl, hT, bkG_T hG hT, _, slot_put_same _ _ _ (by rw [hS]; show (_ : Nat) < 25; decide), hG.size, Row.made _ _ _⟩
  ·intro a w' hG hN hO hS
   obtain ⟨B, e, hB, hR⟩ := hN 4 (by decide)
   have e2 : slot a 11 = .agg (numV f.list) := hN 3 (by decide)
   refine wp_store_row 117 (.tmp 5) (.tmp 11) rfl B (numV f.list) (slotE e) (slotE e2) 117 (zrow 8) hR (by rw [numV_size]; exact size24) (by rw [numV_size, zrow_size]; rfl) (numV_one _) ?_
   have hT : bkT ⟨w, V, X, numV (wlist L 64), numV f.list⟩ 5 w' (w'.setRow B (numV f.list)) := below_setRow (Below.refl _ _) hB _
   exact ⟨_, rfl, hT, bkG_T hG hT, B, e, hB, hR.setRow _⟩
 ·intro a w' hG hV hO hS hD
  obtain ⟨B, e, hB, hR⟩ := hV 5 (by decide) (by decide)
  have ha := act_patch [8, 9, 10, 11, 5] hS hD (fun t ht => hO t (free_of (fun h => ht h)))
  generalize slot a = sl at e ha
  subst ha
  simp only [patchL, List.contains_cons, List.contains_nil, Nat.reduceBEq, Bool.or_false, Bool.or_true, if_true, Bool.false_eq_true, if_false, Nat.reduceAdd]
  rw [e]
  generalize sl 8 = s8
  generalize sl 9 = s9
  generalize sl 10 = s10
  generalize sl 11 = s11
  have b1 := hG.below; have r1 := hG.r1; have r3 := hG.r3
  dsimp only at b1 r1 r3 hB hR
  clear e hG hV hO hS hD
  have HR := Lib.hid hR; have R3 := Lib.hid r3; have HB := Lib.hid hB
  rw [HV.out, ← mixL_zero s f] at r1
  have R1 := Lib.hid r1
  clear hR r3 r1 hB
  go_wp2_with (refine wpList_load_row rfl 117 _ rfl B rfl 117 (numV f.list) (0, 0) _ HR.out Tryz.underlying117 rfl (by rw [numV_size]; exact size24) ?_)
  go_loopw [13] (fun i wr => ∃ k : Nat, k ≤ 8 ∧ i = .int .i64 k ∧ Row wr w.heap.size (numV (mixL s f k)) 117 ∧ Row wr (w.heap.size + 1 + 1) (zrow 8) 117 ∧ Below w.heap.size w wr) (fun i _ => 8 - (intOf i).toNat)
  case atStart => exact ⟨0, by omega, rfl, R1.out, R3.out, b1⟩
  case round =>
   clear R1 R3 b1
   obtain ⟨k, hk, rfl, r1, r3, hb⟩ := hrel
   by_cases hlt : k < 8
   ·have hbk : decide ((k : Int) < 8) = true := by simpa using (show (k : Int) < 8 by omega)
    obtain ⟨x, hx⟩ : ∃ x, x = s.list.getD k 0 := ⟨_, rfl⟩
    obtain ⟨y, hy⟩ : ∃ x, x = f.list.getD k 0 := ⟨_, rfl⟩
    have c1 : wr.cell? ⟨w.heap.size, k, none⟩ = some (.int .u32 x) := by rw [r1.cell, numV_get _ _ (by rw [mixL_len]; exact hlt), mixL_get _ _ _ hlt, hx]
    have cf := r1.free k
    have hyv : (numV f.list)[k]? = some (.int .u32 y) := by rw [numV_get _ _ (by rw [list_len]; exact hlt), hy]
    have HM := Lib.hid (mixL_set s f k hlt)
    rw [← hx, ← hy] at HM
    have b5 : (0 : Int) ≤ (k : Int) ∧ (k : Int) < 8 := by omega
    have R1 := Lib.hid r1; have R3 := Lib.hid r3
    clear r1 r3 hx hy
    go_wp2_with (refine wpList_index_arr rfl 117 _ _ rfl 8 115 .i64 k (numV f.list) (.int .u32 y) rfl rfl Tryz.underlying117 hlt (by kernel_rfl) (fun w => by kernel_rfl) hyv ?_)
    go_roundw
    case rel =>
     refine ⟨k + 1, by omega, by go_num, ?_, R3.out.other _ _ (by show w.heap.size + 1 + 1 ≠ w.heap.size; omega), hb.setCell (Nat.le_refl _) _⟩
     have := R1.out.set k (.int .u32 (ad x y : Nat))
     rw [numV_set, HM.out] at this
     rw [show ((x : Int) + (y : Int)) % 4294967296 = (ad x y : Nat) by unfold ad; omega]
     exact this
    case measure => simp [intOf]; omega
   ·obtain rfl : k = 8 := by omega
    have hbk : decide (((8 : Nat) : Int) < 8) = false := rfl
    rw [mixL_full] at r1
    have R1 := Lib.hid r1; have R3 := Lib.hid r3
    clear r1 r3
    go_wp2_with (first
     | refine wpList_load_row rfl 117 _ rfl w.heap.size rfl 117 (numV (s.add f).list) (0, 0) _ R1.out Tryz.underlying117 rfl (by rw [numV_size]; exact size24) ?_
     | refine wpList_store_row rfl 117 _ _ rfl (w.heap.size + 1 + 1) (numV (s.add f).list) rfl rfl 117 (zrow 8) R3.out (by rw [numV_size]; exact size24) (by rw [numV_size, zrow_size]; rfl) (numV_one _) ?_)
    refine bodyPost_ret (v := .agg (numV (s.add f).list)) (results_cell_row rfl _ _ (w.heap.size + 1 + 1) 117 (numV (s.add f).list) (0, 0) _ rfl (setRow_heap _ _ _ _ _ _ R3.out) Tryz.underlying117 rfl (by rw [numV_size]; exact size24)) rfl ?_
    exact ⟨by rw [HF.out], below_setRow hb (by omega) _⟩
end Go.Proofs.YtjpjpmkadoaipaaGreatDoor
set_option linter.unusedVariables false
set_option pp.maxSteps 200000
namespace Go.Proofs.YtjpjpmkadoaipaaGreatDoor
open Go.RowKit
set_option maxRecDepth 100000 in
set_option maxHeartbeats 1000000 in
theorem chsr_int (e f g : Nat) (he : e < 4294967296) (hf : f < 4294967296) (hg : g < 4294967296) :
  bits .xor .u32 (bits .and .u32 (e : Int) (f : Int)) (bits .and .u32 (4294967295 - (e : Int)) (g : Int)) = (chs e f g : Nat) := by
 rw [show 4294967295 - (e : Int) = ((4294967295 - e : Nat) : Int) by omega, u32_and_nat _ _ he hf, u32_and_nat _ _ (by omega) hg, u32_xor_nat _ _ (and_lt' he) (and_lt' (by omega))]; rfl
def set8 (W : World) (D : Nat) (v0 v1 v2 v3 v4 v5 v6 v7 : Nat) : World :=
 (((((((W.setCell ⟨D, 7, none⟩ (.int .u32 v7)).setCell ⟨D, 6, none⟩ (.int .u32 v6)).setCell ⟨D, 5, none⟩ (.int .u32 v5)).setCell ⟨D, 4, none⟩ (.int .u32 v4)).setCell ⟨D, 3, none⟩ (.int .u32 v3)).setCell ⟨D, 2, none⟩ (.int .u32 v2)).setCell ⟨D, 1, none⟩ (.int .u32 v1)).setCell ⟨D, 0, none⟩ (.int .u32 v0)
theorem set8_row {W : World} {D : Nat} {r : St} {T : TypeId} (q : Row W D (numV r.list) T) (v0 v1 v2 v3 v4 v5 v6 v7 : Nat) : Row (set8 W D v0 v1 v2 v3 v4 v5 v6 v7) D (numV (St.list ⟨v0, v1, v2, v3, v4, v5, v6, v7⟩)) T := by
 have h := (((((((q.set 7 (.int .u32 v7)).set 6 (.int .u32 v6)).set 5 (.int .u32 v5)).set 4 (.int .u32 v4)).set 3 (.int .u32 v3)).set 2 (.int .u32 v2)).set 1 (.int .u32 v1)).set 0 (.int .u32 v0)
 rw [numV_set, numV_set, numV_set, numV_set, numV_set, numV_set, numV_set, numV_set] at h
 exact h
theorem set8_other {W : World} {B D : Nat} {xs : Array Value} {T : TypeId} (q : Row W B xs T) (hne : B ≠ D) (v0 v1 v2 v3 v4 v5 v6 v7 : Nat) : Row (set8 W D v0 v1 v2 v3 v4 v5 v6 v7) B xs T :=
 (((((((q.other _ _ hne).other _ _ hne).other _ _ hne).other _ _ hne).other _ _ hne).other _ _ hne).other _ _ hne).other _ _ hne
theorem set8_below {W : World} {b D : Nat} {w : World} (h : Below b w W) (hD : b ≤ D) (v0 v1 v2 v3 v4 v5 v6 v7 : Nat) : Below b w (set8 W D v0 v1 v2 v3 v4 v5 v6 v7) :=
 (((((((h.setCell hD _).setCell hD _).setCell hD _).setCell hD _).setCell hD _).setCell hD _).setCell hD _).setCell hD _
theorem row8 {W : World} {D : Nat} {a b c d e f g h : Nat} {T : TypeId} (q : Row W D (numV (St.list ⟨a, b, c, d, e, f, g, h⟩)) T) :
  (W.cell? ⟨D, 0, none⟩ = some (.int .u32 a) ∧ W.cell? ⟨D, 1, none⟩ = some (.int .u32 b) ∧ W.cell? ⟨D, 2, none⟩ = some (.int .u32 c) ∧ W.cell? ⟨D, 3, none⟩ = some (.int .u32 d) ∧
   W.cell? ⟨D, 4, none⟩ = some (.int .u32 e) ∧ W.cell? ⟨D, 5, none⟩ = some (.int .u32 f) ∧ W.cell? ⟨D, 6, none⟩ = some (.int .u32 g) ∧ W.cell? ⟨D, 7, none⟩ = some (.int .u32 h)) ∧
  (W.frozen? ⟨D, 0, none⟩ = false ∧ W.frozen? ⟨D, 1, none⟩ = false ∧ W.frozen? ⟨D, 2, none⟩ = false ∧ W.frozen? ⟨D, 3, none⟩ = false ∧ W.frozen? ⟨D, 4, none⟩ = false ∧ W.frozen? ⟨D, 5, none⟩ = false ∧ W.frozen? ⟨D, 6, none⟩ = false ∧ W.frozen? ⟨D, 7, none⟩ = false) := by
 refine ⟨⟨?_, ?_, ?_, ?_, ?_, ?_, ?_, ?_⟩, q.free 0, q.free 1, q.free 2, q.free 3, q.free 4, q.free 5, q.free 6, q.free 7⟩ <;> (rw [q.cell]; rfl)
set_option maxRecDepth 100000 in
set_option maxHeartbeats 4000000 in
theorem refBlock_any (l : List UInt8) (hl : l.length = 64) (s : St) (hs : s.ok) (w : World) : Calls Tryz.prog 64 #[.agg (numV s.list), .agg (bytV l)] w fun e w' => e = .returned (.agg (numV (blkS s (fun i => (l.getD i 0).toNat)).list)) ∧ Below w.heap.size w w' := by
 obtain ⟨L, hL⟩ : ∃ L : Nat → Nat, L = fun i => (l.getD i 0).toNat := ⟨_, rfl⟩
 have hl8 : ∀ i, L i < 256 := fun i => by rw [hL]; exact UInt8.toNat_lt _
 have CS := Lib.hid (fun w => refWords_any l hl w)
 rw [← hL] at CS ⊢
 have HF : Hid (blkS s L = s.add (rounds L s 64)) := Lib.hid rfl
 have hw64 := wlist_len L 64
 have hV8 : (numV s.list).size = 8 := by rw [numV_size]; rfl
 have hX8 : (bytV l).size = 64 := by rw [bytV_size, hl]
 obtain ⟨X, hX⟩ : ∃ X, X = bytV l := ⟨_, rfl⟩
 obtain ⟨Y, hY⟩ : ∃ Y, Y = numV (wlist L 64) := ⟨_, rfl⟩
 have hY8 : Y.size = 64 := by rw [hY, numV_size, hw64]
 rw [← hX] at CS hX8 ⊢
 rw [← hY] at CS
 obtain ⟨V, hV⟩ : ∃ V, V = numV s.list := ⟨_, rfl⟩
 rw [← hV] at hV8 ⊢
 have HV := Lib.hid hV; have HX := Lib.hid hX; have HV8 := Lib.hid hV8; have HX8 := Lib.hid hX8; have HY := Lib.hid hY; have HY8 := Lib.hid hY8; have HL8 := Lib.hid hl8
 clear hL hV hX hV8 hX8 hY hY8 hw64 hl8
 obtain ⟨q1, q2, q3, qb, qz⟩ := alloc3 w V X (zrow 8) 117 119 117
 have Q1 := Lib.hid q1; have Q2 := Lib.hid q2; have Q3 := Lib.hid q3; have QZ := Lib.hid qz
 clear q1 q2 q3 qz
 go_enter Tryz.func64, Tryz.ntmps64
 go_wp2_with (first
  | refine wpList_alloc_zero rfl _ rfl _ zero24 ?_
  | refine wpList_load_row rfl 119 _ rfl (w.heap.size + 1) rfl 119 X (0, 0) _ Q2.out Tryz.underlying119 rfl (by rw [HX8.out]; kernel_rfl) ?_)
 refine (CS.out _).mono ?_
 rintro e w1 ⟨rfl, hb1⟩
 have hz1 : w.heap.size + 3 ≤ w1.heap.size := by have := hb1.size; rw [QZ.out] at this; exact this
 have r1 := Q1.out.step hb1; have r3 := Q3.out.step hb1
 have hb1' := below_step qb (hb1.mono (by simp))
 have R1 := Lib.hid r1; have R3 := Lib.hid r3
 clear Q1 Q2 Q3 QZ qb hb1 r1 r3
 go_wp2_with (first
  | refine wpList_alloc_zero rfl _ rfl _ zero43 ?_
  | refine wpList_store_row rfl 156 _ _ rfl w1.heap.size Y rfl rfl 156 (zrow 64) (heap_alloc_new _ _) (by rw [HY8.out]; exact size43) (by rw [HY8.out, zrow_size]) (by rw [HY.out]; exact numV_one _) ?_)
 refine (refConstants_any _).mono ?_
 rintro e w2 ⟨rfl, hb2⟩
 obtain ⟨A, hA⟩ : ∃ A, A = w1.heap.size := ⟨_, rfl⟩
 have ra : Row w2 A Y 156 := by rw [hA]; exact (Row.setRow (Row.made _ _ _) _).step hb2
 have r1 : Row w2 w.heap.size V 117 := (Row.setRow_other (R1.out.alloc _) _ _ (by omega)).step hb2
 have r3 : Row w2 (w.heap.size + 1 + 1) (zrow 8) 117 := (Row.setRow_other (R3.out.alloc _) _ _ (by omega)).step hb2
 have hb2' : Below w.heap.size w w2 := below_step (below_setRow (hb1'.alloc (by omega) _) (by omega) _) hb2
 have hz2 : A < w2.heap.size := ra.lt
 rw [← hA] at hz1 ⊢
 have qc : Row ((w2.alloc (.cells (zrow 64) 156)).setRow w2.heap.size (numV ktab)) w2.heap.size (numV ktab) 156 := Row.setRow (Row.made _ _ _) _
 have qa : Row ((w2.alloc (.cells (zrow 64) 156)).setRow w2.heap.size (numV ktab)) A Y 156 := Row.setRow_other (ra.alloc _) _ _ (by omega)
 have q1 : Row ((w2.alloc (.cells (zrow 64) 156)).setRow w2.heap.size (numV ktab)) w.heap.size V 117 := Row.setRow_other (r1.alloc _) _ _ (by omega)
 have q3 : Row ((w2.alloc (.cells (zrow 64) 156)).setRow w2.heap.size (numV ktab)) (w.heap.size + 1 + 1) (zrow 8) 117 := Row.setRow_other (r3.alloc _) _ _ (by omega)
 have qb : Below w.heap.size w ((w2.alloc (.cells (zrow 64) 156)).setRow w2.heap.size (numV ktab)) := below_setRow (hb2'.alloc (by omega) _) (by omega) _
 clear R1 R3 hb1' hb2 ra r1 r3 hb2'
 obtain ⟨C, hC⟩ : ∃ C, C = w2.heap.size := ⟨_, rfl⟩
 obtain ⟨W3, hW3⟩ : ∃ W3, W3 = ((w2.alloc (.cells (zrow 64) 156)).setRow w2.heap.size (numV ktab)) := ⟨_, rfl⟩
 have hz3 : W3.heap.size = C + 1 := by rw [hW3, hC]; simp
 rw [← hW3] at qc qa q1 q3 qb
 rw [← hC] at qc hz2
 have QC := Lib.hid qc; have QA := Lib.hid qa; have Q1 := Lib.hid q1; have Q3 := Lib.hid q3; have HW3 := Lib.hid hW3; have HC := Lib.hid hC; have HZ3 := Lib.hid hz3; have HA := Lib.hid hA
 clear qc qa q1 q3 hC hW3 hz3 hA
 go_wp2_with (first
  | refine wpList_alloc_zero rfl _ rfl _ zero43 ?_
  | (refine wpList_store_row rfl 156 _ _ rfl w2.heap.size (numV ktab) rfl rfl 156 (zrow 64) (heap_alloc_new _ _) (by rw [numV_size]; exact size43) (by rw [numV_size]; kernel_rfl) (numV_one _) ?_; rw [← HW3.out, ← HC.out])
  | refine wpList_load_row rfl 117 _ rfl w.heap.size rfl 117 V (0, 0) _ Q1.out Tryz.underlying117 rfl (by rw [HV8.out]; exact size24) ?_
  | refine wpList_alloc_zero rfl 117 rfl _ zero24 ?_
  | refine wpList_store_row rfl 117 _ _ rfl W3.heap.size V rfl rfl 117 (zrow 8) (heap_alloc_new _ _) (by rw [HV8.out]; exact size24) (by rw [HV8.out, zrow_size]) (by rw [HV.out]; exact numV_one _) ?_)
 obtain ⟨D, hD⟩ : ∃ D, D = W3.heap.size := ⟨_, rfl⟩
 have hz3 : C < D := by rw [hD, HZ3.out]; omega
 have qd : Row ((W3.alloc (.cells (zrow 8) 117)).setRow W3.heap.size V) D (numV (rounds L s 0).list) 117 := by
  rw [hD, show rounds L s 0 = s from rfl, ← HV.out]; exact Row.setRow (Row.made _ _ _) _
 have qc : Row ((W3.alloc (.cells (zrow 8) 117)).setRow W3.heap.size V) C (numV ktab) 156 := Row.setRow_other (QC.out.alloc _) _ _ (by omega)
 have qa : Row ((W3.alloc (.cells (zrow 8) 117)).setRow W3.heap.size V) A Y 156 := Row.setRow_other (QA.out.alloc _) _ _ (by omega)
 have q1 : Row ((W3.alloc (.cells (zrow 8) 117)).setRow W3.heap.size V) w.heap.size V 117 := Row.setRow_other (Q1.out.alloc _) _ _ (by omega)
 have q3 : Row ((W3.alloc (.cells (zrow 8) 117)).setRow W3.heap.size V) (w.heap.size + 1 + 1) (zrow 8) 117 := Row.setRow_other (Q3.out.alloc _) _ _ (by omega)
 have qb4 : Below w.heap.size w ((W3.alloc (.cells (zrow 8) 117)).setRow W3.heap.size V) := below_setRow (qb.alloc qb.size _) qb.size _
 rw [← hD] at qd qc qa q1 q3 qb4 ⊢
 clear QC QA Q1 Q3 HZ3 HW3 qb hD
 have QD := Lib.hid qd; have QC := Lib.hid qc; have QA := Lib.hid qa; have Q1 := Lib.hid q1; have Q3 := Lib.hid q3
 clear qd qc qa q1 q3
 go_loopw [8] (fun i wr => ∃ k : Nat, k ≤ 64 ∧ i = .int .i64 k ∧ Row wr D (numV (rounds L s k).list) 117 ∧ Row wr C (numV ktab) 156 ∧ Row wr A Y 156 ∧ Row wr w.heap.size V 117 ∧ Row wr (w.heap.size + 1 + 1) (zrow 8) 117 ∧ Below w.heap.size w wr) (fun i _ => 64 - (intOf i).toNat)
 case atStart => exact ⟨0, by omega, rfl, QD.out, QC.out, QA.out, Q1.out, Q3.out, qb4⟩
 case round =>
  clear QD QC QA Q1 Q3 qb4
  obtain ⟨k, hk, rfl, qd, qc, qa, q1, q3, hb⟩ := hrel
  by_cases hlt : k < 64
  ·have hbk : decide ((k : Int) < 64) = true := by simpa using (show (k : Int) < 64 by omega)
   obtain ⟨la, lb, lc, ld, le, lf, lg, lh⟩ := rounds_ok L hs k
   have lw := wd_lt L HL8.out k
   have lk := kt_lt k
   have HN := Lib.hid (show rounds L s (k + 1) = rnd (rounds L s k) (kt k) (wd L k) from rfl)
   obtain ⟨r, hr⟩ : ∃ r, r = rounds L s k := ⟨_, rfl⟩
   rw [← hr] at la lb lc ld le lf lg lh HN qd
   obtain ⟨a, b, c, d, e, f, g, h⟩ := r
   dsimp only at la lb lc ld le lf lg lh
   have ca : wr.cell? ⟨A, k, none⟩ = some (.int .u32 (wd L k : Nat)) := by rw [qa.cell, HY.out, numV_get _ _ (by rw [wlist_len]; exact hlt)]; rfl
   have ct : wr.cell? ⟨C, k, none⟩ = some (.int .u32 (kt k : Nat)) := by rw [qc.cell, numV_get _ _ (by rw [ktab_len]; exact hlt)]; rfl
   obtain ⟨x, hxe⟩ : ∃ x, x = wd L k := ⟨_, rfl⟩
   obtain ⟨y, hye⟩ : ∃ x, x = kt k := ⟨_, rfl⟩
   rw [← hxe] at lw HN ca
   rw [← hye] at lk HN ct
   have b5 : (0 : Int) ≤ (k : Int) ∧ (k : Int) < 64 := by omega
   obtain ⟨⟨d0, d1, d2, d3, d4, d5, d6, d7⟩, f0, f1, f2, f3, f4, f5, f6, f7⟩ := row8 qd
   have QD := Lib.hid qd; have QC := Lib.hid qc; have QA := Lib.hid qa; have Q1 := Lib.hid q1; have Q3 := Lib.hid q3
   have HR := Lib.hid hr; have HXE := Lib.hid hxe; have HYE := Lib.hid hye
   clear qd qc qa q1 q3 hr hxe hye
   go_wp2_with fail
   go_quiet ((go_at_call 89; exact Calls.quiet_of_same (rot_q _ _ (by assumption) (by decide) _)))
   rw [bs1_int e le]
   obtain ⟨W5, hW5⟩ : ∃ W5, W5 = wr.drewN nq := ⟨_, rfl⟩
   rw [← hW5]
   have hb5 : Below w.heap.size w W5 := by rw [hW5]; exact below_drewN hb nq
   have qd := QD.out.drewN nq; have qc := QC.out.drewN nq; have qa := QA.out.drewN nq; have q1 := Q1.out.drewN nq; have q3 := Q3.out.drewN nq
   rw [← hW5] at qd qc qa q1 q3
   have ca' : W5.cell? ⟨A, k, none⟩ = some (.int .u32 x) := by rw [hW5]; exact ca
   have ct' : W5.cell? ⟨C, k, none⟩ = some (.int .u32 y) := by rw [hW5]; exact ct
   clear d0 d1 d2 d3 d4 d5 d6 d7 f0 f1 f2 f3 f4 f5 f6 f7 ca ct QD QC QA Q1 Q3 hb hW5
   have ca := ca'; have ct := ct'
   clear ca' ct'
   obtain ⟨⟨d0, d1, d2, d3, d4, d5, d6, d7⟩, f0, f1, f2, f3, f4, f5, f6, f7⟩ := row8 qd
   have QD := Lib.hid qd; have QC := Lib.hid qc; have QA := Lib.hid qa; have Q1 := Lib.hid q1; have Q3 := Lib.hid q3
   clear qd qc qa q1 q3
   go_wp2_with fail
   rw [chsr_int e f g le lf lg]
   go_quiet (fail)
   obtain ⟨W6, hW6⟩ : ∃ W6, W6 = W5.drewN nq := ⟨_, rfl⟩
   rw [← hW6]
   have hb6 : Below w.heap.size w W6 := by rw [hW6]; exact below_drewN hb5 nq
   have qd := QD.out.drewN nq; have qc := QC.out.drewN nq; have qa := QA.out.drewN nq; have q1 := Q1.out.drewN nq; have q3 := Q3.out.drewN nq
   rw [← hW6] at qd qc qa q1 q3
   have ca' : W6.cell? ⟨A, k, none⟩ = some (.int .u32 x) := by rw [hW6]; exact ca
   have ct' : W6.cell? ⟨C, k, none⟩ = some (.int .u32 y) := by rw [hW6]; exact ct
   clear d0 d1 d2 d3 d4 d5 d6 d7 f0 f1 f2 f3 f4 f5 f6 f7 ca ct QD QC QA Q1 Q3 hb5 hW6
   have ca := ca'; have ct := ct'
   clear ca' ct'
   obtain ⟨⟨d0, d1, d2, d3, d4, d5, d6, d7⟩, f0, f1, f2, f3, f4, f5, f6, f7⟩ := row8 qd
   have QD := Lib.hid qd; have QC := Lib.hid qc; have QA := Lib.hid qa; have Q1 := Lib.hid q1; have Q3 := Lib.hid q3
   clear qd qc qa q1 q3
   go_wp2_with fail
   go_quiet ((go_at_call 89; exact Calls.quiet_of_same (rot_q _ _ (by assumption) (by decide) _)))
   rw [bs0_int a la]
   obtain ⟨W7, hW7⟩ : ∃ W7, W7 = W6.drewN nq := ⟨_, rfl⟩
   rw [← hW7]
   have hb7 : Below w.heap.size w W7 := by rw [hW7]; exact below_drewN hb6 nq
   have qd := QD.out.drewN nq; have qc := QC.out.drewN nq; have qa := QA.out.drewN nq; have q1 := Q1.out.drewN nq; have q3 := Q3.out.drewN nq
   rw [← hW7] at qd qc qa q1 q3
   have ca' : W7.cell? ⟨A, k, none⟩ = some (.int .u32 x) := by rw [hW7]; exact ca
   have ct' : W7.cell? ⟨C, k, none⟩ = some (.int .u32 y) := by rw [hW7]; exact ct
   clear d0 d1 d2 d3 d4 d5 d6 d7 f0 f1 f2 f3 f4 f5 f6 f7 ca ct QD QC QA Q1 Q3 hb6 hW7
   have ca := ca'; have ct := ct'
   clear ca' ct'
   obtain ⟨⟨d0, d1, d2, d3, d4, d5, d6, d7⟩, f0, f1, f2, f3, f4, f5, f6, f7⟩ := row8 qd
   have QD := Lib.hid qd; have QC := Lib.hid qc; have QA := Lib.hid qa; have Q1 := Lib.hid q1; have Q3 := Lib.hid q3
   clear qd qc qa q1 q3
   clear ca ct b5
   go_wp2_with fail
   go_roundw
   case rel =>
    rw [mj_int a b c la lb lc]
    rw [show ((d : Int) + ((h : Int) + (bs1 e : Nat) + (chs e f g : Nat) + (y : Int) + (x : Int))) % 4294967296 = (ad d (tt ⟨a, b, c, d, e, f, g, h⟩ y x) : Nat) by
     show _ = ((ad d (ad (ad (ad (ad h (bs1 e)) (chs e f g)) y) x) : Nat) : Int); unfold ad; omega]
    rw [show ((h : Int) + (bs1 e : Nat) + (chs e f g : Nat) + (y : Int) + (x : Int) + (bs0 a : Nat) + (mj a b c : Nat)) % 4294967296 = (ad (tt ⟨a, b, c, d, e, f, g, h⟩ y x) (ad (bs0 a) (mj a b c)) : Nat) by
     show _ = ((ad (ad (ad (ad (ad h (bs1 e)) (chs e f g)) y) x) (ad (bs0 a) (mj a b c)) : Nat) : Int); unfold ad; omega]
    refine ⟨k + 1, by omega, by go_num, ?_, set8_other QC.out (by omega) _ _ _ _ _ _ _ _, set8_other QA.out (by omega) _ _ _ _ _ _ _ _, set8_other Q1.out (by omega) _ _ _ _ _ _ _ _, set8_other Q3.out (by omega) _ _ _ _ _ _ _ _, set8_below hb7 (by omega) _ _ _ _ _ _ _ _⟩
    rw [HN.out]
    exact set8_row QD.out _ _ _ _ _ _ _ _
   case measure => simp [intOf]; omega
  ·have hk64 : k = 64 := by omega
   have hbk : decide ((k : Int) < 64) = false := by rw [hk64]; rfl
   rw [hk64] at qd
   clear hk64 hk hlt
   obtain ⟨f, hf⟩ : ∃ f, f = rounds L s 64 := ⟨_, rfl⟩
   rw [← hf] at qd HF
   rw [HV.out, ← mixL_zero s f] at q1
   have Q1 := Lib.hid q1; have Q3 := Lib.hid q3; have QD := Lib.hid qd
   clear q1 q3 qd qa qc hf
   go_wp2_with fail
   go_loopw [14] (fun i wr => ∃ k : Nat, k ≤ 8 ∧ i = .int .i64 k ∧ Row wr w.heap.size (numV (mixL s f k)) 117 ∧ Row wr (w.heap.size + 1 + 1) (zrow 8) 117 ∧ Row wr D (numV f.list) 117 ∧ Below w.heap.size w wr) (fun i _ => 8 - (intOf i).toNat)
   case atStart => exact ⟨0, by omega, rfl, Q1.out, Q3.out, QD.out, hb⟩
   case round =>
    clear Q1 Q3 QD hb
    obtain ⟨k, hk, rfl, r1, r3, rd, hb⟩ := hrel
    by_cases hlt : k < 8
    ·have hbk : decide ((k : Int) < 8) = true := by simpa using (show (k : Int) < 8 by omega)
     obtain ⟨x, hx⟩ : ∃ x, x = s.list.getD k 0 := ⟨_, rfl⟩
     obtain ⟨y, hy⟩ : ∃ x, x = f.list.getD k 0 := ⟨_, rfl⟩
     have c1 : wr.cell? ⟨w.heap.size, k, none⟩ = some (.int .u32 x) := by rw [r1.cell, numV_get _ _ (by rw [mixL_len]; exact hlt), mixL_get _ _ _ hlt, hx]
     have c2 : wr.cell? ⟨D, k, none⟩ = some (.int .u32 y) := by rw [rd.cell, numV_get _ _ (by rw [list_len]; exact hlt), hy]
     have cf := r1.free k
     have HM := Lib.hid (mixL_set s f k hlt)
     rw [← hx, ← hy] at HM
     have b5 : (0 : Int) ≤ (k : Int) ∧ (k : Int) < 8 := by omega
     have R1 := Lib.hid r1; have R3 := Lib.hid r3; have RD := Lib.hid rd
     clear r1 r3 rd hx hy
     go_wp2_with fail
     go_still_tail 9, (by kernel_rfl)
     change wpList _ _ _ _ _ wr.drew
     clear c2
     go_wp2_with fail
     go_roundw
     case rel =>
      refine ⟨k + 1, by omega, by go_num, ?_, (Row.drew R3.out).other _ _ (by show w.heap.size + 1 + 1 ≠ w.heap.size; omega), (Row.drew RD.out).other _ _ (by show D ≠ w.heap.size; omega), (hb.drew).setCell (Nat.le_refl _) _⟩
      have := (Row.drew R1.out).set k (.int .u32 (ad x y : Nat))
      rw [numV_set, HM.out] at this
      rw [show ((x : Int) + (y : Int)) % 4294967296 = (ad x y : Nat) by unfold ad; omega]
      exact this
     case measure => simp [intOf]; omega
    ·obtain rfl : k = 8 := by omega
     have hbk : decide (((8 : Nat) : Int) < 8) = false := rfl
     rw [mixL_full] at r1
     have R1 := Lib.hid r1; have R3 := Lib.hid r3
     clear r1 r3 rd
     go_wp2_with (first
      | refine wpList_load_row rfl 117 _ rfl w.heap.size rfl 117 (numV (s.add f).list) (0, 0) _ R1.out Tryz.underlying117 rfl (by rw [numV_size]; exact size24) ?_
      | refine wpList_store_row rfl 117 _ _ rfl (w.heap.size + 1 + 1) (numV (s.add f).list) rfl rfl 117 (zrow 8) R3.out (by rw [numV_size]; exact size24) (by rw [numV_size, zrow_size]; rfl) (numV_one _) ?_)
     refine bodyPost_ret (v := .agg (numV (s.add f).list)) (results_cell_row rfl _ _ (w.heap.size + 1 + 1) 117 (numV (s.add f).list) (0, 0) _ rfl (setRow_heap _ _ _ _ _ _ R3.out) Tryz.underlying117 rfl (by rw [numV_size]; exact size24)) rfl ?_
     exact ⟨by rw [HF.out], below_setRow hb (by omega) _⟩
end Go.Proofs.YtjpjpmkadoaipaaGreatDoor
set_option linter.unusedVariables false
set_option pp.maxSteps 200000
namespace Go.Proofs.YtjpjpmkadoaipaaGreatDoor
open Go.RowKit
set_option maxRecDepth 100000 in
set_option maxHeartbeats 1000000 in
theorem str_bytes (l : List UInt8) : strOfNums (l.map fun u : UInt8 => (u.toNat : Int)) = ⟨l.toArray⟩ := by
 unfold strOfNums
 rw [List.map_map]
 congr 2
 exact (List.map_congr_left (fun u _ => by simp)).trans (List.map_id l)
theorem bytV_ints (l : List UInt8) : bytV l = ((l.map fun u : UInt8 => (u.toNat : Int)).map (Value.int .u8)).toArray := by simp [bytV]
theorem conv_bytes {W : World} {B : Nat} {l : List UInt8} {T : TypeId} (h : Row W B (bytV l) T) (n cap : Nat) (hn : l.length = n) :
  (convert 113 9 (.slice (some ⟨B, 0, none⟩) n cap)).run Tryz.prog W = .ok (.string ⟨l.toArray⟩) W := by
 have h' : W.heap[B]? = some (.cells ((l.map fun u : UInt8 => (u.toNat : Int)).map (Value.int .u8)).toArray T (0, 0)) := by rw [← bytV_ints]; exact h
 rw [conv_row 113 5 9 Tryz.underlying113 Tryz.underlying5 Tryz.underlying9 W B T (0, 0) _ h' n cap (by simpa using hn), str_bytes]
theorem zero67 : (Tryz.prog.info? 206).bind (fun i => i.zero.map (·.cells)) = some (zbyt 32) := by kernel_rfl
def browL (s : St) (k : Nat) : List UInt8 := (List.range 32).map fun j => if j < k then byteAt s j else 0
theorem browL_zero (s : St) : browL s 0 = List.replicate 32 0 := by simp [browL, List.map_const']
theorem browL_full (s : St) : browL s 32 = s.bytes := by
 rw [← bytes_row]
 unfold browL
 apply List.map_congr_left
 intro j hj
 rw [if_pos (List.mem_range.1 hj)]
theorem browL_len (s : St) (k : Nat) : (browL s k).length = 32 := by simp [browL]
theorem browL_set (s : St) (k : Nat) (h : k < 32) : (browL s k).set k (byteAt s k) = browL s (k + 1) := by
 apply List.ext_getElem?
 intro i
 unfold browL
 rw [List.getElem?_set]
 by_cases hi : i < 32
 ·by_cases e : k = i
  ·subst e; simp [h]
  ·simp only [e, if_false, List.getElem?_map, List.getElem?_range hi, Option.map_some]
   by_cases h2 : i < k
   ·rw [if_pos h2, if_pos (by omega)]
   ·rw [if_neg h2, if_neg (by omega)]
 ·simp [hi]
  omega
set_option maxRecDepth 100000 in
set_option maxHeartbeats 2000000 in
theorem bytes_any (s : St) (hs : s.ok) (w : World) : Calls Tryz.prog 97 #[.agg (numV s.list)] w fun e w' => e = .returned (.string ⟨s.bytes.toArray⟩) ∧ Below w.heap.size w w' := by
 go_enter Tryz.func97, Tryz.ntmps97
 go_wp2_with (refine wpList_alloc_zero rfl _ rfl _ zero67 ?_)
 go_loopw [6, 4, 5] (fun i _ _ wr => ∃ k : Nat, k ≤ 32 ∧ i = .int .i64 k ∧ Row wr w.heap.size (numV s.list) 162 ∧ Row wr (w.heap.size + 1) (bytV (browL s k)) 206 ∧ Below w.heap.size w wr) (fun i _ _ _ => 32 - (intOf i).toNat)
 case atStart =>
  refine ⟨0, by omega, rfl, (Row.made _ _ _).alloc _, ?_, ((Below.refl _ _).alloc (Nat.le_refl _) _).alloc (by simp) _⟩
  rw [browL_zero]
  have := Row.made (w.alloc (.cells (numV s.list) 162)) (zbyt 32) 206
  simpa [zbyt] using this
 case round =>
  obtain ⟨k, hk, rfl, r1, r2, hb⟩ := hrel
  by_cases hlt : k < 32
  ·have hbk : decide ((k : Int) < 32) = true := by simpa using (show (k : Int) < 32 by omega)
   obtain ⟨q, hq⟩ : ∃ q, q = k / 4 := ⟨_, rfl⟩
   obtain ⟨r, hr⟩ : ∃ r, r = k % 4 := ⟨_, rfl⟩
   obtain ⟨c, hc⟩ : ∃ c, c = 8 * (3 - r) := ⟨_, rfl⟩
   have e1 : (k : Int) % 4 = (r : Int) := by omega
   have e2 : (k : Int) / 4 = (q : Int) := by omega
   have e3 : (8 : Int) * (4 - ((r : Int) + 1)) = (c : Int) := by omega
   have bq : (0 : Int) ≤ (q : Int) ∧ (q : Int) < 8 := by omega
   have br : (0 : Int) ≤ (r : Int) ∧ (r : Int) < 4 := by omega
   have bc : c ≤ 24 := by omega
   have bk : (0 : Int) ≤ (k : Int) ∧ (k : Int) < 32 := by omega
   obtain ⟨x, hx⟩ : ∃ x, x = s.list.getD q 0 := ⟨_, rfl⟩
   have cx : wr.cell? ⟨w.heap.size, q, none⟩ = some (.int .u32 x) := by rw [r1.cell, numV_get _ _ (by rw [list_len]; omega), hx]
   have cf := r2.free k
   have cr : ∃ v, wr.cell? ⟨w.heap.size + 1, k, none⟩ = some v := ⟨_, by rw [r2.cell, bytV_get _ _ (by rw [browL_len]; exact hlt)]⟩
   obtain ⟨v, cr⟩ := cr
   have lx : x < 4294967296 := by
    obtain ⟨h0, h1, h2, h3, h4, h5, h6, h7⟩ := hs
    rw [hx]
    exact getD_lt (l := s.list) (by intro y hy; simp only [St.list, List.mem_cons, List.not_mem_nil, or_false] at hy; rcases hy with rfl | rfl | rfl | rfl | rfl | rfl | rfl | rfl <;> assumption) q
   have HB := Lib.hid (show byteAt s k = UInt8.ofNat (x / 2 ^ c) by unfold byteAt; rw [← hq, ← hr, ← hc, hx])
   have R1 := Lib.hid r1; have R2 := Lib.hid r2
   clear hq hr hc hx r1 r2
   go_wp2_with fail
   go_roundw
   case rel =>
    have h8 : (x : Int) / 2 ^ c % 256 = ((UInt8.ofNat (x / 2 ^ c)).toNat : Int) := by
     rw [UInt8.toNat_ofNat', Int.natCast_emod, Int.natCast_ediv, Int.natCast_pow]; rfl
    rw [h8, ← HB.out]
    refine ⟨k + 1, by omega, by go_num, R1.out.other _ _ (by show w.heap.size ≠ w.heap.size + 1; omega), ?_, hb.setCell (by show w.heap.size ≤ w.heap.size + 1; omega) _⟩
    have := R2.out.set k (.int .u8 ((byteAt s k).toNat : Nat))
    rw [bytV_set, browL_set s k hlt] at this
    exact this
   case measure => simp [intOf]; omega
  ·obtain rfl : k = 32 := by omega
   have hbk : decide (((32 : Nat) : Int) < 32) = false := rfl
   rw [browL_full] at r2
   have R2 := Lib.hid r2
   clear r1 r2
   go_wp2_with (refine wpList_convert rfl _ _ _ rfl _ _ _ rfl (conv_bytes R2.out 32 32 (bytes_len s)) ?_)
   go_ret
   exact ⟨rfl, hb⟩
theorem size53 : (Tryz.prog.info? 162).map (·.size) = some 8 := by kernel_rfl
theorem zero53 : (Tryz.prog.info? 162).bind (fun i => i.zero.map (·.cells)) = some (zrow 8) := by kernel_rfl
theorem size25 : (Tryz.prog.info? 119).map (·.size) = some 64 := by kernel_rfl
set_option maxRecDepth 100000 in
set_option maxHeartbeats 2000000 in
theorem behind_any_She (l : List UInt8) (hl : l.length = 64) (s : St) (hs : s.ok) (w : World) : Calls Tryz.prog 95 #[.agg (numV s.list), .agg (bytV l)] w fun e w' => e = .returned (.agg (numV (blk s l).list)) ∧ Below w.heap.size w w' := by
 have CB := Lib.hid (fun w => Block_any l hl s hs w)
 obtain ⟨f, hf⟩ : ∃ f, f = blk s l := ⟨_, rfl⟩
 rw [← byt_eq, show blkS s (byt l) = f from hf.symm] at CB
 have HF := Lib.hid hf; clear hf
 have hV8 : (numV s.list).size = 8 := by rw [numV_size]; rfl
 have hX8 : (bytV l).size = 64 := by rw [bytV_size, hl]
 obtain ⟨V, hV⟩ : ∃ V, V = numV s.list := ⟨_, rfl⟩
 obtain ⟨X, hX⟩ : ∃ X, X = bytV l := ⟨_, rfl⟩
 rw [← hX] at CB hX8 ⊢
 rw [← hV] at CB hV8 ⊢
 have HV := Lib.hid hV; have HX := Lib.hid hX; have HV8 := Lib.hid hV8; have HX8 := Lib.hid hX8
 clear hV hX hV8 hX8
 obtain ⟨q1, q2, q3, qb, qz⟩ := alloc3 w V X (zrow 8) 162 119 162
 have Q1 := Lib.hid q1; have Q2 := Lib.hid q2; have Q3 := Lib.hid q3; have QZ := Lib.hid qz
 clear q1 q2 q3 qz
 go_enter Tryz.func95, Tryz.ntmps95
 go_wp2_with (first
  | refine wpList_alloc_zero rfl _ rfl _ zero53 ?_
  | refine wpList_load_row rfl 162 _ rfl w.heap.size rfl 162 V (0, 0) _ Q1.out Tryz.underlying162 rfl (by rw [HV8.out]; exact size53) ?_
  | refine wpList_load_row rfl 119 _ rfl (w.heap.size + 1) rfl 119 X (0, 0) _ Q2.out Tryz.underlying119 rfl (by rw [HX8.out]; exact size25) ?_)
 refine (CB.out _).mono ?_
 rintro e w1 ⟨rfl, hb1⟩
 have r3 := Q3.out.step hb1
 have hb1' := below_step qb (hb1.mono (by simp))
 have R3 := Lib.hid r3
 clear Q1 Q2 Q3 QZ r3 hb1 qb
 go_wp2_with (refine wpList_store_row rfl 162 _ _ rfl (w.heap.size + 1 + 1) (numV f.list) rfl rfl 162 (zrow 8) R3.out (by rw [numV_size]; exact size53) (by rw [numV_size, zrow_size]; rfl) (numV_one _) ?_)
 refine bodyPost_ret (v := .agg (numV f.list)) (results_cell_row rfl _ _ (w.heap.size + 1 + 1) 162 (numV f.list) (0, 0) _ rfl (setRow_heap _ _ _ _ _ _ R3.out) Tryz.underlying162 rfl (by rw [numV_size]; exact size53)) rfl ?_
 exact ⟨by rw [HF.out], below_setRow hb1' (by omega) _⟩
end Go.Proofs.YtjpjpmkadoaipaaGreatDoor
set_option linter.unusedVariables false
namespace Go.Proofs.YtjpjpmkadoaipaaGreatDoor
open Go.RowKit
def setSeg : Array Value → Nat → List Value → Array Value
 | xs, _, [] => xs
 | xs, o, v :: r => setSeg (xs.setIfInBounds o v) (o + 1) r
theorem setSeg_eq : ∀ (vs : List Value) (A M B : List Value), M.length = vs.length → setSeg (A ++ M ++ B).toArray A.length vs = (A ++ vs ++ B).toArray
 | [], A, M, B, h => by
  have : M = [] := List.length_eq_zero_iff.1 h
  subst this; rfl
 | v :: r, A, [], B, h => by simp at h
 | v :: r, A, m :: M, B, h => by
  have := setSeg_eq r (A ++ [v]) M B (by simpa using h)
  rw [setSeg, show (A ++ m :: M ++ B).toArray.setIfInBounds A.length v = (A ++ [v] ++ M ++ B).toArray by simp]
  simp only [List.length_append, List.length_singleton] at this
  rw [this]; simp
theorem Row.setCells {W : World} {B : Nat} {T : TypeId} : ∀ (vs : List Value) {xs : Array Value} {W : World} (h : Row W B xs T) (o : Nat), Row (W.setCells B o vs) B (setSeg xs o vs) T
 | [], _, _, h, _ => h
 | v :: r, _, _, h, o => Row.setCells (W := W) r (h.set o v) (o + 1)
theorem below_setCells {b g : Nat} {w : World} : ∀ (vs : List Value) {W : World} (h : Below b w W) (o : Nat) (hg : b ≤ g), Below b w (W.setCells g o vs)
 | [], _, h, _, _ => h
 | v :: r, _, h, o, hg => below_setCells r (h.setCell hg v) (o + 1) hg
theorem Row.range {W : World} {B : Nat} {T : TypeId} {A M C : List Value} (h : Row W B (A ++ M ++ C).toArray T) : W.rangeAt B A.length M := fun j v hv => by
 rw [h.cell]
 have hj : j < M.length := (List.getElem?_eq_some_iff.1 hv).1
 simp only [List.getElem?_toArray]
 rw [List.append_assoc, List.getElem?_append_right (by omega), List.getElem?_append_left (by omega), show A.length + j - A.length = j by omega, hv]
theorem Row.there {W : World} {B : Nat} {T : TypeId} {xs : Array Value} (h : Row W B xs T) (o n : Nat) (hn : o + n ≤ xs.size) : W.there B o n := fun j hj => by
 refine ⟨?_, h.free _⟩
 rw [h.cell, Array.getElem?_eq_getElem (by omega)]
 rfl
theorem run_copy_part {P : Program} (w : World) (dT sT ty elem : TypeId) (g dLen dCap : Nat) (s : ByteArray) (A M C : List Value) (t : TypeId)
  (hu : P.underlying dT = some (.slice elem)) (hs : (P.info? elem).map (·.size) = some 1) (hg : Row w g (A ++ M ++ C).toArray t) (n : Nat) (hn : Nat.min s.size dLen = n) (hM : M.length = n) :
  (Builtin.copy_ #[dT, sT] ty #[.slice (some ⟨g, A.length, none⟩) dLen dCap, .string s]).run P w =
   .ok (goInt n) (w.setRow g (A ++ Lib.byteCells (s.data.toList.take n) ++ C).toArray) := by
 have hle : n ≤ s.size := by rw [← hn]; exact Nat.min_le_left _ _
 have hl : (Lib.byteCells (s.data.toList.take n)).length = n := by rw [Lib.byteCells_length, List.length_take, ← Lib.size_eq]; omega
 have hst := run_storeCells_at P g A.length t (Lib.byteCells (s.data.toList.take n)) 0 (A ++ M ++ C).toArray w hg (by rw [hl]; simp; omega) (Lib.byteCells_one _)
 rw [hl] at hst
 simp only [Nat.add_zero] at hst
 rw [show ((A ++ M ++ C).toArray.toList.take A.length ++ Lib.byteCells (s.data.toList.take n) ++ (A ++ M ++ C).toArray.toList.drop (A.length + n)) = A ++ Lib.byteCells (s.data.toList.take n) ++ C by
  simp [← hM, List.append_assoc, ← List.drop_drop]] at hst
 have hx : List.take n (List.map (fun b : UInt8 => Value.int IntKind.u8 (b.toNat : Int)) s.data.toList) = Lib.byteCells (s.data.toList.take n) := by
  rw [← List.map_take]; rfl
 cases hq : P.info? elem with
 | none => simp [hq] at hs
 | some i =>
  simp [Builtin.copy_, run_underlying hu, Builtin.lenOf, Builtin.firstCells, sizeOf, typeInfo, hq, hn]
  rw [hx, hst]
  simp [Result.andThen]
theorem Row.rangeA {W : World} {B : Nat} {T : TypeId} {A C : List Value} {M : Array Value} (h : Row W B (A ++ M.toList ++ C).toArray T) (n : Nat) (hn : A.length = n) : W.rangeAt B n M.toList := by subst hn; exact h.range
end Go.Proofs.YtjpjpmkadoaipaaGreatDoor
set_option linter.unusedVariables false
set_option pp.maxSteps 200000
namespace Go.Proofs.YtjpjpmkadoaipaaGreatDoor
open Go.RowKit
set_option maxRecDepth 100000 in
set_option maxHeartbeats 1000000 in
def rcl (s : St) (rest : List UInt8) (held size : Nat) : List Value :=
 s.list.map (fun n : Nat => Value.int .u32 (n : Int)) ++ (rest.map (fun n : UInt8 => Value.int .u8 (n.toNat : Int)) ++ [.int .i64 (held : Int), .int .u64 (size : Int)])
theorem rcl_len (s : St) (rest : List UInt8) (held size : Nat) (h : rest.length = 64) : (rcl s rest held size).length = 74 := by simp [rcl, h, list_len]
def FedTo (B : Nat) (W : World) (s : St) (p : List UInt8) (size : Nat) : Prop :=
 ∃ rest : List UInt8, rest.length = 64 ∧ rest.take p.length = p ∧ p.length < 64 ∧ Row W B (rcl s rest p.length size).toArray 164
set_option maxRecDepth 100000 in
set_option maxHeartbeats 2000000 in
theorem newReader_any (w : World) : Calls Tryz.prog 72 #[] w fun e w' => ∃ B, w.heap.size ≤ B ∧ e = .returned (.pointer (some ⟨B, 0, none⟩)) ∧ FedTo B w' first [] 0 ∧ Below w.heap.size w w' := by
  go_enter Tryz.func72, Tryz.ntmps72
  go_wp2_with fail
  refine (First_any _).mono ?_
  rintro e w1 ⟨rfl, hb1⟩
  go_wp2_with fail
  first
  | (refine cast (congrArg (Oper.upon _ _ _ _ _) (show Result.ok (Next.value (Value.agg (rcl first (List.replicate 64 0) 0 0).toArray)) w1 = _ by kernel_rfl)) ?_
     rw [Oper.upon_value]
     go_wp2
     go_ret
     refine ⟨w1.heap.size, hb1.size, rfl, ⟨List.replicate 64 0, by simp, rfl, by decide, ?_⟩, hb1.alloc hb1.size _⟩
     exact Row.made _ _ _)
  | (go_ret
     refine ⟨w1.heap.size, hb1.size, rfl, ⟨List.replicate 64 0, by simp, rfl, by decide, ?_⟩, hb1.alloc hb1.size _⟩
     exact cast (congrArg (fun xs => Row (w1.alloc (.cells xs 164)) w1.heap.size (rcl first (List.replicate 64 0) 0 0).toArray 164) (show (rcl first (List.replicate 64 0) 0 0).toArray = _ by kernel_rfl)) (Row.made _ _ _))
def strLen : Value → Nat | .string t => t.size | _ => 0
theorem rcl_parts (s : St) (rest : List UInt8) (held size h n : Nat) :
  rcl s rest held size = (s.list.map (fun n : Nat => Value.int .u32 (n : Int)) ++ (rest.take h).map (fun n : UInt8 => Value.int .u8 (n.toNat : Int))) ++ ((rest.drop h).take n).map (fun n : UInt8 => Value.int .u8 (n.toNat : Int)) ++ ((rest.drop (h + n)).map (fun n : UInt8 => Value.int .u8 (n.toNat : Int)) ++ [.int .i64 (held : Int), .int .u64 (size : Int)]) := by
 have e : rest = rest.take h ++ ((rest.drop h).take n ++ rest.drop (h + n)) := by rw [← List.drop_drop, List.take_append_drop, List.take_append_drop]
 unfold rcl
 conv => lhs; rw [e]
 simp
theorem rcl_held (s : St) (rest : List UInt8) (held size : Nat) (hr : rest.length = 64) : (rcl s rest held size)[72]? = some (.int .i64 (held : Int)) := by
 unfold rcl
 rw [List.getElem?_append_right (by simp [list_len]), List.getElem?_append_right (by simp [list_len, hr])]
 simp [list_len, hr]
theorem rcl_size (s : St) (rest : List UInt8) (held size : Nat) (hr : rest.length = 64) : (rcl s rest held size)[73]? = some (.int .u64 (size : Int)) := by
 unfold rcl
 rw [List.getElem?_append_right (by simp [list_len]), List.getElem?_append_right (by simp [list_len, hr])]
 simp [list_len, hr]
theorem rcl_set_held (s : St) (rest : List UInt8) (held size n : Nat) (hr : rest.length = 64) : (rcl s rest held size).toArray.setIfInBounds 72 (.int .i64 (n : Int)) = (rcl s rest n size).toArray := by
 rw [List.setIfInBounds_toArray]
 unfold rcl
 rw [List.set_append_right _ _ (by simp [list_len]), List.set_append_right _ _ (by simp [list_len, hr])]
 simp [list_len, hr]
theorem rcl_set_size (s : St) (rest : List UInt8) (held size n : Nat) (hr : rest.length = 64) : (rcl s rest held size).toArray.setIfInBounds 73 (.int .u64 (n : Int)) = (rcl s rest held n).toArray := by
 rw [List.setIfInBounds_toArray]
 unfold rcl
 rw [List.set_append_right _ _ (by simp [list_len]), List.set_append_right _ _ (by simp [list_len, hr])]
 simp [list_len, hr]
theorem rcl_set_hash (s t : St) (rest : List UInt8) (held size : Nat) : setSeg (rcl s rest held size).toArray 0 (numV t.list).toList = (rcl t rest held size).toArray := by
 have := setSeg_eq (numV t.list).toList [] (s.list.map (fun n : Nat => Value.int .u32 (n : Int))) (rest.map (fun n : UInt8 => Value.int .u8 (n.toNat : Int)) ++ [.int .i64 (held : Int), .int .u64 (size : Int)]) (by simp [numV, list_len])
 simpa [rcl, numV] using this
def fill (rest : List UInt8) (h : Nat) (t : List UInt8) (n : Nat) : List UInt8 := rest.take h ++ t.take n ++ rest.drop (h + n)
theorem fill_len {rest : List UInt8} (hr : rest.length = 64) {h n : Nat} {t : List UInt8} (hn : n ≤ t.length) (hh : h + n ≤ 64) : (fill rest h t n).length = 64 := by
 unfold fill; simp [hr]; omega
theorem fill_take {rest : List UInt8} (hr : rest.length = 64) {h n : Nat} {t : List UInt8} (hn : n ≤ t.length) (hh : h + n ≤ 64) : (fill rest h t n).take (h + n) = rest.take h ++ t.take n := by
 unfold fill
 rw [List.take_append_of_le_length (by simp [hr]; omega), List.take_of_length_le (by simp [hr]; omega)]
def ptr (b o : Nat) : Value := .pointer (some ⟨b, o, none⟩)
def fdU (B : Nat) (s f : St) (F : List UInt8) (h N : Nat) : Nat → Value → World → Prop
 | 0 | 1 | 2 | 3 | 5 | 6 | 10 | 11 => fun v _ => v = ptr B 0
 | 4 => fun v _ => v = .agg (numV s.list)
 | 7 => fun v _ => v = ptr B 8
 | 8 => fun v _ => v = .agg (bytV F)
 | 9 => fun v _ => v = .agg (numV f.list)
 | 12 => fun _ w => Row w B (rcl f F h N).toArray 164
 | 13 => fun _ w => Row w B (rcl s F h N).toArray 164
 | _ => fun _ _ => True
def fdT (B : Nat) (i : Nat) (w w' : World) : Prop := if i = 12 then Below B w w' else Below w.heap.size w w'
def fdG (B : Nat) (w0 w : World) : Prop := Below B w0 w ∧ B < w.heap.size
def fdN : List (List Nat) := [[], [], [1], [2], [3, 13], [], [5], [6], [7, 13], [4, 8], [0], [10], [9, 11, 13]]
theorem fdT_refl (B i : Nat) (w : World) : fdT B i w w := by unfold fdT; split <;> exact Below.refl _ _
theorem fdG_T {B i : Nat} {w0 w w' : World} (h : fdG B w0 w) (hT : fdT B i w w') : fdG B w0 w' := by
 have hb : Below B w w' := by
  unfold fdT at hT
  split at hT
  ·exact hT
  ·exact hT.mono (Nat.le_of_lt h.2)
 exact ⟨h.1.trans hb, Nat.lt_of_lt_of_le h.2 hb.size⟩
theorem fd_T (B : Nat) (s f : St) (F : List UInt8) (h N i k : Nat) (v : Value) (w w' : World) (hk : k < 14) (hne : k ≠ i) (hke : i = 12 → k ≠ 13) (hU : fdU B s f F h N k v w) (hT : fdT B i w w') : fdU B s f F h N k v w' := by
 match k, hk with
 | 0, _ | 1, _ | 2, _ | 3, _ | 4, _ | 5, _ | 6, _ | 7, _ | 8, _ | 9, _ | 10, _ | 11, _ => exact hU
 | 12, _ =>
  rw [fdT, if_neg (fun e => hne e.symm)] at hT
  exact Row.step hU hT
 | 13, _ =>
  rw [fdT, if_neg (fun e => hke e rfl)] at hT
  exact Row.step hU hT
 | n + 14, hk => exact absurd hk (by omega)
set_option maxRecDepth 100000 in
set_option maxHeartbeats 4000000 in
theorem feed_any (B : Nat) (s0 : St) (hs0 : s0.ok) (p0 : List UInt8) (size : Nat) (t0 : ByteArray) (w : World) (hF : FedTo B w s0 p0 size) (ht0 : t0.size ≤ maxLen) (hsz : size ≤ 4611686018427387904) :
  Calls Tryz.prog 73 #[.pointer (some ⟨B, 0, none⟩), .string t0] w fun e w' => e = .returned (.tuple #[]) ∧ FedTo B w' (absorb s0 (p0 ++ t0.data.toList)).1 (absorb s0 (p0 ++ t0.data.toList)).2 (size + t0.size) ∧ Below B w w' := by
 unfold maxLen at ht0
 obtain ⟨rest, hr, hp, hpl, q⟩ := hF
 have hst := Lib.size_eq t0
 have cs : w.cell? ⟨B, 73, none⟩ = some (.int .u64 size) := by rw [q.cell]; simp only [List.getElem?_toArray]; exact rcl_size _ _ _ _ hr
 have cf := q.free 73
 have e1 : IntKind.u64.wrap ((size : Int) + (t0.size : Int)) = ((size + t0.size : Nat) : Int) := by
  show ((size : Int) + (t0.size : Int)) % 18446744073709551616 = _
  omega
 have Q := Lib.hid q; have HST := Lib.hid hst; have HP := Lib.hid hp
 clear q hst hp
 go_enter Tryz.func73, Tryz.ntmps73
 go_wp2
 obtain ⟨G, hG⟩ : ∃ G, absorb s0 (p0 ++ t0.data.toList) = G := ⟨_, rfl⟩
 obtain ⟨N, hN⟩ : ∃ N, N = size + t0.size := ⟨_, rfl⟩
 have HN := Lib.hid hN
 have Q1 : Hid (Row (w.setCell ⟨B, 73, none⟩ (.int .u64 ((size : Int) + (t0.size : Int)))) B (rcl s0 rest p0.length N).toArray 164) := Lib.hid (by
  have := Q.out.set 73 (.int .u64 ((N : Nat) : Int))
  rw [rcl_set_size _ _ _ _ _ hr] at this
  rw [show (size : Int) + (t0.size : Int) = (N : Int) by omega]
  exact this)
 have hb1 : Below B w (w.setCell ⟨B, 73, none⟩ (.int .u64 ((size : Int) + (t0.size : Int)))) := (Below.refl B w).setCell (Nat.le_refl _) _
 go_loopw [1, 4] (fun tv _ wr => ∃ (s : St) (p rest : List UInt8) (t : ByteArray), s.ok ∧ tv = .string t ∧ rest.length = 64 ∧ rest.take p.length = p ∧ p.length < 64 ∧ t.size ≤ 9223372036854775807 ∧ absorb s (p ++ t.data.toList) = G ∧ Row wr B (rcl s rest p.length N).toArray 164 ∧ Below B w wr) (fun tv _ _ => strLen tv)
 case atStart => exact ⟨s0, p0, rest, t0, hs0, rfl, hr, HP.out, hpl, by omega, hG, Q1.out, hb1⟩
 case round =>
  have HG := Lib.hid hG
  clear hN hG Q1 hb1 Q HST HP hr hpl cs cf e1 ht0 hsz
  obtain ⟨s, p, rest, t, hs, rfl, hr, hp, hpl, ht, hA, q, hb⟩ := hrel
  by_cases h0 : 0 < t.size
  ·have hbt : decide ((0 : Int) < (t.size : Int)) = true := by simpa using (show (0 : Int) < (t.size : Int) by omega)
   obtain ⟨n, hn⟩ : ∃ n, Nat.min t.size (64 - p.length) = n := ⟨_, rfl⟩
   have hn1 : n ≤ t.size := by rw [← hn]; exact Nat.min_le_left _ _
   have hn2 : n ≤ 64 - p.length := by rw [← hn]; exact Nat.min_le_right _ _
   have hn3 : 1 ≤ n := by rw [← hn]; exact Nat.le_min.2 ⟨by omega, by omega⟩
   have hst := Lib.size_eq t
   have q' := q
   rw [rcl_parts s rest p.length N p.length n] at q'
   have hcp := run_copy_part (P := Tryz.prog) wr.drew 113 9 3 5 B (64 - p.length) (64 - p.length) t _ _ _ 164 Tryz.underlying113 (by kernel_rfl) q'.drew n hn (by simp [hr]; omega)
   have hlA : (s.list.map (fun n : Nat => Value.int .u32 (n : Int)) ++ (rest.take p.length).map (fun n : UInt8 => Value.int .u8 (n.toNat : Int))).length = 8 + p.length := by simp [list_len, hr]; omega
   rw [hlA] at hcp
   have hrow : (s.list.map (fun n : Nat => Value.int .u32 (n : Int)) ++ (rest.take p.length).map (fun n : UInt8 => Value.int .u8 (n.toNat : Int)) ++ Lib.byteCells (t.data.toList.take n) ++ ((rest.drop (p.length + n)).map (fun n : UInt8 => Value.int .u8 (n.toNat : Int)) ++ [.int .i64 (p.length : Int), .int .u64 (N : Int)])) = rcl s (fill rest p.length t.data.toList n) p.length N := by
    unfold rcl fill Lib.byteCells; simp
   rw [hrow] at hcp
   have ch : wr.cell? ⟨B, 72, none⟩ = some (.int .i64 p.length) := by rw [q.cell]; simp only [List.getElem?_toArray]; exact rcl_held _ _ _ _ hr
   have bp : (0 : Int) ≤ (p.length : Int) ∧ (p.length : Int) < 64 := by omega
   have bp2 : (p.length : Int) ≤ 64 := by omega
   have bp3 : ¬ 64 = p.length := by omega
   have Q := Lib.hid q; have Q' := Lib.hid q'; have HCP := Lib.hid hcp; have HA := Lib.hid hA; have HP := Lib.hid hp; have HN := Lib.hid hn; have HST := Lib.hid hst
   clear q q' hcp hA hp hn hst hlA hrow
   go_wp2_with fail
   go_still_tail 9, (by kernel_rfl)
   change wpList _ _ _ _ _ wr.drew
   go_wp2_with fail
   rw [HCP.out]
   simp only [Result.andThen]
   rw [Oper.upon_value]
   obtain ⟨F, hF⟩ : ∃ F, F = fill rest p.length t.data.toList n := ⟨_, rfl⟩
   have hF64 : F.length = 64 := by rw [hF]; exact fill_len hr (by have := HST.out; omega) (by omega)
   have hFt : F.take (p.length + n) = p ++ t.data.toList.take n := by
    rw [hF, fill_take hr (by have := HST.out; omega) (by omega), HP.out]
   obtain ⟨W2, hW2⟩ : ∃ W2, W2 = wr.drew.setRow B (rcl s (fill rest p.length t.data.toList n) p.length N).toArray := ⟨_, rfl⟩
   have q2 : Row W2 B (rcl s F p.length N).toArray 164 := by rw [hW2, hF]; exact (Row.drew Q.out).setRow _
   have hb2 : Below B w W2 := by rw [hW2]; exact below_setRow hb.drew (Nat.le_refl _) _
   rw [← hW2]
   clear hF hW2 HCP Q Q' ch hb
   have c72 : W2.cell? ⟨B, 72, none⟩ = some (.int .i64 p.length) := by rw [q2.cell]; simp only [List.getElem?_toArray]; exact rcl_held _ _ _ _ hF64
   have f72 := q2.free 72
   have bs : (0 : Int) ≤ (p.length : Int) + (n : Int) ∧ (p.length : Int) + (n : Int) ≤ 64 := by omega
   have bn : (0 : Int) ≤ (n : Int) ∧ (n : Int) ≤ (t.size : Int) := by omega
   have Q2 := Lib.hid q2; have HFT := Lib.hid hFt
   clear q2 hFt
   have hd := fun W => run_slice_from (P := Tryz.prog) Tryz.underlying9 t n hn1 W
   by_cases hfull : p.length + n = 64
   ·have hq : (((p.length : Int) + (n : Int)) == 64) = true := by rw [beq_iff_eq]; omega
    have HF := Lib.hid hfull; clear hfull
    go_wp2_with fail
    obtain ⟨W3, hW3⟩ : ∃ W3, W3 = W2.setCell ⟨B, 72, none⟩ (.int .i64 ((p.length : Int) + (n : Int))) := ⟨_, rfl⟩
    rw [← hW3]
    have q3 : Row W3 B (rcl s F (p.length + n) N).toArray 164 := by
     have := Q2.out.set 72 (.int .i64 ((p.length + n : Nat) : Int))
     rw [rcl_set_held _ _ _ _ _ hF64] at this
     rw [hW3]; exact this
    have hb3 : Below B w W3 := by rw [hW3]; exact hb2.setCell (Nat.le_refl _) _
    clear hW3 Q2 hb2 c72 f72 hd
    have Q3 := Lib.hid q3
    clear q3
    refine wp_region_words (by kernel_rfl) (by kernel_rfl) (fdT B) (fdG B w) (fdU B s (blk s F) F (p.length + n) N) 14 fdN [12] (by kernel_rfl) (by kernel_rfl)
     [(12, 13)] (by kernel_rfl) (fun i k v w w' hi hk hne hke hU hT => fd_T B s (blk s F) F (p.length + n) N i k v w w' hk hne (fun e1 e2 => hke (by subst e1; subst e2; decide)) hU hT) ⟨hb3.drew, Q3.out.lt⟩ ?_ [44, 45, 46, 47, 48, 49, 50, 51, 52, 53, 54, 55] (by kernel_rfl) (forall_ops ?_) ?_
    ·intro k hk hge
     match k, hk, hge with
     | 13, _, _ => exact Q3.out.drew
     | n + 14, hk, _ => exact absurd hk (by omega)
    ·refine ⟨?_, ?_, ?_, ?_, ?_, ?_, ?_, ?_, ?_, ?_, ?_, ?_, ?_, trivial⟩
     ·exact stepW_value (t := 44) (ptr B 0) rfl (fdT_refl B 0) (fun a w hG hN hO => by
       have e : slot a 0 = ptr B 0 := hO 0 (by kernel_rfl)
       exact run_move_slot (.inl rfl) e) (fun w hG => rfl)
     ·exact stepW_value (t := 45) (ptr B 0) rfl (fdT_refl B 1) (fun a w hG hN hO => by
       have e : slot a 0 = ptr B 0 := hO 0 (by kernel_rfl)
       exact run_move_slot (.inl rfl) e) (fun w hG => rfl)
     ·exact stepW_value (t := 46) (ptr B 0) rfl (fdT_refl B 2) (fun a w hG hN hO => by
       have e : slot a 45 = ptr B 0 := hN 1 (by decide)
       have e' := slot_at e; unfold ptr at e'; unfold execOp; go_simp; rfl) (fun w hG => rfl)
     ·exact stepW_value (t := 47) (ptr B 0) rfl (fdT_refl B 3) (fun a w hG hN hO => by
       have e : slot a 46 = ptr B 0 := hN 2 (by decide)
       have e' := slot_at e; unfold ptr at e'; unfold execOp; go_simp; rfl) (fun w hG => rfl)
     ·intro a w hG hN hO
      have e : slot a 47 = ptr B 0 := hN 3 (by decide)
      have q : Row w B (rcl s F (p.length + n) N).toArray 164 := hN 13 (by decide)
      refine wp_load_mid 162 (.tmp 47) rfl B 0 (slotE e) (numV s.list).toList _ (Row.rangeA (A := []) (M := numV s.list) (C := F.map (fun n : UInt8 => Value.int .u8 (n.toNat : Int)) ++ [.int .i64 ((p.length + n : Nat) : Int), .int .u64 (N : Int)]) (by simpa [rcl, numV] using q) 0 rfl) Tryz.underlying162 rfl (by rw [Array.length_toList, numV_size]; exact size53) ?_
      rw [Array.toArray_toList]
      exact ⟨_, rfl, fdT_refl _ _ _, hG, rfl⟩
     ·exact stepW_value (t := 49) (ptr B 0) rfl (fdT_refl B 5) (fun a w hG hN hO => by
       have e : slot a 0 = ptr B 0 := hO 0 (by kernel_rfl)
       exact run_move_slot (.inl rfl) e) (fun w hG => rfl)
     ·exact stepW_value (t := 50) (ptr B 0) rfl (fdT_refl B 6) (fun a w hG hN hO => by
       have e : slot a 49 = ptr B 0 := hN 5 (by decide)
       have e' := slot_at e; unfold ptr at e'; unfold execOp; go_simp; rfl) (fun w hG => rfl)
     ·exact stepW_value (t := 51) (ptr B 8) rfl (fdT_refl B 7) (fun a w hG hN hO => by
       have e : slot a 50 = ptr B 0 := hN 6 (by decide)
       have e' := slot_at e; unfold ptr at e'; unfold execOp; go_simp; rfl) (fun w hG => rfl)
     ·intro a w hG hN hO
      have e : slot a 51 = ptr B 8 := hN 7 (by decide)
      have q : Row w B (rcl s F (p.length + n) N).toArray 164 := hN 13 (by decide)
      refine wp_load_mid 119 (.tmp 51) rfl B 8 (slotE e) (bytV F).toList _ (Row.rangeA (A := s.list.map (fun n : Nat => Value.int .u32 (n : Int))) (M := bytV F) (C := [.int .i64 ((p.length + n : Nat) : Int), .int .u64 (N : Int)]) (by simpa [rcl, bytV] using q) 8 (by simp [list_len])) Tryz.underlying119 rfl (by rw [Array.length_toList, bytV_size, hF64]; exact size25) ?_
      rw [Array.toArray_toList]
      exact ⟨_, rfl, fdT_refl _ _ _, hG, rfl⟩
     ·intro a w hG hN hO
      have e : slot a 48 = .agg (numV s.list) := hN 4 (by decide)
      have e2 : slot a 52 = .agg (bytV F) := hN 8 (by decide)
      refine wp_callf 95 _ _ rfl (enters_of Tryz.func95 (by kernel_rfl) rfl) #[.agg (numV s.list), .agg (bytV F)] (by simp [slotE e, slotE e2]) _ (behind_any_She F hF64 s hs w) ?_
      intro w'' hb
      have hT : fdT B 9 w w'' := hb
      exact ⟨_, rfl, hT, fdG_T hG hT, rfl⟩
     ·exact stepW_value (t := 54) (ptr B 0) rfl (fdT_refl B 10) (fun a w hG hN hO => by
       have e : slot a 44 = ptr B 0 := hN 0 (by decide)
       have e' := slot_at e; unfold ptr at e'; unfold execOp; go_simp; rfl) (fun w hG => rfl)
     ·exact stepW_value (t := 55) (ptr B 0) rfl (fdT_refl B 11) (fun a w hG hN hO => by
       have e : slot a 54 = ptr B 0 := hN 10 (by decide)
       have e' := slot_at e; unfold ptr at e'; unfold execOp; go_simp; rfl) (fun w hG => rfl)
     ·intro a w hG hN hO
      have e : slot a 55 = ptr B 0 := hN 11 (by decide)
      have e2 : slot a 53 = .agg (numV (blk s F).list) := hN 9 (by decide)
      have q : Row w B (rcl s F (p.length + n) N).toArray 164 := hN 13 (by decide)
      refine wp_store_mid 162 (.tmp 55) (.tmp 53) rfl B 0 (numV (blk s F).list) (slotE e) (slotE e2) (q.there 0 _ (by rw [numV_size]; simp [rcl_len _ _ _ _ hF64, list_len])) (by rw [numV_size]; exact size53) (numV_one _) ?_
      have hT : fdT B 12 w (w.setCells B 0 (numV (blk s F).list).toList) := below_setCells _ (Below.refl _ _) 0 (Nat.le_refl _)
      refine ⟨_, rfl, hT, fdG_T hG hT, ?_⟩
      have := Row.setCells (W := w) (numV (blk s F).list).toList q 0
      rw [rcl_set_hash] at this
      exact this
    ·intro a w5 hG hV hS ha
     have q5 : Row w5 B (rcl (blk s F) F (p.length + n) N).toArray 164 := hV 12 (by decide) (by decide)
     generalize slot a = sl at ha
     subst ha
     simp only [patchL, List.contains_cons, List.contains_nil, Nat.reduceBEq, Bool.or_false, Bool.or_true, if_true, Bool.false_eq_true, if_false, Nat.reduceAdd]
     generalize sl 44 = s44
     generalize sl 45 = s45
     generalize sl 46 = s46
     generalize sl 47 = s47
     generalize sl 48 = s48
     generalize sl 49 = s49
     generalize sl 50 = s50
     generalize sl 51 = s51
     generalize sl 52 = s52
     generalize sl 53 = s53
     generalize sl 54 = s54
     generalize sl 55 = s55
     have hb5 := hG.1
     have f72 := q5.free 72
     have c72 : ∃ v, w5.cell? ⟨B, 72, none⟩ = some v := ⟨_, by rw [q5.cell]; simp only [List.getElem?_toArray]; exact rcl_held _ _ _ _ hF64⟩
     obtain ⟨v72, c72⟩ := c72
     have Q5 := Lib.hid q5
     clear hG hV hS q5 Q3 hb3
     go_wp2_with fail
     have hlen : (t.data.toList.take n).length = n := by rw [List.length_take, ← HST.out]; omega
     have hFe : F = p ++ t.data.toList.take n := by
      have h1 := HFT.out
      rwa [HF.out, List.take_of_length_le (by omega)] at h1
     have hn64 : n = 64 - p.length := by have := HF.out; omega
     refine ⟨⟨blk s F, [], F, t.extract n t.size, blk_ok _ _, rfl, hF64, rfl, by decide, ?_, ?_, ?_, hb5.setCell (Nat.le_refl _) _⟩, ?_⟩
     ·rw [ByteArray.size_extract]; omega
     ·rw [← HA.out, absorb_fill s p t.data.toList hpl (by rw [← HST.out]; omega), hFe, ← hn64, Lib.extract_data, List.nil_append, HST.out, List.take_of_length_le (i := t.data.toList.length - n) (by simp)]
     ·have := Q5.out.set 72 (.int .i64 ((0 : Nat) : Int))
      rw [rcl_set_held _ _ _ _ _ hF64] at this
      exact this
     ·show (t.extract n t.size).size < t.size
      rw [ByteArray.size_extract]; omega
   ·have hq : (((p.length : Int) + (n : Int)) == 64) = false := by rw [beq_eq_false_iff_ne]; omega
    have HF := Lib.hid hfull; clear hfull
    go_wp2_with fail
    refine ⟨⟨s, p ++ t.data.toList.take n, F, t.extract n t.size, hs, rfl, hF64, ?_, ?_, ?_, ?_, ?_, hb2.setCell (Nat.le_refl _) _⟩, ?_⟩
    ·rw [List.length_append, List.length_take, ← HST.out, Nat.min_eq_left hn1]; exact HFT.out
    ·have := HF.out
     rw [List.length_append, List.length_take, ← HST.out, Nat.min_eq_left hn1]; omega
    ·rw [ByteArray.size_extract]; omega
    ·rw [Lib.extract_data, List.append_assoc, HST.out, List.take_of_length_le (i := t.data.toList.length - n) (by simp), List.take_append_drop]; exact HA.out
    ·have := Q2.out.set 72 (.int .i64 ((p.length + n : Nat) : Int))
     rw [rcl_set_held _ _ _ _ _ hF64] at this
     rw [List.length_append, List.length_take, ← HST.out, Nat.min_eq_left hn1]
     exact this
    ·show (t.extract n t.size).size < t.size
     rw [ByteArray.size_extract]; omega
  ·have hbt : decide ((0 : Int) < (t.size : Int)) = false := by simpa using (show ¬ (0 : Int) < (t.size : Int) by omega)
   have htl : t.data.toList = [] := List.length_eq_zero_iff.1 (by rw [← Lib.size_eq]; omega)
   rw [htl, List.append_nil, absorb_lt s hpl] at hA
   have HA := Lib.hid hA; have HP := Lib.hid hp; have Q := Lib.hid q
   clear hA hp q htl
   go_wp2_with fail
   go_end0
   refine ⟨rfl, ?_, hb⟩
   rw [HG.out, ← HA.out]
   rw [← HN.out]
   exact ⟨rest, hr, HP.out, hpl, Q.out⟩
end Go.Proofs.YtjpjpmkadoaipaaGreatDoor
set_option linter.unusedVariables false
namespace Go.Proofs.YtjpjpmkadoaipaaGreatDoor
open Go.RowKit Go.Shelf
set_option maxHeartbeats 1000000 in
set_option maxRecDepth 100000 in
theorem Len_k (B b : Nat) (bs : List Value) (w : World) (h : Lib.IsBuilderF 168 5 B b bs w) :
  Calls Tryz.prog 161 #[.pointer (some ⟨b, 0, none⟩)] w fun e w' => e = .returned (.int .i64 bs.length) ∧ w = w' := by
 obtain ⟨p, hB, v, hbk, hown, hne⟩ : ∃ p, Lib.BuilderAtF 168 5 B b p bs w := by
  rcases h with h | h
  ·exact ⟨_, h⟩
  ·exact ⟨_, h⟩
 obtain ⟨ao, cap, rfl⟩ : ∃ ao cap, v = .slice ao bs.length cap := by
  rcases hown.2 with ⟨hv, h0⟩ | ⟨g, cap, cur, fz, hv, _⟩
  ·exact ⟨none, 0, by rw [hv, h0]⟩
  ·exact ⟨_, _, hv⟩
 have c1 : w.cell? ⟨b, 1, none⟩ = some (.slice ao bs.length cap) := by rw [Lib.cell_of_heap hbk]; rfl
 go_enter Tryz.func161, Tryz.ntmps161
 go_wp2
 go_ret
 exact ⟨rfl, rfl⟩
theorem sizeByte_Bum : (Tryz.prog.info? 5).map (fun i => i.size) = some 1 := by kernel_rfl
set_option maxHeartbeats 2000000 in
set_option maxRecDepth 1000000 in
theorem grow_fresh_Bum (B b n : Nat) (w : World) (hB : B ≤ b) (hbk : w.heap[b]? = some (.cells #[.pointer (some ⟨b, 0, none⟩), .slice none 0 0] 168 (0, 0))) (hBw : B ≤ w.heap.size) (hn : n ≤ 281474976710656) :
  Calls Tryz.prog 176 #[.pointer (some ⟨b, 0, none⟩), .int .i64 n] w fun e w' => e = .returned (.tuple #[]) ∧ (Lib.BuilderAt 168 5 B b (.pointer (some ⟨b, 0, none⟩)) [] w' ∧ Below B w w') := by
 obtain ⟨cs, hrun, hle, hmax⟩ := Lib.run_makeNoZero (P := Tryz.prog) w.drew #[3] 113 5 Tryz.underlying113 n hn
 have hw : IntKind.i64.wrap (IntKind.i64.wrap 0 + (n : Int)) = n := by
  rw [IntKind.wrap_i64, IntKind.wrap_i64]
  omega
 have hcall : (callFunc 186 #[.int .i64 (n : Int)]).run Tryz.prog w.drew = .ok (.value (.slice (some ⟨w.drew.heap.size, 0, none⟩) n cs.size)) (w.drew.drew.drew.alloc (.cells cs 5)) := by
  rw [run_callFunc_extern Tryz.func186 (by kernel_rfl) (by kernel_rfl) (by kernel_rfl) (e := Extern.BytealgMakeNoZero.makeNoZero #[3] #[113]) (by kernel_rfl), hrun]
  rfl
 have hlt : b < w.heap.size := (Array.getElem?_eq_some_iff.1 hbk).1
 have c1 : w.drew.cell? ⟨b, 1, none⟩ = some (.slice none 0 0) := by
  have : w.drew.heap[b]? = _ := hbk
  rw [Lib.cell_of_heap this]; rfl
 have c2 : (w.alloc (.cells cs 5)).cell? ⟨b, 1, none⟩ = some (.slice none 0 0) := by
  have : (w.alloc (.cells cs 5)).heap[b]? = _ := (Lib.alloc_old w _ b hlt).trans hbk
  rw [Lib.cell_of_heap this]; rfl
 have f2 : (w.alloc (.cells cs 5)).frozen? ⟨b, 1, none⟩ = false := Lib.frozen_of_heap ((Lib.alloc_old w _ b hlt).trans hbk) 1
 have hcopy : ∀ W : World, (Builtin.copy_ #[113, 113] 3 #[.slice (some ⟨w.heap.size, 0, none⟩) 0 cs.size, .slice none 0 0]).run Tryz.prog W = .ok (goInt 0) W :=
  fun W => run_copy_none W 113 113 3 5 _ _ 0 cs.size 0 0 Tryz.underlying113 sizeByte_Bum rfl
 go_enter Tryz.func176, Tryz.ntmps176
 go_wp2
 have hfin := Lib.grown_fresh (T := 168) (e := 5) (cs := cs) hB hbk hBw (hmax (by unfold maxLen; omega)) (by decide)
 go_region
 all_goals (go_wp2; go_end0; exact ⟨rfl, by first | exact hfin | (rw [World.setCell_alloc_past _ b 1 _ hlt] at hfin; exact hfin)⟩)
set_option maxHeartbeats 2000000 in
set_option maxRecDepth 1000000 in
theorem Grow_fresh_Bum (B b n : Nat) (w : World) (hB : B ≤ b) (hbk : w.heap[b]? = some (.cells #[.pointer none, .slice none 0 0] 168 (0, 0))) (hBw : B ≤ w.heap.size) (hn1 : 1 ≤ n) (hn : n ≤ 281474976710656) :
  Calls Tryz.prog 160 #[.pointer (some ⟨b, 0, none⟩), .int .i64 n] w fun e w' => e = .returned (.tuple #[]) ∧ (Lib.BuilderAt 168 5 B b (.pointer (some ⟨b, 0, none⟩)) [] w' ∧ Below B w w') := by
 have h0 : w.cell? ⟨b, 0, none⟩ = some (.pointer none) := by rw [Lib.cell_of_heap hbk]; rfl
 have hsh : w.shape? b = some (168, 2) := by unfold World.shape?; rw [hbk]; rfl
 have hfz : w.frozen? ⟨b, 0, none⟩ = false := Lib.frozen_of_heap hbk 0
 have hbk1 : (w.setCell ⟨b, 0, none⟩ (.pointer (some ⟨b, 0, none⟩))).heap[b]? = some (.cells #[.pointer (some ⟨b, 0, none⟩), .slice none 0 0] 168 (0, 0)) := by
  simp [World.setCell, Array.getElem?_modify, hbk]
 have c1 : (w.setCell ⟨b, 0, none⟩ (.pointer (some ⟨b, 0, none⟩))).cell? ⟨b, 1, none⟩ = some (.slice none 0 0) := by rw [Lib.cell_of_heap hbk1]; rfl
 have hb1 : Below B w (w.setCell ⟨b, 0, none⟩ (.pointer (some ⟨b, 0, none⟩))) := (Below.refl B w).setCell (p := ⟨b, 0, none⟩) hB _
 obtain ⟨W1, hW1⟩ : ∃ W1, W1 = w.setCell ⟨b, 0, none⟩ (.pointer (some ⟨b, 0, none⟩)) := ⟨_, rfl⟩
 have CC := Lib.hid (copyCheck_fresh b w h0 hsh hfz)
 rw [← hW1] at hbk1 c1 hb1 CC
 have HB := Lib.hid hbk1
 have hp : (0 : Int) < (n : Int) := by omega
 clear hW1 hbk1 h0 hsh hfz
 go_enter Tryz.func160, Tryz.ntmps160
 go_wp2_with fail
 refine CC.out.mono ?_
 rintro e w1 ⟨rfl, rfl⟩
 go_wp2_with fail
 go_quiet (fail)
 go_wp2_with fail
 have hbk2 : (w1.drewN nq).heap[b]? = some (.cells #[.pointer (some ⟨b, 0, none⟩), .slice none 0 0] 168 (0, 0)) := HB.out
 refine (grow_fresh_Bum B b n _ hB hbk2 (Nat.le_trans hBw hb1.size) hn).mono ?_
 rintro e w2 ⟨rfl, hA, hb2⟩
 go_wp2_with fail
 go_end0
 exact ⟨rfl, hA, (below_drewN hb1 nq).trans hb2⟩
theorem run_min3 {P : Program} {w : World} (ts : Array TypeId) (t : TypeId) (x y z : Int) :
  (Builtin.min_ ts t #[.int .i64 x, .int .i64 y, .int .i64 z]).run P w = .ok (.int .i64 (if z < (if y < x then y else x) then z else (if y < x then y else x))) w := by
 simp [Builtin.min_, Builtin.min2]
set_option maxHeartbeats 2000000 in
set_option maxRecDepth 100000 in
theorem Mul64_one (c : Nat) (hc : c < 4294967296) (w : World) : Calls Tryz.prog 174 #[.int .u64 1, .int .u64 c] w fun e w' => e = .returned (.tuple #[.int .u64 0, .int .u64 c]) ∧ w = w' := by
 have e1 : bits .and .u64 1 4294967295 = 1 := by decide
 have e2 : bits .and .u64 (c : Int) 4294967295 = (c : Int) := by
  have := u64_and_nat c 4294967295 (by omega) (by decide)
  rw [nat_mask32, Nat.mod_eq_of_lt hc] at this
  exact this
 have e3 : (c : Int) / 4294967296 = 0 := by omega
 have e4 : bits .and .u64 0 4294967295 = 0 := by decide
 go_enter Tryz.func174, Tryz.ntmps174
 go_wp2
 go_ret2
 exact ⟨rfl, rfl⟩
set_option maxHeartbeats 2000000 in
set_option maxRecDepth 100000 in
theorem Mul_one (c : Nat) (hc : c < 4294967296) (w : World) : Calls Tryz.prog 158 #[.int .u64 1, .int .u64 c] w fun e w' => e = .returned (.tuple #[.int .u64 0, .int .u64 c]) ∧ w = w' := by
 go_enter Tryz.func158, Tryz.ntmps158
 go_wp2_with fail
 refine (Mul64_one c hc _).mono ?_
 rintro e w1 ⟨rfl, rfl⟩
 go_wp2_with fail
 go_ret2
 exact ⟨rfl, rfl⟩
def zeros (c : Nat) : ByteArray := ⟨(List.replicate c (0 : UInt8)).toArray⟩
set_option maxHeartbeats 4000000 in
set_option maxRecDepth 100000 in
theorem Repeat_zero (c : Nat) (hc : c ≤ 64) (w : World) : Calls Tryz.prog 132 #[.string ⟨#[0]⟩, .int .i64 c] w fun e w' => e = .returned (.string (zeros c)) ∧ Below w.heap.size w w' := by
 by_cases h0 : c = 0
 ·subst h0
  go_enter Tryz.func132, Tryz.ntmps132
  go_wp2
  go_ret
  exact ⟨rfl, Below.refl _ _⟩
 ·by_cases h1 : c = 1
  ·subst h1
   go_enter Tryz.func132, Tryz.ntmps132
   go_wp2
   go_ret
   exact ⟨rfl, Below.refl _ _⟩
  ·have hb0 : ((c : Int) == 0) = false := by rw [beq_eq_false_iff_ne]; omega
   have hb1 : ((c : Int) == 1) = false := by rw [beq_eq_false_iff_ne]; omega
   have hb2 : ¬ (c : Int) < 0 := by omega
   have hb3 : ¬ (9223372036854775807 : Int) < (c : Int) := by omega
   have hb4 : ¬ (8192 : Int) < (c : Int) := by omega
   have hb5 : decide ((9223372036854775807 : Int) < (c : Int)) = false := by simpa using (show ¬ (9223372036854775807 : Int) < (c : Int) by omega)
   have hb6 : decide ((8192 : Int) < (c : Int)) = false := by simpa using (show ¬ (8192 : Int) < (c : Int) by omega)
   have hb7 : decide ((c : Int) < 0) = false := by simp
   have hu : IntKind.u64.wrap (c : Int) = (c : Int) := by show (c : Int) % 18446744073709551616 = _; omega
   have hi : IntKind.i64.wrap (c : Int) = (c : Int) := by rw [IntKind.wrap_i64]; omega
   go_enter Tryz.func132, Tryz.ntmps132
   go_wp2_with fail
   refine (Mul_one c (by omega) _).mono ?_
   rintro e w1 ⟨rfl, rfl⟩
   go_wp2_with fail
   have b0 : Below w.heap.size w (w.alloc (.cells #[.pointer none, .slice none 0 0] 168)) := (Below.refl _ w).alloc (Nat.le_refl _) _
   refine (Grow_fresh_Bum w.heap.size w.heap.size c _ (Nat.le_refl _) (heap_alloc_new _ _) b0.size (by omega) (by omega)).mono ?_
   rintro e W1 ⟨rfl, hA, hbg⟩
   have b1 := b0.trans hbg
   have HA := Lib.hid hA
   clear hA b0 hbg
   go_wp2_with fail
   refine (WriteString_k_Bus w.heap.size w.heap.size [] ⟨#[0]⟩ _ (Lib.IsBuilderF.of (Or.inr HA.out)) (by decide) b1.size).mono ?_
   rintro e W2 ⟨rfl, h2, hb2', _⟩
   have b2 := b1.trans hb2'
   have h2' : Lib.IsBuilderF 168 5 w.heap.size w.heap.size (Lib.byteCells (List.replicate 1 (0 : UInt8))) W2 := Or.inr h2
   have H2 := Lib.hid h2'
   clear HA b1 hb2' h2 h2'
   go_wp2_with fail
   go_loopg [] (c - 1) (fun g wx => ∃ q : Nat, 1 ≤ q ∧ q + g = c ∧ Lib.IsBuilderF 168 5 w.heap.size w.heap.size (Lib.byteCells (List.replicate q (0 : UInt8))) wx ∧ Below w.heap.size w wx)
   case atStart => exact ⟨1, Nat.le_refl _, by omega, H2.out, b2⟩
   case round =>
    obtain ⟨q, hq1, hqg, hB, hbx⟩ := hrel
    clear H2 b2
    have hlen : (Lib.byteCells (List.replicate q (0 : UInt8))).length = q := by rw [Lib.byteCells_length, List.length_replicate]
    have CL := Lib.hid (Len_k w.heap.size w.heap.size _ wr hB)
    rw [hlen] at CL
    have hne : List.replicate q (0 : UInt8) ≠ [] := by
     intro e
     have := congrArg List.length e
     rw [List.length_replicate] at this
     simp at this; omega
    have CS := Lib.hid (String_full_k w.heap.size w.heap.size (List.replicate q (0 : UInt8)) wr hB hne)
    obtain ⟨S, hS⟩ : ∃ S : ByteArray, S = ⟨(List.replicate q (0 : UInt8)).toArray⟩ := ⟨_, rfl⟩
    have hSs : S.size = q := by rw [hS]; simp [ByteArray.size]
    rw [← hS] at CS
    have HS := Lib.hid hS
    have HB := Lib.hid hB
    clear hB hne hlen hS
    cases gk with
    | zero =>
     obtain rfl : q = c := by omega
     have hlt : decide ((q : Int) < (q : Int)) = false := by simp
     go_wp2_with fail
     refine CL.out.mono ?_
     rintro e W3 ⟨rfl, rfl⟩
     go_wp2_with fail
     refine CS.out.mono ?_
     rintro e W4 ⟨rfl, h4, hb4, _⟩
     go_wp2_with fail
     go_ret
     exact ⟨congrArg (fun x => Ending.returned (.string x)) HS.out, hbx.trans hb4⟩
    | succ g =>
     have hqc : q < c := by omega
     have hlt : decide ((q : Int) < (c : Int)) = true := by simpa using hqc
     obtain ⟨k, hk⟩ : ∃ k, k = min (c - q) q := ⟨_, rfl⟩
     have hk1 : 1 ≤ k := by omega
     have hk2 : k ≤ q := by omega
     have hk3 : q + k ≤ c := by omega
     have hmin : ∀ (ts : Array TypeId) (t : TypeId) (W : World), (Builtin.min_ ts t #[.int .i64 ((c : Int) - (q : Int)), .int .i64 (q : Int), .int .i64 (c : Int)]).run Tryz.prog W = .ok (.int .i64 (k : Int)) W := fun ts t W => by
      rw [run_min3]
      congr 2
      split <;> split <;> omega
     have hsub : IntKind.i64.wrap ((c : Int) - (q : Int)) = (c : Int) - (q : Int) := by rw [IntKind.wrap_i64]; omega
     have hd := fun W => run_slice_to (P := Tryz.prog) Tryz.underlying9 S k (by omega) W
     clear hk
     go_wp2_with fail
     refine CL.out.mono ?_
     rintro e W3 ⟨rfl, rfl⟩
     go_wp2_with fail
     refine CL.out.mono ?_
     rintro e W3 ⟨rfl, rfl⟩
     go_wp2_with fail
     refine CL.out.mono ?_
     rintro e W3 ⟨rfl, rfl⟩
     go_wp2_with fail
     refine CS.out.mono ?_
     rintro e W4 ⟨rfl, h4, hb4, _⟩
     go_wp2_with fail
     refine (WriteString_k_Bus w.heap.size w.heap.size _ (S.extract 0 k) _ h4 ?_ (Nat.le_trans hbx.size hb4.size)).mono ?_
     ·rw [Lib.byteCells_length, List.length_replicate, ByteArray.size_extract]; omega
     rintro e W5 ⟨rfl, h5, hb5', _⟩
     go_wp2_with fail
     go_roundg (c - (q + k))
     case measure => omega
     case rel =>
      refine ⟨q + k, by omega, by omega, Or.inr ?_, (hbx.trans hb4).trans hb5'⟩
      have e : Lib.byteCells (List.replicate q (0 : UInt8)) ++ Lib.strCells (S.extract 0 k) = Lib.byteCells (List.replicate (q + k) (0 : UInt8)) := by
       rw [Lib.strCells_eq, ← Lib.byteCells_append, Lib.extract_data, HS.out]
       simp only [List.drop_zero, Nat.sub_zero]
       rw [List.take_replicate, Nat.min_eq_left hk2, List.replicate_append_replicate]
      rw [e] at h5
      exact h5
end Go.Proofs.YtjpjpmkadoaipaaGreatDoor
set_option linter.unusedVariables false
set_option pp.maxSteps 200000
namespace Go.Proofs.YtjpjpmkadoaipaaGreatDoor
open Go.RowKit
set_option maxRecDepth 100000 in
set_option maxHeartbeats 1000000 in
theorem be8_take (n k : Nat) (hk : k < 8) : (be8 n).take (k + 1) = (be8 n).take k ++ [UInt8.ofNat (n / 2 ^ (8 * (7 - k)))] := by
 rw [List.take_succ_eq_append_getElem (by rw [be8_len]; exact hk)]
 simp [be8]
set_option maxRecDepth 100000 in
set_option maxHeartbeats 4000000 in
theorem closing_any (n : Nat) (hn : n ≤ 1152921504606846976) (w : World) : Calls Tryz.prog 96 #[.int .u64 n] w fun e w' => e = .returned (.string ⟨(closing n).toArray⟩) ∧ Below w.heap.size w w' := by
 obtain ⟨z, hz⟩ : ∃ z, z = zerosN_Shn n := ⟨_, rfl⟩
 have hz64 : z < 64 := by rw [hz]; unfold zerosN_Shn; omega
 have e0 : (n : Int) % 64 = ((n % 64 : Nat) : Int) := by omega
 have e1 : (128 - (((n % 64 : Nat) : Int) + 1 + 8)) % 64 = (z : Int) := by rw [hz]; unfold zerosN_Shn; omega
 have hr : n % 64 < 64 := Nat.mod_lt _ (by decide)
 obtain ⟨r, hre⟩ : ∃ r, r = n % 64 := ⟨_, rfl⟩
 rw [← hre] at e0 e1 hr
 have HZ := Lib.hid hz
 clear hz hre
 have q0 : Lib.IsBuilderF 168 5 w.heap.size w.heap.size [] (w.alloc (.cells #[.pointer none, .slice none 0 0] 168)) := Lib.IsBuilderF.of (Lib.fresh_isBuilder 168 5 w)
 have b0 : Below w.heap.size w (w.alloc (.cells #[.pointer none, .slice none 0 0] 168)) := (Below.refl _ _).alloc (Nat.le_refl _) _
 have Q0 := Lib.hid q0
 clear q0
 go_enter Tryz.func96, Tryz.ntmps96
 go_wp2_with fail
 refine (WriteByte_k w.heap.size w.heap.size [] 128 _ Q0.out (by decide) b0.size).mono ?_
 rintro e w1 ⟨rfl, h1, hb1, _⟩
 have q1 : Lib.IsBuilderF 168 5 w.heap.size w.heap.size (Lib.byteCells [128]) w1 := .inr h1
 have b1 := b0.trans hb1
 have Q1 := Lib.hid q1
 clear h1 hb1 b0 Q0 q1
 go_wp2_with fail
 refine (Repeat_zero z (by omega) _).mono ?_
 rintro e w2 ⟨rfl, hb2⟩
 have q2 := builder_step Q1.out hb2
 have b2 := b1.trans (hb2.mono b1.size)
 have Q2 := Lib.hid q2
 clear Q1 q2 hb2 b1
 go_wp2_with fail
 refine (WriteString_k_Bus w.heap.size w.heap.size _ (zeros z) _ Q2.out (by rw [Lib.byteCells_length, List.length_singleton, zeros, size_mk, List.length_replicate]; omega) b2.size).mono ?_
 rintro e w3 ⟨rfl, h3, hb3, _⟩
 have q3 : Lib.IsBuilderF 168 5 w.heap.size w.heap.size (Lib.byteCells (128 :: (List.replicate z 0 ++ (be8 (n * 8)).take 0))) w3 := .inr (by
  have e : Lib.byteCells [128] ++ Lib.strCells (zeros z) = Lib.byteCells (128 :: (List.replicate z 0 ++ (be8 (n * 8)).take 0)) := by
   rw [Lib.strCells_eq, ← Lib.byteCells_append]; simp [zeros]
  rwa [e] at h3)
 have b3 := b2.trans hb3
 have Q3 := Lib.hid q3
 clear h3 hb3 b2 Q2 q3
 go_wp2_with fail
 go_loopw [19, 6] (fun i _ wr => ∃ k : Nat, k ≤ 8 ∧ i = .int .i64 k ∧ Lib.IsBuilderF 168 5 w.heap.size w.heap.size (Lib.byteCells (128 :: (List.replicate z 0 ++ (be8 (n * 8)).take k))) wr ∧ Below w.heap.size w wr) (fun i _ _ => 8 - (intOf i).toNat)
 case atStart => exact ⟨0, by omega, rfl, Q3.out, b3⟩
 case round =>
  clear Q3 b3
  obtain ⟨k, hk, rfl, hB, hb⟩ := hrel
  have hlen : (Lib.byteCells (128 :: (List.replicate z 0 ++ (be8 (n * 8)).take k))).length ≤ 100 := by
   rw [Lib.byteCells_length]; simp [be8_len]; omega
  by_cases hlt : k < 8
  ·have hbk : decide ((k : Int) < 8) = true := by simpa using (show (k : Int) < 8 by omega)
   obtain ⟨c, hc⟩ : ∃ c, c = 8 * (7 - k) := ⟨_, rfl⟩
   have e3 : (8 : Int) * (7 - (k : Int)) = (c : Int) := by omega
   have bc : c ≤ 56 := by omega
   have HB := Lib.hid hB
   have HT := Lib.hid (be8_take (n * 8) k hlt)
   rw [← hc] at HT
   clear hB hc
   have hu : IntKind.u64.wrap ((n : Int) * 8) = (n : Int) * 8 := by show (n : Int) * 8 % 18446744073709551616 = _; omega
   go_wp2_with fail
   have h8 : ((n : Int) * 8 / 2 ^ c % 256) = ((UInt8.ofNat (n * 8 / 2 ^ c)).toNat : Int) := by
    rw [UInt8.toNat_ofNat', Int.natCast_emod, Int.natCast_ediv, Int.natCast_mul, Int.natCast_pow]; rfl
   rw [h8]
   refine (WriteByte_k w.heap.size w.heap.size _ _ _ HB.out (by omega) hb.size).mono ?_
   rintro e w4 ⟨rfl, h4, hb4, _⟩
   go_wp2_with fail
   refine ⟨⟨k + 1, by omega, by go_num, ?_, hb.trans hb4⟩, by simp [intOf]; omega⟩
   have e : Lib.byteCells (128 :: (List.replicate z 0 ++ (be8 (n * 8)).take k)) ++ [Value.int .u8 ((UInt8.ofNat (n * 8 / 2 ^ c)).toNat : Int)] = Lib.byteCells (128 :: (List.replicate z 0 ++ (be8 (n * 8)).take (k + 1))) := by
    rw [HT.out]; simp [Lib.byteCells]
   rw [e] at h4
   exact .inr h4
  ·have hk8 : k = 8 := by omega
   have hbk : decide ((k : Int) < 8) = false := by rw [hk8]; rfl
   have hB' : Lib.IsBuilderF 168 5 w.heap.size w.heap.size (Lib.byteCells (closing n)) wr := by
    rw [hk8, List.take_of_length_le (by rw [be8_len]; exact Nat.le_refl _), HZ.out] at hB
    exact hB
   have HB := Lib.hid hB'
   clear hB hB' hk8 hk hlt hlen
   go_wp2_with fail
   refine (String_full_k w.heap.size w.heap.size (closing n) wr HB.out (by simp [closing])).mono ?_
   rintro e w4 ⟨rfl, h4, hb4, _⟩
   go_wp2_with fail
   go_ret
   exact ⟨rfl, hb.trans hb4⟩
theorem closing_size (n : Nat) : (⟨(closing n).toArray⟩ : ByteArray).size ≤ 100 := by
 rw [size_mk, closing_len]; unfold zerosN_Shn; omega
set_option maxRecDepth 100000 in
set_option maxHeartbeats 4000000 in
theorem sum_any (B : Nat) (l : List UInt8) (n : Nat) (hn : n ≤ 1152921504606846976) (hl : l.length = n) (w : World) (hF : FedTo B w (absorb first l).1 (absorb first l).2 n) :
  Calls Tryz.prog 74 #[.pointer (some ⟨B, 0, none⟩)] w fun e w' => e = .returned (.string ⟨(shaSum l).toArray⟩) ∧ Below B w w' := by
 obtain ⟨rest, hr, hp, hpl, q⟩ := hF
 have c73 : w.cell? ⟨B, 73, none⟩ = some (.int .u64 n) := by rw [q.cell]; simp only [List.getElem?_toArray]; exact rcl_size _ _ _ _ hr
 have hlt := q.lt
 have hF : FedTo B w (absorb first l).1 (absorb first l).2 n := ⟨rest, hr, hp, hpl, q⟩
 have HF := Lib.hid hF
 have HE := Lib.hid (absorb_append l (closing n) first)
 have hfin : (absorb first (l ++ closing n)).2 = [] := by have := closed_rest l first; rwa [hl] at this
 have hok := absorb_ok (l ++ closing n) first_ok
 have hsum : shaSum l = (absorb first (l ++ closing n)).1.bytes := by unfold shaSum; rw [hl]
 obtain ⟨s1, hs1⟩ : ∃ s1, s1 = (absorb first (l ++ closing n)).1 := ⟨_, rfl⟩
 rw [← hs1] at hok hsum
 have HS := Lib.hid hs1; have HFIN := Lib.hid hfin; have HSUM := Lib.hid hsum
 have hok0 := absorb_ok l first_ok
 clear hF q hp hs1 hfin hsum
 go_enter Tryz.func74, Tryz.ntmps74
 go_wp2_with fail
 refine (closing_any n hn _).mono ?_
 rintro e w1 ⟨rfl, hb1⟩
 have hF1 : FedTo B w1 (absorb first l).1 (absorb first l).2 n := by
  obtain ⟨rest, a, b, c, q⟩ := HF.out
  exact ⟨rest, a, b, c, q.step hb1⟩
 have HF1 := Lib.hid hF1
 clear hF1
 go_wp2_with fail
 refine (feed_any B _ hok0 _ n ⟨(closing n).toArray⟩ _ HF1.out (by have := closing_size n; unfold maxLen; omega) (by omega)).mono ?_
 rintro e w2 ⟨rfl, hF2, hb2⟩
 rw [show ((⟨(closing n).toArray⟩ : ByteArray).data.toList) = closing n from rfl, HE.out, ← HS.out, HFIN.out] at hF2
 obtain ⟨rest2, hr2, _, _, q2⟩ := hF2
 have rh : w2.rangeAt B 0 (numV s1.list).toList := Row.rangeA (A := []) (M := numV s1.list) (C := rest2.map (fun n : UInt8 => Value.int .u8 (n.toNat : Int)) ++ [.int .i64 ((0 : Nat) : Int), .int .u64 ((n + (⟨(closing n).toArray⟩ : ByteArray).size : Nat) : Int)]) (by simpa [rcl, numV] using q2) 0 rfl
 have RH := Lib.hid rh
 clear rh q2
 go_wp2_with (refine wpList_load_mid rfl 162 _ rfl B 0 rfl (numV s1.list).toList _ RH.out Tryz.underlying162 rfl (by rw [Array.length_toList, numV_size]; exact size53) ?_)
 rw [Array.toArray_toList]
 refine (bytes_any s1 hok _).mono ?_
 rintro e w3 ⟨rfl, hb3⟩
 go_wp2_with fail
 go_ret
 refine ⟨by rw [HSUM.out]; rfl, ?_⟩
 have h1 : Below B w w1 := hb1.mono (Nat.le_of_lt hlt)
 have h2 := h1.trans hb2
 exact h2.trans (hb3.mono (Nat.le_trans (Nat.le_of_lt hlt) h2.size))
set_option maxRecDepth 100000 in
set_option maxHeartbeats 4000000 in
theorem Sum_any (s : ByteArray) (hs : s.size ≤ 1152921504606846976) (w : World) :
  Calls Tryz.prog 46 #[.string s] w fun e w' => e = .returned (.string ⟨(shaSum s.data.toList).toArray⟩) ∧ Below w.heap.size w w' := by
 have hl := (Lib.size_eq s).symm
 have HL := Lib.hid hl; clear hl
 have hs2 : s.size ≤ maxLen := by unfold maxLen; omega
 go_enter Tryz.func46, Tryz.ntmps46
 go_wp2_with fail
 refine (newReader_any _).mono ?_
 rintro e w1 ⟨B, hB, rfl, hF1, hb1⟩
 have HF1 := Lib.hid hF1
 clear hF1
 go_wp2_with fail
 refine (feed_any B first first_ok [] 0 s _ HF1.out hs2 (by decide)).mono ?_
 rintro e w2 ⟨rfl, hF2, hb2⟩
 rw [List.nil_append, Nat.zero_add] at hF2
 have HF2 := Lib.hid hF2
 clear hF2
 go_wp2_with fail
 refine (sum_any B s.data.toList s.size hs HL.out _ HF2.out).mono ?_
 rintro e w3 ⟨rfl, hb3⟩
 go_wp2_with fail
 go_ret
 exact ⟨rfl, hb1.trans ((hb2.trans hb3).mono hB)⟩
end Go.Proofs.YtjpjpmkadoaipaaGreatDoor
set_option linter.unusedVariables false
namespace Go.Proofs.YtjpjpmkadoaipaaGreatDoor
open Go.RowKit
def Loose (fz : Nat × Nat) (n : Nat) : Prop := ∀ i, i < n → (decide (fz.1 ≤ i) && decide (i < fz.2)) = false
theorem loose_zero (n : Nat) : Loose (0, 0) n := fun i _ => by simp
theorem loose_edge (n : Nat) : Loose (n, n + 1) n := fun i h => by simp; omega
theorem frozen_loose {w : World} {g i : Nat} {cur : Array Value} {t : TypeId} {fz : Nat × Nat} (hg : w.heap[g]? = some (.cells cur t fz)) (hf : Loose fz cur.size) (hi : i < cur.size) : w.frozen? ⟨g, i, none⟩ = false := by
 have := hf i hi
 simp only [World.frozen?, hg]
 simpa using this
theorem run_storeCells_atE (P : Program) (g o : Nat) (t : TypeId) (fz : Nat × Nat) : ∀ (vs : List Value) (i : Nat) (cur : Array Value) (w : World), w.heap[g]? = some (.cells cur t fz) → Loose fz cur.size → o + i + vs.length ≤ cur.size → (∀ v ∈ vs, v.oneCell' = true) →
  (storeCells ⟨g, o, none⟩ vs i).run P w = .ok () (w.setRow g (cur.toList.take (o + i) ++ vs ++ cur.toList.drop (o + i + vs.length)).toArray)
 | [], i, cur, w, hg, _, _, _ => by
  simp only [storeCells, List.append_nil, List.length_nil, Nat.add_zero, List.take_append_drop, Array.toArray_toList]
  rw [setRow_self w g cur t fz hg]
  rfl
 | v :: rest, i, cur, w, hg, hf, hl, h1 => by
  have hi : o + i < cur.size := by simp at hl; omega
  have hadd : (⟨g, o, none⟩ : Addr).add i = ⟨g, o + i, none⟩ := by unfold Addr.add; split <;> simp_all
  have hcell : w.cell? ⟨g, o + i, none⟩ = some cur[o + i] := by simp [World.cell?, hg, hi]
  have hfro := frozen_loose hg hf hi
  have hst : (store ((⟨g, o, none⟩ : Addr).add i) v).run P w = .ok () (w.setRow g (cur.setIfInBounds (o + i) v)) := by
   rw [hadd, run_store P w _ v _ (h1 v (by simp)), hcell]
   simp [hfro, setCell_eq_setRow w g (o + i) cur t fz v hg]
  have ih := run_storeCells_atE P g o t fz rest (i + 1) (cur.setIfInBounds (o + i) v) (w.setRow g (cur.setIfInBounds (o + i) v)) (setRow_heap w g cur _ t _ hg) (by simpa using hf) (by simp at hl ⊢; omega) (fun x hx => h1 x (by simp [hx]))
  simp only [storeCells, Sem.run_bind, hst, Result.andThen_ok, ih, setRow_setRow]
  congr 3
  have e := list_seg_step cur.toList (o + i) v rest (by simp at hl ⊢; omega)
  simpa [Array.toList_setIfInBounds, Nat.add_assoc] using e
def ownsE (w : World) (base : Nat) (e : TypeId) (v : Value) (n : Nat) (xs : List Value) : Prop :=
 xs.length = n ∧ ∃ g cap cur fz, v = .slice (some ⟨g, 0, none⟩) n cap ∧ base ≤ g ∧ w.heap[g]? = some (.cells cur e fz) ∧ Loose fz cur.size ∧ n ≤ cap ∧ cap ≤ maxLen ∧ cur.size = cap ∧ cur.toList.take n = xs
theorem ownsE.cells {w : World} {base : Nat} {e : TypeId} {v : Value} {n : Nat} {xs : List Value} (h : ownsE w base e v n xs) : ∃ g cap, v = .slice (some ⟨g, 0, none⟩) n cap ∧ base ≤ g ∧ g < w.heap.size ∧ n ≤ cap ∧ ∀ j u, xs[j]? = some u → w.cell? ⟨g, j, none⟩ = some u := by
 obtain ⟨hl, g, cap, cur, fz, rfl, hb, hg, hf, hc, hm, hs, ht⟩ := h
 refine ⟨g, cap, rfl, hb, (Array.getElem?_eq_some_iff.1 hg).1, hc, fun j u hj => ?_⟩
 rw [cell_of_row w g j _ _ _ hg]
 have hjn : j < n := by rw [← hl]; exact (List.getElem?_eq_some_iff.1 hj).1
 rw [← ht, List.getElem?_take, if_pos hjn] at hj
 rw [← hj]; simp
theorem ownsE.step {w w' : World} {base : Nat} {e : TypeId} {v : Value} {n : Nat} {xs : List Value} (h : ownsE w base e v n xs) (hb : Below w.heap.size w w') : ownsE w' base e v n xs := by
 obtain ⟨hl, g, cap, cur, fz, rfl, h1, hg, h2⟩ := h
 exact ⟨hl, g, cap, cur, fz, rfl, h1, by rw [hb.block g (Array.getElem?_eq_some_iff.1 hg).1]; exact hg, h2⟩
theorem ownsE_conv (w : World) (e : TypeId) (s : ByteArray) (hs : s.size ≤ maxLen) (base : Nat) (hb : base ≤ w.heap.size) :
  ownsE (w.drew.alloc (.cells (bytesRow s (grownCap w s.size 0 e)) e ((bytesRow s (grownCap w s.size 0 e)).size, (bytesRow s (grownCap w s.size 0 e)).size + 1))) base e (.slice (some ⟨w.heap.size, 0, none⟩) s.size (grownCap w s.size 0 e)) s.size (s.data.toList.map fun b : UInt8 => Value.int .u8 (b.toNat : Int)) := by
 have hge := grownCap_ge w s.size 0 e
 refine ⟨by rw [List.length_map]; rfl, w.heap.size, _, _, _, rfl, hb, heap_alloc_new w.drew _, loose_edge _, hge, grownCap_le_maxLen w _ _ e hs, ?_, ?_⟩
 ·simp [bytesRow] at hge ⊢; omega
 ·have h1 : s.data.toList.length = s.size := by rw [Array.length_toList]; rfl
  simp [bytesRow]
theorem run_append_ownE {P : Program} (w : World) (base : Nat) (t ty e : TypeId) (i : TypeInfo) (z : Value) (ht : P.underlying t = some (.slice e)) (hi : P.info? e = some i) (hz : i.zero = some z)
  (hsize : i.size = 1) (hby : i.bytes = 1) (hzs : z.cells.size = 1)
  (v : Value) (n : Nat) (xs : List Value) (hown : ownsE w base e v n xs)
  (a : Addr) (m c : Nat) (news : List Value) (hl : news.length = m) (hnews : ∀ j u, news[j]? = some u → w.cell? (a.add j) = some u) (h1 : ∀ u ∈ news, u.oneCell' = true)
  (h63 : n + m ≤ 140737488355328) (hbase : base ≤ w.heap.size) :
  ∃ v' w', (Builtin.append_ #[t, t] ty #[v, .slice (some a) m c]).run P w = .ok v' w' ∧ ownsE w' base e v' (n + m) (xs ++ news) ∧ w.grownBy w' v.ownBlock := by
 obtain ⟨hxl, g, cap, cur, fz, rfl, hbg, hg, hf, hnc, hcm, hcs, htake⟩ := hown
 have hlen : (xs ++ news).length = n + m := by rw [List.length_append, hxl, hl]
 by_cases hroom : n + m ≤ cap
 ·have hfit : n + 0 + news.length ≤ cur.size := by rw [hl, hcs]; omega
  have hfc := run_firstCells_some (P := P) w i.size m a m c news (by rw [hsize, hl, Nat.mul_one]) hnews
  have hst := run_storeCells_atE P g n e fz news 0 cur w hg hf hfit h1
  simp only [Nat.add_zero] at hst
  have hr : (Builtin.append_ #[t, t] ty #[.slice (some ⟨g, 0, none⟩) n cap, .slice (some a) m c]).run P w = .ok (.slice (some ⟨g, 0, none⟩) (n + m) cap) (w.setRow g (cur.toList.take n ++ news ++ cur.toList.drop (n + news.length)).toArray) := by
   rw [hsize] at hfc
   simp [Builtin.append_, run_underlying ht, sizeOf, typeInfo, hi, hsize, Builtin.lenOf, hroom, hfc, Addr.add_lit, hst]
  have hsz : (cur.toList.take n ++ news ++ cur.toList.drop (n + news.length)).toArray.size = cur.size := by
   simp only [List.size_toArray, List.length_append, List.length_take, List.length_drop, Array.length_toList]
   omega
  refine ⟨_, _, hr, ⟨hlen, g, cap, _, fz, rfl, hbg, setRow_heap w g cur _ e _ hg, by rw [hsz]; exact hf, hroom, hcm, by rw [hsz]; exact hcs, ?_⟩, ⟨rfl, rfl, rfl, by simp, fun k _ hk => setRow_other w g k _ (fun e => hk (by simp [Value.ownBlock, e]))⟩⟩
  rw [htake, ← hlen]
  exact List.take_left
 ·have holds : ∀ j u, xs[j]? = some u → w.cell? ((⟨g, 0, none⟩ : Addr).add j) = some u := fun j u hj => by
   have e1 : (⟨g, 0, none⟩ : Addr).add j = ⟨g, j, none⟩ := by unfold Addr.add; split <;> simp_all
   rw [e1, cell_of_row w g j _ _ _ hg]
   have hjn : j < n := by rw [← hxl]; exact (List.getElem?_eq_some_iff.1 hj).1
   rw [← htake, List.getElem?_take, if_pos hjn] at hj
   rw [← hj]; simp
  have hr := run_append_grow (P := P) w t ty e i z ht hi hz ⟨g, 0, none⟩ n cap xs (by rw [hsize, Nat.mul_one]; exact hxl) holds a m c news (by rw [hsize, Nat.mul_one]; exact hl) hnews (by omega) (by omega) (growslice_fits (by omega) (by rw [hby]; omega))
  have hge := grownCap_ge w (n + m) cap e
  have hcm2 : grownCap w (n + m) cap e ≤ maxLen := grownCap_le_maxLen w (n + m) cap e (by unfold maxLen; omega)
  refine ⟨_, _, hr, ⟨hlen, w.heap.size, _, _, _, rfl, hbase, heap_alloc_new w.drew _, loose_zero _, hge, hcm2, ?_, ?_⟩, ⟨rfl, rfl, rfl, by simp, fun k hk _ => by show (w.heap.push _)[k]? = _; rw [Array.getElem?_push, if_neg (Nat.ne_of_lt hk)]⟩⟩
  ·simp only [Array.size_append, List.size_toArray, size_zeroCells, hzs, hxl, hl]
   omega
  ·simp only [Array.toList_append, List.append_assoc]
   rw [← List.append_assoc, ← hlen]
   exact List.take_left
theorem wpList_append_ownE {P : Program} {w : World} {ops : Array Oper} {rest : List Oper} {o : Oper} {a : Act} {Q : Exit → Act → World → Prop} (hgd : o.guard = none) (s x : Operand) (t : TypeId)
  (ho : o.op = .call { callee := .builtin .append, args := #[s, x], argTypes := #[t, t] })
  (base : Nat) (e : TypeId) (i : TypeInfo) (z : Value) (ht : P.underlying t = some (.slice e)) (hi : P.info? e = some i) (hz : i.zero = some z)
  (hsize : i.size = 1) (hby : i.bytes = 1) (hzs : z.cells.size = 1)
  (v : Value) (n : Nat) (xs : List Value) (hs : a.eval s = v) (hown : ownsE w base e v n xs)
  (ad : Addr) (m c : Nat) (news : List Value) (hx : a.eval x = .slice (some ad) m c) (hl : news.length = m) (hnews : ∀ j u, news[j]? = some u → w.cell? (ad.add j) = some u) (h1 : ∀ u ∈ news, u.oneCell' = true)
  (h63 : n + m ≤ 140737488355328) (hbase : base ≤ w.heap.size)
  (h : ∀ v' w', ownsE w' base e v' (n + m) (xs ++ news) → w.grownBy w' v.ownBlock → wpList P ops Q rest (a.put o.dst v') w') : wpList P ops Q (o :: rest) a w :=
 wpList_plain hgd fun _ hK => by
  obtain ⟨v', w', hr, h2, h3⟩ := run_append_ownE (P := P) w base t o.type e i z ht hi hz hsize hby hzs v n xs hown ad m c news hl hnews h1 h63 hbase
  unfold Oper.wp execOp
  simp only [ho, resolve, invoke, builtin, Sem.run_bind, Sem.run_pure, Result.andThen_ok, List.map_toArray, List.map_cons, List.map_nil, hs, hx, hr]
  exact hK _ _ (h v' w' h2 h3)
theorem ownsE.below {w w1 w' : World} {base : Nat} {e : TypeId} {v : Value} {n : Nat} {xs : List Value} (h : ownsE w base e v n xs) (hb : Below base w1 w) (hz : base ≤ w.heap.size) (hg : w.grownBy w' v.ownBlock) : Below base w1 w' := by
 obtain ⟨hl, g, cap, cur, fz, rfl, h1, _⟩ := h
 exact hb.grown hg hz (fun k hk => by simp [Value.ownBlock] at hk; omega)
end Go.Proofs.YtjpjpmkadoaipaaGreatDoor
set_option linter.unusedVariables false
set_option pp.maxSteps 200000
namespace Go.Proofs.YtjpjpmkadoaipaaGreatDoor
open Go.RowKit
set_option maxRecDepth 100000 in
set_option maxHeartbeats 1000000 in
def slLen : Value → Nat | .slice _ n _ => n | _ => 0
def padL (l : List UInt8) (j : Nat) : List UInt8 := l ++ 128 :: List.replicate j 0
theorem padL_len (l : List UInt8) (j : Nat) : (padL l j).length = l.length + 1 + j := by simp [padL]; omega
theorem padL_succ (l : List UInt8) (j : Nat) : padL l (j + 1) = padL l j ++ [0] := by simp [padL, List.replicate_succ']
def msgL (l : List UInt8) (k : Nat) : List UInt8 := padL l (zerosN_Shn l.length) ++ (be8 (l.length * 8)).take k
theorem msgL_zero (l : List UInt8) : msgL l 0 = padL l (zerosN_Shn l.length) := by simp [msgL]
theorem msgL_len (l : List UInt8) (k : Nat) (hk : k ≤ 8) : (msgL l k).length = l.length + 1 + zerosN_Shn l.length + k := by
 simp [msgL, padL_len, be8_len]; omega
theorem msgL_full (l : List UInt8) : msgL l 8 = l ++ closing l.length := by
 unfold msgL padL closing
 rw [List.take_of_length_le (by rw [be8_len]; exact Nat.le_refl _)]; simp
theorem msgL_succ (l : List UInt8) (k : Nat) (hk : k < 8) : msgL l (k + 1) = msgL l k ++ [UInt8.ofNat (l.length * 8 / 2 ^ (8 * (7 - k)))] := by
 unfold msgL
 rw [be8_take _ _ hk, List.append_assoc]
def xrowL (M : List UInt8) (r q : Nat) : List UInt8 := (M.drop (64 * r)).take q ++ List.replicate (64 - q) 0
theorem xrowL_zero (M : List UInt8) (r : Nat) : xrowL M r 0 = List.replicate 64 0 := by simp [xrowL]
theorem xrowL_len (M : List UInt8) (r q : Nat) (hq : q ≤ 64) (h : 64 * r + 64 ≤ M.length) : (xrowL M r q).length = 64 := by simp [xrowL]; omega
theorem xrowL_full (M : List UInt8) (r : Nat) : xrowL M r 64 = (M.drop (64 * r)).take 64 := by simp [xrowL]
theorem xrowL_set (M : List UInt8) (r q : Nat) (hq : q < 64) (h : 64 * r + 64 ≤ M.length) : (xrowL M r q).set q (M.getD (64 * r + q) 0) = xrowL M r (q + 1) := by
 have hl : ((M.drop (64 * r)).take q).length = q := by simp; omega
 unfold xrowL
 rw [List.set_append_right _ _ (by omega), hl, Nat.sub_self, show 64 - q = (64 - (q + 1)) + 1 by omega, List.replicate_succ, List.set_cons_zero]
 rw [List.take_succ_eq_append_getElem (i := q) (by simp; omega), List.append_assoc]
 congr 1
 simp only [List.getElem_drop, List.singleton_append]
 congr 1
 rw [List.getD_eq_getElem?_getD, List.getElem?_eq_getElem (by omega)]
 rfl
def stateN (M : List UInt8) (r : Nat) : St := (absorb first (M.take (64 * r))).1
theorem stateN_zero (M : List UInt8) : stateN M 0 = first := by unfold stateN; rw [Nat.mul_zero, List.take_zero, absorb_lt _ (by decide)]
theorem stateN_ok (M : List UInt8) (r : Nat) : (stateN M r).ok := absorb_ok _ first_ok
theorem stateN_succ (M : List UInt8) (r : Nat) (h : 64 * r + 64 ≤ M.length) : stateN M (r + 1) = blk (stateN M r) ((M.drop (64 * r)).take 64) := by
 have hr : (absorb first (M.take (64 * r))).2 = [] := by
  have := absorb_len (M.take (64 * r)) first
  rw [List.length_take, Nat.min_eq_left (by omega), Nat.mul_mod_right] at this
  exact List.length_eq_zero_iff.1 this
 unfold stateN
 rw [show 64 * (r + 1) = 64 * r + 64 by omega, List.take_add, ← absorb_append, hr, List.nil_append, absorb_one _ (by simp; omega)]
theorem stateN_full (M : List UInt8) (R : Nat) (h : M.length = 64 * R) : stateN M R = (absorb first M).1 := by
 unfold stateN; rw [← h, List.take_length]
theorem news4 (W : World) (v0 v1 v2 v3 : Value) : ∀ j u, [v0, v1, v2, v3][j]? = some u → (W.alloc (.cells #[v0, v1, v2, v3] 5)).drew.cell? ((⟨W.heap.size, 0, none⟩ : Addr).add j) = some u := by
 intro j u hj
 match j, hj with
 | 0, hj | 1, hj | 2, hj | 3, hj => simp at hj; subst hj; simp [Addr.add]
theorem one4 (k : IntKind) (a b c d : Int) : ∀ u ∈ [Value.int k a, Value.int k b, Value.int k c, Value.int k d], u.oneCell' = true := by
 intro u hu; simp at hu; rcases hu with rfl | rfl | rfl | rfl <;> rfl
theorem bytes_take (f : St) (k : Nat) (hk : k < 8) : f.bytes.take (4 * k + 4) = f.bytes.take (4 * k) ++ wbytes (f.list.getD k 0) := by
 match k, hk with
 | 0, _ | 1, _ | 2, _ | 3, _ | 4, _ | 5, _ | 6, _ | 7, _ => rfl
 | n + 8, h => exact absurd h (by omega)
theorem wbytes_cells (x : Nat) : [Value.int .u8 (IntKind.u8.wrap ((x : Int) / 16777216)), .int .u8 (IntKind.u8.wrap ((x : Int) / 65536)), .int .u8 (IntKind.u8.wrap ((x : Int) / 256)), .int .u8 (IntKind.u8.wrap (x : Int))] = Lib.byteCells (wbytes x) := by
 have e : ∀ n : Nat, IntKind.u8.wrap (n : Int) = ((UInt8.ofNat n).toNat : Int) := fun n => by rw [UInt8.toNat_ofNat', Int.natCast_emod]; rfl
 rw [show (x : Int) / 16777216 = ((x / 16777216 : Nat) : Int) by omega, show (x : Int) / 65536 = ((x / 65536 : Nat) : Int) by omega, show (x : Int) / 256 = ((x / 256 : Nat) : Int) by omega, e, e, e, e]
 rfl
theorem ownsRow_slice' {w : World} {base : Nat} {e : TypeId} {v : Value} {n : Nat} {xs : List Value} (h : w.ownsRow base e 1 v (n + 1) xs) : ∃ g cap, v = .slice (some ⟨g, 0, none⟩) (n + 1) cap := by
 rcases h.2 with ⟨_, h0⟩ | ⟨g, cap, _, rfl, _⟩
 ·omega
 ·exact ⟨g, cap, rfl⟩
theorem getD_ok {f : St} (hs : f.ok) (k : Nat) : f.list.getD k 0 < 4294967296 := by
 obtain ⟨h0, h1, h2, h3, h4, h5, h6, h7⟩ := hs
 exact getD_lt (l := f.list) (by intro y hy; simp only [St.list, List.mem_cons, List.not_mem_nil, or_false] at hy; rcases hy with rfl | rfl | rfl | rfl | rfl | rfl | rfl | rfl <;> assumption) k
theorem conv_str (w : World) (s : ByteArray) : (convert 9 113 (.string s)).run Tryz.prog w = .ok (.slice (some ⟨w.heap.size, 0, none⟩) s.size (grownCap w s.size 0 5))
   (w.drew.alloc (.cells (bytesRow s (grownCap w s.size 0 5)) 5 ((bytesRow s (grownCap w s.size 0 5)).size, (bytesRow s (grownCap w s.size 0 5)).size + 1))) :=
 run_bytes_of_string w 9 113 5 s Tryz.underlying9 Tryz.underlying113 Tryz.underlying5
theorem news_one (W : World) (v : Value) : ∀ j u, [v][j]? = some u → (W.alloc (.cells #[v] 5)).cell? ((⟨W.heap.size, 0, none⟩ : Addr).add j) = some u := by
 intro j u hj
 match j, hj with
 | 0, hj => simp at hj; subst hj; simp [Addr.add]
theorem one_cell (k : IntKind) (n : Int) : ∀ u ∈ [Value.int k n], u.oneCell' = true := by
 intro u hu; simp at hu; subst hu; rfl
theorem zero25 : (Tryz.prog.info? 119).bind (fun i => i.zero.map (·.cells)) = some (zbyt 64) := by kernel_rfl
set_option maxRecDepth 100000 in
set_option maxHeartbeats 4000000 in
theorem refSum_any (s : ByteArray) (hs : s.size ≤ 1000000) (w : World) :
  Calls Tryz.prog 35 #[.string s] w fun e w' => e = .returned (.string ⟨(shaSum s.data.toList).toArray⟩) ∧ Below w.heap.size w w' := by
 obtain ⟨i0, hi, hz0, hz1, hz2⟩ := info_parts infoByte
 obtain ⟨l, hl⟩ : ∃ l, l = s.data.toList := ⟨_, rfl⟩
 have hn : s.size = l.length := by rw [hl]; exact Lib.size_eq s
 obtain ⟨W1, hW1⟩ : ∃ W1, W1 = w.drew.alloc (.cells (bytesRow s (grownCap w s.size 0 5)) 5 ((bytesRow s (grownCap w s.size 0 5)).size, (bytesRow s (grownCap w s.size 0 5)).size + 1)) := ⟨_, rfl⟩
 have hcv := conv_str w s
 rw [← hW1] at hcv
 have ho1 : ownsE W1 w.heap.size 5 (.slice (some ⟨w.heap.size, 0, none⟩) s.size (grownCap w s.size 0 5)) s.size (Lib.byteCells l) := by
  rw [hW1, hl]; exact ownsE_conv w 5 s (by unfold maxLen; omega) w.heap.size (Nat.le_refl _)
 have hb1 : Below w.heap.size w W1 := by rw [hW1]; exact ((Below.refl _ w).drew).alloc (Nat.le_refl _) _
 have HO := Lib.hid ho1; have HCV := Lib.hid hcv; have HL := Lib.hid hl; have HN := Lib.hid hn
 clear hW1 ho1 hcv hl hn
 go_enter Tryz.func35, Tryz.ntmps35
 go_wp2_with (first
  | refine wpList_convert rfl _ _ _ rfl _ _ _ rfl HCV.out ?_
  | (at_builtin; refine wpList_append_ownE rfl (.tmp 17) (.tmp 18) 113 rfl w.heap.size 5 i0 (.int .u8 0) Tryz.underlying113 hi hz0 hz1 hz2 rfl _ _ _ rfl (ownsE.step HO.out ((Below.refl _ _).alloc (Nat.le_refl _) _)) ⟨W1.heap.size, 0, none⟩ 1 1 [.int .u8 128] rfl rfl (news_one W1 _) (one_cell _ _) (by omega) ?c5 ?_))
 case c5 => have := hb1.size; simp; omega
 intro v2 w2 ho2 hg2
 have hb2 : Below w.heap.size w w2 := ownsE.below (ownsE.step HO.out ((Below.refl _ _).alloc (Nat.le_refl _) _)) (hb1.alloc hb1.size _) (by have := hb1.size; simp; omega) hg2
 have ho2' : ownsE w2 w.heap.size 5 v2 (padL l 0).length (Lib.byteCells (padL l 0)) := by
  have e : Lib.byteCells l ++ [Value.int .u8 128] = Lib.byteCells (padL l 0) := by simp [Lib.byteCells, padL]
  rw [e, HN.out] at ho2
  rwa [padL_len]
 have HO2 := Lib.hid ho2'
 clear HO ho2 hg2 ho2' hb1 HCV
 go_wp2_with fail
 obtain ⟨z, hz⟩ : ∃ z, z = zerosN_Shn l.length := ⟨_, rfl⟩
 have hzl : z < 64 := by rw [hz]; unfold zerosN_Shn; omega
 have hzm : ∀ j, j ≤ z → ((l.length + 1 + j) % 64 = 56 ↔ j = z) := fun j hj => by rw [hz] at hj ⊢; unfold zerosN_Shn at hj ⊢; omega
 have HZ := Lib.hid hz; have HZM := Lib.hid hzm
 clear hz hzm
 go_loopw [4] (fun v wr => ∃ j : Nat, j ≤ z ∧ ownsE wr w.heap.size 5 v (padL l j).length (Lib.byteCells (padL l j)) ∧ Below w.heap.size w wr) (fun v _ => s.size + 1 + 64 - slLen v)
 case atStart => exact ⟨0, by omega, HO2.out, hb2⟩
 case round =>
  clear HO2 hb2
  obtain ⟨j, hj, ho, hb⟩ := hrel
  obtain ⟨g, cap, rfl, hbg, hgw, hnc, hcells⟩ := ho.cells
  have hlen := padL_len l j
  have hsl := HN.out
  obtain ⟨m, hme⟩ : ∃ m, m = (padL l j).length := ⟨_, rfl⟩
  have hmb : m ≤ 1000065 := by omega
  have hms : m ≤ s.size + 1 + 63 := by omega
  have hq : m % 64 = 56 ↔ j = z := by rw [hme, hlen]; exact HZM.out j hj
  have HME := Lib.hid hme; have HLEN := Lib.hid hlen; have HO := Lib.hid ho; have HC := Lib.hid hcells; have HQ := Lib.hid hq
  rw [← hme] at HO hnc ⊢
  clear hlen hsl hme ho hcells hq
  by_cases hjz : j = z
  ·have hm : ((m : Int) % 64 != 56) = false := by
    have e : (m : Int) % 64 = 56 := by have := HQ.out.2 hjz; omega
    rw [e]; rfl
   have ho : ownsE wr w.heap.size 5 (.slice (some ⟨g, 0, none⟩) m cap) (m + 0) (Lib.byteCells (msgL l 0)) := by
    have e := HO.out
    rw [hjz, HZ.out] at e
    rw [msgL_zero]; exact e
   have HOM := Lib.hid ho
   have HM : Hid (∀ k, k ≤ 8 → (msgL l k).length = m + k) := Lib.hid (fun k hk => by rw [msgL_len l k hk, HME.out, HLEN.out, hjz, HZ.out])
   clear ho HO HC HQ
   go_wp2_with fail
   go_loopw [5, 4] (fun i v wr => ∃ k : Nat, k ≤ 8 ∧ i = .int .i64 (7 - (k : Int)) ∧ ownsE wr w.heap.size 5 v (m + k) (Lib.byteCells (msgL l k)) ∧ Below w.heap.size w wr) (fun i _ _ => (intOf i + 1).toNat)
   case atStart => exact ⟨0, by omega, rfl, HOM.out, hb⟩
   case round =>
    clear HOM hb hbg hgw hnc
    obtain ⟨k, hk, rfl, ho, hb⟩ := hrel
    obtain ⟨g2, cap2, rfl, hbg, hgw, hnc, hcells⟩ := ho.cells
    have HO := Lib.hid ho; have HC := Lib.hid hcells
    clear ho hcells
    by_cases hlt : k < 8
    ·have hbk : decide ((0 : Int) ≤ 7 - (k : Int)) = true := by simpa using (show (0 : Int) ≤ 7 - (k : Int) by omega)
     obtain ⟨c, hc⟩ : ∃ c, c = 8 * (7 - k) := ⟨_, rfl⟩
     have e3 : (8 : Int) * (7 - (k : Int)) = (c : Int) := by omega
     have bc : c ≤ 56 := by omega
     have b0 : (0 : Int) ≤ 7 - (k : Int) := by omega
     have HT := Lib.hid (msgL_succ l k hlt)
     rw [← hc] at HT
     have HCC := Lib.hid hc
     clear hc
     go_wp2_with (at_builtin; refine wpList_append_ownE rfl (.tmp 31) (.tmp 38) 113 rfl w.heap.size 5 i0 (.int .u8 0) Tryz.underlying113 hi hz0 hz1 hz2 rfl _ _ _ rfl (ownsE.step HO.out ((Below.refl _ _).alloc (Nat.le_refl _) _)) ⟨wr.heap.size, 0, none⟩ 1 1 [_] rfl rfl (news_one wr _) (one_cell _ _) (by omega) ?c6 ?_)
     case c6 => have := hb.size; simp; omega
     intro v2 w2 ho2 hg2
     have hb2 : Below w.heap.size w w2 := ownsE.below (ownsE.step HO.out ((Below.refl _ _).alloc (Nat.le_refl _) _)) (hb.alloc hb.size _) (by have := hb.size; simp; omega) hg2
     have ho2' : ownsE w2 w.heap.size 5 v2 (m + (k + 1)) (Lib.byteCells (msgL l (k + 1))) := by
      have h8 : ((s.size : Int) * 8 / 2 ^ c % 256) = ((UInt8.ofNat (l.length * 8 / 2 ^ c)).toNat : Int) := by
       rw [UInt8.toNat_ofNat', Int.natCast_emod, Int.natCast_ediv, Int.natCast_mul, Int.natCast_pow, HN.out]; rfl
      have e : Lib.byteCells (msgL l k) ++ [Value.int .u8 ((s.size : Int) * 8 / 2 ^ c % 256)] = Lib.byteCells (msgL l (k + 1)) := by
       rw [HT.out, h8]; simp [Lib.byteCells]
      rw [e] at ho2
      exact ho2
     obtain ⟨g3, cap3, rfl, _, _, _, _⟩ := ho2'.cells
     have HO2 := Lib.hid ho2'
     clear ho2 ho2' hg2
     go_wp2_with fail
     refine ⟨⟨k + 1, by omega, ?_, HO2.out, hb2⟩, ?_⟩
     ·exact ret_valH (by omega)
     ·simp only [intOf]; omega
    ·have hk8 : k = 8 := by omega
     have hbk : decide ((0 : Int) ≤ 7 - (k : Int)) = false := by rw [hk8]; rfl
     have hbk2 : ¬ (0 : Int) ≤ 7 - (k : Int) := by omega
     have hbk3 : ¬ (k : Int) ≤ 7 := by omega
     have ho : ownsE wr w.heap.size 5 (.slice (some ⟨g2, 0, none⟩) (m + k) cap2) (m + k) (Lib.byteCells (l ++ closing l.length)) := by
      have e := HO.out
      rw [hk8, msgL_full, ← hk8] at e
      exact e
     have hM := HM.out 8 (Nat.le_refl _)
     rw [msgL_full, ← hk8] at hM
     obtain ⟨N, hNe⟩ : ∃ N, N = m + k := ⟨_, rfl⟩
     rw [← hNe] at ho hM hnc ⊢
     obtain ⟨M, hMe⟩ : ∃ M, M = l ++ closing l.length := ⟨_, rfl⟩
     rw [← hMe] at ho hM
     have hN64 : N % 64 = 0 := by rw [← hM, hMe]; exact closed_len l
     obtain ⟨R, hR⟩ : ∃ R, N = 64 * R := ⟨N / 64, by omega⟩
     have hNb : N ≤ 1000073 := by omega
     have hcells := ho.cells
     obtain ⟨_, _, he, _, _, _, hcells⟩ := hcells
     cases he
     have HCE := Lib.hid hcells; have HMe := Lib.hid hMe; have HMl := Lib.hid hM; have HNe := Lib.hid hNe
     have HR := Lib.hid hR
     clear hk8 hk hlt HO HC hcells hMe hM hNe ho hN64 hR
     go_wp2_with fail
     refine (refFirst_any _).mono ?_
     rintro e w3 ⟨rfl, hb3⟩
     have hz3 := hb3.size
     have hb4 : Below w.heap.size w w3 := hb.trans (hb3.mono hb.size)
     have hc3 : ∀ q, q < N → w3.cell? ⟨g2, q, none⟩ = some (.int .u8 ((M.getD q 0).toNat : Nat)) := fun q hq => by
      rw [hb3.cell (p := ⟨g2, q, none⟩) hgw]
      refine HCE.out q _ ?_
      unfold Lib.byteCells
      rw [List.getElem?_map, List.getD_eq_getElem?_getD, List.getElem?_eq_getElem (by rw [HMl.out]; exact hq)]; rfl
     have HC3 := Lib.hid hc3
     have q6 : Row ((w3.alloc (.cells (zrow 8) 117)).setRow w3.heap.size (numV first.list)) w3.heap.size (numV (stateN M 0).list) 117 := by
      rw [stateN_zero]; exact Row.setRow (Row.made _ _ _) _
     have hb5 : Below w3.heap.size w3 ((w3.alloc (.cells (zrow 8) 117)).setRow w3.heap.size (numV first.list)) := below_setRow ((Below.refl _ _).alloc (Nat.le_refl _) _) (Nat.le_refl _) _
     have Q6 := Lib.hid q6
     clear hc3 q6 HCE hb3
     go_wp2_with (first
      | refine wpList_alloc_zero rfl 117 rfl _ zero24 ?_
      | refine wpList_store_row rfl 117 _ _ rfl w3.heap.size (numV first.list) rfl rfl 117 (zrow 8) (heap_alloc_new _ _) (by rw [numV_size]; exact size24) (by rw [numV_size, zrow_size]; rfl) (numV_one _) ?_)
     obtain ⟨H, hH⟩ : ∃ H, H = w3.heap.size := ⟨_, rfl⟩
     rw [← hH] at Q6 hb5 ⊢
     have hgH : g2 < H := by omega
     have hH1 : H ≤ w3.heap.size := by omega
     have hH2 : w3.heap.size ≤ H := by omega
     clear hH
     go_loopw [7, 8, 9] (fun i _ _ wr => ∃ r : Nat, r ≤ R ∧ i = .int .i64 ((64 * r : Nat) : Int) ∧ Row wr H (numV (stateN M r).list) 117 ∧ Below H w3 wr) (fun i _ _ _ => N - (intOf i).toNat)
     case atStart => exact ⟨0, by omega, rfl, Q6.out, hb5⟩
     case round =>
      clear Q6 hb5
      obtain ⟨r, hr, rfl, q6, hbr⟩ := hrel
      have hHs := q6.lt
      by_cases hlt : r < R
      ·have hrN : 64 * r + 64 ≤ N := by have := HR.out; omega
       have hbk' : decide (((64 * r : Nat) : Int) < (N : Int)) = true := by simpa using (show ((64 * r : Nat) : Int) < (N : Int) by omega)
       obtain ⟨T, hT⟩ : ∃ T, T = 64 * r := ⟨_, rfl⟩
       rw [← hT] at hbk' hrN ⊢
       have Q6 := Lib.hid q6
       have HT := Lib.hid hT
       clear q6 hT
       go_wp2_with (refine wpList_alloc_zero rfl 119 rfl _ zero25 ?_)
       obtain ⟨X, hX⟩ : ∃ X, X = wr.heap.size := ⟨_, rfl⟩
       have hXH : H < X := by omega
       have qx : Row (wr.alloc (.cells (zbyt 64) 119)) X (bytV (xrowL M r 0)) 119 := by
        rw [hX, xrowL_zero]; exact Row.made _ _ _
       have q6 : Row (wr.alloc (.cells (zbyt 64) 119)) H (numV (stateN M r).list) 117 := Q6.out.alloc _
       have hbx : Below H w3 (wr.alloc (.cells (zbyt 64) 119)) := hbr.alloc (by omega) _
       have QX := Lib.hid qx; have Q6' := Lib.hid q6
       rw [← hX]
       clear qx q6 hX Q6 hbr
       go_loopw [9] (fun i wr => ∃ q : Nat, q ≤ 64 ∧ i = .int .i64 q ∧ Row wr X (bytV (xrowL M r q)) 119 ∧ Row wr H (numV (stateN M r).list) 117 ∧ Below H w3 wr) (fun i _ => 64 - (intOf i).toNat)
       case atStart => exact ⟨0, by omega, rfl, QX.out, Q6'.out, hbx⟩
       case round =>
        clear QX Q6' hbx
        obtain ⟨q, hq, rfl, qx, q6, hbr⟩ := hrel
        by_cases hqt : q < 64
        ·have hbq : decide ((q : Int) < 64) = true := by simpa using (show (q : Int) < 64 by omega)
         obtain ⟨y, hy⟩ : ∃ y, y = M.getD (T + q) 0 := ⟨_, rfl⟩
         have cy : wr.cell? ⟨g2, T + q, none⟩ = some (.int .u8 (y.toNat : Nat)) := by
          rw [hbr.cell (p := ⟨g2, T + q, none⟩) hgH, hy]; exact HC3.out (T + q) (by omega)
         have fx := qx.free q
         have cx : ∃ v, wr.cell? ⟨X, q, none⟩ = some v := ⟨_, by rw [qx.cell, bytV_get _ _ (by rw [xrowL_len M r q (by omega) (by rw [HMl.out, ← HT.out]; exact hrN)]; exact hqt)]⟩
         obtain ⟨v, cx⟩ := cx
         have bq : (0 : Int) ≤ (q : Int) ∧ (q : Int) < 64 := by omega
         have bT : (0 : Int) ≤ (T : Int) + (q : Int) ∧ (T : Int) + (q : Int) < (N : Int) := by omega
         have tT : ((T : Int) + (q : Int)).toNat = T + q := by omega
         have QX := Lib.hid qx; have Q6 := Lib.hid q6; have HY := Lib.hid hy
         clear qx q6 hy
         go_wp2_with fail
         go_roundw
         case rel =>
          refine ⟨q + 1, by omega, by go_num, ?_, Q6.out.other _ _ (by show H ≠ X; omega), hbr.setCell (by show H ≤ X; omega) _⟩
          have := QX.out.set q (.int .u8 (y.toNat : Nat))
          rw [bytV_set, HY.out, HT.out, xrowL_set M r q hqt (by rw [HMl.out, ← HT.out]; exact hrN)] at this
          rw [HY.out, HT.out]
          exact this
         case measure => simp [intOf]; omega
        ·have hq64 : q = 64 := by omega
         have hbq : decide ((q : Int) < 64) = false := by rw [hq64]; rfl
         rw [hq64, xrowL_full] at qx
         obtain ⟨b, hbe⟩ : ∃ b, b = (M.drop (64 * r)).take 64 := ⟨_, rfl⟩
         rw [← hbe] at qx
         have hb64 : b.length = 64 := by
          have h1 := HMl.out; have h2 := HT.out
          rw [hbe, List.length_take, List.length_drop]; omega
         have hst : stateN M (r + 1) = blk (stateN M r) b := by rw [hbe]; exact stateN_succ M r (by rw [HMl.out, ← HT.out]; exact hrN)
         have CB := Lib.hid (fun w => refBlock_any b hb64 (stateN M r) (stateN_ok M r) w)
         have hst' : blkS (stateN M r) (fun i => (b.getD i 0).toNat) = stateN M (r + 1) := hst.symm
         rw [hst'] at CB
         have QX := Lib.hid qx; have Q6 := Lib.hid q6; have HB64 := Lib.hid hb64
         clear qx q6 hbe hb64 hst hst' hq64 hqt
         go_wp2_with (first
          | refine wpList_load_row rfl 117 _ rfl H rfl 117 (numV (stateN M r).list) (0, 0) _ Q6.out Tryz.underlying117 rfl (by rw [numV_size]; exact size24) ?_
          | refine wpList_load_row rfl 119 _ rfl X rfl 119 (bytV b) (0, 0) _ QX.out Tryz.underlying119 rfl (by rw [bytV_size, HB64.out]; exact size25) ?_)
         refine (CB.out _).mono ?_
         rintro e w4 ⟨rfl, hb4'⟩
         have q6' : Row w4 H (numV (stateN M r).list) 117 := Q6.out.step hb4'
         have hbr' : Below H w3 w4 := hbr.trans (hb4'.mono (Nat.le_of_lt Q6.out.lt))
         have Q6' := Lib.hid q6'
         clear q6' hb4' hbr Q6 QX
         go_wp2_with (refine wpList_store_row rfl 117 _ _ rfl H (numV (stateN M (r + 1)).list) rfl rfl 117 (numV (stateN M r).list) Q6'.out (by rw [numV_size]; exact size24) (by rw [numV_size, numV_size]; rfl) (numV_one _) ?_)
         refine ⟨⟨r + 1, by omega, ?_, Row.setRow Q6'.out _, below_setRow hbr' (Nat.le_refl _) _⟩, ?_⟩
         ·exact ret_valH (by have := HT.out; omega)
         ·simp only [intOf]; omega
      ·have hrR : r = R := by omega
       have hlt' : ¬ (64 * r) < N := by have := HR.out; omega
       have hbk' : decide (((64 * r : Nat) : Int) < (N : Int)) = false := decide_eq_false (by omega)
       obtain ⟨T, hT⟩ : ∃ T, T = 64 * r := ⟨_, rfl⟩
       rw [← hT] at hbk' hlt' ⊢
       have hfin : stateN M r = (absorb first (l ++ closing l.length)).1 := by rw [hrR, stateN_full M R (by rw [HMl.out]; exact HR.out), HMe.out]
       obtain ⟨f, hf⟩ : ∃ f, f = stateN M r := ⟨_, rfl⟩
       have hok : f.ok := by rw [hf]; exact stateN_ok M r
       rw [← hf] at q6 hfin
       have HFIN := Lib.hid hfin; have Q6 := Lib.hid q6
       clear hf hfin q6 hT hrR hlt
       go_wp2_with fail
       go_loopw [11, 10] (fun i v wr => ∃ k : Nat, k ≤ 8 ∧ i = .int .i64 k ∧ wr.ownsRow (H + 1) 5 1 v (4 * k) (Lib.byteCells (f.bytes.take (4 * k))) ∧ Row wr H (numV f.list) 117 ∧ Below H w3 wr) (fun i _ _ => 8 - (intOf i).toNat)
       case atStart => exact ⟨0, by omega, rfl, World.ownsRow_nil _ _ _ _, Q6.out, hbr⟩
       case round =>
        clear Q6 hbr
        obtain ⟨k, hk, rfl, hown, q6, hbr⟩ := hrel
        by_cases hlt8 : k < 8
        ·have hbk8 : decide ((k : Int) < 8) = true := by simpa using (show (k : Int) < 8 by omega)
         obtain ⟨x, hx⟩ : ∃ x, x = f.list.getD k 0 := ⟨_, rfl⟩
         have cx : wr.cell? ⟨H, k, none⟩ = some (.int .u32 x) := by rw [q6.cell, numV_get _ _ (by rw [list_len]; exact hlt8), hx]
         have lx : x < 4294967296 := by rw [hx]; exact getD_ok hok k
         have bk : (0 : Int) ≤ (k : Int) ∧ (k : Int) < 8 := by omega
         have Q6 := Lib.hid q6; have HX := Lib.hid hx; have HO := Lib.hid hown
         have hHr := q6.lt
         clear q6 hx hown
         go_wp2_with fail
         have hneH : some H ≠ u10.ownBlock := fun e => by have := (HO.out.lt H e.symm).1; omega
         go_region_held_law (fun w' => w'.cell? ⟨H, k, none⟩ = some (.int .u32 x)) (first | exact cx | exact hgrow4.cell (by go_simp) hneH | (go_simp)) (first | (refine step_append_lies _ rfl (.tmp 66) (.tmp 86) 113 rfl (H + 1) 5 i0 (.int .u8 0) 1 1 Tryz.underlying113 hi hz0 hz1 hz2 rfl (by decide) u10 (4 * k) _ rfl (World.ownsRow.alloc HO.out _) ⟨wr.heap.size, 0, none⟩ 4 4 [.int .u8 (IntKind.u8.wrap ((x : Int) / 16777216)), .int .u8 (IntKind.u8.wrap ((x : Int) / 65536)), .int .u8 (IntKind.u8.wrap ((x : Int) / 256)), .int .u8 (IntKind.u8.wrap (x : Int))] rfl rfl (news4 wr _ _ _ _) (one4 _ _ _ _ _) (by decide) (by unfold maxLen; omega) (by omega) (by show H + 1 ≤ (wr.alloc _).heap.size; simp; omega) _ rfl ?_; intro g4 cap4 w6 hown4 hgrow4 hat4 hlt4))
         have hb6 : Below H w3 w6 := ((hbr.alloc (by omega) _).drew).grown hgrow4 (by show H ≤ (wr.alloc _).heap.size; simp; omega) (fun kk hkk => by have := (HO.out.lt kk hkk).1; omega)
         have q6' : Row w6 H (numV f.list) 117 := by
          unfold Row
          rw [hgrow4.block H (by show H < (wr.alloc _).heap.size; simp; omega) hneH]
          exact (Row.alloc Q6.out _).drew
         have hown5 : w6.ownsRow (H + 1) 5 1 (.slice (some ⟨g4, 0, none⟩) (4 * k + 4) cap4) (4 * (k + 1)) (Lib.byteCells (f.bytes.take (4 * (k + 1)))) := by
          rw [wbytes_cells, ← Lib.byteCells_append, HX.out, ← bytes_take f k hlt8] at hown4
          exact hown4
         have Q6' := Lib.hid q6'; have HO5 := Lib.hid hown5
         clear hown4 hgrow4 hat4 q6' hown5 cx
         go_wp2_with fail
         refine ⟨⟨k + 1, by omega, by go_num, HO5.out, Q6'.out, hb6⟩, ?_⟩
         simp only [intOf]; omega
        ·have hk8 : k = 8 := by omega
         have hbk8 : decide ((k : Int) < 8) = false := by rw [hk8]; rfl
         rw [hk8] at hown
         obtain ⟨g5, cap5, rfl⟩ := ownsRow_slice' (n := 31) hown
         have hfb : f.bytes.take (4 * 8) = f.bytes := List.take_of_length_le (by rw [bytes_len]; decide)
         rw [hfb] at hown
         have hcv := run_convert_bytes_back (P := Tryz.prog) wr 113 9 5 ⟨g5, 0, none⟩ cap5 f.bytes Tryz.underlying113 Tryz.underlying5 Tryz.underlying9
          (fun j hj => hown.cells (g := g5) rfl j _ (by simp [Lib.byteCells, hj]))
         rw [bytes_len] at hcv
         have HCV := Lib.hid hcv
         clear hown hfb hcv hk8 q6
         go_wp2_with (refine wpList_convert rfl _ _ _ rfl _ _ _ rfl HCV.out ?_)
         go_ret
         refine ⟨?_, hb4.trans (hbr.mono ?_)⟩
         ·rw [← HL.out]; unfold shaSum; rw [← HFIN.out]; rfl
         ·omega
  ·have hm : ((m : Int) % 64 != 56) = true := bne_iff_ne.2 (fun e => hjz (HQ.out.1 (by omega)))
   go_wp2_with (at_builtin; refine wpList_append_ownE rfl (.tmp 24) (.tmp 25) 113 rfl w.heap.size 5 i0 (.int .u8 0) Tryz.underlying113 hi hz0 hz1 hz2 rfl _ _ _ rfl (ownsE.step HO.out ((Below.refl _ _).alloc (Nat.le_refl _) _)) ⟨wr.heap.size, 0, none⟩ 1 1 [.int .u8 0] rfl rfl (news_one wr _) (one_cell _ _) (by omega) ?c5 ?_)
   case c5 => have := hb.size; simp; omega
   intro v2 w2 ho2 hg2
   have hb2 : Below w.heap.size w w2 := ownsE.below (ownsE.step HO.out ((Below.refl _ _).alloc (Nat.le_refl _) _)) (hb.alloc hb.size _) (by have := hb.size; simp; omega) hg2
   have ho2' : ownsE w2 w.heap.size 5 v2 (padL l (j + 1)).length (Lib.byteCells (padL l (j + 1))) := by
    have e : Lib.byteCells (padL l j) ++ [Value.int .u8 0] = Lib.byteCells (padL l (j + 1)) := by rw [padL_succ]; simp [Lib.byteCells]
    rw [e] at ho2
    rw [padL_len, ← Nat.add_assoc, ← HLEN.out, ← HME.out]; exact ho2
   obtain ⟨g2, cap2, rfl, _, _, _, _⟩ := ho2'.cells
   have HO2 := Lib.hid ho2'
   have hl2 : (padL l (j + 1)).length = m + 1 := by rw [padL_len, ← Nat.add_assoc, ← HLEN.out, ← HME.out]
   rw [hl2] at HO2 ⊢
   have HL2 := Lib.hid hl2
   clear ho2 ho2' hg2 hl2
   go_wp2_with fail
   refine ⟨⟨j + 1, by omega, ?_, hb2⟩, ?_⟩
   ·rw [HL2.out]; exact HO2.out
   ·show s.size + 1 + 64 - (m + 1) < s.size + 1 + 64 - m
    omega
end Go.Proofs.YtjpjpmkadoaipaaGreatDoor
set_option linter.unusedVariables false
namespace Go.Proofs.YtjpjpmkadoaipaaGreatDoor
open Go.RowKit
attribute [local go_sem] Oper.semAt_some
set_option maxRecDepth 100000 in
set_option maxHeartbeats 1000000 in
theorem rKey_any (n : Nd) (pv ev : Value) (w : World) (hp : IsParts w pv n.ps) (he : IsEntries w ev n.es) :
  Calls Tryz.prog 67 #[ndV n pv ev] w fun e w' => e = .returned (.string ⟨(keyN n).toArray⟩) ∧ Below w.heap.size w w' := by
 have HP := Lib.hid hp; have HE := Lib.hid he
 obtain ⟨_, a1, cap1, hv1, _, _⟩ := hp
 obtain ⟨_, a2, cap2, hv2, _, _⟩ := he
 subst hv1 hv2
 have hb0 := (Below.refl w.heap.size w).alloc (Nat.le_refl _) (.cells #[.int .i64 n.kd, .string n.d, .slice a1 n.ps.length cap1, .slice a2 n.es.length cap2] 71)
 have FA := Lib.hid (rFit_any n _ _ _ (HP.out.stays hb0) (HE.out.stays hb0))
 have HX := Lib.hid (ndBox_new w n (.slice a1 n.ps.length cap1) (.slice a2 n.es.length cap2) 71)
 rcases hf : fitN n with _ | _
 ·rw [hf] at FA
  have HK := Lib.hid (keyN_un hf)
  clear hf
  go_enter Tryz.func67, Tryz.ntmps67
  go_wp2_with fail
  with_reducible refine FA.out.mono ?_
  rintro e w1 ⟨rfl, hb1⟩
  go_wp2
  go_ret
  exact ⟨by rw [HK.out]; rfl, below_step hb0 hb1⟩
 ·rw [hf] at FA
  have hl := wrL_len hf
  obtain ⟨Y, hY1, hY2⟩ := ex_str (wrL n)
  have WA := Lib.hid (fun w h1 h2 => rWriteF_any n (.slice a1 n.ps.length cap1) (.slice a2 n.es.length cap2) w h1 h2 hf)
  rw [wrN_fit hf, ← hY1] at WA
  have SA := Lib.hid (fun w => refSum_any Y (by rw [Lib.size_eq, hY2]; omega) w)
  rw [hY2] at SA
  have HK := Lib.hid (keyN_fit hf)
  clear hf hY1 hY2 hl
  go_enter Tryz.func67, Tryz.ntmps67
  go_wp2_with fail
  with_reducible refine FA.out.mono ?_
  rintro e w1 ⟨rfl, hb1⟩
  have HB1 := Lib.hid (below_step hb0 hb1)
  obtain ⟨x0, x1, x2, x3⟩ := (HX.out.stays hb1).cells
  clear hb0 hb1
  go_wp2_with fail
  refine (WA.out _ (HP.out.stays HB1.out) (HE.out.stays HB1.out)).mono ?_
  rintro e w2 ⟨rfl, hb2⟩
  have HB2 := Lib.hid (below_step HB1.out hb2)
  clear hb2 x0 x1 x2 x3
  go_wp2_with fail
  with_reducible refine (SA.out _).mono ?_
  rintro e w3 ⟨rfl, hb3⟩
  go_wp2
  go_ret
  exact ⟨by rw [HK.out]; rfl, below_step HB2.out hb3⟩
def AddOn (L : List Ob) (x : Ob) (k : Nat) (d : Bool) (out : List Ob) : Prop := out.length = k + (if d then 1 else 0) ∧ out ++ (if d then L.drop k else insO (L.drop k) x) = insO L x
theorem addOn_zero (L : List Ob) (x : Ob) : AddOn L x 0 false [] := ⟨by simp, by simp⟩
theorem addOn_len {L : List Ob} {x : Ob} {k : Nat} {d : Bool} {out : List Ob} (h : AddOn L x k d out) : out.length ≤ k + 1 := by have := h.1; split at this <;> omega
theorem addOn_done {L : List Ob} {x : Ob} {k : Nat} {out : List Ob} (h : AddOn L x k true out) (hk : k < L.length) : AddOn L x (k + 1) true (out ++ [L[k]]) :=
 ⟨by have := h.1; simp at this ⊢; omega, by have := h.2; rw [if_pos rfl, List.drop_eq_getElem_cons hk] at this; rw [if_pos rfl, ← this]; simp⟩
theorem addOn_here {L : List Ob} {x : Ob} {k : Nat} {out : List Ob} (h : AddOn L x k false out) (hk : k < L.length) (hx : x.t < L[k].t) : AddOn L x (k + 1) true ((out ++ [x]) ++ [L[k]]) :=
 ⟨by have := h.1; simp at this ⊢; omega, by
  have := h.2
  rw [if_neg (by decide), List.drop_eq_getElem_cons hk, insO_cons, if_pos hx] at this
  rw [if_pos rfl, ← this]; simp⟩
theorem addOn_past {L : List Ob} {x : Ob} {k : Nat} {out : List Ob} (h : AddOn L x k false out) (hk : k < L.length) (hx : ¬ x.t < L[k].t) : AddOn L x (k + 1) false (out ++ [L[k]]) :=
 ⟨by have := h.1; simp at this ⊢; omega, by
  have := h.2
  rw [if_neg (by decide), List.drop_eq_getElem_cons hk, insO_cons, if_neg hx] at this
  rw [if_neg (by decide), ← this]; simp⟩
theorem addOn_end {L : List Ob} {x : Ob} {k : Nat} {d : Bool} {out : List Ob} (h : AddOn L x k d out) (hk : L.length ≤ k) : out ++ (if d then [] else [x]) = insO L x := by
 have := h.2
 rw [List.drop_of_length_le hk] at this
 cases d
 ·exact this
 ·exact this
theorem wpList_append_ob {ops : Array Oper} {rest : List Oper} {o : Oper} {a : Act} {W w0 : World} {z : Nat} {Q : Exit → Act → World → Prop} (hgd : o.guard = none) (s x : Operand)
  (ho : o.op = .call { callee := .builtin .append, args := #[s, x], argTypes := #[27, 27] })
  {v : Value} {M : List Ob} {y : Ob} (hown : OwnO W.heap.size w0 v M) (hb : Below W.heap.size W w0) (hz : z = w0.heap.size) (hs : a.eval s = v)
  (hx : a.eval x = .slice (some ⟨z, 0, none⟩) 1 1) (hlen : M.length ≤ 1000000)
  (h : ∀ v' w', OwnO W.heap.size w' v' (M ++ [y]) → Below W.heap.size W w' → wpList Tryz.prog ops Q rest (a.put o.dst v') w') :
  wpList Tryz.prog ops Q (o :: rest) a (w0.alloc (.cells #[.string y.k, .string y.r] 43)) := by
 subst hz
 refine wpList_append_obs hgd s x ho hown hb.size hs hx hlen ?_
 intro v' w' h1 h2
 exact h v' w' h1 (hb.grown h2 hb.size (fun j hj => (hown.lt j hj).1))
set_option maxRecDepth 100000 in
set_option maxHeartbeats 8000000 in
theorem rAdd_any (v : Value) (L : List Ob) (x : Ob) (w : World) (h : IsObs w v L) (hL : L.length ≤ 900000) :
  Calls Tryz.prog 17 #[v, obV x] w fun e w' => ∃ v', e = .returned v' ∧ IsObs w' v' (addO L x) ∧ Below w.heap.size w w' ∧ (v' = v ∧ addO L x = L ∨ OwnO w.heap.size w' v' (addO L x)) := by
 obtain ⟨V, hV⟩ : ∃ V, V = w.alloc (.cells #[.string x.k, .string x.r] 43) := ⟨_, rfl⟩
 have hbV : Below w.heap.size w V := by rw [hV]; exact (Below.refl _ _).alloc (Nat.le_refl _) _
 have HX : Hid (ObBox V w.heap.size x) := Lib.hid (by rw [hV]; exact obBox_new w x _)
 have HI := Lib.hid (h.stays hbV)
 have HV := Lib.hid hV; have HB0 := Lib.hid hbV
 have G := Lib.hid (rGet_any v L x.k V HI.out)
 obtain ⟨_, a, cap, rfl, _, _⟩ := h
 clear hV hbV
 obtain ⟨d0, d1⟩ := HX.out.cells
 by_cases hin : (getO L x.t).isSome = true ∨ x.t.length ≠ 32
 ·have HR := Lib.hid (addO_there hin)
  rcases hg : (getO L x.t).isSome with _ | _
  ·have h32 : (((x.k.size : Nat) : Int) != 32) = true := by
    have := hin.resolve_left (by rw [hg]; decide)
    rw [Ob.t, ← Lib.size_eq] at this
    simp; omega
   rw [show getO L x.k.data.toList = getO L x.t from rfl, hg] at G
   clear hg hin
   go_enter Tryz.func17, Tryz.ntmps17
   go_wp2_with fail
   rw [← HV.out]
   go_wp2_with fail
   with_reducible refine G.out.mono ?_
   rintro e w1 ⟨rfl, hb⟩
   obtain ⟨e0, e1⟩ := (HX.out.stays hb).cells
   clear d0 d1
   go_wp2
   go_ret
   exact ⟨.slice a L.length cap, rfl, by rw [HR.out]; exact HI.out.stays hb, below_step HB0.out hb, .inl ⟨rfl, HR.out⟩⟩
  ·rw [show getO L x.k.data.toList = getO L x.t from rfl, hg] at G
   clear hg hin
   go_enter Tryz.func17, Tryz.ntmps17
   go_wp2_with fail
   rw [← HV.out]
   go_wp2_with fail
   with_reducible refine G.out.mono ?_
   rintro e w1 ⟨rfl, hb⟩
   clear d0 d1
   go_wp2
   go_ret
   exact ⟨.slice a L.length cap, rfl, by rw [HR.out]; exact HI.out.stays hb, below_step HB0.out hb, .inl ⟨rfl, HR.out⟩⟩
 ·have HR : Hid (addO L x = insO L x) := Lib.hid (if_neg hin)
  rw [not_or] at hin
  have h32 : (((x.k.size : Nat) : Int) != 32) = false := by
   have := Decidable.not_not.1 hin.2
   rw [Ob.t, ← Lib.size_eq] at this
   rw [this]; rfl
  rw [show (getO L x.k.data.toList).isSome = false by simpa [Ob.t] using hin.1] at G
  clear hin
  go_enter Tryz.func17, Tryz.ntmps17
  go_wp2_with fail
  rw [← HV.out]
  go_wp2_with fail
  with_reducible refine G.out.mono ?_
  rintro e w1 ⟨rfl, hb⟩
  have HX1 := Lib.hid (HX.out.stays hb)
  have HI1 := Lib.hid (HI.out.stays hb)
  have HB1 := Lib.hid (below_step HB0.out hb)
  clear d0 d1 hb HX HI HB0 HV
  obtain ⟨d0, d1⟩ := HX1.out.cells
  go_wp2
  obtain ⟨B, hB⟩ : ∃ B, B = w.heap.size := ⟨_, rfl⟩
  rw [← hB] at HX1 d0 d1 ⊢
  have HBE := Lib.hid hB; clear hB
  go_loopw [7, 8, 9] (fun o d i wr => ∃ (k : Nat) (db : Bool) (out : List Ob), k ≤ L.length ∧ i = .int .i64 k ∧ d = .bool db ∧ AddOn L x k db out ∧ OwnO w1.heap.size wr o out ∧ Below w1.heap.size w1 wr) (fun _ _ i _ => L.length - (intOf i).toNat)
  case atStart => exact ⟨0, false, [], Nat.zero_le _, rfl, rfl, addOn_zero _ _, obs_own_nil _ _, Below.refl _ _⟩
  case round =>
   clear d0 d1
   obtain ⟨k, db, out, hk, rfl, rfl, hA, hO, hB⟩ := hrel
   have hlen := addOn_len hA
   have hol : out.length ≤ 1000000 := by omega
   have HA := Lib.hid hA; have HO := Lib.hid hO
   have HX2 := Lib.hid (HX1.out.stays hB)
   obtain ⟨d0, d1⟩ := HX2.out.cells
   clear hA hO hlen
   by_cases hlt : k < L.length
   ·obtain ⟨_, _, _, e, _, hc⟩ := HI1.out
    cases e
    obtain ⟨b, off, rfl, hbl, g⟩ := hc (by omega)
    obtain ⟨c0, c1⟩ := (g k hlt).stays hbl hB
    have HG := Lib.hid (g k hlt)
    clear g hc
    have hbk : decide ((k : Int) < (L.length : Int)) = true := by simpa using (show (k : Int) < L.length by omega)
    cases db with
    | true =>
     have HS := Lib.hid (addOn_done HA.out hlt)
     obtain ⟨y, hy⟩ : ∃ y, y = L[k] := ⟨_, rfl⟩
     rw [← hy] at c0 c1 HG HS
     clear hy
     go_wp2_with fail
     go_quiet (fail)
     have hbq : Below wr.heap.size wr (wr.drewN nq) := below_drewN (Below.refl _ _) _
     have HO2 := Lib.hid (HO.out.stays hbq)
     have hB2 := below_step hB hbq
     obtain ⟨e0, e1⟩ := HG.out.stays hbl hB2
     clear c0 c1 d0 d1 hB
     generalize wr.drewN nq = wq at HO2 hB2 e0 e1 hbq ⊢
     go_wp2_with (at_builtin; refine wpList_append_ob rfl _ _ rfl HO2.out hB2 rfl rfl rfl hol ?_)
     intro v' w2 hown' hb2
     have HO3 := Lib.hid hown'; clear hown'
     go_wp2
     go_roundw
     case rel => exact ⟨k + 1, true, _, by omega, by go_num, rfl, HS.out, HO3.out, hb2⟩
     case measure => simp [intOf]; omega
    | false =>
     by_cases hlx : x.t < L[k].t
     ·have HS := Lib.hid (addOn_here HA.out hlt hlx)
      obtain ⟨y, hy⟩ : ∃ y, y = L[k] := ⟨_, rfl⟩
      rw [← hy] at c0 c1 HG HS hlx
      clear hy
      have l1 : Op.bytesLess y.k.toList x.k.toList = false := by rw [less_eq]; exact decide_eq_false (t_asymm hlx)
      have l2 : (y.k.toList == x.k.toList) = false := beq_false (fun e => t_irrefl _ (show x.t < x.t by
       have : y.t = x.t := by unfold Ob.t; rw [e]
       rw [this] at hlx; exact hlx))
      clear hlx
      have hol2 : (out ++ [x]).length ≤ 1000000 := by have := HA.out.1; simp at this; rw [List.length_append, List.length_singleton]; omega
      go_wp2_with fail
      go_quiet (fail)
      have hbq : Below wr.heap.size wr (wr.drewN nq) := below_drewN (Below.refl _ _) _
      have HO2 := Lib.hid (HO.out.stays hbq)
      have hB2 := below_step hB hbq
      clear c0 c1 d0 d1 hB
      generalize wr.drewN nq = wq at HO2 hB2 hbq ⊢
      obtain ⟨d0, d1⟩ := (HX1.out.stays hB2).cells
      go_wp2_with (at_builtin; refine wpList_append_ob rfl _ _ rfl HO2.out hB2 rfl rfl rfl hol ?_)
      intro v1 w2 hown1 hb1
      have HO3 := Lib.hid hown1; clear hown1
      clear d0 d1
      obtain ⟨e0, e1⟩ := HG.out.stays hbl hb1
      go_wp2_with (at_builtin; refine wpList_append_ob rfl _ _ rfl HO3.out hb1 rfl rfl rfl hol2 ?_)
      intro v' w3 hown' hb2
      have HO4 := Lib.hid hown'; clear hown'
      go_wp2
      go_roundw
      case rel => exact ⟨k + 1, true, _, by omega, by go_num, rfl, HS.out, by simpa using HO4.out, hb2⟩
      case measure => simp [intOf]; omega
     ·have HS := Lib.hid (addOn_past HA.out hlt hlx)
      obtain ⟨y, hy⟩ : ∃ y, y = L[k] := ⟨_, rfl⟩
      rw [← hy] at c0 c1 HG HS hlx
      clear hy
      have l0 : (Op.bytesLess y.k.toList x.k.toList || (y.k.toList == x.k.toList)) = true := by
       rw [less_eq]
       by_cases e : y.k = x.k
       ·rw [beq_true e, Bool.or_true]
       ·rw [decide_eq_true (Classical.byContradiction fun c => e (str_eq' (t_tri _ _ c hlx))), Bool.true_or]
      clear hlx
      go_wp2_with fail
      go_quiet (fail)
      have hbq : Below wr.heap.size wr (wr.drewN nq) := below_drewN (Below.refl _ _) _
      have HO2 := Lib.hid (HO.out.stays hbq)
      have hB2 := below_step hB hbq
      obtain ⟨e0, e1⟩ := HG.out.stays hbl hB2
      clear c0 c1 d0 d1 hB
      generalize wr.drewN nq = wq at HO2 hB2 e0 e1 hbq ⊢
      go_wp2_with (at_builtin; refine wpList_append_ob rfl _ _ rfl HO2.out hB2 rfl rfl rfl hol ?_)
      intro v' w2 hown' hb2
      have HO3 := Lib.hid hown'; clear hown'
      go_wp2
      go_roundw
      case rel => exact ⟨k + 1, false, _, by omega, by go_num, rfl, HS.out, HO3.out, hb2⟩
      case measure => simp [intOf]; omega
   ·have HE := Lib.hid (addOn_end HA.out (by omega))
    have hge : decide ((k : Int) < (L.length : Int)) = false := by simp; omega
    cases db with
    | true =>
     go_wp2
     go_ret
     exact ⟨u7, rfl, by have h := HO.out.is; rw [HR.out, ← HE.out]; simpa using h, below_step HB1.out (hB.mono (Nat.le_refl _)), .inr (by have h := HO.out.low HB1.out.size; rw [HR.out, ← HE.out]; simpa [HBE.out] using h)⟩
    | false =>
     go_wp2_with (at_builtin; refine wpList_append_ob rfl _ _ rfl HO.out hB rfl rfl rfl hol ?_)
     intro v' w2 hown' hb2
     have HO3 := Lib.hid hown'; clear hown'
     go_wp2
     go_ret
     exact ⟨v', rfl, by have h := HO3.out.is; rw [HR.out, ← HE.out]; simpa using h, below_step HB1.out hb2, .inr (by have h := HO3.out.low HB1.out.size; rw [HR.out, ← HE.out]; simpa using h)⟩
def RetOK (v : Value) (L L' : List Ob) (k : List UInt8) (w : World) (e : Ending) (w' : World) : Prop := ∃ v', e = .returned (.tuple #[v', .string ⟨k.toArray⟩]) ∧ IsObs w' v' L' ∧ Below w.heap.size w w' ∧ (v' = v ∧ L' = L ∨ OwnO w.heap.size w' v' L')
set_option maxRecDepth 100000 in
set_option maxHeartbeats 4000000 in
theorem rPut_any (v : Value) (L : List Ob) (n : Nd) (pv ev : Value) (w : World) (h : IsObs w v L) (hL : L.length ≤ 900000) (hp : IsParts w pv n.ps) (he : IsEntries w ev n.es) :
  Calls Tryz.prog 50 #[v, ndV n pv ev] w (RetOK v L (putN L n) (keyN n) w) := by
 obtain ⟨V, hV⟩ : ∃ V, V = w.alloc (.cells #[.int .i64 n.kd, .string n.d, pv, ev] 71) := ⟨_, rfl⟩
 have hbV : Below w.heap.size w V := by rw [hV]; exact (Below.refl _ _).alloc (Nat.le_refl _) _
 have HX : Hid (NdBox V w.heap.size n pv ev) := Lib.hid (by rw [hV]; exact ndBox_new w n _ _ _)
 have HI := Lib.hid (h.stays hbV); have HP := Lib.hid (hp.stays hbV); have HE := Lib.hid (he.stays hbV)
 obtain ⟨_, a0, cap0, rfl, _, _⟩ := h
 obtain ⟨_, a1, cap1, rfl, _, _⟩ := hp
 obtain ⟨_, a2, cap2, rfl, _, _⟩ := he
 obtain ⟨z1, hz1⟩ : ∃ z, z = n.ps.length := ⟨_, rfl⟩
 obtain ⟨z2, hz2⟩ : ∃ z, z = n.es.length := ⟨_, rfl⟩
 obtain ⟨z0, hz0⟩ : ∃ z, z = L.length := ⟨_, rfl⟩
 rw [← hz1] at HX HP hV ⊢; rw [← hz2] at HX HE hV ⊢; rw [← hz0] at HI hL ⊢
 have HZ := Lib.hid hz0
 clear hz0 hz1 hz2
 have HV := Lib.hid hV; have HB0 := Lib.hid hbV
 obtain ⟨K, hK⟩ : ∃ K : ByteArray, K = ⟨(keyN n).toArray⟩ := ⟨_, rfl⟩
 obtain ⟨S, hS⟩ : ∃ S : ByteArray, S = ⟨(wrN n).toArray⟩ := ⟨_, rfl⟩
 have CK := Lib.hid (rKey_any n (.slice a1 z1 cap1) (.slice a2 z2 cap2) V HP.out HE.out)
 rw [← hK] at CK
 have CW := Lib.hid (fun W (hb : Below V.heap.size V W) => rWrite_any n (.slice a1 z1 cap1) (.slice a2 z2 cap2) W (HP.out.stays hb) (HE.out.stays hb))
 rw [← hS] at CW
 have HO : Hid ((⟨K, S⟩ : Ob) = obN n) := Lib.hid (by rw [hK, hS]; rfl)
 have HK := Lib.hid hK
 clear hV hbV hK hS HP HE
 obtain ⟨d0, d1, d2, d3⟩ := HX.out.cells
 go_enter Tryz.func50, Tryz.ntmps50
 go_wp2_with fail
 rw [← HV.out]
 go_wp2_with fail
 with_reducible refine CK.out.mono ?_
 rintro e w1 ⟨rfl, hb1⟩
 have HX1 := Lib.hid (HX.out.stays hb1)
 clear d0 d1 d2 d3
 obtain ⟨d0, d1, d2, d3⟩ := HX1.out.cells
 go_wp2_with fail
 with_reducible refine (CW.out _ hb1).mono ?_
 rintro e w2 ⟨rfl, hb2⟩
 have hb3 := below_step hb1 hb2
 have CA := Lib.hid (rAdd_any (.slice a0 z0 cap0) L ⟨K, S⟩ w2 (HI.out.stays hb3) (by rw [← HZ.out]; exact hL))
 have HB3 := Lib.hid (below_step HB0.out hb3)
 clear d0 d1 d2 d3 hb1 hb2 hb3
 go_wp2_with fail
 with_reducible refine CA.out.mono ?_
 rintro e w4 ⟨v4, rfl, hs4, hb4, hv4⟩
 have HS4 := Lib.hid hs4; have HV4 := Lib.hid hv4
 obtain ⟨_, a4, cap4, rfl, _, _⟩ := hs4
 have HB4 := Lib.hid (below_step HB3.out hb4)
 have hv5 := HV4.out.imp id fun h => h.low HB3.out.size
 have HV5 := Lib.hid hv5
 clear hb4 hv4 hv5
 go_wp2
 exact bodyPost_ret (v := .tuple #[.slice a4 (addO L ⟨K, S⟩).length cap4, .string K]) (by simp [results, Tryz.results50, go_sem]) rfl ⟨_, by rw [← HK.out], by unfold putN; rw [← HO.out]; exact HS4.out, HB4.out, by unfold putN; rw [← HO.out]; exact HV5.out⟩
theorem row_grownE {w w' : World} {base B : Nat} {v : Value} {M : List En} {xs : Array Value} {T : TypeId} (h : Row w B xs T) (ho : OwnE base w v M) (hg : w.grownBy w' v.ownBlock) (hlt : B < base) : Row w' B xs T := by
 unfold Row; rw [hg.block B h.lt (fun e => by have := (ho.lt B e.symm).1; omega)]; exact h
theorem OwnP.setNe {B b i : Nat} {w : World} {v : Value} {L : List Pt} (h : OwnP B w v L) (ha : ∀ g, v.ownBlock = some g → g < b) (u : Value) : OwnP B (w.setCell ⟨b, i, none⟩ u) v L :=
 World.ownsRow.kept h (grownBy_set w b i u) (by
  cases hv : v.ownBlock with
  | none => exact .inl rfl
  | some k =>
   refine .inr fun e => ?_
   have := ha k hv
   cases e; omega)
theorem OwnE.setNe {B b i : Nat} {w : World} {v : Value} {L : List En} (h : OwnE B w v L) (ha : ∀ g, v.ownBlock = some g → g < b) (u : Value) : OwnE B (w.setCell ⟨b, i, none⟩ u) v L :=
 World.ownsRow.kept h (grownBy_set w b i u) (by
  cases hv : v.ownBlock with
  | none => exact .inl rfl
  | some k =>
   refine .inr fun e => ?_
   have := ha k hv
   cases e; omega)
theorem wpList_append_entries2 {ops : Array Oper} {rest : List Oper} {o : Oper} {a : Act} {B z : Nat} {w0 : World} {Q : Exit → Act → World → Prop} (hgd : o.guard = none) (s x : Operand)
  (ho : o.op = .call { callee := .builtin .append, args := #[s, x], argTypes := #[69, 69] })
  {v : Value} {M : List En} {y : En} (hown : OwnE B w0 v M) (hBs : B ≤ w0.heap.size) (hz : z = w0.heap.size) (hs : a.eval s = v)
  (hx : a.eval x = .slice (some ⟨z, 0, none⟩) 1 1) (hlen : M.length ≤ 1000000)
  (h : ∀ v' w', OwnE B w' v' (M ++ [y]) → w0.grownBy w' v.ownBlock → wpList Tryz.prog ops Q rest (a.put o.dst v') w') :
  wpList Tryz.prog ops Q (o :: rest) a (w0.alloc (.cells #[.string y.m, .int .i64 y.kd, .bool y.x, .string y.k] 89)) := by
 subst hz
 exact wpList_append_entries hgd s x ho hown hBs hs hx hlen h
structure HeldM (W0 : World) (n : Nat) (w : World) : Prop where
 below : Below W0.heap.size W0 w
 size : n ≤ w.heap.size
theorem HeldM.on {W0 w w' : World} {n : Nat} (h : HeldM W0 n w) (hb : Below w.heap.size w w') : HeldM W0 n w' := ⟨below_step h.below hb, Nat.le_trans h.size hb.size⟩
def OnePt (w : World) (v : Value) (x : Pt) : Prop := ∃ A, v = .slice (some ⟨A, 0, none⟩) 1 1 ∧ w.heap[A]? = some (.cells #[.string x.k, .int .i64 x.n] 109 (0, 0))
theorem OnePt.stays {w w' : World} {v : Value} {x : Pt} (h : OnePt w v x) (hb : Below w.heap.size w w') : OnePt w' v x := by
 obtain ⟨A, h1, h2⟩ := h
 exact ⟨A, h1, (hb.block A (Array.getElem?_eq_some_iff.1 h2).1).trans h2⟩
theorem onePt_new (w : World) (x : Pt) : OnePt (w.alloc (.cells #[.string x.k, .int .i64 x.n] 109)) (.slice (some ⟨w.heap.size, 0, none⟩) 1 1) x := ⟨_, rfl, heap_alloc_new w _⟩
theorem wp_build_part {o : Oper} {a : Act} {K : Act → World → Prop} {Q : Exit → Act → World → Prop} {w : World} (p : Nat) (ho : o.op = .buildSlice 68 1 #[(0, .tmp p)]) {x : Pt}
  (hx : slot a p = .agg #[.string x.k, .int .i64 x.n]) (hk : K (a.put o.dst (.slice (some ⟨w.heap.size, 0, none⟩) 1 1)) (w.alloc (.cells #[.string x.k, .int .i64 x.n] 109))) : o.wp Tryz.prog a w K Q := by
 refine wp_value (v := .slice (some ⟨w.heap.size, 0, none⟩) 1 1) (w' := w.alloc (.cells #[.string x.k, .int .i64 x.n] 109)) ?_ hk
 have f := slot_at hx
 unfold execOp
 rw [ho]
 go_simp
theorem wp_append_one_part {o : Oper} {a : Act} {B : Nat} {w : World} {K : Act → World → Prop} {Q : Exit → Act → World → Prop} (s x : Nat)
  (ho : o.op = .call { callee := .builtin .append, args := #[.tmp s, .tmp x], argTypes := #[68, 68] })
  {v : Value} {M : List Pt} {y : Pt} (hown : OwnP B w v M) (hBs : B ≤ w.heap.size) (hs : a.eval (.tmp s) = v) (hx : OnePt w (slot a x) y) (hlen : M.length ≤ 1000000)
  (h : ∀ v' w', OwnP B w' v' (M ++ [y]) → w.grownBy w' v.ownBlock → K (a.put o.dst v') w') : o.wp Tryz.prog a w K Q := by
 obtain ⟨i0, hi, hz0, hz1, hz2⟩ := info_parts infoPart
 obtain ⟨A, hx1, hx2⟩ := hx
 have hr : Row w A #[.string y.k, .int .i64 y.n] 109 := hx2
 refine wp_append_own w (.tmp s) (.tmp x) 68 ho B 109 i0 (ptV zeroPt) 2 24 Tryz.underlying68 hi hz0 hz1 hz2 rfl (by decide) v M.length (ptCells M) hs hown ⟨A, 0, none⟩ 1 1 (ptC y) (slotE hx1) rfl ?_ ?_ ?_ ?_ hBs ?_
 ·intro j u hj
  have := hr.cell j
  rw [add_plain', Nat.zero_add, this]
  simpa using hj
 ·intro u hu; simp at hu; rcases hu with rfl | rfl <;> rfl
 ·unfold maxLen; omega
 ·omega
 ·intro v' w' hown' hg _
  refine h v' w' ?_ hg
  unfold OwnP
  rw [List.length_append, ptCells_app]
  have : ptCells [y] = ptC y := List.append_nil _
  rw [this]; exact hown'
def flR (W0 : World) (bn : Nat) (vp : Value) (i : Nat) (w w' : World) : Prop :=
 if i = 10 then w.grownBy w' vp.ownBlock ∧ ∀ g, vp.ownBlock = some g → W0.heap.size ≤ g ∧ ∃ xs, Row w g xs 109
 else ∃ u a n c, Row w bn #[.int .i64 2, .string ⟨#[]⟩, .slice a n c, .slice none 0 0] 71 ∧ W0.heap.size ≤ bn ∧ w' = w.setCell ⟨bn, 2, none⟩ u
theorem flR_app {W0 : World} {bn : Nat} {vp : Value} {w w' : World} (h : flR W0 bn vp 10 w w') : w.grownBy w' vp.ownBlock := by unfold flR at h; rw [if_pos rfl] at h; exact h.1
theorem flR_app' {W0 w1 : World} {bn : Nat} {vp : Value} {Lp : List Pt} {w w' : World} (h : w.grownBy w' vp.ownBlock) (ho : OwnP w1.heap.size w vp Lp) (hb : bn < w1.heap.size ∧ W0.heap.size ≤ bn) : flR W0 bn vp 10 w w' := by
 unfold flR; rw [if_pos rfl]
 exact ⟨h, fun g hg => ⟨by have := (World.ownsRow.lt ho g hg).1; omega, ho.row hg⟩⟩
theorem flR_set {W0 : World} {bn : Nat} {vp : Value} {w w' : World} (h : flR W0 bn vp 12 w w') : ∃ u a n c, Row w bn #[.int .i64 2, .string ⟨#[]⟩, .slice a n c, .slice none 0 0] 71 ∧ W0.heap.size ≤ bn ∧ w' = w.setCell ⟨bn, 2, none⟩ u := by unfold flR at h; rwa [if_neg (by decide)] at h
theorem flR_set' {W0 : World} {bn : Nat} {vp : Value} {w : World} (hr : Row w bn #[.int .i64 2, .string ⟨#[]⟩, vp, .slice none 0 0] 71) (hv : ∃ a n c, vp = .slice a n c) (hb : W0.heap.size ≤ bn) (u : Value) : flR W0 bn vp 12 w (w.setCell ⟨bn, 2, none⟩ u) := by
 obtain ⟨a, n, c, rfl⟩ := hv
 unfold flR; rw [if_neg (by decide)]; exact ⟨u, a, n, c, hr, hb, rfl⟩
theorem flR_own {W0 : World} {bn Bs : Nat} {vp v : Value} {w w' : World} {L : List Pt} (h : flR W0 bn vp 12 w w') (hU : OwnP Bs w v L) (hb : bn < Bs) : OwnP Bs w' v L := by
 obtain ⟨u, _, _, _, _, _, rfl⟩ := flR_set h
 exact hU.setBelow (a := ⟨bn, 2, none⟩) hb u
theorem flR_lt {W0 : World} {bn b : Nat} {vp : Value} {w w' : World} (h : flR W0 bn vp 12 w w') (hb : b < w.heap.size) : b < w'.heap.size := by
 obtain ⟨u, _, _, _, _, _, rfl⟩ := flR_set h
 simpa [World.setCell] using hb
def TxtC (w : World) (tb to : Nat) (Ps : List (List UInt8)) : Prop := ∀ i (h : i < Ps.length), w.cell? ⟨tb, to + i, none⟩ = some (.string ⟨Ps[i].toArray⟩)
theorem TxtC.stays {w w' : World} {tb to : Nat} {Ps : List (List UInt8)} (h : TxtC w tb to Ps) (hl : tb < w.heap.size) (hb : Below w.heap.size w w') : TxtC w' tb to Ps := fun i hi => (hb.cell (p := ⟨tb, to + i, none⟩) hl).trans (h i hi)
theorem TxtC.grown {w w' : World} {tb to : Nat} {Ps : List (List UInt8)} {row : Option Nat} (h : TxtC w tb to Ps) (hl : tb < w.heap.size) (hg : w.grownBy w' row) (hr : row ≠ some tb) : TxtC w' tb to Ps := fun i hi => by
 rw [World.cell?_of_block (hg.block tb hl (fun e => hr e.symm))]; exact h i hi
theorem TxtC.set {w : World} {tb to bn : Nat} {Ps : List (List UInt8)} (h : TxtC w tb to Ps) {a : Option Addr} {n c : Nat} (hc : w.cell? ⟨bn, 2, none⟩ = some (.slice a n c)) (u : Value) : TxtC (w.setCell ⟨bn, 2, none⟩ u) tb to Ps := fun i hi => by
 rw [World.cell?_setCell_other _ _ _ _ (fun e => by
  have := h i hi
  first
   | (rw [e, hc] at this; cases this)
   | (rw [← e, hc] at this; cases this))]
 exact h i hi
theorem flR_txt {W0 : World} {bn : Nat} {vp : Value} {w w' : World} {tb to : Nat} {Ps : List (List UInt8)} (h : flR W0 bn vp 12 w w') (hU : TxtC w tb to Ps) : TxtC w' tb to Ps := by
 obtain ⟨u, a, n, c, hr, _, rfl⟩ := flR_set h
 have hc := hr.cell 2
 simp only [List.getElem?_toArray, List.getElem?_cons_zero, List.getElem?_cons_succ] at hc
 exact hU.set hc u
theorem flR_any {W0 : World} {bn : Nat} {vp v0 v : Value} {w w' : World} {L0 L : List Ob} (h : flR W0 bn vp 10 w w') (hU : AnyO W0 v0 L0 w v L) : AnyO W0 v0 L0 w' v L := by
 unfold flR at h; rw [if_pos rfl] at h
 exact hU.turn h.1 fun g hg => ⟨(h.2 g hg).1, by obtain ⟨xs, hx⟩ := (h.2 g hg).2; exact ⟨xs, _, hx, by decide⟩⟩
theorem flR_any2 {W0 : World} {bn : Nat} {vp v0 v : Value} {w w' : World} {L0 L : List Ob} (h : flR W0 bn vp 12 w w') (hU : AnyO W0 v0 L0 w v L) : AnyO W0 v0 L0 w' v L := by
 obtain ⟨u, a, n, c, hr, hb, rfl⟩ := flR_set h
 exact hU.turn (grownBy_set w bn 2 u) fun g hg => by cases hg; exact ⟨hb, _, _, hr, by decide⟩
def dflU (W0 : World) (bn tb to tl tcap kc Bs : Nat) (vp lv v0 : Value) (Lp : List Pt) (LL L0 : List Ob) (Ps : List (List UInt8)) (kk t : ByteArray) : Nat → Value → Value → World → Prop
 | 0 => fun v _ _ => v = .pointer (some ⟨bn, 2, none⟩)
 | 1 => fun v _ _ => v = vp
 | 2 => fun v _ _ => v = .string kk
 | 3 => fun v _ _ => v = .slice (some ⟨tb, to, none⟩) tl tcap
 | 4 => fun v _ _ => v = .int .i64 kc
 | 5 => fun v _ _ => v = .pointer (some ⟨tb, to + kc, none⟩)
 | 6 => fun v _ _ => v = .string t
 | 7 => fun v _ _ => v = .int .i64 t.size
 | 8 => fun v _ _ => v = .agg #[.string kk, .int .i64 t.size]
 | 9 => fun v _ w => OnePt w v (⟨kk, (t.size : Int)⟩ : Pt)
 | 10 => fun v _ w => OwnP Bs w v (Lp ++ [(⟨kk, (t.size : Int)⟩ : Pt)]) ∧ bn < Bs
 | 11 => fun v _ _ => v = .pointer (some ⟨bn, 2, none⟩)
 | 12 => fun _ e w => Row w bn #[.int .i64 2, .string ⟨#[]⟩, e, .slice none 0 0] 71
 | 13 => fun _ _ w => Row w bn #[.int .i64 2, .string ⟨#[]⟩, vp, .slice none 0 0] 71 ∧ vp.ownBlock ≠ some bn
 | 14 => fun _ _ w => OwnP Bs w vp Lp
 | 15 => fun _ _ w => TxtC w tb to Ps ∧ tb < w.heap.size ∧ vp.ownBlock ≠ some tb
 | 16 => fun _ _ w => AnyO W0 v0 L0 w lv LL
 | _ => fun _ _ _ => True
def dflN : List (List Nat) := [[], [0, 13], [], [], [], [3, 4], [5, 15], [6], [2, 7], [8], [1, 9, 14], [], [11, 10, 13]]
def dflE : Nat → Option Tmp
 | 12 => some 42
 | _ => none
def dflB : List (Nat × Nat) := [(10, 9), (10, 12), (10, 14), (12, 9), (12, 13), (12, 14)]
theorem dfl_T (W0 : World) (bn tb to tl tcap kc Bs : Nat) (vp lv v0 : Value) (Lp : List Pt) (LL L0 : List Ob) (Ps : List (List UInt8)) (kk t : ByteArray) (ix kx : Nat) (v e : Value) (w w' : World) (hk : kx < 17) (hne : kx ≠ ix) (hbd : (ix, kx) ∉ dflB) (hU : (dflU W0 bn tb to tl tcap kc Bs vp lv v0 Lp LL L0 Ps kk t) kx v e w) (hT : (appTs [10, 12] (flR W0 bn vp)) ix w w') : (dflU W0 bn tb to tl tcap kc Bs vp lv v0 Lp LL L0 Ps kk t) kx v e w' := by
 by_cases hi10 : ix = 10
 ·subst hi10
  have hR := appTs_in (by decide) hT
  rcases (show kx = 0 ∨ kx = 1 ∨ kx = 2 ∨ kx = 3 ∨ kx = 4 ∨ kx = 5 ∨ kx = 6 ∨ kx = 7 ∨ kx = 8 ∨ kx = 9 ∨ kx = 10 ∨ kx = 11 ∨ kx = 12 ∨ kx = 13 ∨ kx = 14 ∨ kx = 15 ∨ kx = 16 by omega) with rfl | rfl | rfl | rfl | rfl | rfl | rfl | rfl | rfl | rfl | rfl | rfl | rfl | rfl | rfl | rfl | rfl
  iterate 9 exact hU
  ·exact absurd (by decide) hbd
  ·exact absurd rfl hne
  ·exact hU
  ·exact absurd (by decide) hbd
  ·exact ⟨((flR_app hR).block bn hU.1.lt (fun e => hU.2 e.symm)).trans hU.1, hU.2⟩
  ·exact absurd (by decide) hbd
  ·exact ⟨hU.1.grown hU.2.1 (flR_app hR) hU.2.2, Nat.lt_of_lt_of_le hU.2.1 (flR_app hR).size, hU.2.2⟩
  ·exact flR_any hR hU
 by_cases hi12 : ix = 12
 ·subst hi12
  have hR := appTs_in (by decide) hT
  rcases (show kx = 0 ∨ kx = 1 ∨ kx = 2 ∨ kx = 3 ∨ kx = 4 ∨ kx = 5 ∨ kx = 6 ∨ kx = 7 ∨ kx = 8 ∨ kx = 9 ∨ kx = 10 ∨ kx = 11 ∨ kx = 12 ∨ kx = 13 ∨ kx = 14 ∨ kx = 15 ∨ kx = 16 by omega) with rfl | rfl | rfl | rfl | rfl | rfl | rfl | rfl | rfl | rfl | rfl | rfl | rfl | rfl | rfl | rfl | rfl
  iterate 9 exact hU
  ·exact absurd (by decide) hbd
  ·exact ⟨flR_own hR hU.1 hU.2, hU.2⟩
  ·exact hU
  ·exact absurd rfl hne
  ·exact absurd (by decide) hbd
  ·exact absurd (by decide) hbd
  ·exact ⟨flR_txt hR hU.1, flR_lt hR hU.2.1, hU.2.2⟩
  ·exact flR_any2 hR hU
 have hi : ix ∉ [10, 12] := by simp [hi10, hi12]
 have hb : Below w.heap.size w w' := appTs_out hi hT
 rcases (show kx = 0 ∨ kx = 1 ∨ kx = 2 ∨ kx = 3 ∨ kx = 4 ∨ kx = 5 ∨ kx = 6 ∨ kx = 7 ∨ kx = 8 ∨ kx = 9 ∨ kx = 10 ∨ kx = 11 ∨ kx = 12 ∨ kx = 13 ∨ kx = 14 ∨ kx = 15 ∨ kx = 16 by omega) with rfl | rfl | rfl | rfl | rfl | rfl | rfl | rfl | rfl | rfl | rfl | rfl | rfl | rfl | rfl | rfl | rfl
 iterate 9 exact hU
 ·exact OnePt.stays hU hb
 ·exact ⟨OwnP.stays hU.1 hb, hU.2⟩
 ·exact hU
 ·exact Row.step hU hb
 ·exact ⟨Row.step hU.1 hb, hU.2⟩
 ·exact OwnP.stays hU hb
 ·exact ⟨hU.1.stays hU.2.1 hb, Nat.lt_of_lt_of_le hU.2.1 hb.size, hU.2.2⟩
 ·exact AnyO.stays hU hb
set_option maxRecDepth 100000 in
set_option maxHeartbeats 8000000 in
theorem rFile_any (mn av b mx : Nat) (hF : FitAt mn av mx b) (v : Value) (L : List Ob) (s : ByteArray) (w : World) (h : IsObs w v L) (hs : s.size ≤ 100000) (hL : L.length + s.size ≤ 800000) :
  Calls Tryz.prog 49 #[pV mn av mx, v, .string s] w (RetOK v L (putsN L (seqF (cutN mn b mx) s.data.toList)) (keyN (fileN (cutN mn b mx) s.data.toList)) w) := by
 have CP := Lib.hid (fun W => refPieces_any mn av b mx hF s hs W)
 have OK := Lib.hid (cutN_ok (mn := mn) (b := b) (mx := mx) (by have := hF.h1; omega) (by have := hF.h2; have := hF.h3; omega))
 obtain ⟨c, hc⟩ : ∃ c, c = cutN mn b mx := ⟨_, rfl⟩
 rw [← hc] at CP OK ⊢
 have hpl : (pcs c s.data.toList).length ≤ s.size := by have := pcs_len OK.out.pos s.data.toList.length s.data.toList (Nat.le_refl _); rw [Lib.size_eq]; exact this
 obtain ⟨V, hV⟩ : ∃ V, V = (w.alloc (.cells #[.int .i64 mn, .int .i64 av, .int .i64 mx] 23)).alloc (.cells #[.int .i64 2, .string ⟨#[]⟩, .slice none 0 0, .slice none 0 0] 71) := ⟨_, rfl⟩
 have hbV : Below w.heap.size w V := by rw [hV]; exact ((Below.refl _ _).alloc (Nat.le_refl _) _).alloc (by simp) _
 have hR0 : Row V w.heap.size #[.int .i64 mn, .int .i64 av, .int .i64 mx] 23 := by rw [hV]; exact (Row.made _ _ _).alloc _
 have hRN : Row V (w.heap.size + 1) #[.int .i64 2, .string ⟨#[]⟩, .slice none 0 0, .slice none 0 0] 71 := by
  have := Row.made (w.alloc (.cells #[.int .i64 mn, .int .i64 av, .int .i64 mx] 23)) #[.int .i64 2, .string ⟨#[]⟩, .slice none 0 0, .slice none 0 0] 71
  rw [hV]; simpa using this
 have HV := Lib.hid hV; have HBV := Lib.hid hbV; have HRN := Lib.hid hRN
 have HI := Lib.hid (h.stays hbV); have HL0 := Lib.hid h
 obtain ⟨_, a0, cap0, rfl, _, _⟩ := h
 have p0 := hR0.cell 0; have p1 := hR0.cell 1; have p2 := hR0.cell 2
 simp only [List.getElem?_toArray, List.getElem?_cons_zero, List.getElem?_cons_succ] at p0 p1 p2
 clear hV hbV hRN hR0 hc hF
 go_enter Tryz.func49, Tryz.ntmps49
 go_wp2_with fail
 rw [← HV.out]
 go_wp2_with fail
 with_reducible refine (CP.out _).mono ?_
 rintro e w1 ⟨v1, rfl, hs1, hb1⟩
 have HS1 := Lib.hid hs1
 obtain ⟨hlt1, a1, cap1, rfl, _, _⟩ := hs1
 have HRN1 := Lib.hid (HRN.out.step hb1)
 have HI1 := Lib.hid (HI.out.stays hb1)
 have HB1 := Lib.hid (below_step HBV.out hb1)
 have hz1 : w.heap.size + 1 < w1.heap.size := HRN1.out.lt
 clear hb1 p0 p1 p2
 obtain ⟨Ps, hPs⟩ : ∃ Ps, Ps = pcs c s.data.toList := ⟨_, rfl⟩
 rw [← hPs] at HS1 hpl
 have HPS := Lib.hid hPs
 rw [← hPs]
 have hsl : (strsOf Ps).length = Ps.length := strsOf_len _
 rw [hsl] at HS1
 rw [hsl]
 obtain ⟨tb, to, hab, hT1⟩ : ∃ tb to, (0 < Ps.length → a1 = some ⟨tb, to, none⟩ ∧ tb < w1.heap.size) ∧ TxtC w1 tb to Ps := by
  obtain ⟨_, _, _, e, _, hc⟩ := HS1.out
  rw [hsl] at e
  cases e
  by_cases h0 : 0 < Ps.length
  ·obtain ⟨b', off, rfl, hbl, g⟩ := hc (by rw [strsOf_len]; exact h0)
   exact ⟨b', off, fun _ => ⟨rfl, hbl⟩, fun i hi => by have := g i (by rw [strsOf_len]; exact hi); rwa [strsOf_get hi] at this⟩
  ·exact ⟨0, 0, fun h => absurd h h0, fun i hi => absurd (Nat.lt_of_le_of_lt (Nat.zero_le _) hi) h0⟩
 have HAB := Lib.hid hab; have HT1 := Lib.hid hT1
 have HLL := Lib.hid (fun k => (putsN_len L ((Ps.take k).map pieceN)).2)
 have HA1 : Hid (AnyO w (.slice a0 L.length cap0) L w1 (.slice a0 L.length cap0) L) := Lib.hid ((AnyO.of HL0.out).stays HB1.out)
 clear hPs hab hT1 HS1 hsl HI1 HI
 go_wp2
 obtain ⟨bn, hbn⟩ : ∃ bn, bn = w.heap.size + 1 := ⟨_, rfl⟩
 rw [← hbn] at HRN1 hz1 ⊢
 have HBN := Lib.hid (show w.heap.size ≤ bn by omega)
 clear hbn
 go_loopw [1, 10] (fun lv i wr => ∃ (k : Nat) (vp : Value), k ≤ Ps.length ∧ i = .int .i64 k ∧ AnyO w (.slice a0 L.length cap0) L wr lv (putsN L ((Ps.take k).map pieceN)) ∧ Row wr bn #[.int .i64 2, .string ⟨#[]⟩, vp, .slice none 0 0] 71 ∧ OwnP w1.heap.size wr vp ((Ps.take k).map partP) ∧ TxtC wr tb to Ps ∧ Below w.heap.size w wr ∧ w1.heap.size ≤ wr.heap.size) (fun _ i _ => Ps.length - (intOf i).toNat)
 case atStart => exact ⟨0, _, Nat.zero_le _, rfl, HA1.out, HRN1.out, parts_own_nil _ _, HT1.out, HB1.out, Nat.le_refl _⟩
 case round =>
  obtain ⟨k, vp, hk, rfl, hA, hR, hO, hT, hB, hzr⟩ := hrel
  have hll := HLL.out k
  rw [List.length_map, List.length_take] at hll
  by_cases hlt : k < Ps.length
  ·obtain ⟨rfl, htb⟩ := HAB.out (by omega)
   have hbk : decide ((k : Int) < (Ps.length : Int)) = true := by simpa using (show (k : Int) < Ps.length by omega)
   have hst : putsN L ((Ps.take (k + 1)).map pieceN) = putN (putsN L ((Ps.take k).map pieceN)) (pieceN (Ps[k]'hlt)) := by rw [List.take_succ_eq_append_getElem hlt, List.map_append, putsN_app]; rfl
   have hsp : (Ps.take (k + 1)).map partP = (Ps.take k).map partP ++ [partP (Ps[k]'hlt)] := by rw [List.take_succ_eq_append_getElem hlt, List.map_append]; rfl
   have c0 := hT k hlt
   obtain ⟨pk, hpk⟩ : ∃ pk, Ps[k]'hlt = pk := ⟨_, rfl⟩
   rw [hpk] at hst hsp c0
   have HPK := Lib.hid hpk
   obtain ⟨t, ht⟩ : ∃ t : ByteArray, t = ⟨pk.toArray⟩ := ⟨_, rfl⟩
   have hts : t.size = pk.length := by rw [ht, Lib.size_eq]
   obtain ⟨kk, hkk⟩ : ∃ kk : ByteArray, kk = ⟨(keyN (pieceN pk)).toArray⟩ := ⟨_, rfl⟩
   have hx : partP pk = ⟨kk, (t.size : Int)⟩ := by unfold partP; rw [hkk, hts]
   rw [hx] at hsp
   have HST := Lib.hid hst; have HSP := Lib.hid hsp
   clear hpk hst hsp
   have CP6 : Hid (Calls Tryz.prog 50 #[u1, .agg #[.int .i64 1, .string t, .slice none 0 0, .slice none 0 0]] wr (RetOK u1 (putsN L ((Ps.take k).map pieceN)) (putN (putsN L ((Ps.take k).map pieceN)) (pieceN pk)) (keyN (pieceN pk)) wr)) := Lib.hid (by
    rw [ht]; exact rPut_any u1 _ (pieceN pk) (.slice none 0 0) (.slice none 0 0) wr hA.is (by omega) (parts_nil _) (entries_nil _))
   rw [← ht] at c0
   have HT := Lib.hid ht; have HLT := Lib.hid hlt; have HA0 := Lib.hid hA; have HO0 := Lib.hid hO; have HR0 := Lib.hid hR; have HC0 := Lib.hid hT; have HKK := Lib.hid hkk; have HB0 := Lib.hid hB
   have HLEN : Hid (((Ps.take k).map partP).length ≤ 1000000) := Lib.hid (by rw [List.length_map, List.length_take]; omega)
   obtain ⟨LL, hLL⟩ : ∃ LL, LL = putN (putsN L ((Ps.take k).map pieceN)) (pieceN pk) := ⟨_, rfl⟩
   rw [← hLL] at CP6 HST
   obtain ⟨Lp, hLp⟩ : ∃ Lp, Lp = (Ps.take k).map partP := ⟨_, rfl⟩
   rw [← hLp] at HO0 HLEN HSP
   clear hA hR hO hT hts hx hkk hLp hLL hB ht
   go_wp2_with fail
   with_reducible refine CP6.out.mono ?_
   rintro e w6 ⟨v6, rfl, hs6, hb6, hv6⟩
   have HA := Lib.hid (HA0.out.next hb6 hv6)
   have HR := Lib.hid (HR0.out.step hb6)
   have HO := Lib.hid (HO0.out.stays hb6)
   have htw : tb < wr.heap.size := Nat.lt_of_lt_of_le htb hzr
   have HC : Hid (TxtC w6 tb to Ps ∧ tb < w6.heap.size) := Lib.hid ⟨HC0.out.stays htw hb6, Nat.lt_of_lt_of_le htw hb6.size⟩
   have HNE : Hid (vp.ownBlock ≠ some bn ∧ vp.ownBlock ≠ some tb) := Lib.hid ⟨fun e => by have := (World.ownsRow.lt HO0.out bn e).1; omega, fun e => by have := (World.ownsRow.lt HO0.out tb e).1; omega⟩
   have HVP : Hid (∃ a n c, vp = .slice a n c) := Lib.hid (by obtain ⟨_, a, c, e, _⟩ := HO0.out.is; exact ⟨a, _, c, e⟩)
   have HBS : Hid (bn < w1.heap.size ∧ w.heap.size ≤ bn) := Lib.hid ⟨hz1, HBN.out⟩
   have HLP := HLEN
   have HKT : Hid (k < Ps.length) := HLT
   have HG0 : Hid (HeldM w w1.heap.size { w6 with drawn := w6.drawn + 1 }) := Lib.hid ⟨(below_step HB0.out hb6).drew, Nat.le_trans hzr hb6.size⟩
   rw [← HKK.out]
   clear c0 hs6 hv6 hb6 htw
   go_wp2_with fail
   refine wp_region_wordsG (by kernel_rfl) (by kernel_rfl) (appTs [10, 12] (flR w bn vp)) (HeldM w w1.heap.size) dflE (dflU w bn tb to Ps.length cap1 k w1.heap.size vp v6 (.slice a0 L.length cap0) Lp LL L Ps kk t) 17 dflN [10, 12, 15, 16] (by kernel_rfl) (by kernel_rfl) (by kernel_rfl)
    dflB (by kernel_rfl) (fun ix kx v e w w' hi hk hne hb hU hT => dfl_T _ _ _ _ _ _ _ _ _ _ _ _ _ _ _ _ _  ix kx v e w w' hk hne hb hU hT) (by decide) (HG0.out) (fun kx hk hge => ?hv0)
    [32, 33, 34, 35, 36, 37, 38, 39, 40, 41, 42, 43] (by kernel_rfl) (forall_ops ?steps) ?behind
   case hv0 =>
    have hge' : 13 ≤ kx := hge
    rcases (show kx = 13 ∨ kx = 14 ∨ kx = 15 ∨ kx = 16 by omega) with rfl | rfl | rfl | rfl
    ·exact ⟨HR.out.drew, HNE.out.1⟩
    ·exact HO.out.stays ((Below.refl _ _).drew)
    ·exact ⟨HC.out.1.stays HC.out.2 ((Below.refl _ _).drew), HC.out.2, HNE.out.2⟩
    ·exact HA.out.stays ((Below.refl _ _).drew)
   case steps =>
    refine ⟨?_, ?_, ?_, ?_, ?_, ?_, ?_, ?_, ?_, ?_, ?_, ?_, ?_, trivial⟩
    ·refine stepG_of rfl ?_
     exact stepR_value (t := 32) (.pointer (some ⟨bn, 2, none⟩)) rfl (fun _ => appTs_other (by decide) (Below.refl _ _)) (fun ac w hG hN hO => by
      have e8 : slot ac 8 = .pointer (some ⟨bn, 0, none⟩) := hO 8 (by kernel_rfl)
      have f8 := slot_at e8
      unfold execOp; go_simp) (fun ac w hG hN => rfl)
    ·refine stepG_of rfl ?_
     exact stepR_value (t := 33) vp rfl (fun _ => appTs_other (by decide) (Below.refl _ _)) (fun ac w hG hN hO => by
      have e32 : slot ac 32 = .pointer (some ⟨bn, 2, none⟩) := hN 0 (by decide)
      have hx : Row w bn #[.int .i64 2, .string ⟨#[]⟩, vp, .slice none 0 0] 71 ∧ _ := hN 13 (by decide)
      have c2 := hx.1.cell 2
      simp only [List.getElem?_toArray, List.getElem?_cons_zero, List.getElem?_cons_succ] at c2
      have f := slot_at e32
      unfold execOp; go_simp) (fun ac w hG hN => rfl)
    ·refine stepG_of rfl ?_
     exact stepR_value (t := 34) (.string kk) rfl (fun _ => appTs_other (by decide) (Below.refl _ _)) (fun ac w hG hN hO => by
      have e11 : slot ac 11 = .string kk := hO 11 (by kernel_rfl)
      exact run_move_slot (.inl rfl) e11) (fun ac w hG hN => rfl)
    ·refine stepG_of rfl ?_
     exact stepR_value (t := 35) (.slice (some ⟨tb, to, none⟩) Ps.length cap1) rfl (fun _ => appTs_other (by decide) (Below.refl _ _)) (fun ac w hG hN hO => by
      have e9 : slot ac 9 = .slice (some ⟨tb, to, none⟩) Ps.length cap1 := hO 9 (by kernel_rfl)
      exact run_move_slot (.inl rfl) e9) (fun ac w hG hN => rfl)
    ·refine stepG_of rfl ?_
     exact stepR_value (t := 36) (.int .i64 k) rfl (fun _ => appTs_other (by decide) (Below.refl _ _)) (fun ac w hG hN hO => by
      have e10 : slot ac 10 = .int .i64 k := hO 10 (by kernel_rfl)
      exact run_move_slot (.inl rfl) e10) (fun ac w hG hN => rfl)
    ·refine stepG_of rfl ?_
     exact stepR_value (t := 37) (.pointer (some ⟨tb, to + k, none⟩)) rfl (fun _ => appTs_other (by decide) (Below.refl _ _)) (fun ac w hG hN hO => by
      have e35 : slot ac 35 = .slice (some ⟨tb, to, none⟩) Ps.length cap1 := hN 3 (by decide)
      have e36 : slot ac 36 = .int .i64 k := hN 4 (by decide)
      have f35 := slot_at e35; have f36 := slot_at e36
      have hkt := HKT.out
      unfold execOp; go_simp) (fun ac w hG hN => rfl)
    ·refine stepG_of rfl ?_
     exact stepR_value (t := 38) (.string t) rfl (fun _ => appTs_other (by decide) (Below.refl _ _)) (fun ac w hG hN hO => by
      have e37 : slot ac 37 = .pointer (some ⟨tb, to + k, none⟩) := hN 5 (by decide)
      have hx : TxtC w tb to Ps ∧ _ := hN 15 (by decide)
      have c : w.cell? ⟨tb, to + k, none⟩ = some (.string t) := by rw [HT.out, ← HPK.out]; exact hx.1 k HLT.out
      have f := slot_at e37
      unfold execOp; go_simp) (fun ac w hG hN => rfl)
    ·refine stepG_of rfl ?_
     exact stepR_value (t := 39) (.int .i64 t.size) rfl (fun _ => appTs_other (by decide) (Below.refl _ _)) (fun ac w hG hN hO => by
      have e38 : slot ac 38 = .string t := hN 6 (by decide)
      have f38 := slot_at e38
      unfold execOp; go_simp) (fun ac w hG hN => rfl)
    ·refine stepG_of rfl ?_
     exact stepR_value (t := 40) (.agg #[.string kk, .int .i64 t.size]) rfl (fun _ => appTs_other (by decide) (Below.refl _ _)) (fun ac w hG hN hO => by
      have e34 : slot ac 34 = .string kk := hN 2 (by decide)
      have e39 : slot ac 39 = .int .i64 t.size := hN 7 (by decide)
      have f34 := slot_at e34
      have f39 := slot_at e39
      unfold execOp; go_simp) (fun ac w hG hN => rfl)
    ·refine stepG_of rfl ?_
     intro ac w hG hN hO
     have e40 : slot ac 40 = .agg #[.string kk, .int .i64 t.size] := hN 8 (by decide)
     refine wp_build_part 40 rfl (x := (⟨kk, (t.size : Int)⟩ : Pt)) e40 ?_
     exact ⟨_, rfl, appTs_other (by decide) ((Below.refl _ _).alloc (Nat.le_refl _) _), hG.on ((Below.refl _ _).alloc (Nat.le_refl _) _), onePt_new w (⟨kk, (t.size : Int)⟩ : Pt)⟩
    ·refine stepG_of rfl ?_
     intro ac w hG hN hO
     have e33 : slot ac 33 = vp := hN 1 (by decide)
     have e41 : OnePt w (slot ac 41) (⟨kk, (t.size : Int)⟩ : Pt) := hN 9 (by decide)
     have hown : OwnP w1.heap.size w vp Lp := hN 14 (by decide)
     have hbs := HBS.out
     have hlp := HLP.out
     have hBw : w1.heap.size ≤ w.heap.size := hG.size
     refine wp_append_one_part 33 41 rfl hown hBw (slotE e33) e41 hlp ?_
     intro v' w' hown' hg
     exact ⟨v', rfl, appTs_at (by decide) (flR_app' hg hown hbs), ⟨hG.below.grown hg hG.below.size (fun j hj => Nat.le_trans (Nat.le_trans hbs.2 (Nat.le_of_lt hbs.1)) (World.ownsRow.lt hown j hj).1), Nat.le_trans hG.size hg.size⟩, hown', hbs.1⟩
    ·refine stepG_of rfl ?_
     exact stepR_value (t := 43) (.pointer (some ⟨bn, 2, none⟩)) rfl (fun _ => appTs_other (by decide) (Below.refl _ _)) (fun ac w hG hN hO => by
      have e8 : slot ac 8 = .pointer (some ⟨bn, 0, none⟩) := hO 8 (by kernel_rfl)
      have f8 := slot_at e8
      unfold execOp; go_simp) (fun ac w hG hN => rfl)
    ·refine stepG_of rfl ?_
     intro ac w hG hN hO
     have e43 : slot ac 43 = .pointer (some ⟨bn, 2, none⟩) := hN 11 (by decide)
     have hrow : Row w bn #[.int .i64 2, .string ⟨#[]⟩, vp, .slice none 0 0] 71 ∧ _ := hN 13 (by decide)
     have hc := hrow.1.cell 2
     have hf := hrow.1.free 2
     simp only [List.getElem?_toArray, List.getElem?_cons_zero, List.getElem?_cons_succ] at hc
     have f1 := slot_at e43
     have hbs := HBS.out
     obtain ⟨u, hu⟩ : ∃ u, u = slot ac 42 := ⟨_, rfl⟩
     have f2 := slot_at hu.symm
     have hown : OwnP w1.heap.size w (slot ac 42) (Lp ++ [(⟨kk, (t.size : Int)⟩ : Pt)]) ∧ _ := hN 10 (by decide)
     rw [← hu] at hown
     obtain ⟨_, ua, uc, hue, _, _⟩ := hown.1.is
     subst hue
     have hs := hrow.1.set 2 (.slice ua (Lp ++ [(⟨kk, (t.size : Int)⟩ : Pt)]).length uc)
     exact wp_skip (w' := w.setCell ⟨bn, 2, none⟩ (.slice ua (Lp ++ [(⟨kk, (t.size : Int)⟩ : Pt)]).length uc)) (by unfold execOp; go_simp) ⟨undef, rfl, appTs_at (by decide) (flR_set' hrow.1 HVP.out hbs.2 _), ⟨hG.below.setCell (p := ⟨bn, 2, none⟩) hbs.2 _, by have := hG.size; simpa [World.setCell] using this⟩, by
      show Row _ bn #[.int .i64 2, .string ⟨#[]⟩, exV _ 12 ac, .slice none 0 0] _
      rw [show exV dflE 12 ac = slot ac 42 from rfl, ← hu]
      exact hs⟩
   case behind =>
    intro ac w5 hG hV hS ha
    have h10 : OwnP w1.heap.size w5 (slot ac 42) (Lp ++ [(⟨kk, (t.size : Int)⟩ : Pt)]) ∧ bn < w1.heap.size := hV 10 (by decide) (by decide)
    have h12 : Row w5 bn #[.int .i64 2, .string ⟨#[]⟩, (slot ac 42), .slice none 0 0] 71 := hV 12 (by decide) (by decide)
    have h15 : TxtC w5 tb to Ps ∧ tb < w5.heap.size ∧ vp.ownBlock ≠ some tb := hV 15 (by decide) (by decide)
    have h16 : AnyO w (.slice a0 L.length cap0) L w5 v6 LL := hV 16 (by decide) (by decide)
    generalize slot ac = sl at ha h12 h10
    subst ha
    simp only [patchL, List.contains_cons, List.contains_nil, Nat.reduceBEq, Bool.or_false, Bool.or_true, if_true, Bool.false_eq_true, if_false, Nat.reduceAdd]
    generalize sl 32 = s32
    generalize sl 33 = s33
    generalize sl 34 = s34
    generalize sl 35 = s35
    generalize sl 36 = s36
    generalize sl 37 = s37
    generalize sl 38 = s38
    generalize sl 39 = s39
    generalize sl 40 = s40
    generalize sl 41 = s41
    generalize sl 42 = s42 at h12 h10 ⊢
    generalize sl 43 = s43
    clear hV hS
    have HR9 := Lib.hid h12; have HO9 := Lib.hid h10.1; have HT9 := Lib.hid h15; have HA9 := Lib.hid h16
    have HB9 := Lib.hid hG.below; have HZ9 := Lib.hid hG.size
    clear hG h10 h12 h15 h16
    obtain ⟨_, ua, uc, hue, _, _⟩ := HO9.out.is
    subst hue
    go_wp2
    go_roundw
    case rel => exact ⟨k + 1, _, by omega, by go_num, by rw [HST.out]; exact HA9.out, HR9.out, by rw [HSP.out]; exact HO9.out, HT9.out.1, HB9.out, HZ9.out⟩
    case measure => simp [intOf]; omega
  ·have hke : Ps.take k = Ps := List.take_of_length_le (by omega)
   have hge : decide ((k : Int) < (Ps.length : Int)) = false := by simp; omega
   rw [hke] at hA hO
   obtain ⟨_, va, vc, hve, _, _⟩ := hO.is
   subst hve
   have hml : (Ps.map partP).length = Ps.length := List.length_map ..
   rw [hml] at hR hO
   have x0 := hR.cell 0; have x1 := hR.cell 1; have x2 := hR.cell 2; have x3 := hR.cell 3
   simp only [List.getElem?_toArray, List.getElem?_cons_zero, List.getElem?_cons_succ] at x0 x1 x2 x3
   have hl2 := HLL.out Ps.length
   rw [List.length_map, List.length_take, List.take_length] at hl2
   have CP7 : Hid (Calls Tryz.prog 50 #[u1, .agg #[.int .i64 2, .string ⟨#[]⟩, .slice va Ps.length vc, .slice none 0 0]] wr (RetOK u1 (putsN L (Ps.map pieceN)) (putN (putsN L (Ps.map pieceN)) (fileN c s.data.toList)) (keyN (fileN c s.data.toList)) wr)) := Lib.hid (by
    have := rPut_any u1 _ (fileN c s.data.toList) (.slice va Ps.length vc) (.slice none 0 0) wr hA.is (by omega) (by unfold fileN; rw [← HPS.out]; exact hO.is) (entries_nil _)
    exact this)
   have HE : Hid (putsN L (seqF c s.data.toList) = putN (putsN L (Ps.map pieceN)) (fileN c s.data.toList)) := Lib.hid (by unfold seqF; rw [← HPS.out, putsN_app]; rfl)
   have HB7 := Lib.hid hB; have HA7 := Lib.hid hA
   clear hA hR hO hT hB hll hl2 hke hml
   go_wp2_with fail
   with_reducible refine CP7.out.mono ?_
   rintro e w8 ⟨v8, rfl, hs8, hb8, hv8⟩
   have HA8 := Lib.hid (HA7.out.next hb8 hv8)
   have HS8 := Lib.hid hs8
   have HB8 := Lib.hid (below_step HB7.out hb8)
   clear hs8 hb8 hv8 x0 x1 x2 x3
   go_wp2
   exact bodyPost_ret (v := .tuple #[v8, .string ⟨(keyN (fileN c s.data.toList)).toArray⟩]) (by simp [results, Tryz.results49, go_sem]) rfl ⟨v8, rfl, by rw [HE.out]; exact HS8.out, HB8.out, by rw [HE.out]; exact HA8.out.2.2⟩
theorem last_at {t : List UInt8} (hp : pathB t = true) : 0 < (strsOf (splitS t)).length ∧ ∀ h : (strsOf (splitS t)).length - 1 < (strsOf (splitS t)).length, (strsOf (splitS t))[(strsOf (splitS t)).length - 1].data.toList = lastN t := by
 have h0 : 0 < (splitS t).length := of_decide_eq_true hp
 refine ⟨by rw [strsOf_len]; exact h0, fun h => ?_⟩
 rw [strsOf_at (splitS t) _ h (by rw [strsOf_len]; omega)]
 unfold lastN
 simp only [strsOf_len]
 rw [List.getLastD_eq_getLast?, List.getLast?_eq_getElem?, List.getElem?_eq_getElem (by omega)]
 rfl
end Go.Proofs.YtjpjpmkadoaipaaGreatDoor

/-
  Texts put together: contracts and laws that this seat's proofs share.
-/
import Derived.WalkKit
import Derived.LoopTactic
import Derived.Outline
import Derived.Laws.BitsAllLaws
import Derived.Lib.Hide
import Derived.Below
import Derived.Laws.Rows
import Derived.Laws.CopyOwn
import Derived.Test.YtlccihidedfemaaGreatDoorProg
import Derived.Test.YtlccihidedfemaaGreatDoorQa0
import Derived.Test.YtlccihidedfemaaGreatDoorQa2
import Derived.Great.BuildSlice
import Derived.BigRegion
import Derived.Deep.QuietTactic
import Derived.BigQuiet
import Derived.StillTailTactics
import Derived.IntWalk
import Derived.WalkSmall
import Derived.RegionTactic
import Derived.Deep.MidRow
import Derived.Laws.CopyRow
import Derived.Lib.BufferWrite
import Derived.Lib.SlBuf
import Derived.Shelf.Strings.Builder2
import Derived.Deep.LoopGhost
import Derived.WalkLawsBesides
set_option linter.unusedVariables false
set_option pp.maxSteps 200000
namespace Go.Proofs.YtlccihidedfemaaGreatDoor
open Go.RowKit
set_option maxRecDepth 100000 in
set_option maxHeartbeats 1000000 in
theorem rotr_int (x n : Nat) (hx : x < 4294967296) (h0 : 1 ≤ n) (h1 : n ≤ 31) : bits .or .u32 ((x : Int) / 2 ^ n) ((x : Int) * 2 ^ (32 - n) % 4294967296) = (rotr x n : Nat) := by
  have e1 : (x : Int) / 2 ^ n = ((x / 2 ^ n : Nat) : Int) := by rw [Int.natCast_ediv, Int.natCast_pow]; rfl
  have e2 : (x : Int) * 2 ^ (32 - n) % 4294967296 = ((x * 2 ^ (32 - n) % 4294967296 : Nat) : Int) := by rw [Int.natCast_emod, Int.natCast_mul, Int.natCast_pow]; rfl
  rw [e1, e2, u32_or_nat _ _ (Nat.lt_of_le_of_lt (Nat.div_le_self _ _) hx) (Nat.mod_lt _ (by decide))]; rfl
theorem or32_comm (a b : Nat) (ha : a < 4294967296) (hb : b < 4294967296) : bits .or .u32 (a : Int) (b : Int) = bits .or .u32 (b : Int) (a : Int) := by
  rw [u32_or_nat _ _ ha hb, u32_or_nat _ _ hb ha, Nat.or_comm]
theorem rotl_int (x n m : Nat) (hx : x < 4294967296) (hm : n + m = 32) (h0 : 1 ≤ n) (h1 : n ≤ 31) : bits .or .u32 ((x : Int) * 2 ^ m % 4294967296) ((x : Int) / 2 ^ (32 - m)) = (rotr x n : Nat) := by
  have e1 : (x : Int) / 2 ^ n = ((x / 2 ^ n : Nat) : Int) := by rw [Int.natCast_ediv, Int.natCast_pow]; rfl
  have e2 : (x : Int) * 2 ^ m % 4294967296 = ((x * 2 ^ m % 4294967296 : Nat) : Int) := by rw [Int.natCast_emod, Int.natCast_mul, Int.natCast_pow]; rfl
  rw [show 32 - m = n by omega, e1, e2, or32_comm _ _ (Nat.mod_lt _ (by decide)) (Nat.lt_of_le_of_lt (Nat.div_le_self _ _) hx), ← e1, ← e2, show m = 32 - n by omega]
  exact rotr_int x n hx h0 h1
theorem neg31 (n m : Nat) (hm : n + m = 32) (h0 : 1 ≤ n) (h1 : n ≤ 31) : bits .and .u64 (IntKind.u64.wrap (-(n : Int))) 31 = (m : Int) := by
  have e : IntKind.u64.wrap (-(n : Int)) = ((18446744073709551616 - n : Nat) : Int) := by
    show (-(n : Int)) % 18446744073709551616 = _
    omega
  have h := u64_and_nat (18446744073709551616 - n) 31 (by omega) (by decide)
  rw [nat_mask5] at h
  rw [e]
  exact h.trans (by omega)
set_option maxRecDepth 100000 in
set_option maxHeartbeats 1000000 in
theorem down_any (x n : Nat) (hx : x < 4294967296) (h0 : 1 ≤ n) (h1 : n ≤ 31) (w : World) : Calls Tryz.prog 184 #[.int .u32 x, .int .i64 n] w fun e w' => e = .returned (.int .u32 (rotr x n)) ∧ w = w' := by
  obtain ⟨m, hm⟩ : ∃ m, n + m = 32 := ⟨32 - n, by omega⟩
  have HM := Lib.hid hm
  have e := neg31 n m hm h0 h1
  have hm1 : 1 ≤ m := by omega
  have hm2 : m ≤ 31 := by omega
  clear hm
  go_enter Tryz.func184, Tryz.ntmps184
  go_wp2
  go_ret
  exact ⟨congrArg (fun z => Ending.returned (.int .u32 z)) (rotl_int x n m hx HM.out h0 h1), rfl⟩
theorem down_z (x : Nat) (z : Int) (hx : x < 4294967296) (h : 1 ≤ z ∧ z ≤ 31) (w : World) : Calls Tryz.prog 184 #[.int .u32 x, .int .i64 z] w fun e w' => e = .returned (.int .u32 (rotr x z.toNat)) ∧ w = w' := by
  have := down_any x z.toNat hx (by omega) (by omega) w
  rwa [show ((z.toNat : Nat) : Int) = z by omega] at this
theorem xor3_int (a b c : Nat) (ha : a < 4294967296) (hb : b < 4294967296) (hc : c < 4294967296) : bits .xor .u32 (bits .xor .u32 (a : Int) (b : Int)) (c : Int) = ((a ^^^ b ^^^ c : Nat) : Int) := by
  rw [u32_xor_nat _ _ ha hb, u32_xor_nat _ _ (xor_lt ha hb) hc]
theorem sg0_int (x : Nat) (h : x < 4294967296) : bits .xor .u32 (bits .xor .u32 (rotr x 7 : Nat) (rotr x 18 : Nat)) ((x : Int) / 8) = (sg0 x : Nat) := by
  rw [show (x : Int) / 8 = ((x / 8 : Nat) : Int) by omega, xor3_int _ _ _ (rotr_lt _ h) (rotr_lt _ h) (by omega)]; rfl
theorem sg1_int (x : Nat) (h : x < 4294967296) : bits .xor .u32 (bits .xor .u32 (rotr x 17 : Nat) (rotr x 19 : Nat)) ((x : Int) / 1024) = (sg1 x : Nat) := by
  rw [show (x : Int) / 1024 = ((x / 1024 : Nat) : Int) by omega, xor3_int _ _ _ (rotr_lt _ h) (rotr_lt _ h) (by omega)]; rfl
theorem ad4_int (a b c d : Nat) : ((a : Int) + b + c + d) % 4294967296 = (ad (ad (ad a b) c) d : Nat) := by unfold ad; omega
theorem or3_int (a b c d : Nat) (ha : a < 256) (hb : b < 256) (hc : c < 256) (hd : d < 256) :
    bits .or .u32 (bits .or .u32 (bits .or .u32 ((a : Int) % 4294967296 * 16777216 % 4294967296) ((b : Int) % 4294967296 * 65536 % 4294967296)) ((c : Int) % 4294967296 * 256 % 4294967296)) ((d : Int) % 4294967296) =
      ((a * 16777216 % 4294967296 ||| b * 65536 % 4294967296 ||| c * 256 % 4294967296 ||| d : Nat) : Int) := by
  have e1 : (a : Int) % 4294967296 * 16777216 % 4294967296 = ((a * 16777216 % 4294967296 : Nat) : Int) := by omega
  have e2 : (b : Int) % 4294967296 * 65536 % 4294967296 = ((b * 65536 % 4294967296 : Nat) : Int) := by omega
  have e3 : (c : Int) % 4294967296 * 256 % 4294967296 = ((c * 256 % 4294967296 : Nat) : Int) := by omega
  have e4 : (d : Int) % 4294967296 = ((d : Nat) : Int) := by omega
  have l1 : a * 16777216 % 4294967296 < 4294967296 := Nat.mod_lt _ (by decide)
  have l2 : b * 65536 % 4294967296 < 4294967296 := Nat.mod_lt _ (by decide)
  have l3 : c * 256 % 4294967296 < 4294967296 := Nat.mod_lt _ (by decide)
  rw [e1, e2, e3, e4, u32_or_nat _ _ l1 l2, u32_or_nat _ _ (or_lt l1 l2) l3, u32_or_nat _ _ (or_lt (or_lt l1 l2) l3) (by omega)]
set_option maxRecDepth 100000 in
set_option maxHeartbeats 1000000 in
theorem spread_any (l : List UInt8) (hl : l.length = 64) (w : World) : Calls Tryz.prog 172 #[.agg (bytV l)] w fun e w' => e = .returned (.agg (numV (wlist (fun i => (l.getD i 0).toNat) 64))) ∧ Below w.heap.size w w' := by
  obtain ⟨L, hL⟩ : ∃ L : Nat → Nat, L = fun i => (l.getD i 0).toNat := ⟨_, rfl⟩
  have HL := Lib.hid hL
  have hl8 : ∀ i, L i < 256 := fun i => by rw [hL]; exact UInt8.toNat_lt _
  rw [← hL]
  clear hL
  go_enter Tryz.func172, Tryz.ntmps172
  go_wp2_with (first
    | refine wpList_alloc_zero rfl _ rfl _ zero43 ?_)
  go_loopw [11, 4, 5] (fun i _ _ wr => ∃ k : Nat, k ≤ 16 ∧ i = .int .i64 k ∧ Row wr w.heap.size (bytV l) 89 ∧ Row wr (w.heap.size + 1) (zrow 64) 116 ∧ Row wr (w.heap.size + 1 + 1) (numV (wrow L k)) 116 ∧ Below w.heap.size w wr) (fun i _ _ _ => 16 - (intOf i).toNat)
  case atStart => 
    refine ⟨0, by omega, rfl, ?_, ?_, ?_, ?_⟩
    · exact ((Row.made _ _ _).alloc _).alloc _
    · have := (Row.made (w.alloc (.cells (bytV l) 89)) (zrow 64) 116).alloc (.cells (zrow 64) 116)
      simpa using this
    · show Row _ _ (zrow 64) _
      have := Row.made ((w.alloc (.cells (bytV l) 89)).alloc (.cells (zrow 64) 116)) (zrow 64) 116
      simpa using this
    · exact (((Below.refl _ _).alloc (Nat.le_refl _) _).alloc (by simp) _).alloc (by simp; omega) _
  case round =>
    obtain ⟨k, hk, rfl, hB, hZ, hR, hb⟩ := hrel
    by_cases hlt : k < 16
    · have hbk : decide ((k : Int) < 16) = true := by simpa using (show (k : Int) < 16 by omega)
      have c0 : wr.cell? ⟨w.heap.size, k * 4, none⟩ = some (.int .u8 (L (k * 4))) := by rw [hB.cell, bytV_get _ _ (by omega), HL.out]
      have c1 : wr.cell? ⟨w.heap.size, k * 4 + 1, none⟩ = some (.int .u8 (L (k * 4 + 1))) := by rw [hB.cell, bytV_get _ _ (by omega), HL.out]
      have c2 : wr.cell? ⟨w.heap.size, k * 4 + 2, none⟩ = some (.int .u8 (L (k * 4 + 2))) := by rw [hB.cell, bytV_get _ _ (by omega), HL.out]
      have c3 : wr.cell? ⟨w.heap.size, k * 4 + 3, none⟩ = some (.int .u8 (L (k * 4 + 3))) := by rw [hB.cell, bytV_get _ _ (by omega), HL.out]
      have cf := hR.free k
      have cr : wr.cell? ⟨w.heap.size + 1 + 1, k, none⟩ = some (.int .u32 0) := by
        rw [hR.cell, numV_get _ _ (by rw [wrow_len _ _ (by omega)]; omega), wrow, List.getD_eq_getElem?_getD, List.getElem?_append_right (by rw [wlist_len]; exact Nat.le_refl _), List.getElem?_replicate]
        split <;> rfl
      have t0 : ((k : Int) * 4).toNat = k * 4 := by omega
      have t1 : ((k : Int) * 4 + 1).toNat = k * 4 + 1 := by omega
      have t2 : ((k : Int) * 4 + 2).toNat = k * 4 + 2 := by omega
      have t3 : ((k : Int) * 4 + 3).toNat = k * 4 + 3 := by omega
      have s1 : IntKind.i64.wrap ((k : Int) * 4 + 1) = (k : Int) * 4 + 1 := IntWalk.i64_in _ (by omega)
      have s2 : IntKind.i64.wrap ((k : Int) * 4 + 2) = (k : Int) * 4 + 2 := IntWalk.i64_in _ (by omega)
      have s3 : IntKind.i64.wrap ((k : Int) * 4 + 3) = (k : Int) * 4 + 3 := IntWalk.i64_in _ (by omega)
      have b0 : (0 : Int) ≤ (k : Int) * 4 ∧ (k : Int) * 4 < 64 := by omega
      have b1 : (0 : Int) ≤ (k : Int) * 4 + 1 ∧ (k : Int) * 4 + 1 < 64 := by omega
      have b2 : (0 : Int) ≤ (k : Int) * 4 + 2 ∧ (k : Int) * 4 + 2 < 64 := by omega
      have b3 : (0 : Int) ≤ (k : Int) * 4 + 3 ∧ (k : Int) * 4 + 3 < 64 := by omega
      have b4 : (0 : Int) ≤ (k : Int) ∧ (k : Int) < 64 := by omega
      have HB := Lib.hid hB; have HR := Lib.hid hR; have HZ := Lib.hid hZ
      clear hB hR hZ
      go_wp2_with fail
      go_still_tail 27, (by kernel_rfl)
      change wpList _ _ _ _ _ wr.drew
      clear t0 t1 t2 t3 s1 s2 s3 b0 b1 b2 b3 c0 c1 c2 c3
      go_wp2
      go_roundw
      case rel => 
        refine ⟨k + 1, by omega, by go_num, ?_, ?_, ?_, ?_⟩
        · exact (Row.drew HB.out).other _ _ (by show w.heap.size ≠ w.heap.size + 1 + 1; omega)
        · exact (Row.drew HZ.out).other _ _ (by show w.heap.size + 1 ≠ w.heap.size + 1 + 1; omega)
        · have := (Row.drew HR.out).set k (.int .u32 (lead L k : Nat))
          rw [numV_set, ← nxt_lead L (wlist L k) k hlt, wrow_set L k (by omega), nxt_lead L (wlist L k) k hlt] at this
          rw [or3_int _ _ _ _ (hl8 _) (hl8 _) (hl8 _) (hl8 _)]
          exact this
        · exact (hb.drew).setCell (by show w.heap.size ≤ w.heap.size + 1 + 1; omega) _
      case measure => simp [intOf]; omega
    · have hk16 : k = 16 := by omega
      have hR' : Row wr (w.heap.size + 1 + 1) (numV (wrow L 16)) 116 := by rw [← hk16]; exact hR
      have hbk : decide ((k : Int) < 16) = false := by rw [hk16]; rfl
      clear hR hk16 hlt hk
      have hR := hR'
      clear hR'
      have HB := Lib.hid hB; have HR := Lib.hid hR; have HZ := Lib.hid hZ
      clear hB hR hZ
      go_wp2_with fail
      go_loopw [6] (fun i wr => ∃ k : Nat, 16 ≤ k ∧ k ≤ 64 ∧ i = .int .i64 k ∧ Row wr (w.heap.size + 1) (zrow 64) 116 ∧ Row wr (w.heap.size + 1 + 1) (numV (wrow L k)) 116 ∧ Below w.heap.size w wr) (fun i _ => 64 - (intOf i).toNat)
      case atStart => exact ⟨16, by omega, by omega, rfl, HZ.out, HR.out, hb⟩
      case round =>
        clear HB HR HZ hb
        obtain ⟨k, hk0, hk, rfl, hZ, hR, hb⟩ := hrel
        by_cases hlt : k < 64
        · have hbk : decide ((k : Int) < 64) = true := by simpa using (show (k : Int) < 64 by omega)
          have hm := wlist_mem L hl8 k
          obtain ⟨x, hx⟩ : ∃ x, x = (wlist L k).getD (k - 15) 0 := ⟨_, rfl⟩
          obtain ⟨y, hy⟩ : ∃ y, y = (wlist L k).getD (k - 2) 0 := ⟨_, rfl⟩
          obtain ⟨p, hp⟩ : ∃ y, y = (wlist L k).getD (k - 16) 0 := ⟨_, rfl⟩
          obtain ⟨q, hq⟩ : ∃ y, y = (wlist L k).getD (k - 7) 0 := ⟨_, rfl⟩
          have lx : x < 4294967296 := by rw [hx]; exact getD_lt hm _
          have ly : y < 4294967296 := by rw [hy]; exact getD_lt hm _
          have lp : p < 4294967296 := by rw [hp]; exact getD_lt hm _
          have lq : q < 4294967296 := by rw [hq]; exact getD_lt hm _
          have cc : ∀ j, j < k → wr.cell? ⟨w.heap.size + 1 + 1, j, none⟩ = some (.int .u32 ((wlist L k).getD j 0 : Nat)) := fun j hj => by
            rw [hR.cell, numV_get _ _ (by rw [wrow_len _ _ hk]; omega), wrow_get _ _ _ hj]
          have c15 := cc (k - 15) (by omega)
          have c2 := cc (k - 2) (by omega)
          have c16 := cc (k - 16) (by omega)
          have c7 := cc (k - 7) (by omega)
          rw [← hx] at c15; rw [← hy] at c2; rw [← hp] at c16; rw [← hq] at c7
          have cf := hR.free k
          have cr : ∃ v, wr.cell? ⟨w.heap.size + 1 + 1, k, none⟩ = some v := by
            rw [hR.cell, numV_get _ _ (by rw [wrow_len _ _ hk]; omega)]
            exact ⟨_, rfl⟩
          obtain ⟨v, cr⟩ := cr
          clear cc hm
          have HV := Lib.hid (nxt_on L (wlist L k) k hk0)
          have HX := Lib.hid hx; have HY := Lib.hid hy; have HP := Lib.hid hp; have HQ := Lib.hid hq
          clear hx hy hp hq
          have t1 : ((k : Int) - 15).toNat = k - 15 := by omega
          have t2 : ((k : Int) - 2).toNat = k - 2 := by omega
          have t3 : ((k : Int) - 16).toNat = k - 16 := by omega
          have t4 : ((k : Int) - 7).toNat = k - 7 := by omega
          have s1 : IntKind.i64.wrap ((k : Int) - 15) = (k : Int) - 15 := IntWalk.i64_in _ (by omega)
          have s2 : IntKind.i64.wrap ((k : Int) - 2) = (k : Int) - 2 := IntWalk.i64_in _ (by omega)
          have s3 : IntKind.i64.wrap ((k : Int) - 16) = (k : Int) - 16 := IntWalk.i64_in _ (by omega)
          have s4 : IntKind.i64.wrap ((k : Int) - 7) = (k : Int) - 7 := IntWalk.i64_in _ (by omega)
          have b1 : (0 : Int) ≤ (k : Int) - 15 ∧ (k : Int) - 15 < 64 := by omega
          have b2 : (0 : Int) ≤ (k : Int) - 2 ∧ (k : Int) - 2 < 64 := by omega
          have b3 : (0 : Int) ≤ (k : Int) - 16 ∧ (k : Int) - 16 < 64 := by omega
          have b4 : (0 : Int) ≤ (k : Int) - 7 ∧ (k : Int) - 7 < 64 := by omega
          have b6 : (16 : Int) ≤ (k : Int) := by omega
          have b7 : (7 : Int) ≤ (k : Int) := by omega
          have b8 : (k : Int) - 16 < 64 := by omega
          have b9 : (k : Int) - 7 < 64 := by omega
          have b10 : (0 : Int) ≤ (k : Int) - 16 := by omega
          have b11 : (0 : Int) ≤ (k : Int) - 7 := by omega
          have b5 : (0 : Int) ≤ (k : Int) ∧ (k : Int) < 64 := by omega
          have HR := Lib.hid hR; have HZ := Lib.hid hZ
          clear hR hZ
          have HL8 := Lib.hid hl8; clear hl8
          go_wp2_with fail
          go_quiet (fail)
          go_wp2_with (go_at_call 184; refine (down_z _ _ (by assumption) (by decide) _).mono ?_; rintro e w1 ⟨rfl, rfl⟩)
          obtain ⟨W2, hW2⟩ : ∃ W2, W2 = wr.drewN nq := ⟨_, rfl⟩
          rw [← hW2]
          have d16 : W2.cell? ⟨w.heap.size + 1 + 1, k - 16, none⟩ = some (.int .u32 p) := by rw [hW2]; exact c16
          have d7 : W2.cell? ⟨w.heap.size + 1 + 1, k - 7, none⟩ = some (.int .u32 q) := by rw [hW2]; exact c7
          have df : W2.frozen? ⟨w.heap.size + 1 + 1, k, none⟩ = false := by rw [hW2]; exact cf
          have dr : W2.cell? ⟨w.heap.size + 1 + 1, k, none⟩ = some v := by rw [hW2]; exact cr
          have HR2 : Hid (Row W2 (w.heap.size + 1 + 1) (numV (wrow L k)) 116) := Lib.hid (by rw [hW2]; exact HR.out)
          have HZ2 : Hid (Row W2 (w.heap.size + 1) (zrow 64) 116) := Lib.hid (by rw [hW2]; exact HZ.out)
          have hb2 : Below w.heap.size w W2 := by rw [hW2]; exact below_drewN hb nq
          clear hW2 c16 c7 cf cr HR HZ hb c15 c2 t1 t2 s1 s2 b1 b2
          go_still_tail 15, (by kernel_rfl)
          change wpList _ _ _ _ _ W2.drew
          clear t3 t4 s3 s4 b3 b4 d16 d7
          go_wp2
          go_roundw
          case rel =>
            refine ⟨k + 1, by omega, by omega, by go_num, ?_, ?_, ?_⟩
            · exact (Row.drew HZ2.out).other _ _ (by show w.heap.size + 1 ≠ w.heap.size + 1 + 1; omega)
            · have := (Row.drew HR2.out).set k (.int .u32 (nxt L (wlist L k) k : Nat))
              rw [numV_set, wrow_set L k (by omega), HV.out, ← HX.out, ← HY.out, ← HP.out, ← HQ.out] at this
              rw [sg0_int x lx, sg1_int y ly, ad4_int]
              exact this
            · exact (hb2.drew).setCell (by show w.heap.size ≤ w.heap.size + 1 + 1; omega) _
          case measure => simp [intOf]; omega
        · obtain rfl : k = 64 := by omega
          have hbk : decide (((64 : Nat) : Int) < 64) = false := rfl
          have HR := Lib.hid hR; have HZ := Lib.hid hZ
          clear hR hZ
          go_wp2_with (first
            | refine wpList_load_row rfl 116 _ rfl (w.heap.size + 1 + 1) rfl 116 (numV (wrow L 64)) (0, 0) _ HR.out Tryz.underlying116 rfl (by rw [numV_size, wrow_len _ _ hk]; exact size43) ?_
            | refine wpList_store_row rfl 116 _ _ rfl (w.heap.size + 1) (numV (wrow L 64)) rfl rfl 116 (zrow 64) HZ.out (by rw [numV_size, wrow_len _ _ hk]; exact size43) (by rw [numV_size, zrow_size, wrow_len _ _ hk]) (numV_one _) ?_)
          refine bodyPost_ret (v := .agg (numV (wrow L 64))) (results_cell_row rfl _ _ (w.heap.size + 1) 116 (numV (wrow L 64)) (0, 0) _ rfl (setRow_heap _ _ _ _ _ _ HZ.out) Tryz.underlying116 rfl (by rw [numV_size, wrow_len _ _ hk]; exact size43)) rfl ⟨by rw [wrow_full], below_setRow hb (by omega) _⟩
end Go.Proofs.YtlccihidedfemaaGreatDoor
set_option linter.unusedVariables false
namespace Go.Proofs.YtlccihidedfemaaGreatDoor
open Go.RowKit
def setSeg : Array Value → Nat → List Value → Array Value
  | xs, _, [] => xs
  | xs, o, v :: r => setSeg (xs.setIfInBounds o v) (o + 1) r
theorem setSeg_eq : ∀ (vs : List Value) (A M B : List Value), M.length = vs.length → setSeg (A ++ M ++ B).toArray A.length vs = (A ++ vs ++ B).toArray
  | [], A, M, B, h => by
    have : M = [] := List.length_eq_zero_iff.1 h
    subst this; rfl
  | v :: r, A, [], B, h => by simp at h
  | v :: r, A, m :: M, B, h => by
    have := setSeg_eq r (A ++ [v]) M B (by simpa using h)
    rw [setSeg, show (A ++ m :: M ++ B).toArray.setIfInBounds A.length v = (A ++ [v] ++ M ++ B).toArray by simp]
    simp only [List.length_append, List.length_singleton] at this
    rw [this]; simp
theorem Row.setCells {W : World} {B : Nat} {T : TypeId} : ∀ (vs : List Value) {xs : Array Value} {W : World} (h : Row W B xs T) (o : Nat), Row (W.setCells B o vs) B (setSeg xs o vs) T
  | [], _, _, h, _ => h
  | v :: r, _, _, h, o => Row.setCells (W := W) r (h.set o v) (o + 1)
theorem below_setCells {b g : Nat} {w : World} : ∀ (vs : List Value) {W : World} (h : Below b w W) (o : Nat) (hg : b ≤ g), Below b w (W.setCells g o vs)
  | [], _, h, _, _ => h
  | v :: r, _, h, o, hg => below_setCells r (h.setCell hg v) (o + 1) hg
theorem Row.range {W : World} {B : Nat} {T : TypeId} {A M C : List Value} (h : Row W B (A ++ M ++ C).toArray T) : W.rangeAt B A.length M := fun j v hv => by
  rw [h.cell]
  have hj : j < M.length := (List.getElem?_eq_some_iff.1 hv).1
  simp only [List.getElem?_toArray]
  rw [List.append_assoc, List.getElem?_append_right (by omega), List.getElem?_append_left (by omega), show A.length + j - A.length = j by omega, hv]
theorem Row.there {W : World} {B : Nat} {T : TypeId} {xs : Array Value} (h : Row W B xs T) (o n : Nat) (hn : o + n ≤ xs.size) : W.there B o n := fun j hj => by
  refine ⟨?_, h.free _⟩
  rw [h.cell, Array.getElem?_eq_getElem (by omega)]
  rfl
theorem run_copy_part {P : Program} (w : World) (dT sT ty elem : TypeId) (g dLen dCap : Nat) (s : ByteArray) (A M C : List Value) (t : TypeId)
    (hu : P.underlying dT = some (.slice elem)) (hs : (P.info? elem).map (·.size) = some 1) (hg : Row w g (A ++ M ++ C).toArray t) (n : Nat) (hn : Nat.min s.size dLen = n) (hM : M.length = n) :
    (Builtin.copy_ #[dT, sT] ty #[.slice (some ⟨g, A.length, none⟩) dLen dCap, .string s]).run P w =
      .ok (goInt n) (w.setRow g (A ++ Lib.byteCells (s.data.toList.take n) ++ C).toArray) := by
  have hle : n ≤ s.size := by rw [← hn]; exact Nat.min_le_left _ _
  have hl : (Lib.byteCells (s.data.toList.take n)).length = n := by rw [Lib.byteCells_length, List.length_take, ← Lib.size_eq]; omega
  have hst := run_storeCells_at P g A.length t (Lib.byteCells (s.data.toList.take n)) 0 (A ++ M ++ C).toArray w hg (by rw [hl]; simp; omega) (Lib.byteCells_one _)
  rw [hl] at hst
  simp only [Nat.add_zero] at hst
  rw [show ((A ++ M ++ C).toArray.toList.take A.length ++ Lib.byteCells (s.data.toList.take n) ++ (A ++ M ++ C).toArray.toList.drop (A.length + n)) = A ++ Lib.byteCells (s.data.toList.take n) ++ C by
    simp [← hM, List.append_assoc, ← List.drop_drop]] at hst
  have hx : List.take n (List.map (fun b : UInt8 => Value.int IntKind.u8 (b.toNat : Int)) s.data.toList) = Lib.byteCells (s.data.toList.take n) := by
    rw [← List.map_take]; rfl
  cases hq : P.info? elem with
  | none => simp [hq] at hs
  | some i =>
    simp [Builtin.copy_, run_underlying hu, Builtin.lenOf, Builtin.firstCells, sizeOf, typeInfo, hq, hn]
    rw [hx, hst]
    simp [Result.andThen]
theorem Row.rangeA {W : World} {B : Nat} {T : TypeId} {A C : List Value} {M : Array Value} (h : Row W B (A ++ M.toList ++ C).toArray T) (n : Nat) (hn : A.length = n) : W.rangeAt B n M.toList := by subst hn; exact h.range
end Go.Proofs.YtlccihidedfemaaGreatDoor
set_option linter.unusedVariables false
namespace Go.Proofs.YtlccihidedfemaaGreatDoor
open Go.RowKit Go.Shelf
set_option maxHeartbeats 2000000 in
set_option maxRecDepth 100000 in
theorem WriteString_k_Bus (B b : Nat) (bs : List Value) (s : ByteArray) (w : World) (h : Lib.IsBuilderF 154 5 B b bs w) (hlen : bs.length + s.size ≤ 140737488355328) (hBw : B ≤ w.heap.size) :
    Calls Tryz.prog 126 #[.pointer (some ⟨b, 0, none⟩), .string s] w fun e w' => e = .returned (.tuple #[.int .i64 s.size, .nilIface]) ∧ (Lib.BuilderAtF 154 5 B b (.pointer (some ⟨b, 0, none⟩)) (bs ++ Lib.strCells s) w' ∧ Below B w w' ∧ Lib.OthersKept 5 (some b) w w') := by
  obtain ⟨i0, hi, hz0, hz1, hz2⟩ := info_parts infoByte
  go_enter Tryz.func126, Tryz.ntmps126
  go_wp2_with (go_at_call 146; refine (copyCheck_k B b bs _ h).mono ?_)
  rintro e w1 ⟨rfl, h1, hb1, hk1⟩
  obtain ⟨hB, v, hbk, hown, hne⟩ := h1
  have c0 : w1.cell? ⟨b, 0, none⟩ = some (.pointer (some ⟨b, 0, none⟩)) := by rw [Lib.cell_of_heap hbk]; rfl
  have c1 : w1.cell? ⟨b, 1, none⟩ = some v := by rw [Lib.cell_of_heap hbk]; rfl
  go_wp2_with (at_builtin; refine Lib.wpList_append_own_stringF _ rfl _ _ 83 9 rfl B 5 i0 Tryz.underlying83 Tryz.underlying9 hi hz0 hz1 hz2 _ _ _ rfl hown s rfl ?c3 ?c4 ?c5 ?_)
  case c3 => unfold maxLen; omega
  case c4 => omega
  case c5 => have := hb1.size; omega
  intro v' w2 hown' hgrow _
  have hlt : b < w1.heap.size := (Array.getElem?_eq_some_iff.1 hbk).1
  have hb2 : w2.heap[b]? = some (.cells #[.pointer (some ⟨b, 0, none⟩), v] 154 (0, 0)) := by
    rw [hgrow.block b hlt (fun e => hne e.symm)]
    exact hbk
  have d0 : w2.cell? ⟨b, 0, none⟩ = some (.pointer (some ⟨b, 0, none⟩)) := by rw [Lib.cell_of_heap hb2]; rfl
  have d1 : w2.cell? ⟨b, 1, none⟩ = some v := by rw [Lib.cell_of_heap hb2]; rfl
  have f1 : w2.frozen? ⟨b, 1, none⟩ = false := Lib.frozen_of_heap hb2 1
  obtain ⟨ao, n', cap, rfl⟩ : ∃ ao n' cap, v' = .slice ao n' cap := by
    rcases hown'.2 with ⟨hv, _⟩ | ⟨g, cap, cur, fz, hv, _⟩
    · exact ⟨_, _, _, hv⟩
    · exact ⟨_, _, _, hv⟩
  go_wp2
  go_ret2
  refine ⟨rfl, ?_, ?_, (hk1.grown hgrow (Lib.ownsRowF_kind hown)).setCell ⟨b, 1, none⟩ rfl _⟩
  · exact Lib.BuilderAtF.put (T := 154) (e := 5) hB hb2 (bs' := bs ++ Lib.strCells s) (by simpa [Lib.strCells_length] using hown') (by decide)
  · exact (hb1.grown hgrow (by have := hb1.size; omega) (fun k hk => (hown.lt k hk).1)).setCell (p := ⟨b, 1, none⟩) hB _
theorem size_mk (l : List UInt8) : (⟨l.toArray⟩ : ByteArray).size = l.length := by simp [ByteArray.size]
theorem builder_step {T e : TypeId} {B b : Nat} {bs : List Value} {w w' : World} (h : Lib.IsBuilderF T e B b bs w) (hb : Below w.heap.size w w') : Lib.IsBuilderF T e B b bs w' := by
  have hg : w.grownBy w' none := ⟨hb.os, hb.tape, hb.output, hb.size, fun k hk _ => hb.block k hk⟩
  have key : ∀ p, Lib.BuilderAtF T e B b p bs w → Lib.BuilderAtF T e B b p bs w' := by
    rintro p ⟨hB, v, hbk, hown, hne⟩
    refine ⟨hB, v, ?_, hown.kept hg ?_, hne⟩
    · rw [hb.block b (Array.getElem?_eq_some_iff.1 hbk).1]; exact hbk
    · cases hv : v.ownBlock with
      | none => exact .inl rfl
      | some g => exact .inr (by simp)
  exact h.imp (key _) (key _)
set_option maxHeartbeats 1000000 in
set_option maxRecDepth 100000 in
theorem Len_k (B b : Nat) (bs : List Value) (w : World) (h : Lib.IsBuilderF 154 5 B b bs w) :
    Calls Tryz.prog 175 #[.pointer (some ⟨b, 0, none⟩)] w fun e w' => e = .returned (.int .i64 bs.length) ∧ w = w' := by
  obtain ⟨p, hB, v, hbk, hown, hne⟩ : ∃ p, Lib.BuilderAtF 154 5 B b p bs w := by
    rcases h with h | h
    · exact ⟨_, h⟩
    · exact ⟨_, h⟩
  obtain ⟨ao, cap, rfl⟩ : ∃ ao cap, v = .slice ao bs.length cap := by
    rcases hown.2 with ⟨hv, h0⟩ | ⟨g, cap, cur, fz, hv, _⟩
    · exact ⟨none, 0, by rw [hv, h0]⟩
    · exact ⟨_, _, hv⟩
  have c1 : w.cell? ⟨b, 1, none⟩ = some (.slice ao bs.length cap) := by rw [Lib.cell_of_heap hbk]; rfl
  go_enter Tryz.func175, Tryz.ntmps175
  go_wp2
  go_ret
  exact ⟨rfl, rfl⟩
theorem sizeByte_Bum : (Tryz.prog.info? 5).map (fun i => i.size) = some 1 := by kernel_rfl
set_option maxHeartbeats 2000000 in
set_option maxRecDepth 1000000 in
theorem grow_fresh_Bum (B b n : Nat) (w : World) (hB : B ≤ b) (hbk : w.heap[b]? = some (.cells #[.pointer (some ⟨b, 0, none⟩), .slice none 0 0] 154 (0, 0))) (hBw : B ≤ w.heap.size) (hn : n ≤ 281474976710656) :
    Calls Tryz.prog 152 #[.pointer (some ⟨b, 0, none⟩), .int .i64 n] w fun e w' => e = .returned (.tuple #[]) ∧ (Lib.BuilderAt 154 5 B b (.pointer (some ⟨b, 0, none⟩)) [] w' ∧ Below B w w') := by
  obtain ⟨cs, hrun, hle, hmax⟩ := Lib.run_makeNoZero (P := Tryz.prog) w.drew #[3] 83 5 Tryz.underlying83 n hn
  have hw : IntKind.i64.wrap (IntKind.i64.wrap 0 + (n : Int)) = n := by
    rw [IntKind.wrap_i64, IntKind.wrap_i64]
    omega
  have hcall : (callFunc 169 #[.int .i64 (n : Int)]).run Tryz.prog w.drew = .ok (.value (.slice (some ⟨w.drew.heap.size, 0, none⟩) n cs.size)) (w.drew.drew.drew.alloc (.cells cs 5)) := by
    rw [run_callFunc_extern Tryz.func169 (by kernel_rfl) (by kernel_rfl) (by kernel_rfl) (e := Extern.BytealgMakeNoZero.makeNoZero #[3] #[83]) (by kernel_rfl), hrun]
    rfl
  have hlt : b < w.heap.size := (Array.getElem?_eq_some_iff.1 hbk).1
  have c1 : w.drew.cell? ⟨b, 1, none⟩ = some (.slice none 0 0) := by
    have : w.drew.heap[b]? = _ := hbk
    rw [Lib.cell_of_heap this]; rfl
  have c2 : (w.alloc (.cells cs 5)).cell? ⟨b, 1, none⟩ = some (.slice none 0 0) := by
    have : (w.alloc (.cells cs 5)).heap[b]? = _ := (Lib.alloc_old w _ b hlt).trans hbk
    rw [Lib.cell_of_heap this]; rfl
  have f2 : (w.alloc (.cells cs 5)).frozen? ⟨b, 1, none⟩ = false := Lib.frozen_of_heap ((Lib.alloc_old w _ b hlt).trans hbk) 1
  have hcopy : ∀ W : World, (Builtin.copy_ #[83, 83] 3 #[.slice (some ⟨w.heap.size, 0, none⟩) 0 cs.size, .slice none 0 0]).run Tryz.prog W = .ok (goInt 0) W :=
    fun W => run_copy_none W 83 83 3 5 _ _ 0 cs.size 0 0 Tryz.underlying83 sizeByte_Bum rfl
  go_enter Tryz.func152, Tryz.ntmps152
  go_wp2
  have hfin := Lib.grown_fresh (T := 154) (e := 5) (cs := cs) hB hbk hBw (hmax (by unfold maxLen; omega)) (by decide)
  go_region
  all_goals (go_wp2; go_end0; exact ⟨rfl, by first | exact hfin | (rw [World.setCell_alloc_past _ b 1 _ hlt] at hfin; exact hfin)⟩)
set_option maxHeartbeats 2000000 in
set_option maxRecDepth 1000000 in
theorem Grow_fresh_Bum (B b n : Nat) (w : World) (hB : B ≤ b) (hbk : w.heap[b]? = some (.cells #[.pointer none, .slice none 0 0] 154 (0, 0))) (hBw : B ≤ w.heap.size) (hn1 : 1 ≤ n) (hn : n ≤ 281474976710656) :
    Calls Tryz.prog 136 #[.pointer (some ⟨b, 0, none⟩), .int .i64 n] w fun e w' => e = .returned (.tuple #[]) ∧ (Lib.BuilderAt 154 5 B b (.pointer (some ⟨b, 0, none⟩)) [] w' ∧ Below B w w') := by
  have h0 : w.cell? ⟨b, 0, none⟩ = some (.pointer none) := by rw [Lib.cell_of_heap hbk]; rfl
  have hsh : w.shape? b = some (154, 2) := by unfold World.shape?; rw [hbk]; rfl
  have hfz : w.frozen? ⟨b, 0, none⟩ = false := Lib.frozen_of_heap hbk 0
  have hbk1 : (w.setCell ⟨b, 0, none⟩ (.pointer (some ⟨b, 0, none⟩))).heap[b]? = some (.cells #[.pointer (some ⟨b, 0, none⟩), .slice none 0 0] 154 (0, 0)) := by
    simp [World.setCell, Array.getElem?_modify, hbk]
  have c1 : (w.setCell ⟨b, 0, none⟩ (.pointer (some ⟨b, 0, none⟩))).cell? ⟨b, 1, none⟩ = some (.slice none 0 0) := by rw [Lib.cell_of_heap hbk1]; rfl
  have hb1 : Below B w (w.setCell ⟨b, 0, none⟩ (.pointer (some ⟨b, 0, none⟩))) := (Below.refl B w).setCell (p := ⟨b, 0, none⟩) hB _
  obtain ⟨W1, hW1⟩ : ∃ W1, W1 = w.setCell ⟨b, 0, none⟩ (.pointer (some ⟨b, 0, none⟩)) := ⟨_, rfl⟩
  have CC := Lib.hid (copyCheck_fresh b w h0 hsh hfz)
  rw [← hW1] at hbk1 c1 hb1 CC
  have HB := Lib.hid hbk1
  have hp : (0 : Int) < (n : Int) := by omega
  clear hW1 hbk1 h0 hsh hfz
  go_enter Tryz.func136, Tryz.ntmps136
  go_wp2_with fail
  refine CC.out.mono ?_
  rintro e w1 ⟨rfl, rfl⟩
  go_wp2_with fail
  go_quiet (fail)
  go_wp2_with fail
  have hbk2 : (w1.drewN nq).heap[b]? = some (.cells #[.pointer (some ⟨b, 0, none⟩), .slice none 0 0] 154 (0, 0)) := HB.out
  refine (grow_fresh_Bum B b n _ hB hbk2 (Nat.le_trans hBw hb1.size) hn).mono ?_
  rintro e w2 ⟨rfl, hA, hb2⟩
  go_wp2_with fail
  go_end0
  exact ⟨rfl, hA, (below_drewN hb1 nq).trans hb2⟩
theorem run_min3 {P : Program} {w : World} (ts : Array TypeId) (t : TypeId) (x y z : Int) :
    (Builtin.min_ ts t #[.int .i64 x, .int .i64 y, .int .i64 z]).run P w = .ok (.int .i64 (if z < (if y < x then y else x) then z else (if y < x then y else x))) w := by
  simp [Builtin.min_, Builtin.min2]
set_option maxHeartbeats 2000000 in
set_option maxRecDepth 100000 in
theorem Mul64_one (c : Nat) (hc : c < 4294967296) (w : World) : Calls Tryz.prog 186 #[.int .u64 1, .int .u64 c] w fun e w' => e = .returned (.tuple #[.int .u64 0, .int .u64 c]) ∧ w = w' := by
  have e1 : bits .and .u64 1 4294967295 = 1 := by decide
  have e2 : bits .and .u64 (c : Int) 4294967295 = (c : Int) := by
    have := u64_and_nat c 4294967295 (by omega) (by decide)
    rw [nat_mask32, Nat.mod_eq_of_lt hc] at this
    exact this
  have e3 : (c : Int) / 4294967296 = 0 := by omega
  have e4 : bits .and .u64 0 4294967295 = 0 := by decide
  go_enter Tryz.func186, Tryz.ntmps186
  go_wp2
  go_ret2
  exact ⟨rfl, rfl⟩
set_option maxHeartbeats 2000000 in
set_option maxRecDepth 100000 in
theorem Mul_one (c : Nat) (hc : c < 4294967296) (w : World) : Calls Tryz.prog 173 #[.int .u64 1, .int .u64 c] w fun e w' => e = .returned (.tuple #[.int .u64 0, .int .u64 c]) ∧ w = w' := by
  go_enter Tryz.func173, Tryz.ntmps173
  go_wp2_with fail
  refine (Mul64_one c hc _).mono ?_
  rintro e w1 ⟨rfl, rfl⟩
  go_wp2_with fail
  go_ret2
  exact ⟨rfl, rfl⟩
def zeros (c : Nat) : ByteArray := ⟨(List.replicate c (0 : UInt8)).toArray⟩
set_option maxHeartbeats 4000000 in
set_option maxRecDepth 100000 in
theorem Repeat_zero (c : Nat) (hc : c ≤ 64) (w : World) : Calls Tryz.prog 159 #[.string ⟨#[0]⟩, .int .i64 c] w fun e w' => e = .returned (.string (zeros c)) ∧ Below w.heap.size w w' := by
  by_cases h0 : c = 0
  · subst h0
    go_enter Tryz.func159, Tryz.ntmps159
    go_wp2
    go_ret
    exact ⟨rfl, Below.refl _ _⟩
  · by_cases h1 : c = 1
    · subst h1
      go_enter Tryz.func159, Tryz.ntmps159
      go_wp2
      go_ret
      exact ⟨rfl, Below.refl _ _⟩
    · have hb0 : ((c : Int) == 0) = false := by rw [beq_eq_false_iff_ne]; omega
      have hb1 : ((c : Int) == 1) = false := by rw [beq_eq_false_iff_ne]; omega
      have hb2 : ¬ (c : Int) < 0 := by omega
      have hb3 : ¬ (9223372036854775807 : Int) < (c : Int) := by omega
      have hb4 : ¬ (8192 : Int) < (c : Int) := by omega
      have hb5 : decide ((9223372036854775807 : Int) < (c : Int)) = false := by simpa using (show ¬ (9223372036854775807 : Int) < (c : Int) by omega)
      have hb6 : decide ((8192 : Int) < (c : Int)) = false := by simpa using (show ¬ (8192 : Int) < (c : Int) by omega)
      have hb7 : decide ((c : Int) < 0) = false := by simp
      have hu : IntKind.u64.wrap (c : Int) = (c : Int) := by show (c : Int) % 18446744073709551616 = _; omega
      have hi : IntKind.i64.wrap (c : Int) = (c : Int) := by rw [IntKind.wrap_i64]; omega
      go_enter Tryz.func159, Tryz.ntmps159
      go_wp2_with fail
      refine (Mul_one c (by omega) _).mono ?_
      rintro e w1 ⟨rfl, rfl⟩
      go_wp2_with fail
      have b0 : Below w.heap.size w (w.alloc (.cells #[.pointer none, .slice none 0 0] 154)) := (Below.refl _ w).alloc (Nat.le_refl _) _
      refine (Grow_fresh_Bum w.heap.size w.heap.size c _ (Nat.le_refl _) (heap_alloc_new _ _) b0.size (by omega) (by omega)).mono ?_
      rintro e W1 ⟨rfl, hA, hbg⟩
      have b1 := b0.trans hbg
      have HA := Lib.hid hA
      clear hA b0 hbg
      go_wp2_with fail
      refine (WriteString_k_Bus w.heap.size w.heap.size [] ⟨#[0]⟩ _ (Lib.IsBuilderF.of (Or.inr HA.out)) (by decide) b1.size).mono ?_
      rintro e W2 ⟨rfl, h2, hb2', _⟩
      have b2 := b1.trans hb2'
      have h2' : Lib.IsBuilderF 154 5 w.heap.size w.heap.size (Lib.byteCells (List.replicate 1 (0 : UInt8))) W2 := Or.inr h2
      have H2 := Lib.hid h2'
      clear HA b1 hb2' h2 h2'
      go_wp2_with fail
      go_loopg [] (c - 1) (fun g wx => ∃ q : Nat, 1 ≤ q ∧ q + g = c ∧ Lib.IsBuilderF 154 5 w.heap.size w.heap.size (Lib.byteCells (List.replicate q (0 : UInt8))) wx ∧ Below w.heap.size w wx)
      case atStart => exact ⟨1, Nat.le_refl _, by omega, H2.out, b2⟩
      case round =>
        obtain ⟨q, hq1, hqg, hB, hbx⟩ := hrel
        clear H2 b2
        have hlen : (Lib.byteCells (List.replicate q (0 : UInt8))).length = q := by rw [Lib.byteCells_length, List.length_replicate]
        have CL := Lib.hid (Len_k w.heap.size w.heap.size _ wr hB)
        rw [hlen] at CL
        have hne : List.replicate q (0 : UInt8) ≠ [] := by
          intro e
          have := congrArg List.length e
          rw [List.length_replicate] at this
          simp at this; omega
        have CS := Lib.hid (String_full_k w.heap.size w.heap.size (List.replicate q (0 : UInt8)) wr hB hne)
        obtain ⟨S, hS⟩ : ∃ S : ByteArray, S = ⟨(List.replicate q (0 : UInt8)).toArray⟩ := ⟨_, rfl⟩
        have hSs : S.size = q := by rw [hS]; simp [ByteArray.size]
        rw [← hS] at CS
        have HS := Lib.hid hS
        have HB := Lib.hid hB
        clear hB hne hlen hS
        cases gk with
        | zero =>
          obtain rfl : q = c := by omega
          have hlt : decide ((q : Int) < (q : Int)) = false := by simp
          go_wp2_with fail
          refine CL.out.mono ?_
          rintro e W3 ⟨rfl, rfl⟩
          go_wp2_with fail
          refine CS.out.mono ?_
          rintro e W4 ⟨rfl, h4, hb4, _⟩
          go_wp2_with fail
          go_ret
          exact ⟨congrArg (fun x => Ending.returned (.string x)) HS.out, hbx.trans hb4⟩
        | succ g =>
          have hqc : q < c := by omega
          have hlt : decide ((q : Int) < (c : Int)) = true := by simpa using hqc
          obtain ⟨k, hk⟩ : ∃ k, k = min (c - q) q := ⟨_, rfl⟩
          have hk1 : 1 ≤ k := by omega
          have hk2 : k ≤ q := by omega
          have hk3 : q + k ≤ c := by omega
          have hmin : ∀ (ts : Array TypeId) (t : TypeId) (W : World), (Builtin.min_ ts t #[.int .i64 ((c : Int) - (q : Int)), .int .i64 (q : Int), .int .i64 (c : Int)]).run Tryz.prog W = .ok (.int .i64 (k : Int)) W := fun ts t W => by
            rw [run_min3]
            congr 2
            split <;> split <;> omega
          have hsub : IntKind.i64.wrap ((c : Int) - (q : Int)) = (c : Int) - (q : Int) := by rw [IntKind.wrap_i64]; omega
          have hd := fun W => run_slice_to (P := Tryz.prog) Tryz.underlying9 S k (by omega) W
          clear hk
          go_wp2_with fail
          refine CL.out.mono ?_
          rintro e W3 ⟨rfl, rfl⟩
          go_wp2_with fail
          refine CL.out.mono ?_
          rintro e W3 ⟨rfl, rfl⟩
          go_wp2_with fail
          refine CL.out.mono ?_
          rintro e W3 ⟨rfl, rfl⟩
          go_wp2_with fail
          refine CS.out.mono ?_
          rintro e W4 ⟨rfl, h4, hb4, _⟩
          go_wp2_with fail
          refine (WriteString_k_Bus w.heap.size w.heap.size _ (S.extract 0 k) _ h4 ?_ (Nat.le_trans hbx.size hb4.size)).mono ?_
          · rw [Lib.byteCells_length, List.length_replicate, ByteArray.size_extract]; omega
          rintro e W5 ⟨rfl, h5, hb5', _⟩
          go_wp2_with fail
          go_roundg (c - (q + k))
          case measure => omega
          case rel =>
            refine ⟨q + k, by omega, by omega, Or.inr ?_, (hbx.trans hb4).trans hb5'⟩
            have e : Lib.byteCells (List.replicate q (0 : UInt8)) ++ Lib.strCells (S.extract 0 k) = Lib.byteCells (List.replicate (q + k) (0 : UInt8)) := by
              rw [Lib.strCells_eq, ← Lib.byteCells_append, Lib.extract_data, HS.out]
              simp only [List.drop_zero, Nat.sub_zero]
              rw [List.take_replicate, Nat.min_eq_left hk2, List.replicate_append_replicate]
            rw [e] at h5
            exact h5
end Go.Proofs.YtlccihidedfemaaGreatDoor
set_option linter.unusedVariables false
namespace Go.Proofs.YtlccihidedfemaaGreatDoor
open Go.RowKit
attribute [local go_sem] Oper.semAt_some
theorem grownBy_set (w : World) (b i : Nat) (u : Value) : w.grownBy (w.setCell ⟨b, i, none⟩ u) (some b) :=
  ⟨rfl, rfl, rfl, by simp [World.setCell], fun k hk hr => Below.heap_setCell _ _ _ _ (fun e => hr (by rw [e]))⟩
theorem Row.turned {w w' : World} {b B : Nat} {xs : Array Value} {T : TypeId} (h : Row w B xs T) (hg : w.grownBy w' (some b)) (hne : B ≠ b) : Row w' B xs T := by
  unfold Row; rw [hg.block B h.lt (fun e => hne (by cases e; rfl))]; exact h
end Go.Proofs.YtlccihidedfemaaGreatDoor
set_option linter.unusedVariables false
namespace Go.Proofs.YtlccihidedfemaaGreatDoor
def inP (A B : List (List UInt8)) : Bool := decide (A.length < B.length ∧ B.take A.length = A)
end Go.Proofs.YtlccihidedfemaaGreatDoor
namespace Go.Proofs.YtlccihidedfemaaGreatDoor
theorem inP_iff {A B : List (List UInt8)} : inP A B = true ↔ ∃ r, r ≠ [] ∧ B = A ++ r := by
  unfold inP
  rw [decide_eq_true_eq]
  constructor
  · rintro ⟨h1, h2⟩
    refine ⟨B.drop A.length, fun e => ?_, ?_⟩
    · have := congrArg List.length e
      rw [List.length_drop] at this
      simp at this; omega
    · conv => lhs; rw [← List.take_append_drop A.length B, h2]
  · rintro ⟨r, hr, rfl⟩
    refine ⟨?_, by simp⟩
    rw [List.length_append]
    have := List.length_pos_iff.2 hr
    omega
def blkT (L : List It) (d : List UInt8) : List It := L.filter fun y => inP (cs d) (cs y.t)
theorem mem_blk {L : List It} {d : List UInt8} {y : It} : y ∈ blkT L d ↔ y ∈ L ∧ inP (cs d) (cs y.t) = true := by unfold blkT; simp
theorem order_cs {L : List It} (F : TFit L) {x y : It} (hx : x ∈ L) (hy : y ∈ L) : orderS x.t y.t = cmpP (cs x.t) (cs y.t) := by
  rw [(path_ok (F.path x hx)).pts, (path_ok (F.path y hy)).pts]; rfl
theorem it_one {L : List It} (F : TFit L) {x y : It} (hx : x ∈ L) (hy : y ∈ L) (e : x.t = y.t) : x = y := by
  have key : ∀ L : List It, Rise L → ∀ x ∈ L, ∀ y ∈ L, x.t = y.t → x = y := by
    intro L
    induction L with
    | nil => intro _ x hx; cases hx
    | cons a L ih =>
      intro h x hx y hy e
      obtain ⟨h1, h2⟩ := List.pairwise_cons.1 h
      rcases List.mem_cons.1 hx with rfl | hx' <;> rcases List.mem_cons.1 hy with rfl | hy'
      · rfl
      · exact absurd e (order_ne (h1 y hy'))
      · exact absurd e.symm (order_ne (h1 x hx'))
      · exact ih h2 x hx' y hy' e
  exact key L F.rise x hx y hy e
theorem rise_ext_it : ∀ {L M : List It}, Rise L → Rise M → (∀ y, y ∈ L ↔ y ∈ M) → L = M
  | [], [], _, _, _ => rfl
  | [], y :: M, _, _, h => absurd ((h y).2 (by simp)) (by simp)
  | x :: L, [], _, _, h => absurd ((h x).1 (by simp)) (by simp)
  | x :: L, y :: M, hL, hM, h => by
    obtain ⟨a1, a2⟩ := List.pairwise_cons.1 hL
    obtain ⟨b1, b2⟩ := List.pairwise_cons.1 hM
    have irr : ∀ z : It, orderS z.t z.t ≠ -1 := fun z e => by rw [order_self] at e; cases e
    have hxy : x = y := by
      rcases List.mem_cons.1 ((h x).1 (by simp)) with e | e
      · exact e
      · rcases List.mem_cons.1 ((h y).2 (by simp)) with e' | e'
        · exact e'.symm
        · exact absurd (order_trans (b1 x e) (a1 y e')) (irr y)
    subst hxy
    congr 1
    refine rise_ext_it a2 b2 (fun z => ⟨fun hz => ?_, fun hz => ?_⟩)
    · rcases List.mem_cons.1 ((h z).1 (List.mem_cons_of_mem _ hz)) with e | e
      · exact absurd (e ▸ a1 z hz) (irr _)
      · exact e
    · rcases List.mem_cons.1 ((h z).2 (List.mem_cons_of_mem _ hz)) with e | e
      · exact absurd (e ▸ b1 z hz) (irr _)
      · exact e
theorem in_cs {L : List It} (F : TFit L) {d : List UInt8} {x : It} (hx : x ∈ inD L d) : cs x.t = cs d ++ [lastN x.t] := (dir_iff (F.path x (mem_inD.1 hx).1)).1 (mem_inD.1 hx).2
theorem in_blk {L : List It} (F : TFit L) {d : List UInt8} {x : It} (hx : x ∈ inD L d) : inP (cs d) (cs x.t) = true := inP_iff.2 ⟨_, by simp, in_cs F hx⟩
theorem sub_blk {L : List It} (F : TFit L) {d : List UInt8} {x y : It} (hx : x ∈ inD L d) (hy : inP (cs x.t) (cs y.t) = true) : inP (cs d) (cs y.t) = true := by
  obtain ⟨r, hr, e⟩ := inP_iff.1 hy
  exact inP_iff.2 ⟨[lastN x.t] ++ r, by simp, by rw [e, in_cs F hx, List.append_assoc]⟩
theorem blk_eq {L : List It} (F : TFit L) (d : List UInt8) : blkT L d = (inD L d).flatMap fun x => x :: blkT L x.t := by
  refine rise_ext_it (F.rise.sublist List.filter_sublist) ?_ (fun y => ?_)
  · unfold Rise
    rw [List.pairwise_flatMap]
    refine ⟨fun x hx => List.pairwise_cons.2 ⟨fun y hy => ?_, F.rise.sublist List.filter_sublist⟩, ?_⟩
    · obtain ⟨h1, h2⟩ := mem_blk.1 hy
      obtain ⟨r, hr, e⟩ := inP_iff.1 h2
      rw [order_cs F (mem_inD.1 hx).1 h1, e]
      exact cmp_below _ hr
    · have hs : (inD L d).Pairwise fun a b => orderS a.t b.t = -1 := F.rise.sublist List.filter_sublist
      refine hs.imp_of_mem fun {x1 x2} m1 m2 ho a ha b hb => ?_
      have hl : ∀ {x z : It}, x ∈ inD L d → z ∈ x :: blkT L x.t → z ∈ L ∧ ∃ r, cs z.t = cs d ++ lastN x.t :: r := fun {x z} hx hz => by
        rcases List.mem_cons.1 hz with e | hz
        · subst e; exact ⟨(mem_inD.1 hx).1, [], in_cs F hx⟩
        · obtain ⟨h1, h2⟩ := mem_blk.1 hz
          obtain ⟨r, hr, e⟩ := inP_iff.1 h2
          exact ⟨h1, r, by rw [e, in_cs F hx, List.append_assoc]; rfl⟩
      obtain ⟨ha1, ra, ea⟩ := hl m1 ha
      obtain ⟨hb1, rb, eb⟩ := hl m2 hb
      rw [order_cs F (mem_inD.1 m1).1 (mem_inD.1 m2).1, in_cs F m1, in_cs F m2, cmp_app] at ho
      rw [order_cs F ha1 hb1, ea, eb, cmp_app, cmp_cons, if_pos (cmp_names ho)]
  · rw [mem_blk, List.mem_flatMap]
    constructor
    · rintro ⟨h1, h2⟩
      obtain ⟨r, hr, e⟩ := inP_iff.1 h2
      cases r with
      | nil => exact absurd rfl hr
      | cons n r =>
        cases r with
        | nil =>
          refine ⟨y, mem_inD.2 ⟨h1, (dir_of (F.path y h1) e).1⟩, by simp⟩
        | cons m r =>
          have e' : cs y.t = (cs d ++ [n]) ++ (m :: r) := by rw [e]; simp
          obtain ⟨z, hz, hzc, _⟩ := above_dir F (cs d ++ [n]) (by simp) r.length (m :: r) y rfl h1 e'
          refine ⟨z, mem_inD.2 ⟨hz, (dir_of (F.path z hz) hzc).1⟩, List.mem_cons_of_mem _ (mem_blk.2 ⟨h1, inP_iff.2 ⟨m :: r, by simp, by rw [e', hzc]⟩⟩)⟩
    · rintro ⟨x, hx, hy⟩
      rcases List.mem_cons.1 hy with e | hy
      · subst e; exact ⟨(mem_inD.1 hx).1, in_blk F hx⟩
      · obtain ⟨h1, h2⟩ := mem_blk.1 hy
        exact ⟨h1, sub_blk F hx h2⟩
theorem file_blk {L : List It} (F : TFit L) {x : It} (hx : x ∈ L) (hd : x.d = false) : blkT L x.t = [] := by
  refine List.filter_eq_nil_iff.2 fun y hy hp => ?_
  obtain ⟨r, hr, e⟩ := inP_iff.1 hp
  obtain ⟨m, r', rfl⟩ := List.exists_cons_of_ne_nil hr
  obtain ⟨z, hz, hzc, hzd⟩ := above_dir F (cs x.t) (path_ok (F.path x hx)).nil r'.length (m :: r') y rfl hy e
  have := it_one F hz hx (cs_inj hzc)
  rw [this, hd] at hzd; cases hzd
theorem blk_top {L : List It} (F : TFit L) : blkT L [] = L := by
  refine List.filter_eq_self.2 fun y hy => inP_iff.2 ⟨cs y.t, (path_ok (F.path y hy)).nil, rfl⟩
def OffT (d : List UInt8) (Post : List It) : Prop := ∀ y ∈ Post.head?, inP (cs d) (cs y.t) = false
theorem off_dir {L : List It} (F : TFit L) {d : List UInt8} {Post : List It} (h : OffT d Post) {y : It} (hy : y ∈ Post.head?) (hm : y ∈ L) : dirS y.t ≠ d := fun e => by
  have h1 := h y hy
  rw [inP_iff.2 ⟨[lastN y.t], by simp, (dir_iff (F.path y hm)).1 e⟩] at h1; cases h1
theorem off_next {L : List It} (F : TFit L) {d : List UInt8} {x : It} {C Post : List It} (h : OffT d Post) (hx : x ∈ inD L d) (hC : ∀ y ∈ C, y ∈ inD L d) : OffT x.t ((C.flatMap fun y => y :: blkT L y.t) ++ Post) := by
  cases C with
  | nil =>
    intro y hy
    have h1 := h y hy
    rcases hb : inP (cs x.t) (cs y.t) with _ | _
    · rfl
    · rw [sub_blk F hx hb] at h1; cases h1
  | cons z C =>
    intro y hy
    simp at hy
    subst hy
    refine decide_eq_false fun hh => ?_
    have := hh.1
    rw [in_cs F hx, in_cs F (hC z (by simp)), List.length_append, List.length_append] at this
    simp at this
theorem off_nil (d : List UInt8) : OffT d [] := fun y hy => by cases hy
end Go.Proofs.YtlccihidedfemaaGreatDoor
set_option linter.unusedVariables false
namespace Go.Proofs.YtlccihidedfemaaGreatDoor
open Go.RowKit
attribute [local go_sem] Oper.semAt_some
def smO (x : Ob) : Bool := decide (x.k.size ≤ 100)
def smallOB (L : List Ob) : Bool := decide (L.length ≤ 300) && L.all smO
theorem smallO_len {L : List Ob} (h : smallOB L = true) : L.length ≤ 300 := by
  unfold smallOB at h
  simp only [Bool.and_eq_true, decide_eq_true_eq] at h
  exact h.1
theorem smO_step {L : List Ob} {k : Nat} (hk : k < L.length) (h : (L.take k).all smO = true) (hx : smO L[k] = true) : (L.take (k + 1)).all smO = true := by
  rw [List.take_succ_eq_append_getElem hk, List.all_append, h]; simpa using hx
theorem smO_no {L : List Ob} {k : Nat} (hk : k < L.length) (hx : smO L[k] = false) : smallOB L = false := by
  have : L.all smO = false := by
    rw [← Bool.not_eq_true]
    intro h
    rw [List.all_eq_true.1 h _ (List.getElem_mem hk)] at hx; cases hx
  unfold smallOB; rw [this, Bool.and_false]
set_option maxRecDepth 100000 in
set_option maxHeartbeats 4000000 in
theorem smallO_any (v : Value) (L : List Ob) (w : World) (h : IsObs w v L) :
    Calls Tryz.prog 15 #[v] w fun e w' => e = .returned (.bool (smallOB L)) ∧ Below w.heap.size w w' := by
  have HI := Lib.hid h
  obtain ⟨hm, a, cap, rfl, _, _⟩ := h
  have hmm : L.length ≤ 9223372036854775807 := by unfold maxLen at hm; omega
  clear hm
  by_cases h3 : L.length ≤ 300
  · have q3 : decide ((300 : Int) < (L.length : Int)) = false := by simp; omega
    go_enter Tryz.func15, Tryz.ntmps15
    go_wp2
    go_loopw [10] (fun i wr => ∃ k : Nat, k ≤ L.length ∧ i = .int .i64 k ∧ (L.take k).all smO = true ∧ Below w.heap.size w wr) (fun i _ => L.length - (intOf i).toNat)
    case atStart => exact ⟨0, Nat.zero_le _, rfl, rfl, Below.refl _ _⟩
    case round =>
      obtain ⟨k, hk, rfl, hS, hB⟩ := hrel
      have HS := Lib.hid hS; clear hS
      by_cases hlt : k < L.length
      · obtain ⟨_, _, _, e, _, hc⟩ := HI.out.stays hB
        cases e
        obtain ⟨b1, off, rfl, hbl, g⟩ := hc (by omega)
        obtain ⟨c0, c1⟩ := g k hlt
        clear g hc
        have hbk : decide ((k : Int) < (L.length : Int)) = true := by simpa using (show (k : Int) < L.length by omega)
        have hst := smO_step hlt HS.out
        have hno := smO_no hlt
        obtain ⟨x, hx⟩ : ∃ x, L[k]'hlt = x := ⟨_, rfl⟩
        rw [hx] at c0 c1 hst hno
        have hba := (Below.refl wr.heap.size wr).alloc (Nat.le_refl _) (.cells #[.string x.k, .string x.r] 33)
        have hB2 := below_step hB hba
        clear hx hba
        by_cases h1 : x.k.size ≤ 100
        · have q1 : decide ((100 : Int) < (x.k.size : Int)) = false := by simp; omega
          have HST := Lib.hid (hst (decide_eq_true h1))
          clear hst hno h1
          go_wp2
          go_roundw
          case rel => exact ⟨k + 1, by omega, by go_num, HST.out, hB2⟩
          case measure => simp [intOf]; omega
        · have q1 : decide ((100 : Int) < (x.k.size : Int)) = true := by simp; omega
          have HN := Lib.hid (hno (decide_eq_false h1))
          clear hst hno h1
          go_wp2
          go_ret
          exact ⟨by rw [HN.out]; rfl, hB2⟩
      · have hge : decide ((k : Int) < (L.length : Int)) = false := by simp; omega
        have HN : Hid (smallOB L = true) := Lib.hid (by
          have := HS.out
          rw [List.take_of_length_le (by omega)] at this
          unfold smallOB; rw [this, decide_eq_true h3]; rfl)
        go_wp2
        go_ret
        exact ⟨by rw [HN.out]; rfl, hB⟩
  · have q3 : decide ((300 : Int) < (L.length : Int)) = true := by simp; omega
    have HN : Hid (smallOB L = false) := Lib.hid (by unfold smallOB; rw [decide_eq_false h3]; rfl)
    go_enter Tryz.func15, Tryz.ntmps15
    go_wp2
    go_ret
    exact ⟨by rw [HN.out]; rfl, Below.refl _ _⟩
end Go.Proofs.YtlccihidedfemaaGreatDoor

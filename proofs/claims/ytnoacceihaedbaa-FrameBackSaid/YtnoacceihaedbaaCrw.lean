/-
  Contracts over this translation: crc's bit, byte, fold.
-/
import Derived.WalkKit
import Derived.LoopTactic
import Derived.Outline
import Derived.Laws.BitsAllLaws
import Derived.Lib.Hide
import Derived.Below
import Derived.Laws.Rows
import Derived.Laws.CopyOwn
import Derived.Test.YtnoacceihaedbaaProg
import Derived.Test.YtnoacceihaedbaaCrm
set_option linter.unusedVariables false
namespace Go.Proofs.Ytnoacceihaedbaa
open Go.RowKit

theorem ret_int {k : IntKind} {a b : Int} (h : a = b) : Ending.returned (.int k a) = .returned (.int k b) := by rw [h]

theorem and1 (n : Nat) (h : U32 n) : bits .and .u32 (n : Int) 1 = ((n % 2 : Nat) : Int) := by
  have := u32_and_nat n 1 h (by decide)
  rw [nat_mask1] at this; exact this
theorem and15 (n : Nat) (h : U32 n) : bits .and .u32 (n : Int) 15 = ((n % 16 : Nat) : Int) := by
  have := u32_and_nat n 15 h (by decide)
  rw [nat_mask4] at this; exact this
/-- Half a byte done, as the walk spells it. -/
def halfI (x : Int) : Int := bits .xor .u32 (x / 16) ((bits4 (bits .and .u32 x 15).toNat : Nat) : Int)
theorem halfI_eq (n : Nat) (h : U32 n) : halfI n = ((bits4 n : Nat) : Int) := by
  unfold halfI
  rw [and15 n h, show ((n % 16 : Nat) : Int).toNat = n % 16 from Int.toNat_natCast _, show (n : Int) / 16 = ((n / 16 : Nat) : Int) by omega,
    u32_xor_nat _ _ (by unfold U32 at h; omega) (bits4_lt (by unfold U32; omega)), half_step]

theorem ret_val {k : IntKind} {a b : Int} (h : a = b) : Value.int k a = .int k b := by rw [h]
set_option maxRecDepth 100000 in
set_option maxHeartbeats 1000000 in
theorem bitGone_any (n : Nat) (hn : U32 n) (w : World) : Calls Try.prog 46 #[.int .u32 n] w fun e w' => e = .returned (.int .u32 (bitG n)) ∧ w = w' := by
  have hn' : n < 4294967296 := hn
  by_cases h : n % 2 = 1
  · have hb : (bits .and .u32 (n : Int) 1 == 1) = true := by rw [and1 n hn, h]; rfl
    have H := Lib.hid h; clear h
    go_enter Try.func46, Try.ntmps46
    go_wp2
    go_ret
    refine ⟨ret_int ?_, rfl⟩
    rw [show (n : Int) / 2 = ((n / 2 : Nat) : Int) by omega]
    unfold bitG
    rw [if_pos H.out]
    exact u32_xor_nat (n / 2) 2197175160 (by omega) (by decide)
  · have hb : (bits .and .u32 (n : Int) 1 == 1) = false := by rw [and1 n hn, show n % 2 = 0 by omega]; rfl
    have H := Lib.hid h; clear h
    go_enter Try.func46, Try.ntmps46
    go_wp2
    go_ret
    refine ⟨ret_int ?_, rfl⟩
    unfold bitG
    rw [if_neg H.out]
    omega

set_option maxRecDepth 100000 in
set_option maxHeartbeats 1000000 in
theorem step_any (B : Nat) (r b : Nat) (hr : U32 r) (hb : b < 256) (w : World) (hc : ∀ h : Nat, h < 16 → w.cell? ⟨B, h, none⟩ = some (.int .u32 (bits4 h))) :
    Calls Try.prog 44 #[.int .u32 r, .int .u8 b, .pointer (some ⟨B, 0, none⟩)] w fun e w' => e = .returned (.int .u32 (bits8 (r ^^^ b))) ∧ w = w' := by
  have hr' : r < 4294967296 := hr
  have ex : bits .xor .u32 (r : Int) (b : Int) = ((r ^^^ b : Nat) : Int) := u32_xor_nat r b hr (by omega)
  have hx := xor_u32 hr (show U32 b by unfold U32; omega)
  have h4 := bits4_lt hx
  have e1 := halfI_eq (r ^^^ b) hx
  have e2 := halfI_eq (bits4 (r ^^^ b)) h4
  have i1 : 0 ≤ bits .and .u32 (bits .xor .u32 (r : Int) (b : Int)) 15 ∧ bits .and .u32 (bits .xor .u32 (r : Int) (b : Int)) 15 < 16 := by
    rw [ex, and15 _ hx]; omega
  have i2 : 0 ≤ bits .and .u32 (halfI (bits .xor .u32 (r : Int) (b : Int))) 15 ∧ bits .and .u32 (halfI (bits .xor .u32 (r : Int) (b : Int))) 15 < 16 := by
    rw [ex, e1, and15 _ h4]; omega
  unfold halfI at i2
  have EX := Lib.hid ex; have E1 := Lib.hid e1; have E2 := Lib.hid e2
  clear ex e1 e2
  go_enter Try.func44, Try.ntmps44
  go_wp2
  go_ret
  refine ⟨ret_int ?_, rfl⟩
  show halfI (halfI (bits .xor .u32 (r : Int) (b : Int))) = _
  rw [EX.out, E1.out, E2.out]; rfl

theorem crcF_snoc (r : Nat) (l : List UInt8) (b : UInt8) : crcF r (l ++ [b]) = bits8 (crcF r l ^^^ b.toNat) := by
  rw [crcF_append]; rfl
theorem take_snoc (s : ByteArray) (k : Nat) (h : k < s.size) : s.data.toList.take (k + 1) = s.data.toList.take k ++ [s[k]] := by
  rw [List.take_succ_eq_append_getElem (by simpa using h)]; rfl

set_option maxRecDepth 100000 in
set_option maxHeartbeats 1000000 in
theorem fold_any (B : Nat) (r : Nat) (hr : U32 r) (s : ByteArray) (hs : s.size ≤ maxLen) (w : World) (hc : ∀ h : Nat, h < 16 → w.cell? ⟨B, h, none⟩ = some (.int .u32 (bits4 h))) :
    Calls Try.prog 39 #[.int .u32 r, .string s, .func (.func 44) #[] #[.pointer (some ⟨B, 0, none⟩)]] w
      fun e w' => e = .returned (.int .u32 (crcF r s.data.toList)) ∧ w = w' := by
  unfold maxLen at hs
  have HC := Lib.hid hc; clear hc
  go_enter Try.func39, Try.ntmps39
  go_wp2
  go_loop [0, 10] (fun x i => ∃ k : Nat, k ≤ s.size ∧ i = .int .i64 k ∧ x = .int .u32 (crcF r (s.data.toList.take k))) (fun _ i => s.size - (intOf i).toNat)
  case atStart => exact ⟨0, Nat.zero_le _, rfl, rfl⟩
  case round =>
    obtain ⟨k, hk, rfl, rfl⟩ := hrel
    by_cases hlt : k < s.size
    · have hd := crcF_lt hr (s.data.toList.take k)
      have e : crcF r (s.data.toList.take (k + 1)) = bits8 (crcF r (s.data.toList.take k) ^^^ s[k].toNat) := by rw [take_snoc s k hlt, crcF_snoc]
      have E := Lib.hid e; clear e
      have hu := s[k].toNat_lt
      go_wp2_with fail
      refine (step_any B _ _ hd hu _ HC.out).mono ?_
      rintro e w1 ⟨rfl, rfl⟩
      go_wp2
      go_round
      case rel => exact ⟨k + 1, by omega, by go_num, by rw [E.out]⟩
      case measure => simp [intOf]; omega
    · go_wp2
      go_ret
      exact ⟨ret_int (by rw [List.take_of_length_le (by simp; omega)]), rfl⟩

/-- A table of halves, of which the first k are laid. -/
def tabRow (k : Nat) : Array Value := ((List.range 16).map fun h => Value.int .u32 (if h < k then ((bits4 h : Nat) : Int) else 0)).toArray
theorem tabRow_size (k : Nat) : (tabRow k).size = 16 := by simp [tabRow]
theorem tabRow_get (k h : Nat) (hh : h < 16) : (tabRow k)[h]? = some (.int .u32 (if h < k then ((bits4 h : Nat) : Int) else 0)) := by
  simp [tabRow, hh]
theorem tabRow_set (k : Nat) (hk : k < 16) : (tabRow k).setIfInBounds k (.int .u32 ((bits4 k : Nat) : Int)) = tabRow (k + 1) := by
  apply Array.ext_getElem?
  intro i
  rw [Array.getElem?_setIfInBounds, tabRow_size]
  by_cases h : i < 16
  · rw [tabRow_get _ _ h, tabRow_get _ _ h]
    by_cases e : k = i
    · subst e; simp [hk]
    · rw [if_neg e]
      by_cases hi : i < k
      · rw [if_pos hi, if_pos (by omega)]
      · rw [if_neg hi, if_neg (by omega)]
  · rw [Array.getElem?_eq_none (by rw [tabRow_size]; omega), Array.getElem?_eq_none (by rw [tabRow_size]; omega)]
    by_cases e : k = i
    · omega
    · rw [if_neg e]

def bitN : Nat → Nat → Nat
  | 0, n => n
  | j + 1, n => bitG (bitN j n)
theorem bitN_lt (j : Nat) {n : Nat} (h : U32 n) : U32 (bitN j n) := by
  induction j with
  | zero => exact h
  | succ j ih => exact bitG_lt ih
def TabAt (w : World) (B : Nat) (k : Nat) (W : World) : Prop := W.heap[B]? = some (.cells (tabRow k) 74 (0, 0)) ∧ W.heap[B - 1]? = some (.cells (tabRow 0) 74 (0, 0)) ∧ Below w.heap.size w W ∧ W.heap.size = w.heap.size + 2 ∧ B = w.heap.size + 1
theorem TabAt.cell {w W : World} {B k : Nat} (h : TabAt w B k W) (i : Nat) (hi : i < 16) : W.cell? ⟨B, i, none⟩ = some (.int .u32 (if i < k then ((bits4 i : Nat) : Int) else 0)) := by
  rw [cell_of_row W B i _ _ _ h.1, tabRow_get _ _ hi]
theorem TabAt.free {w W : World} {B k : Nat} (h : TabAt w B k W) (i : Nat) : W.frozen? ⟨B, i, none⟩ = false := frozen_of_row W B i _ _ h.1
theorem TabAt.set {w W : World} {B k : Nat} (h : TabAt w B k W) (hk : k < 16) : TabAt w B (k + 1) (W.setCell ⟨B, k, none⟩ (.int .u32 ((bits4 k : Nat) : Int))) := by
  obtain ⟨h1, h2, h3, h4, h5⟩ := h
  refine ⟨?_, ?_, h3.setCell (by show w.heap.size ≤ B; omega) _, by simp [h4], h5⟩
  · rw [heap_setCell_same W B k _ _ _ h1, tabRow_set k hk]
  · rw [heap_setCell_other _ _ _ _ (by show B - 1 ≠ B; omega)]; exact h2
theorem TabAt.init (w : World) (o : Obj) (ho : o = .cells (tabRow 0) 74) : TabAt w (w.heap.size + 1) 0 ((w.alloc o).alloc o) := by
  subst ho
  refine ⟨heap_alloc2_new _ _ _, ?_, ((Below.refl _ _).alloc (Nat.le_refl _) _).alloc (by simp) _, by simp, rfl⟩
  exact heap_alloc2_old _ _ _

set_option maxRecDepth 100000 in
set_option maxHeartbeats 1000000 in
theorem halfTable_any (w : World) :
    Calls Try.prog 43 #[] w fun e w' => e = .returned (.agg (tabRow 16)) ∧ Below w.heap.size w w' := by
  have H0 := TabAt.init w _ rfl
  obtain ⟨B, hB⟩ : ∃ B, B = w.heap.size + 1 := ⟨_, rfl⟩
  rw [← hB] at H0
  go_enter Try.func43, Try.ntmps43
  go_wp2
  go_loopw [4] (fun i wr => ∃ k : Nat, k ≤ 16 ∧ i = .int .i64 k ∧ TabAt w (w.heap.size + 1) k wr) (fun i _ => 16 - (intOf i).toNat)
  case atStart => exact ⟨0, by omega, rfl, TabAt.init w _ rfl⟩
  case round =>
    obtain ⟨k, hk, rfl, hT⟩ := hrel
    obtain ⟨wo, rfl⟩ : ∃ wo : World, wo = wr := ⟨_, rfl⟩
    have HT := Lib.hid hT; clear hT
    by_cases hlt : k < 16
    · have hbk : decide ((k : Int) < 16) = true := by simpa using (show (k : Int) < 16 by omega)
      go_wp2
      go_loop [3, 9] (fun x i => ∃ j : Nat, j ≤ 4 ∧ i = .int .i64 j ∧ x = .int .u32 (bitN j k)) (fun _ i => 4 - (intOf i).toNat)
      case atStart => exact ⟨0, by omega, rfl, by go_num⟩
      case round =>
        obtain ⟨j, hj, rfl, rfl⟩ := hrel
        have hu := bitN_lt j (show U32 k by unfold U32; omega)
        by_cases hjl : j < 4
        · have hbj : decide ((j : Int) < 4) = true := by simpa using (show (j : Int) < 4 by omega)
          go_wp2_with (go_at_call 46; refine (bitGone_any _ hu _).mono ?_; rintro e w1 ⟨rfl, rfl⟩)
          go_round
          case rel => exact ⟨j + 1, by omega, by go_num, rfl⟩
          case measure => simp [intOf]; omega
        · obtain rfl : j = 4 := by omega
          have hc := HT.out.cell k hlt
          have hf := HT.out.free k
          go_wp2
          go_roundw
          case rel => exact ⟨k + 1, by omega, by go_num, HT.out.set hlt⟩
          case measure => simp [intOf]; omega
    · obtain rfl : k = 16 := by omega
      have hz : tabRow 16 = tabRow 16 := rfl
      go_wp2_with (first
        | refine wpList_load_row rfl 74 _ rfl (w.heap.size + 1) rfl 74 (tabRow 16) (0, 0) _ HT.out.1 Try.underlying74 rfl (by rw [tabRow_size]; kernel_rfl) ?_
        | refine wpList_store_row rfl 74 _ _ rfl w.heap.size (tabRow 16) rfl rfl 74 (tabRow 0) HT.out.2.1 (by rw [tabRow_size]; kernel_rfl) (by rw [tabRow_size, tabRow_size]) (by simp [tabRow, Value.oneCell']) ?_)
      refine bodyPost_ret (v := .agg (tabRow 16)) (results_cell_row rfl _ _ w.heap.size 74 (tabRow 16) (0, 0) _ rfl (setRow_heap _ _ _ _ _ _ HT.out.2.1) Try.underlying74 rfl (by rw [tabRow_size]; kernel_rfl)) rfl ⟨rfl, below_setRow HT.out.2.2.1 (Nat.le_refl _) _⟩

/-- A closure over a table of halves that is all laid. -/
def StepMade (w : World) (e : Ending) (w' : World) : Prop :=
  ∃ B : Nat, e = .returned (.func (.func 44) #[] #[.pointer (some ⟨B, 0, none⟩)]) ∧ w'.heap[B]? = some (.cells (tabRow 16) 74 (0, 0)) ∧ Below w.heap.size w w'

set_option maxRecDepth 100000 in
set_option maxHeartbeats 1000000 in
theorem byteStep_any (w : World) : Calls Try.prog 40 #[] w (StepMade w) := by
  go_enter Try.func40, Try.ntmps40
  go_wp2_with fail
  refine (halfTable_any _).mono ?_
  rintro e w1 ⟨rfl, hb1⟩
  go_wp2_with (refine wpList_store_row rfl 74 _ _ rfl w1.heap.size (tabRow 16) rfl rfl 74 (tabRow 0) (heap_alloc_new _ _) (by rw [tabRow_size]; kernel_rfl) (by rw [tabRow_size, tabRow_size]) (by simp [tabRow, Value.oneCell']) ?_)
  go_ret
  exact ⟨w1.heap.size, rfl, setRow_heap _ _ (tabRow 0) _ _ _ (heap_alloc_new _ _), below_setRow (hb1.alloc hb1.size _) hb1.size _⟩

theorem tab_cells {B : Nat} {W : World} (h : W.heap[B]? = some (.cells (tabRow 16) 74 (0, 0))) : ∀ i : Nat, i < 16 → W.cell? ⟨B, i, none⟩ = some (.int .u32 (bits4 i)) := fun i hi => by
  rw [cell_of_row W B i _ _ _ h, tabRow_get _ _ hi, if_pos hi]

theorem not32 (n : Nat) (h : U32 n) : bits .xor .u32 IntKind.u32.max (n : Int) = ((4294967295 - n : Nat) : Int) := by
  have := u32_xor_nat 4294967295 n (by decide) h
  rw [inv_xor h]; exact this
set_option maxRecDepth 100000 in
set_option maxHeartbeats 1000000 in
theorem More_any (c : Nat) (hc : U32 c) (s : ByteArray) (hs : s.size ≤ maxLen) (w : World) :
    Calls Try.prog 34 #[.int .u32 c, .string s] w fun e w' => e = .returned (.int .u32 (crcMore c s.data.toList)) ∧ Below w.heap.size w w' := by
  have hf := crcF_lt (inv_lt c) s.data.toList
  go_enter Try.func34, Try.ntmps34
  go_wp2_with fail
  refine (byteStep_any _).mono ?_
  rintro e w1 ⟨B, rfl, hB, hb1⟩
  have HB := Lib.hid hB; clear hB
  go_wp2_with fail
  rw [not32 c hc]
  refine (fold_any B _ (inv_lt c) s hs _ (tab_cells HB.out)).mono ?_
  rintro e w2 ⟨rfl, rfl⟩
  go_wp2
  go_ret
  exact ⟨ret_int (not32 _ hf), hb1⟩

set_option maxRecDepth 100000 in
set_option maxHeartbeats 1000000 in
theorem Sum_any (s : ByteArray) (hs : s.size ≤ maxLen) (w : World) :
    Calls Try.prog 26 #[.string s] w fun e w' => e = .returned (.int .u32 (crcMore 0 s.data.toList)) ∧ Below w.heap.size w w' := by
  go_enter Try.func26, Try.ntmps26
  go_wp2_with fail
  refine (More_any 0 (by unfold U32; omega) s hs _).mono ?_
  rintro e w1 ⟨rfl, hb⟩
  go_wp2
  go_ret
  exact ⟨rfl, hb⟩

set_option maxRecDepth 100000 in
set_option maxHeartbeats 1000000 in
theorem refMore_any (c : Nat) (hc : U32 c) (s : ByteArray) (hs : s.size ≤ maxLen) (w : World) :
    Calls Try.prog 28 #[.int .u32 c, .string s] w fun e w' => e = .returned (.int .u32 (crcMore c s.data.toList)) ∧ w = w' := by
  unfold maxLen at hs
  have hc' : c < 4294967296 := hc
  have hi : ((4294967295 - c : Nat) : Int) = 4294967295 - (c : Int) := by omega
  have HI := Lib.hid hi; clear hi
  go_enter Try.func28, Try.ntmps28
  go_wp2
  go_loop [0, 5] (fun x i => ∃ k : Nat, k ≤ s.size ∧ i = .int .i64 k ∧ x = .int .u32 (crcF (4294967295 - c) (s.data.toList.take k))) (fun _ i => s.size - (intOf i).toNat)
  case atStart => exact ⟨0, Nat.zero_le _, rfl, ret_val HI.out.symm⟩
  case round =>
    obtain ⟨k, hk, rfl, rfl⟩ := hrel
    by_cases hlt : k < s.size
    · have hbk : decide ((k : Int) < (s.size : Int)) = true := by simpa using (show (k : Int) < s.size by omega)
      have hd := crcF_lt (inv_lt c) (s.data.toList.take k)
      have hx := xor_u32 hd (byte_u32 s[k])
      have e : crcF (4294967295 - c) (s.data.toList.take (k + 1)) = bits8 (crcF (4294967295 - c) (s.data.toList.take k) ^^^ s[k].toNat) := by rw [take_snoc s k hlt, crcF_snoc]
      have e2 := u32_xor_nat _ _ hd (byte_u32 s[k])
      have hsb := s[k].toNat_lt
      have E := Lib.hid e; have E2 := Lib.hid e2; clear e e2
      go_wp2
      go_loop [0, 6] (fun x i => ∃ j : Nat, j ≤ 8 ∧ i = .int .i64 j ∧ x = .int .u32 (bitN j (crcF (4294967295 - c) (s.data.toList.take k) ^^^ s[k].toNat))) (fun _ i => 8 - (intOf i).toNat)
      case atStart => exact ⟨0, by omega, rfl, ret_val E2.out⟩
      case round =>
        obtain ⟨j, hj, rfl, rfl⟩ := hrel
        have hu := bitN_lt j hx
        obtain ⟨n, hn⟩ : ∃ n, n = bitN j (crcF (4294967295 - c) (s.data.toList.take k) ^^^ s[k].toNat) := ⟨_, rfl⟩
        rw [← hn] at hu ⊢
        have hu' : n < 4294967296 := hu
        have HN := Lib.hid hn; clear hn
        by_cases hjl : j < 8
        · have hbj : decide ((j : Int) < 8) = true := by simpa using (show (j : Int) < 8 by omega)
          by_cases h2 : n % 2 = 1
          · have hb2 : ((n : Int) % 2 == 1) = true := by rw [show (n : Int) % 2 = 1 by omega]; rfl
            have H2 := Lib.hid h2; clear h2
            go_wp2
            go_round
            case rel => exact ⟨j + 1, by omega, by go_num, ret_val (by rw [bitN, ← HN.out, bitG, if_pos H2.out, show (n : Int) / 2 = ((n / 2 : Nat) : Int) by omega]; exact u32_xor_nat (n / 2) 2197175160 (by omega) (by decide))⟩
            case measure => simp [intOf]; omega
          · have hb2 : ((n : Int) % 2 == 1) = false := by rw [show (n : Int) % 2 = 0 by omega]; rfl
            have H2 := Lib.hid h2; clear h2
            go_wp2
            go_round
            case rel => exact ⟨j + 1, by omega, by go_num, ret_val (by rw [bitN, ← HN.out, bitG, if_neg H2.out]; omega)⟩
            case measure => simp [intOf]; omega
        · obtain rfl : j = 8 := by omega
          go_wp2
          go_round
          case rel => exact ⟨k + 1, by omega, by go_num, by rw [E.out, HN.out]; rfl⟩
          case measure => simp [intOf]; omega
    · have hd := crcF_lt (inv_lt c) s.data.toList
      unfold U32 at hd
      have e : crcF (4294967295 - c) (s.data.toList.take k) = crcF (4294967295 - c) s.data.toList := by rw [List.take_of_length_le (by simp; omega)]
      rw [e]
      clear e
      go_wp2
      go_ret
      exact ⟨ret_int (by unfold crcMore; omega), rfl⟩

set_option maxRecDepth 100000 in
set_option maxHeartbeats 1000000 in
theorem refSum_any (s : ByteArray) (hs : s.size ≤ maxLen) (w : World) :
    Calls Try.prog 19 #[.string s] w fun e w' => e = .returned (.int .u32 (crcMore 0 s.data.toList)) ∧ w = w' := by
  go_enter Try.func19, Try.ntmps19
  go_wp2_with fail
  refine (refMore_any 0 (by unfold U32; omega) s hs _).mono ?_
  rintro e w1 ⟨rfl, rfl⟩
  go_wp2
  go_ret
  exact ⟨rfl, rfl⟩
end Go.Proofs.Ytnoacceihaedbaa

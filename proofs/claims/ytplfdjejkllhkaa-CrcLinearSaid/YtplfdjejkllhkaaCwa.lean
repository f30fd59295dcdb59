/-
  The statements of layer 2 as walks over this translation: each law answers true, and nothing that was there is written.
-/
import Derived.Test.YtplfdjejkllhkaaCrb
import Derived.Test.YtplfdjejkllhkaaLaw
set_option linter.unusedVariables false
namespace Go.Proofs.Ytplfdjejkllhkaa
open Go.RowKit

theorem sum_ex : crcMore 0 [49, 50, 51, 52, 53, 54, 55, 56, 57] = 3808858755 := by decide +kernel
theorem ex_sum (w : World) : Calls Try.prog 9 #[.string ⟨#[49, 50, 51, 52, 53, 54, 55, 56, 57]⟩] w fun e w' => e = .returned (.int .u32 3808858755) ∧ Below w.heap.size w w' :=
  (Sum_any ⟨#[49, 50, 51, 52, 53, 54, 55, 56, 57]⟩ (by decide) w).mono fun e w' ⟨he, hb⟩ => ⟨by rw [he]; exact ret_int (by exact congrArg Int.ofNat sum_ex), hb⟩
theorem ex_none (w : World) : Calls Try.prog 9 #[.string ⟨#[]⟩] w fun e w' => e = .returned (.int .u32 0) ∧ Below w.heap.size w w' :=
  (Sum_any ⟨#[]⟩ (by decide) w).mono fun e w' ⟨he, hb⟩ => ⟨by rw [he]; rfl, hb⟩

set_option maxRecDepth 100000 in
set_option maxHeartbeats 1000000 in
theorem awake_any (w : World) : Calls Try.prog 8 #[] w fun e w' => e = .returned (.bool true) ∧ Below w.heap.size w w' := by
  go_enter Try.func8, Try.ntmps8
  go_wp2_with fail
  refine (ex_sum _).mono ?_
  rintro e w1 ⟨rfl, hb1⟩
  go_wp2_with fail
  refine (ex_none _).mono ?_
  rintro e w2 ⟨rfl, hb2⟩
  go_wp2
  go_ret
  exact ⟨rfl, below_step hb1 hb2⟩

set_option maxRecDepth 100000 in
set_option maxHeartbeats 1000000 in
theorem CrcTells_walk (s : ByteArray) (hs : s.size ≤ maxLen) (c : Nat) (hc : U32 c) (w : World) :
    Calls Try.prog 3 #[.string s, .int .u32 c] w fun e w' => e = .returned (.bool true) ∧ Below w.heap.size w w' := by
  by_cases h : s.size ≤ 5000
  · go_enter Try.func3, Try.ntmps3
    go_wp2_with fail
    refine (Sum_any s hs _).mono ?_
    rintro e w1 ⟨rfl, hb1⟩
    go_wp2_with fail
    refine (refSum_any s hs _).mono ?_
    rintro e w2 ⟨rfl, rfl⟩
    go_wp2_with fail
    refine (More_any c hc s hs _).mono ?_
    rintro e w2 ⟨rfl, hb2⟩
    go_wp2_with fail
    refine (refMore_any c hc s hs _).mono ?_
    rintro e w3 ⟨rfl, rfl⟩
    go_wp2_with fail
    refine (Bytes_any c hc _).mono ?_
    rintro e w3 ⟨rfl, hb3⟩
    go_wp2_with fail
    refine (refBytes_any c hc _).mono ?_
    rintro e w4 ⟨rfl, hb4⟩
    go_wp2_with fail
    refine (awake_any _).mono ?_
    rintro e w5 ⟨rfl, hb5⟩
    go_wp2_with fail
    go_ret
    exact ⟨rfl, below_step (below_step (below_step (below_step hb1 hb2) hb3) hb4) hb5⟩
  · go_enter Try.func3, Try.ntmps3
    go_wp2_with fail
    refine (awake_any _).mono ?_
    rintro e w5 ⟨rfl, hb5⟩
    go_wp2_with fail
    go_ret
    exact ⟨rfl, hb5⟩

theorem data_app (a b : ByteArray) : (a ++ b).data.toList = a.data.toList ++ b.data.toList := by simp
theorem size_app (a b : ByteArray) : (a ++ b).size = a.size + b.size := ByteArray.size_append

set_option maxRecDepth 100000 in
set_option maxHeartbeats 1000000 in
theorem CrcParts_walk (a : ByteArray) (ha : a.size ≤ maxLen) (b : ByteArray) (hb : b.size ≤ maxLen) (c : Nat) (hc : U32 c) (w : World) :
    Calls Try.prog 4 #[.string a, .string b, .int .u32 c] w fun e w' => e = .returned (.bool true) ∧ Below w.heap.size w w' := by
  by_cases h1 : a.size ≤ 5000
  · by_cases h2 : b.size ≤ 5000
    · have hab : (a ++ b).size ≤ maxLen := by rw [size_app]; unfold maxLen; omega
      have c1 := fun w => More_any (crcMore 0 a.data.toList) (crcMore_lt _ _) b hb w
      have c2 := fun w => Sum_any (a ++ b) hab w
      have c3 := fun w => More_any (crcMore c a.data.toList) (crcMore_lt _ _) b hb w
      have c4 := fun w => More_any c hc (a ++ b) hab w
      have c5 := fun w => More_any c hc ⟨#[]⟩ (by decide) w
      rw [crcMore_append] at c1 c3
      rw [data_app] at c2 c4
      rw [show (⟨#[]⟩ : ByteArray).data.toList = [] from rfl, crcMore_nil hc] at c5
      have C1 := Lib.hid c1; have C2 := Lib.hid c2; have C3 := Lib.hid c3; have C4 := Lib.hid c4; have C5 := Lib.hid c5
      clear c1 c2 c3 c4 c5
      go_enter Try.func4, Try.ntmps4
      go_wp2_with fail
      refine (Sum_any a ha _).mono ?_
      rintro e w1 ⟨rfl, hb1⟩
      go_wp2_with fail
      refine (C1.out _).mono ?_
      rintro e w2 ⟨rfl, hb2⟩
      go_wp2_with fail
      refine (C2.out _).mono ?_
      rintro e w3 ⟨rfl, hb3⟩
      go_wp2_with fail
      refine (More_any c hc a ha _).mono ?_
      rintro e w4 ⟨rfl, hb4⟩
      go_wp2_with fail
      refine (C3.out _).mono ?_
      rintro e w5 ⟨rfl, hb5⟩
      go_wp2_with fail
      refine (C4.out _).mono ?_
      rintro e w6 ⟨rfl, hb6⟩
      go_wp2_with fail
      refine (C5.out _).mono ?_
      rintro e w7 ⟨rfl, hb7⟩
      go_wp2_with fail
      refine (awake_any _).mono ?_
      rintro e w8 ⟨rfl, hb8⟩
      go_wp2_with fail
      go_ret
      exact ⟨rfl, below_step (below_step (below_step (below_step (below_step (below_step (below_step hb1 hb2) hb3) hb4) hb5) hb6) hb7) hb8⟩
    · go_enter Try.func4, Try.ntmps4
      go_wp2_with fail
      refine (awake_any _).mono ?_
      rintro e w5 ⟨rfl, hb5⟩
      go_wp2_with fail
      go_ret
      exact ⟨rfl, hb5⟩
  · go_enter Try.func4, Try.ntmps4
    go_wp2_with fail
    refine (awake_any _).mono ?_
    rintro e w5 ⟨rfl, hb5⟩
    go_wp2_with fail
    go_ret
    exact ⟨rfl, hb5⟩

/-- A checksum's bytes, place by place. -/
def IsLe4 (c : Nat) (s : ByteArray) : Prop := s.size = 4 ∧ ∀ j (h : j < s.size), s[j].toNat = c / 256 ^ j % 256
def RetLe4 (c : Nat) (w : World) (e : Ending) (w' : World) : Prop := ∃ s, e = .returned (.string s) ∧ IsLe4 c s ∧ Below w.heap.size w w'
theorem Bytes_le4 (c : Nat) (hc : U32 c) (w : World) : Calls Try.prog 13 #[.int .u32 c] w (RetLe4 c w) :=
  (Bytes_any c hc w).mono fun e w' ⟨he, hb⟩ => ⟨_, he, ⟨rfl, fun j h => by
    have h4 : j < 4 := h
    have hc' : c < 4294967296 := hc
    obtain rfl | rfl | rfl | rfl : j = 0 ∨ j = 1 ∨ j = 2 ∨ j = 3 := by omega
    · show (UInt8.ofNat c).toNat = _; simp
    · show (UInt8.ofNat (c / 256)).toNat = _; simp
    · show (UInt8.ofNat (c / 65536)).toNat = _; simp
    · show (UInt8.ofNat (c / 16777216)).toNat = _; simp⟩, hb⟩
theorem or_low (a b : Nat) (ha : a < 16777216) (hb : b < 256) : bits .or .u32 (((a * 256 : Nat)) : Int) (b : Int) = ((a * 256 + b : Nat) : Int) := by
  have := u32_or_nat (a * 256) b (by omega) (by omega)
  rw [nat_join 8 (a * 256) b (by omega) (by omega)] at this; exact this

set_option maxRecDepth 100000 in
set_option maxHeartbeats 1000000 in
theorem CrcBytes_walk (c : Nat) (hc : U32 c) (w : World) :
    Calls Try.prog 6 #[.int .u32 c] w fun e w' => e = .returned (.bool true) ∧ Below w.heap.size w w' := by
  have hc' : c < 4294967296 := hc
  go_enter Try.func6, Try.ntmps6
  go_wp2_with fail
  refine (Bytes_le4 c hc _).mono ?_
  rintro e w1 ⟨s, rfl, hs, hb1⟩
  have h4 : ((s.size : Int) != 4) = false := by rw [hs.1]; rfl
  have HS := Lib.hid hs; clear hs
  go_wp2_with fail
  go_loop [4, 5] (fun n i => (∃ j : Nat, j < 4 ∧ i = .int .i64 j ∧ n = .int .u32 ((c / 256 ^ (j + 1) : Nat) : Int)) ∨ (i = .int .i64 (-1) ∧ n = .int .u32 c)) (fun _ i => (intOf i + 1).toNat)
  case atStart => exact .inl ⟨3, by omega, rfl, ret_val (by omega)⟩
  case round =>
    rcases hrel with ⟨j, hj, rfl, rfl⟩ | ⟨rfl, rfl⟩
    · have hjs : j < s.size := by rw [HS.out.1]; exact hj
      have hbj := HS.out.2 j hjs
      have hp2 : c / 256 ^ (j + 1) = c / 256 ^ j / 256 := by rw [Nat.pow_succ, Nat.div_div_eq_div_mul]
      have hq : c / 256 ^ j ≤ c := Nat.div_le_self _ _
      obtain ⟨p, hp⟩ : ∃ p, p = c / 256 ^ (j + 1) := ⟨_, rfl⟩
      rw [← hp]
      have hpl : p < 16777216 := by omega
      have hu := s[j].toNat_lt
      have hn : p * 256 + s[j].toNat = c / 256 ^ j := by omega
      have ho := or_low p s[j].toNat hpl (by omega)
      rw [hn] at ho
      have HO := Lib.hid ho
      clear hbj hp2 hq hp ho hn
      go_wp2
      go_round
      case rel =>
        rcases Nat.eq_zero_or_pos j with rfl | hj0
        · refine .inr ⟨rfl, ret_val ?_⟩
          exact HO.out.trans (by simp)
        · exact .inl ⟨j - 1, by omega, ret_val (by omega), ret_val (by rw [show j - 1 + 1 = j by omega]; exact HO.out)⟩
      case measure => simp [intOf]
    · go_wp2_with fail
      refine (awake_any _).mono ?_
      rintro e w5 ⟨rfl, hb5⟩
      go_wp2_with fail
      go_ret
      exact ⟨rfl, below_step hb1 hb5⟩
end Go.Proofs.Ytplfdjejkllhkaa

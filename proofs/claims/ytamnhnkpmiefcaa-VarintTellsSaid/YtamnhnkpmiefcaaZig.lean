/-
  Contracts over this translation: Zig and Zag, varint's and the document's.
-/
import Derived.WalkKit
import Derived.Laws.Bits64
import Derived.Lib.Hide
import Derived.Test.YtamnhnkpmiefcaaProg
set_option linter.unusedVariables false
namespace Go.Proofs.Ytamnhnkpmiefcaa
open Go.RowKit

/-- A number of 64 bits with a sign. -/
def I64 (n : Int) : Prop := -9223372036854775808 ≤ n ∧ n ≤ 9223372036854775807
/-- A number of 64 bits without. -/
def W64 (n : Int) : Prop := 0 ≤ n ∧ n < 18446744073709551616
def zig (n : Int) : Int := if 0 ≤ n then 2 * n else -2 * n - 1
def zag (n : Int) : Int := if n % 2 = 0 then n / 2 else -(n / 2) - 1
theorem zig_range {n : Int} (h : I64 n) : W64 (zig n) := by unfold I64 at h; unfold W64 zig; split <;> omega
theorem zag_range {n : Int} (h : W64 n) : I64 (zag n) := by unfold W64 at h; unfold I64 zag; split <;> omega
theorem zag_zig (n : Int) : zag (zig n) = n := by unfold zag zig; split <;> split <;> omega
theorem zig_zag {n : Int} (h : W64 n) : zig (zag n) = n := by unfold W64 at h; unfold zag zig; split <;> split <;> omega
theorem zig_small {n : Int} (h : -64 ≤ n ∧ n ≤ 63) : zig n < 128 := by unfold zig; split <;> omega
theorem ret_i64 {k : IntKind} {a b : Int} (h : a = b) : Ending.returned (.int k a) = .returned (.int k b) := by rw [h]

theorem zag_cases {n : Int} : (n % 2 = 0 ∧ zag n = n / 2) ∨ (n % 2 = 1 ∧ zag n = -(n / 2) - 1) := by
  unfold zag
  by_cases h : n % 2 = 0
  · left; exact ⟨h, by rw [if_pos h]⟩
  · right; exact ⟨by omega, by rw [if_neg h]⟩

set_option maxRecDepth 100000 in
theorem Zig_any (n : Int) (hn : I64 n) (w : World) : Calls Try.prog 18 #[.int .i64 n] w fun e w' => e = .returned (.int .u64 (zig n)) ∧ w' = w := by
  by_cases h : 0 ≤ n
  · go_enter Try.func18, Try.ntmps18
    go_wp2
    go_ret
    refine ⟨ret_i64 ?_, rfl⟩
    unfold I64 at hn
    simp only [IntKind.wrap_u64, zig]
    try simp only [wrap64]
    first | rw [if_pos h] | rw [if_neg (by omega)]
    omega
  · go_enter Try.func18, Try.ntmps18
    go_wp2
    go_ret
    refine ⟨ret_i64 ?_, rfl⟩
    unfold I64 at hn
    simp only [IntKind.wrap_u64, zig]
    try simp only [wrap64]
    first | rw [if_pos h] | rw [if_neg (by omega)]
    omega
theorem refZig_any (n : Int) (hn : I64 n) (w : World) : Calls Try.prog 20 #[.int .i64 n] w fun e w' => e = .returned (.int .u64 (zig n)) ∧ w' = w := by
  by_cases h : 0 ≤ n
  · go_enter Try.func20, Try.ntmps20
    go_wp2
    go_ret
    refine ⟨ret_i64 ?_, rfl⟩
    unfold I64 at hn
    simp only [IntKind.wrap_u64, zig]
    try simp only [wrap64]
    first | rw [if_pos h] | rw [if_neg (by omega)]
    omega
  · go_enter Try.func20, Try.ntmps20
    go_wp2
    go_ret
    refine ⟨ret_i64 ?_, rfl⟩
    unfold I64 at hn
    simp only [IntKind.wrap_u64, zig]
    try simp only [wrap64]
    first | rw [if_pos h] | rw [if_neg (by omega)]
    omega
theorem Zag_any (n : Int) (hn : W64 n) (w : World) : Calls Try.prog 19 #[.int .u64 n] w fun e w' => e = .returned (.int .i64 (zag n)) ∧ w' = w := by
  have h0 : 0 ≤ n := hn.1
  rcases zag_cases (n := n) with ⟨hm, hz⟩ | ⟨hm, hz⟩
  · have hb : ((n % 2) == 0) = true := by rw [hm]; rfl
    have HM := Lib.hid hm
    have HZ := Lib.hid hz
    clear hm hz
    go_enter Try.func19, Try.ntmps19
    go_wp2
    go_ret
    refine ⟨ret_i64 ?_, rfl⟩
    rw [HZ.out]
    have := HM.out
    have ht : n.tdiv 2 = n / 2 := Int.tdiv_eq_ediv_of_nonneg h0
    unfold W64 at hn
    simp only [IntKind.wrap_u64, wrap64]
    omega
  · have hb : ((n % 2) == 0) = false := by rw [hm]; rfl
    have HM := Lib.hid hm
    have HZ := Lib.hid hz
    clear hm hz
    go_enter Try.func19, Try.ntmps19
    go_wp2
    go_ret
    refine ⟨ret_i64 ?_, rfl⟩
    rw [HZ.out]
    have := HM.out
    have ht : n.tdiv 2 = n / 2 := Int.tdiv_eq_ediv_of_nonneg h0
    unfold W64 at hn
    simp only [IntKind.wrap_u64, wrap64]
    omega
theorem refZag_any (n : Int) (hn : W64 n) (w : World) : Calls Try.prog 21 #[.int .u64 n] w fun e w' => e = .returned (.int .i64 (zag n)) ∧ w' = w := by
  have h0 : 0 ≤ n := hn.1
  rcases zag_cases (n := n) with ⟨hm, hz⟩ | ⟨hm, hz⟩
  · have hb : ((n % 2) == 0) = true := by rw [hm]; rfl
    have HM := Lib.hid hm
    have HZ := Lib.hid hz
    clear hm hz
    go_enter Try.func21, Try.ntmps21
    go_wp2
    go_ret
    refine ⟨ret_i64 ?_, rfl⟩
    rw [HZ.out]
    have := HM.out
    have ht : n.tdiv 2 = n / 2 := Int.tdiv_eq_ediv_of_nonneg h0
    unfold W64 at hn
    simp only [IntKind.wrap_u64, wrap64]
    omega
  · have hb : ((n % 2) == 0) = false := by rw [hm]; rfl
    have HM := Lib.hid hm
    have HZ := Lib.hid hz
    clear hm hz
    go_enter Try.func21, Try.ntmps21
    go_wp2
    go_ret
    refine ⟨ret_i64 ?_, rfl⟩
    rw [HZ.out]
    have := HM.out
    have ht : n.tdiv 2 = n / 2 := Int.tdiv_eq_ediv_of_nonneg h0
    unfold W64 at hn
    simp only [IntKind.wrap_u64, wrap64]
    omega
end Go.Proofs.Ytamnhnkpmiefcaa

/-
  Contracts over this translation: gear's Roll and Table, and the document's own.
-/
import Derived.WalkKit
import Derived.LoopTactic
import Derived.Outline
import Derived.Laws.BitsAllLaws
import Derived.Lib.Hide
import Derived.Below
import Derived.Test.YtciajgdjddepdaaDoorProg
import Derived.Test.YtciajgdjddepdaaDoorGem
import Derived.Test.YtciajgdjddepdaaDoorBas
set_option linter.unusedVariables false
namespace Go.Proofs.YtciajgdjddepdaaDoor
open Go.RowKit

theorem wrapU (n : Nat) : IntKind.u64.wrap (n : Int) = ((n % M64 : Nat) : Int) := by
  rw [Int.natCast_emod]; rfl
theorem wrapU_mul (n c : Nat) : IntKind.u64.wrap ((n : Int) * (c : Int)) = ((n * c % M64 : Nat) : Int) := by
  rw [← Int.natCast_mul, wrapU]
theorem wrapU_add (n c : Nat) : IntKind.u64.wrap ((n : Int) + (c : Int)) = (((n + c) % M64 : Nat) : Int) := by
  rw [← Int.natCast_add, wrapU]
theorem xorDown (n d : Nat) (h : n < M64) : bits .xor .u64 (n : Int) ((n : Int) / 2 ^ d) = ((fld n d : Nat) : Int) := by
  rw [show (n : Int) / 2 ^ d = ((n / 2 ^ d : Nat) : Int) by rw [Int.natCast_ediv, Int.natCast_pow]; rfl,
    u64_xor_nat _ _ h (Nat.lt_of_le_of_lt (Nat.div_le_self _ _) h)]
  rfl

set_option maxRecDepth 100000 in
set_option maxHeartbeats 1000000 in
theorem folded_any (n d : Nat) (hn : n < M64) (hd : d < 64) (w : World) : Calls Tryd.prog 44 #[.int .u64 n, .int .u64 d] w fun e w' => e = .returned (.int .u64 (fld n d)) ∧ w = w' := by
  go_enter Tryd.func44, Tryd.ntmps44
  go_wp2
  go_ret
  exact ⟨ret_i (xorDown n d hn), rfl⟩

/-- What the first product comes to. -/
theorem first_mul (b : Nat) (hb : b < 256) : IntKind.u64.wrap (IntKind.u64.wrap (IntKind.u64.wrap (b : Int) + 1) * 11400714819323198485) = (((b + 1) * 11400714819323198485 % M64 : Nat) : Int) := by
  have h1 : IntKind.u64.wrap (b : Int) = (b : Int) := by rw [wrapU, Nat.mod_eq_of_lt (by unfold M64; omega)]
  have h2 : IntKind.u64.wrap ((b : Int) + 1) = ((b + 1 : Nat) : Int) := by
    have := wrapU_add b 1; rw [Nat.mod_eq_of_lt (by unfold M64; omega)] at this; exact this
  rw [h1, h2]
  exact wrapU_mul (b + 1) 11400714819323198485

set_option maxRecDepth 100000 in
set_option maxHeartbeats 1000000 in
theorem refTable_any (b : UInt8) (w : World) : Calls Tryd.prog 30 #[.int .u8 b.toNat] w fun e w' => e = .returned (.int .u64 (tabN b.toNat)) ∧ w = w' := by
  go_enter Tryd.func30, Tryd.ntmps30
  go_wp2
  go_ret
  refine ⟨ret_i ?_, rfl⟩
  rw [first_mul _ b.toNat_lt]
  unfold tabN
  obtain ⟨n, hn⟩ : ∃ n, n = (b.toNat + 1) * 11400714819323198485 % M64 := ⟨_, rfl⟩
  have ln : n < M64 := by rw [hn]; exact Nat.mod_lt _ m64_pos
  rw [← hn]
  clear hn
  have e1 := xorDown n 30 ln
  rw [show (2 : Int) ^ 30 = 1073741824 by decide] at e1
  rw [e1]
  have m1 := wrapU_mul (fld n 30) 13787848793156543929
  rw [show ((13787848793156543929 : Nat) : Int) = 13787848793156543929 from rfl] at m1
  rw [m1]
  obtain ⟨p, hp⟩ : ∃ p, p = fld n 30 * 13787848793156543929 % M64 := ⟨_, rfl⟩
  have lp : p < M64 := by rw [hp]; exact Nat.mod_lt _ m64_pos
  rw [← hp]
  clear hp e1 m1
  have e1 := xorDown p 27 lp
  rw [show (2 : Int) ^ 27 = 134217728 by decide] at e1
  rw [e1]
  have m1 := wrapU_mul (fld p 27) 10723151780598845931
  rw [show ((10723151780598845931 : Nat) : Int) = 10723151780598845931 from rfl] at m1
  rw [m1]
  obtain ⟨q, hq⟩ : ∃ q, q = fld p 27 * 10723151780598845931 % M64 := ⟨_, rfl⟩
  have lq : q < M64 := by rw [hq]; exact Nat.mod_lt _ m64_pos
  rw [← hq]
  exact xorDown q 31 lq

set_option maxRecDepth 100000 in
set_option maxHeartbeats 1000000 in
theorem Table_any (b : UInt8) (w : World) : Calls Tryd.prog 43 #[.int .u8 b.toNat] w fun e w' => e = .returned (.int .u64 (tabN b.toNat)) ∧ w = w' := by
  obtain ⟨n, hn⟩ : ∃ n, n = (b.toNat + 1) * 11400714819323198485 % M64 := ⟨_, rfl⟩
  have ln : n < M64 := by rw [hn]; exact Nat.mod_lt _ m64_pos
  obtain ⟨p, hp⟩ : ∃ p, p = fld n 30 * 13787848793156543929 % M64 := ⟨_, rfl⟩
  have lp : p < M64 := by rw [hp]; exact Nat.mod_lt _ m64_pos
  obtain ⟨q, hq⟩ : ∃ q, q = fld p 27 * 10723151780598845931 % M64 := ⟨_, rfl⟩
  have lq : q < M64 := by rw [hq]; exact Nat.mod_lt _ m64_pos
  have E1 := Lib.hid (first_mul _ b.toNat_lt)
  rw [← hn] at E1
  have E2 := Lib.hid (wrapU_mul (fld n 30) 13787848793156543929)
  rw [show ((13787848793156543929 : Nat) : Int) = 13787848793156543929 from rfl, ← hp] at E2
  have E3 := Lib.hid (wrapU_mul (fld p 27) 10723151780598845931)
  rw [show ((10723151780598845931 : Nat) : Int) = 10723151780598845931 from rfl, ← hq] at E3
  have E : tabN b.toNat = fld q 31 := by unfold tabN; rw [← hn, ← hp, ← hq]
  rw [E]
  have LN := Lib.hid ln; have LP := Lib.hid lp; have LQ := Lib.hid lq
  clear hn hp hq ln lp lq E
  go_enter Tryd.func43, Tryd.ntmps43
  go_wp2_with fail
  rw [E1.out]
  refine (folded_any n 30 LN.out (by decide) _).mono ?_
  rintro e w1 ⟨rfl, rfl⟩
  go_wp2_with fail
  rw [E2.out]
  refine (folded_any p 27 LP.out (by decide) _).mono ?_
  rintro e w1 ⟨rfl, rfl⟩
  go_wp2_with fail
  rw [E3.out]
  refine (folded_any q 31 LQ.out (by decide) _).mono ?_
  rintro e w1 ⟨rfl, rfl⟩
  go_wp2
  go_ret
  exact ⟨rfl, rfl⟩

/-- What a roll comes to, as the walk spells it. -/
theorem roll_int (h : Nat) (b : Nat) : IntKind.u64.wrap (IntKind.u64.wrap (2 * (h : Int)) + (tabN b : Nat)) = ((rollN h b : Nat) : Int) := by
  have h1 := wrapU_mul 2 h
  rw [show ((2 : Nat) : Int) = 2 from rfl] at h1
  rw [h1, wrapU_add, Nat.mod_add_mod]
  rfl
set_option maxRecDepth 100000 in
set_option maxHeartbeats 1000000 in
theorem refRoll_any (h : Nat) (b : UInt8) (w : World) : Calls Tryd.prog 26 #[.int .u64 h, .int .u8 b.toNat] w fun e w' => e = .returned (.int .u64 (rollN h b.toNat)) ∧ w = w' := by
  go_enter Tryd.func26, Tryd.ntmps26
  go_wp2_with fail
  refine (refTable_any b _).mono ?_
  rintro e w1 ⟨rfl, rfl⟩
  go_wp2
  go_ret
  exact ⟨ret_i (roll_int _ _), rfl⟩
set_option maxRecDepth 100000 in
set_option maxHeartbeats 1000000 in
theorem behind_any (h : Nat) (b : UInt8) (w : World) : Calls Tryd.prog 42 #[.int .u64 h, .int .u8 b.toNat] w fun e w' => e = .returned (.int .u64 (rollN h b.toNat)) ∧ w = w' := by
  go_enter Tryd.func42, Tryd.ntmps42
  go_wp2_with fail
  refine (Table_any b _).mono ?_
  rintro e w1 ⟨rfl, rfl⟩
  go_wp2
  go_ret
  exact ⟨ret_i (roll_int _ _), rfl⟩
set_option maxRecDepth 100000 in
set_option maxHeartbeats 1000000 in
theorem Roll_any (h : Nat) (b : UInt8) (w : World) : Calls Tryd.prog 40 #[.int .u64 h, .int .u8 b.toNat] w fun e w' => e = .returned (.int .u64 (rollN h b.toNat)) ∧ w = w' := by
  go_enter Tryd.func40, Tryd.ntmps40
  go_wp2_with fail
  refine (behind_any h b _).mono ?_
  rintro e w1 ⟨rfl, rfl⟩
  go_wp2
  go_ret
  exact ⟨rfl, rfl⟩

end Go.Proofs.YtciajgdjddepdaaDoor

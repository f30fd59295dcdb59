/-
  Contracts over this translation: the document's own Take; texts with their lengths.
-/
import Derived.Test.YtohicccbaenegaaDoorRef
set_option linter.unusedVariables false
namespace Go.Proofs.YtohicccbaenegaaDoor
open Go.RowKit

set_option maxRecDepth 100000 in
set_option maxHeartbeats 2000000 in
theorem refTake_any (s : ByteArray) (hs : s.size ≤ maxLen) (w : World) :
    Calls Tryd.prog 12 #[.string s] w fun e w' => e = .returned (.tuple #[.int .u64 ((vtake s.data.toList).1 : Nat), .int .i64 ((vtake s.data.toList).2.1 : Nat), .int .i64 ((vtake s.data.toList).2.2 : Nat)]) ∧ w' = w := by
  have hsm : s.size ≤ 9223372036854775807 := by unfold maxLen at hs; omega
  have HS := Lib.hid (Lib.size_eq s)
  go_enter Tryd.func12, Tryd.ntmps12
  go_wp2
  go_loop [5, 6] (fun t p => ∃ a i : Nat, t = .int .u64 a ∧ p = .int .i64 i ∧ refI s.data.toList i a) (fun _ p => 10 - (intOf p).toNat)
  case atStart => exact ⟨0, 0, rfl, rfl, refI_zero _⟩
  case round =>
    obtain ⟨a, i, rfl, rfl, hI⟩ := hrel
    have hi9 : i ≤ 9 := hI.1
    by_cases hlt : i < s.size
    · have hb : s[i].toNat < 256 := s[i].toNat_lt
      have hil : i < s.data.toList.length := by rw [← HS.out]; exact hlt
      have hbe : s.data.toList[i] = s[i] := rfl
      by_cases hA : i = 9 ∧ 1 < s[i].toNat
      · have h9 : ((i : Int) == 9) = true := by rw [hA.1]; rfl
        have h1 : (1 : Int) < (s[i].toNat : Int) := by omega
        have HV := Lib.hid (refI_range hI hil hA)
        clear hA hbe hI
        go_wp2
        go_ret3
        exact ⟨by rw [HV.out]; rfl, rfl⟩
      · have hAw : (((i : Nat) : Int) == 9) = false ∨ ((((i : Nat) : Int) == 9) = true ∧ ¬ (1 : Int) < (s[i].toNat : Int)) := by
          by_cases h9 : i = 9
          · right; exact ⟨by rw [h9]; rfl, by omega⟩
          · left; exact beq_eq_false_iff_ne.2 (by omega)
        obtain ⟨hsum, hlim⟩ := ref_sum (c := s[i].toNat) hI.2.2.1 hi9 hA hb
        obtain ⟨X, hX⟩ : ∃ X, X = a + s[i].toNat % 128 * 2 ^ (7 * i) := ⟨_, rfl⟩
        rw [← hX] at hsum hlim
        have HX := Lib.hid hX; clear hX hlim
        by_cases hc : s[i].toNat < 128
        · by_cases hz : s[i].toNat = 0 ∧ 0 < i
          · have hz1 : ((s[i].toNat : Int) == 0) = true := by rw [hz.1]; rfl
            have hz2 : (0 : Int) < (i : Int) := by omega
            have HV := Lib.hid (refI_form hI hil hA hz)
            clear hz hA hI hbe
            rcases hAw with h9 | ⟨h9, h91⟩
            all_goals
              go_wp2
              go_ret3
              exact ⟨by rw [HV.out]; rfl, rfl⟩
          · have hzw : (((s[i].toNat : Int) == 0) = false) ∨ (((s[i].toNat : Int) == 0) = true ∧ ¬ (0 : Int) < (i : Int)) := by
              by_cases h0 : s[i].toNat = 0
              · right; exact ⟨by rw [h0]; rfl, by omega⟩
              · left; exact beq_eq_false_iff_ne.2 (by omega)
            have hv : vtake s.data.toList = (X, i + 1, 0) := by
              rw [refI_last hI hil hA hz hc, HX.out, hbe, Nat.mod_eq_of_lt hc]
            have HV := Lib.hid hv
            clear hv hz hA hI hbe
            rcases hAw with h9 | ⟨h9, h91⟩ <;> rcases hzw with hz | ⟨hz, hz1⟩
            all_goals
              go_wp2
              go_ret3
              exact ⟨by rw [HV.out]; rfl, rfl⟩
        · have hc' : ¬ (s[i].toNat : Int) < 128 := by omega
          have hon := refI_on hI hil hA (by rw [hbe]; omega)
          rw [hbe, ← HX.out] at hon
          have hi8 : i ≤ 8 := by have := hon.1; omega
          have h9 : ((i : Int) == 9) = false := beq_eq_false_iff_ne.2 (by omega)
          clear hAw hA hI hbe
          go_wp2
          go_round
          case rel => exact ⟨X, i + 1, rfl, by go_num, hon⟩
          case measure => simp [intOf]; omega
    · have hge : (s.size : Int) ≤ (i : Int) := by omega
      have HV := Lib.hid (refI_short hI (by rw [← HS.out]; omega))
      clear hI
      go_wp2
      go_ret3
      exact ⟨by rw [HV.out]; rfl, rfl⟩
end Go.Proofs.YtohicccbaenegaaDoor

/-
  Contracts over this translation: what a set of keys is; keys' isKey; the document's Fit of keys.
-/
import Derived.Test.YtohicccbaenegaaGreatDoorYKed
set_option linter.unusedVariables false
namespace Go.Proofs.YtohicccbaenegaaGreatDoor
open Go.RowKit
attribute [local go_sem] Oper.semAt_some

/-! ## Fit -/
def FitTo (l : List Txt) (k : Nat) : Prop := ∀ i (h : i < l.length), i < k → l[i].length = 32 ∧ (0 < i → l[i - 1]'(by omega) < l[i])
theorem fitTo_zero (l : List Txt) : FitTo l 0 := fun i _ h => absurd h (by omega)
theorem fitTo_step {l : List Txt} {k : Nat} (h : FitTo l k) (hk : k < l.length) (h32 : l[k].length = 32) (hr : 0 < k → l[k - 1]'(by omega) < l[k]) : FitTo l (k + 1) := fun i hi hik => by
  rcases Nat.lt_or_ge i k with e | e
  · exact h i hi e
  · obtain rfl : i = k := by omega
    exact ⟨h32, hr⟩
theorem fitB_all {l : List Txt} {k : Nat} (h : FitTo l k) (hk : l.length ≤ k) : fitB l = true := fitB_true fun i hi => h i hi (by omega)
theorem fitB_no32 {l : List Txt} {k : Nat} (hk : k < l.length) (h32 : l[k].length ≠ 32) : fitB l = false := fitB_false fun h => h32 (h k hk).1
theorem fitB_norise {l : List Txt} {k : Nat} (hk : k < l.length) (h0 : 0 < k) (hr : ¬ l[k - 1]'(by omega) < l[k]) : fitB l = false := fitB_false fun h => hr ((h k hk).2 h0)

theorem isKey_any (x : ByteArray) (w : World) :
    Calls Tryz.prog 56 #[.string x] w fun e w' => e = .returned (.bool (((x.size : Nat) : Int) == 32)) ∧ w = w' := by
  go_enter Tryz.func56, Tryz.ntmps56
  go_wp2
  go_ret
  exact ⟨rfl, rfl⟩

set_option maxRecDepth 100000 in
set_option maxHeartbeats 2000000 in
theorem refFit_any (v : Value) (L : List ByteArray) (w : World) (hv : IsStrs w v L) :
    Calls Tryz.prog 22 #[v] w fun e w' => e = .returned (.bool (fitB (txts L))) ∧ Below w.heap.size w w' := by
  obtain ⟨hm, a, cap, rfl, _, hc⟩ := hv
  have hmm : L.length ≤ 9223372036854775807 := by unfold maxLen at hm; omega
  have HC := Lib.hid hc
  clear hc hm
  go_enter Tryz.func22, Tryz.ntmps22
  go_wp2
  go_loopw [3] (fun i wr => ∃ k m : Nat, k ≤ L.length ∧ i = .int .i64 k ∧ FitTo (txts L) k ∧ wr = w.drewN m) (fun i _ => L.length - (intOf i).toNat)
  case atStart => exact ⟨0, 0, Nat.zero_le _, rfl, fitTo_zero _, rfl⟩
  case round =>
    obtain ⟨k, m, hk, rfl, hF, rfl⟩ := hrel
    have HF := Lib.hid hF; clear hF
    by_cases hlt : k < L.length
    · obtain ⟨b1, o1, rfl, _, g1⟩ := HC.out (by omega)
      have q1 := g1 k hlt
      have hkl : k < (txts L).length := by rw [txts_len]; exact hlt
      have hty := txts_get hlt
      obtain ⟨y, hy⟩ : ∃ y, y = L[k] := ⟨_, rfl⟩
      rw [← hy] at q1 hty
      clear hy
      have HT := Lib.hid hty; clear hty
      have hbk : decide ((k : Int) < (L.length : Int)) = true := by simpa using (show (k : Int) < L.length by omega)
      by_cases h32 : y.size = 32
      · have h32b : (((y.size : Nat) : Int) != 32) = false := by rw [h32]; rfl
        have h32l : (txts L)[k].length = 32 := by rw [HT.out, ← Lib.size_eq]; exact h32
        have H32 := Lib.hid h32l
        clear h32 h32l
        by_cases h0 : k = 0
        · subst h0
          have HS := Lib.hid (fitTo_step HF.out hkl H32.out (fun h => absurd h (by omega)))
          simp only [Nat.add_zero] at q1
          clear g1
          go_wp2_with fail
          go_quiet (fail)
          go_wp2
          go_roundw
          case rel => exact ⟨1, m + nq, by omega, by go_num, HS.out, by simp [World.drewN]⟩
          case measure => simp [intOf]; omega
        · have q0 := g1 (k - 1) (by omega)
          have htz := txts_get (L := L) (i := k - 1) (by omega)
          obtain ⟨z, hz⟩ : ∃ z, z = L[k - 1] := ⟨_, rfl⟩
          rw [← hz] at q0 htz
          clear hz g1
          obtain ⟨j, hj⟩ : ∃ j, j = k - 1 := ⟨_, rfl⟩
          obtain rfl : k = j + 1 := by omega
          simp only [Nat.add_sub_cancel] at q0 htz
          clear hj
          have hk0 : decide ((0 : Int) < ((j + 1 : Nat) : Int)) = true := by simp
          by_cases hr : z.data.toList < y.data.toList
          · have hrb : Op.bytesLess z.toList y.toList = true := by rw [less_eq]; exact decide_eq_true hr
            have HS := Lib.hid (fitTo_step HF.out hkl H32.out (fun h => by rw [HT.out]; simp only [Nat.add_sub_cancel]; rw [htz]; exact hr))
            clear hr htz
            go_wp2_with fail
            go_quiet (fail)
            go_wp2
            go_roundw
            case rel => exact ⟨j + 2, m + nq, by omega, by go_num, HS.out, by simp [World.drewN]⟩
            case measure => simp [intOf]; omega
          · have hrb : Op.bytesLess z.toList y.toList = false := by rw [less_eq]; exact decide_eq_false hr
            have HS := Lib.hid (fitB_norise hkl (by omega) (by rw [HT.out]; simp only [Nat.add_sub_cancel]; rw [htz]; exact hr))
            clear hr htz
            go_wp2_with fail
            go_quiet (fail)
            go_wp2
            go_ret
            exact ⟨ret_val (congrArg Value.bool HS.out.symm), below_drewN (below_drewN (Below.refl _ _) _) _⟩
      · have h32b : (((y.size : Nat) : Int) != 32) = true := by simp; omega
        have HS := Lib.hid (fitB_no32 hkl (by rw [HT.out, ← Lib.size_eq]; exact h32))
        clear h32 g1
        go_wp2_with fail
        go_quiet (fail)
        go_wp2
        go_ret
        exact ⟨ret_val (congrArg Value.bool HS.out.symm), below_drewN (below_drewN (Below.refl _ _) _) _⟩
    · have HS := Lib.hid (fitB_all HF.out (by rw [txts_len]; omega))
      have hge : decide ((k : Int) < (L.length : Int)) = false := by simp; omega
      go_wp2
      go_ret
      exact ⟨ret_val (congrArg Value.bool HS.out.symm), below_drewN (Below.refl _ _) _⟩

end Go.Proofs.YtohicccbaenegaaGreatDoor

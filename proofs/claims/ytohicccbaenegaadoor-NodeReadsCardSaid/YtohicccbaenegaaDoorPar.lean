/-
  Contracts over this translation: the document's Name.
-/
import Derived.Test.YtohicccbaenegaaDoorPam
import Derived.Test.YtohicccbaenegaaDoorBas
import Derived.Test.YtohicccbaenegaaDoorStp
set_option linter.unusedVariables false
namespace Go.Proofs.YtohicccbaenegaaDoor
open Go.RowKit
attribute [local go_sem] Oper.semAt_some

theorem one_dot {s : ByteArray} : (s.toList == [46]) = decide (s.data.toList = [46]) := by rw [Lib.toList_data, Bool.eq_iff_iff]; simp
theorem two_dots {s : ByteArray} : (s.toList == [46, 46]) = decide (s.data.toList = [46, 46]) := by rw [Lib.toList_data, Bool.eq_iff_iff]; simp

/-- Neither 0 nor a slash among the first. -/
def CleanTo (l : List UInt8) (k : Nat) : Prop := (0 : UInt8) ∉ l.take k ∧ (47 : UInt8) ∉ l.take k
theorem clean_zero (l : List UInt8) : CleanTo l 0 := ⟨by simp, by simp⟩
theorem clean_step {s : ByteArray} {k : Nat} (h : CleanTo s.data.toList k) (hk : k < s.size) (h0 : s[k] ≠ 0) (h47 : s[k] ≠ 47) : CleanTo s.data.toList (k + 1) := by
  unfold CleanTo; rw [take_on s k hk]
  exact ⟨fun hm => by rcases List.mem_append.1 hm with e | e; exact h.1 e; exact h0 (List.mem_singleton.1 e).symm, fun hm => by rcases List.mem_append.1 hm with e | e; exact h.2 e; exact h47 (List.mem_singleton.1 e).symm⟩
theorem clean_all {s : ByteArray} (h : CleanTo s.data.toList s.size) : (0 : UInt8) ∉ s.data.toList ∧ (47 : UInt8) ∉ s.data.toList := by
  unfold CleanTo at h; rwa [take_all s _ (Nat.le_refl _)] at h
theorem mem_at {s : ByteArray} {k : Nat} (hk : k < s.size) : s[k] ∈ s.data.toList := by
  show s.data[k] ∈ _
  simp
theorem byte_ne {u : UInt8} {n : Nat} (hn : n < 256) (h : u ≠ UInt8.ofNat n) : ((u.toNat : Int) == (n : Int)) = false := by
  rw [beq_eq_false_iff_ne]
  intro e
  have e2 : u.toNat = n := by exact_mod_cast e
  exact h (by rw [← e2]; simp)

set_option maxRecDepth 100000 in
set_option maxHeartbeats 1000000 in
theorem refName_any (s : ByteArray) (w : World) :
    Calls Tryd.prog 53 #[.string s] w fun e w' => e = .returned (.bool (nameB s.data.toList)) ∧ w = w' := by
  by_cases h0 : s.size = 0
  · have e0 : s.toList.isEmpty = true := by
      rw [Lib.toList_data]; have := Lib.size_eq s; cases h : s.data.toList with
      | nil => rfl
      | cons a t => rw [h] at this; simp at this; omega
    have HN : Hid (nameB s.data.toList = false) := nameB_no (fun hh => by rw [← Lib.size_eq] at hh; omega)
    clear h0
    go_enter Tryd.func53, Tryd.ntmps53
    go_wp2
    go_ret
    exact ⟨ret_val (congrArg Value.bool HN.out.symm), rfl⟩
  · have e0 : s.toList.isEmpty = false := by
      rw [Lib.toList_data]; have := Lib.size_eq s; cases h : s.data.toList with
      | nil => rw [h] at this; exact absurd this h0
      | cons a t => rfl
    by_cases h31 : 31 < s.size
    · have e1 : decide ((31 : Int) < (s.size : Int)) = true := decide_eq_true (by omega)
      have HN : Hid (nameB s.data.toList = false) := nameB_no (fun hh => by rw [← Lib.size_eq] at hh; omega)
      clear h0 h31
      go_enter Tryd.func53, Tryd.ntmps53
      go_wp2
      go_ret
      exact ⟨ret_val (congrArg Value.bool HN.out.symm), rfl⟩
    · have e1 : decide ((31 : Int) < (s.size : Int)) = false := decide_eq_false (by omega)
      by_cases hd : s.data.toList = [46]
      · have e2 : (s.toList == [46]) = true := by rw [one_dot]; exact decide_eq_true hd
        have HN : Hid (nameB s.data.toList = false) := nameB_no (fun hh => hh.2.2.1 hd)
        clear h0 h31 hd
        go_enter Tryd.func53, Tryd.ntmps53
        go_wp2
        go_ret
        exact ⟨ret_val (congrArg Value.bool HN.out.symm), rfl⟩
      · have e2 : (s.toList == [46]) = false := by rw [one_dot]; exact decide_eq_false hd
        by_cases hd2 : s.data.toList = [46, 46]
        · have e3 : (s.toList == [46, 46]) = true := by rw [two_dots]; exact decide_eq_true hd2
          have HN : Hid (nameB s.data.toList = false) := nameB_no (fun hh => hh.2.2.2.1 hd2)
          clear h0 h31 hd hd2
          go_enter Tryd.func53, Tryd.ntmps53
          go_wp2
          go_ret
          exact ⟨ret_val (congrArg Value.bool HN.out.symm), rfl⟩
        · have e3 : (s.toList == [46, 46]) = false := by rw [two_dots]; exact decide_eq_false hd2
          have HO := Lib.hid (show 1 ≤ s.data.toList.length ∧ s.data.toList.length ≤ 31 ∧ s.data.toList ≠ [46] ∧ s.data.toList ≠ [46, 46] from by rw [← Lib.size_eq]; exact ⟨by omega, by omega, hd, hd2⟩)
          clear h0 hd hd2
          go_enter Tryd.func53, Tryd.ntmps53
          go_wp2
          go_loop [3] (fun i => ∃ k : Nat, k ≤ s.size ∧ i = .int .i64 k ∧ CleanTo s.data.toList k) (fun i => s.size - (intOf i).toNat)
          case atStart => exact ⟨0, Nat.zero_le _, rfl, clean_zero _⟩
          case round =>
            obtain ⟨k, hk, rfl, hc⟩ := hrel
            have HC := Lib.hid hc; clear hc
            by_cases hlt : k < s.size
            · by_cases b0 : s[k] = 0
              · have c0 : ((s[k].toNat : Int) == 0) = true := by rw [b0]; rfl
                have HN : Hid (nameB s.data.toList = false) := nameB_no (fun hh => hh.2.2.2.2.1 (b0 ▸ mem_at hlt))
                clear b0
                go_wp2
                go_ret
                exact ⟨ret_val (congrArg Value.bool HN.out.symm), rfl⟩
              · have c0 : ((s[k].toNat : Int) == 0) = false := byte_ne (n := 0) (by decide) b0
                by_cases b47 : s[k] = 47
                · have c1 : ((s[k].toNat : Int) == 47) = true := by rw [b47]; rfl
                  have HN : Hid (nameB s.data.toList = false) := nameB_no (fun hh => hh.2.2.2.2.2 (b47 ▸ mem_at hlt))
                  clear b0 b47
                  go_wp2
                  go_ret
                  exact ⟨ret_val (congrArg Value.bool HN.out.symm), rfl⟩
                · have c1 : ((s[k].toNat : Int) == 47) = false := byte_ne (n := 47) (by decide) b47
                  have HS := Lib.hid (clean_step HC.out hlt b0 b47)
                  clear b0 b47
                  go_wp2
                  go_round
                  case rel => exact ⟨k + 1, by omega, by go_num, HS.out⟩
                  case measure => simp [intOf]; omega
            · obtain rfl : k = s.size := by omega
              have HN : Hid (nameB s.data.toList = true) := nameB_mk ⟨HO.out.1, HO.out.2.1, HO.out.2.2.1, HO.out.2.2.2, clean_all HC.out⟩
              go_wp2
              go_ret
              exact ⟨ret_val (congrArg Value.bool HN.out.symm), rfl⟩
end Go.Proofs.YtohicccbaenegaaDoor

/-
  Contracts over this translation: the document's Cut.
-/
import Derived.Test.YtciajgdjddepdaaDoorCdc
set_option linter.unusedVariables false
namespace Go.Proofs.YtciajgdjddepdaaDoor
open Go.RowKit Go.Shelf

theorem power_of (b : Nat) (hb : b ≤ 12) (w : World) : Calls Tryd.prog 21 #[.int .i64 (2 ^ b : Nat)] w fun e w' => e = .returned (.int .i64 b) ∧ w = w' := by
  refine (power_any _ w).mono ?_
  rintro e w' ⟨r, rfl, hr, rfl⟩
  refine ⟨ret_i ?_, rfl⟩
  rcases hr with ⟨k, hk, e, rfl⟩ | ⟨_, hn⟩
  · have h1 : (2 ^ b : Nat) = 2 ^ k := by exact_mod_cast e
    have : k = b := by
      rcases Nat.lt_trichotomy k b with h | h | h
      · have := Nat.pow_lt_pow_right (a := 2) (by decide) h; omega
      · exact h
      · have := Nat.pow_lt_pow_right (a := 2) (by decide) h; omega
    rw [this]
  · exact absurd rfl (hn b (by omega))

theorem hs_upto (mn mx : Nat) (s : ByteArray) : (hs mn (s.data.toList.drop mn)).take (min s.size mx - mn) = hs mn ((s.data.toList.take mx).drop mn) := by
  rw [hs_take, List.drop_take]
  congr 1
  rw [Lib.size_eq]
  by_cases h : s.data.toList.length ≤ mx
  · rw [Nat.min_eq_left h, List.take_of_length_le (by rw [List.length_drop]; omega), List.take_of_length_le (by rw [List.length_drop]; omega)]
  · rw [Nat.min_eq_right (by omega)]

def NoStop (b mn : Nat) (s : ByteArray) (j : Nat) : Prop := ∀ y ∈ (hs mn (s.data.toList.drop mn)).take (j - mn), stopB b y = false

set_option maxRecDepth 100000 in
set_option maxHeartbeats 4000000 in
theorem refCut_any (mn av b mx : Nat) (hF : FitAt mn av mx b) (s : ByteArray) (hs : s.size ≤ maxLen) (w : World) :
    Calls Tryd.prog 18 #[pV mn av mx, .string s] w fun e w' => e = .returned (.int .i64 (cutN mn b mx s.data.toList : Nat)) ∧ Below w.heap.size w w' := by
  obtain ⟨h1, h2, h3, h4, h5, h6, h7⟩ := hF
  have h7' : av = 2 ^ b := by exact_mod_cast h7
  have P := Lib.hid (power_of b h6)
  rw [← h7'] at P
  have H7 := Lib.hid h7'
  clear h7 h7'
  simp only [maxLen] at hs
  have hcI : (min (s.size : Int) (mx : Int)) = ((min s.size mx : Nat) : Int) := by omega
  have HCI := Lib.hid hcI
  clear hcI
  by_cases hsm : s.size ≤ mn
  · have e1 : decide ((s.size : Int) ≤ (mn : Int)) = true := by simpa using hsm
    have hcut : cutN mn b mx s.data.toList = s.size := by
      unfold cutN
      rw [if_pos (by rw [List.length_take, ← Lib.size_eq]; omega), List.length_take, ← Lib.size_eq]; omega
    have HCU := Lib.hid hcut; clear hcut
    go_enter Tryd.func18, Tryd.ntmps18
    go_wp2
    go_ret
    exact ⟨by rw [HCU.out]; rfl, (Below.refl _ _).alloc (Nat.le_refl _) _⟩
  · have e1 : decide ((s.size : Int) ≤ (mn : Int)) = false := by simp; omega
    go_enter Tryd.func18, Tryd.ntmps18
    go_wp2_with fail
    refine (P.out _).mono ?_
    rintro e w1 ⟨rfl, rfl⟩
    go_wp2_with fail
    rw [HCI.out]
    obtain ⟨c, hc⟩ : ∃ c : Nat, c = min s.size mx := ⟨_, rfl⟩
    rw [← hc]
    have hcs : c ≤ s.size := by omega
    have hcm : mn ≤ c := by omega
    have HC := Lib.hid hc
    clear hc HCI
    go_loop [7, 8] (fun h i => ∃ j : Nat, mn ≤ j ∧ j ≤ c ∧ i = .int .i64 j ∧ h = .int .u64 (hashF 0 ((s.data.toList.drop mn).take (j - mn)) : Nat) ∧ NoStop b mn s j) (fun _ i => c - (intOf i).toNat)
    case atStart => exact ⟨mn, Nat.le_refl _, hcm, rfl, by simp [hashF], fun y hy => by simp at hy⟩
    case round =>
      obtain ⟨j, hj1, hj2, rfl, rfl, hno⟩ := hrel
      have HNO := Lib.hid hno
      clear hno
      by_cases hlt : j < c
      · have hlts : j < s.size := by omega
        obtain ⟨hup, hv⟩ := upTo_on s mn j hj1 hlts
        have RO := Lib.hid (refRoll_any (hashF 0 ((s.data.toList.drop mn).take (j - mn))) (s[j]'hlts))
        have hm0 := rollN_lt (hashF 0 ((s.data.toList.drop mn).take (j - mn))) (s[j]'hlts).toNat
        obtain ⟨hn, hhn⟩ : ∃ hn, hn = hashF 0 ((s.data.toList.drop mn).take (j - mn)) := ⟨_, rfl⟩
        rw [← hhn] at hv hup RO hm0 ⊢
        obtain ⟨hm, hhm⟩ : ∃ hm, hm = rollN hn (s[j]'hlts).toNat := ⟨_, rfl⟩
        rw [← hhm] at hv hup RO hm0
        have K1 := blank_any hm (b + 1) hm0 (by omega)
        have K2 := blank_any hm (b - 1) hm0 (by omega)
        rw [show ((b + 1 : Nat) : Int) = (b : Int) + 1 by omega] at K1
        rw [show ((b - 1 : Nat) : Int) = (b : Int) - 1 by omega] at K2
        have ST := stop_blank (b := b) (at' := j) (h := hm)
        rw [← H7.out] at ST
        obtain ⟨v1, hv1⟩ : ∃ v1, v1 = blankN hm (b + 1) := ⟨_, rfl⟩
        obtain ⟨v2, hv2⟩ : ∃ v2, v2 = blankN hm (b - 1) := ⟨_, rfl⟩
        rw [← hv1] at K1
        rw [← hv2] at K2
        have K1 := Lib.hid K1; have K2 := Lib.hid K2
        have HV := Lib.hid hv; have HUP := Lib.hid hup; have ST := Lib.hid ST
        have V1 := Lib.hid hv1; have V2 := Lib.hid hv2
        clear hhn hhm hv hup hv1 hv2
        have GO : Hid (stopB b (j, hm) = true → cutN mn b mx s.data.toList = j + 1) := fun hst => by
          refine cutN_stop (pre := (Go.Proofs.YtciajgdjddepdaaDoor.hs mn (s.data.toList.drop mn)).take (j - mn)) (x := (j, hm)) ?_ HNO.out hst
          rw [← HUP.out, ← hs_upto, ← HC.out, show j + 1 - mn = min (j + 1 - mn) (c - mn) by omega, ← List.take_take]
          exact List.take_prefix _ _
        have ON : Hid (stopB b (j, hm) = false → NoStop b mn s (j + 1)) := fun hst y hy => by
          rw [HUP.out] at hy
          rcases List.mem_append.1 hy with h | h
          · exact HNO.out y h
          · obtain rfl := List.mem_singleton.1 h; exact hst
        by_cases hav : j < av
        · have e2 : decide ((j : Int) < (av : Int)) = true := by simpa using hav
          have e3 : decide ((av : Int) ≤ (j : Int)) = false := by simp; omega
          have ST2 : Hid (stopB b (j, hm) = v1) := by
            show _ = _
            rw [ST.out, if_pos hav, V1.out]
          rcases v1 with _ | _
          · go_wp2_with fail
            refine (RO.out _).mono ?_
            rintro e w2 ⟨rfl, rfl⟩
            go_wp2_with fail
            refine (K1.out _).mono ?_
            rintro e w2 ⟨rfl, rfl⟩
            go_wp2
            go_round
            case rel => exact ⟨j + 1, by omega, by omega, by go_num, by rw [HV.out], ON.out ST2.out⟩
            case measure => simp [intOf]; omega
          · have HCU := Lib.hid (GO.out ST2.out)
            go_wp2_with fail
            refine (RO.out _).mono ?_
            rintro e w2 ⟨rfl, rfl⟩
            go_wp2_with fail
            refine (K1.out _).mono ?_
            rintro e w2 ⟨rfl, rfl⟩
            go_wp2
            go_ret
            exact ⟨by rw [HCU.out]; exact ret_i (by omega), (Below.refl _ _).alloc (Nat.le_refl _) _⟩
        · have e2 : decide ((j : Int) < (av : Int)) = false := by simp; omega
          have e3 : decide ((av : Int) ≤ (j : Int)) = true := by simp; omega
          have ST2 : Hid (stopB b (j, hm) = v2) := by
            show _ = _
            rw [ST.out, if_neg hav, V2.out]
          rcases v2 with _ | _
          · go_wp2_with fail
            refine (RO.out _).mono ?_
            rintro e w2 ⟨rfl, rfl⟩
            go_wp2_with fail
            refine (K2.out _).mono ?_
            rintro e w2 ⟨rfl, rfl⟩
            go_wp2
            go_round
            case rel => exact ⟨j + 1, by omega, by omega, by go_num, by rw [HV.out], ON.out ST2.out⟩
            case measure => simp [intOf]; omega
          · have HCU := Lib.hid (GO.out ST2.out)
            go_wp2_with fail
            refine (RO.out _).mono ?_
            rintro e w2 ⟨rfl, rfl⟩
            go_wp2_with fail
            refine (K2.out _).mono ?_
            rintro e w2 ⟨rfl, rfl⟩
            go_wp2
            go_ret
            exact ⟨by rw [HCU.out]; exact ret_i (by omega), (Below.refl _ _).alloc (Nat.le_refl _) _⟩
      · obtain rfl : j = c := by omega
        have hcut : cutN mn b mx s.data.toList = j := by
          rw [cutN_none (by rw [← hs_upto, ← HC.out]; exact HNO.out), List.length_take, ← Lib.size_eq]
          have := HC.out; omega
        have HCU := Lib.hid hcut; clear hcut
        go_wp2
        go_ret
        exact ⟨by rw [HCU.out]; rfl, (Below.refl _ _).alloc (Nat.le_refl _) _⟩
end Go.Proofs.YtciajgdjddepdaaDoor

/-
  Contracts over this translation: the document's Fit, Cut and Pieces of layer 7.
-/
import Derived.WalkKit
import Derived.LoopTactic
import Derived.Outline
import Derived.Laws.BitsAllLaws
import Derived.Laws.ShiftsVarLaws
import Derived.Lib.Hide
import Derived.Below
import Derived.Lib.IndexBytes
import Derived.RegionTactic
import Derived.StillTailTactics
import Derived.Test.YtlccihidedfemaaGreatDoorProg
import Derived.Test.YtlccihidedfemaaGreatDoorQb0
set_option linter.unusedVariables false
namespace Go.Proofs.YtlccihidedfemaaGreatDoor
open Go.RowKit
theorem ext_take (s : ByteArray) (c : Nat) : (s.extract 0 c).data.toList = s.data.toList.take c := by simp
theorem take_min (s : ByteArray) (m : Nat) : s.data.toList.take (min s.size m) = s.data.toList.take m := by
 rw [Lib.size_eq]
 by_cases h : s.data.toList.length ≤ m
 ·rw [Nat.min_eq_left h, List.take_length, List.take_of_length_le h]
 ·rw [Nat.min_eq_right (by omega)]
def PowR (n r : Int) : Prop := (∃ k : Nat, k < 30 ∧ n = ((2 ^ k : Nat) : Int) ∧ r = k) ∨ (r = -1 ∧ ∀ k : Nat, k < 30 → n ≠ ((2 ^ k : Nat) : Int))
def RetPow (n : Int) (w : World) (e : Ending) (w' : World) : Prop := ∃ r, e = .returned (.int .i64 r) ∧ PowR n r ∧ w = w'
theorem wrap_pow {k : Nat} (h : k < 30) : wrap64 ((2 : Int) ^ k) = ((2 ^ k : Nat) : Int) := by
 have : ∀ k : Fin 30, wrap64 ((2 : Int) ^ k.val) = ((2 ^ k.val : Nat) : Int) := by decide +kernel
 exact this ⟨k, h⟩
def NoPow (n : Int) (k : Nat) : Prop := ∀ j : Nat, j < k → n ≠ ((2 ^ j : Nat) : Int)
set_option maxRecDepth 100000 in
set_option maxHeartbeats 1000000 in
theorem power_any (n : Int) (w : World) : Calls Tryz.prog 79 #[.int .i64 n] w (RetPow n w) := by
 go_enter Tryz.func79, Tryz.ntmps79
 go_wp2
 go_loop [3] (fun i => ∃ k : Nat, k ≤ 30 ∧ i = .int .i64 k ∧ NoPow n k) (fun i => 30 - (intOf i).toNat)
 case atStart => exact ⟨0, by omega, rfl, fun j hj => absurd hj (by omega)⟩
 case round =>
  obtain ⟨k, hk, rfl, hno⟩ := hrel
  by_cases hlt : k < 30
  ·have E := Lib.hid (wrap_pow hlt)
   by_cases hv : (n == wrap64 ((2 : Int) ^ k)) = true
   ·have HV := Lib.hid hv
    go_wp2
    go_ret
    exact ⟨_, rfl, .inl ⟨k, hlt, by have := eq_of_beq HV.out; rw [E.out] at this; exact this, rfl⟩, rfl⟩
   ·have hv' : (n == wrap64 ((2 : Int) ^ k)) = false := by simpa using hv
    have HV := Lib.hid hv'
    clear hv
    go_wp2
    go_round
    case rel =>
     refine ⟨k + 1, by omega, by go_num, fun j hj => ?_⟩
     by_cases hjk : j = k
     ·subst hjk
      intro e
      rw [← E.out] at e
      rw [e] at HV
      have := HV.out
      simp at this
     ·exact hno j (by omega)
    case measure => simp [intOf]; omega
  ·obtain rfl : k = 30 := by omega
   go_wp2
   go_ret
   exact ⟨_, rfl, .inr ⟨rfl, hno⟩, rfl⟩
def blankN (h k : Nat) : Bool := decide (h < 2 ^ (64 - k))
theorem blank_int (h k : Nat) : ((h : Int) / 2 ^ (64 - k) == 0) = blankN h k := by
 have e : ((h : Int) / 2 ^ (64 - k)) = ((h / 2 ^ (64 - k) : Nat) : Int) := by rw [Int.natCast_ediv, Int.natCast_pow]; rfl
 rw [e, Bool.eq_iff_iff, beq_iff_eq, blankN, decide_eq_true_iff]
 have hp : 0 < 2 ^ (64 - k) := Nat.pow_pos (by decide)
 rw [show ((0 : Int)) = ((0 : Nat) : Int) from rfl, Int.natCast_inj, Nat.div_eq_zero_iff]
 omega
set_option maxRecDepth 100000 in
set_option maxHeartbeats 1000000 in
theorem blank_any (h k : Nat) (hh : h < M64) (hk : k ≤ 13) (w : World) : Calls Tryz.prog 114 #[.int .u64 h, .int .i64 k] w fun e w' => e = .returned (.bool (blankN h k)) ∧ w = w' := by
 by_cases h0 : k = 0
 ·subst h0
  have hb : blankN h 0 = true := decide_eq_true hh
  have HB := Lib.hid hb; clear hb
  go_enter Tryz.func114, Tryz.ntmps114
  go_wp2
  go_ret
  rw [HB.out]
  exact ⟨rfl, rfl⟩
 ·have hk0 : (((k : Nat) : Int) == 0) = false := beq_eq_false_iff_ne.2 (by omega)
  have HH := Lib.hid hh; clear hh
  go_enter Tryz.func114, Tryz.ntmps114
  go_wp2
  go_ret
  rw [blank_int]
  exact ⟨rfl, rfl⟩
def isP (n : Nat) : Bool := (List.range 13).any fun b => n == 2 ^ b
abbrev pV (mn av mx : Int) : Value := .agg #[.int .i64 mn, .int .i64 av, .int .i64 mx]
theorem isP_iff {n : Nat} (h : isP n = true) : ∃ b, b < 13 ∧ n = 2 ^ b := by
 simp only [isP, List.any_eq_true, List.mem_range, beq_iff_eq] at h
 exact h
set_option maxRecDepth 100000 in
set_option maxHeartbeats 2000000 in
theorem refFit_any_Cdw (mn av mx : Int) (w : World) : Calls Tryz.prog 48 #[pV mn av mx] w fun e w' => e = .returned (.bool (fitB_Cdm mn av mx)) ∧ Below w.heap.size w w' := by
 have key : ∀ v : Bool, fitB_Cdm mn av mx = v → Calls Tryz.prog 48 #[pV mn av mx] w fun e w' => e = .returned (.bool v) ∧ Below w.heap.size w w' := by
  intro v hv
  have HV := Lib.hid hv
  clear hv
  by_cases g1 : 1 ≤ mn
  ·by_cases g2 : 2 ≤ av
   ·have P := Lib.hid (power_any av)
    go_enter Tryz.func48, Tryz.ntmps48
    go_wp2_with fail
    refine (P.out _).mono ?_
    rintro e w1 ⟨r, rfl, hr, rfl⟩
    clear P
    by_cases h1 : 0 < r ∧ mn ≤ av ∧ av ≤ mx ∧ mx ≤ 4096
    ·obtain ⟨h1, h2, h3, h4⟩ := h1
     obtain rfl : true = v := by
      rcases hr with ⟨k, hk, e, rfl⟩ | ⟨rfl, _⟩
      ·have h13 : k < 13 := by
        apply Nat.lt_of_not_le; intro hle
        have : 2 ^ 13 ≤ 2 ^ k := Nat.pow_le_pow_right (by decide) hle
        have : (2 ^ 13 : Nat) ≤ 4096 := by
         have e2 : ((2 ^ k : Nat) : Int) ≤ 4096 := by rw [← e]; omega
         have e3 : (2 ^ k : Nat) ≤ 4096 := by exact_mod_cast e2
         omega
        exact absurd this (by decide)
       exact (fitB_of ⟨g1, h2, h3, h4, by omega, by omega, e⟩).symm.trans HV.out
      ·omega
     clear hr
     go_wp2
     go_ret
     exact ⟨rfl, (Below.refl _ _).alloc (Nat.le_refl _) _⟩
    ·obtain rfl : false = v := by
      rcases hc : v with _ | _
      ·rfl
      ·obtain ⟨b, hb⟩ := fitB_true_Cdm (HV.out.trans hc)
       refine absurd ⟨?_, hb.h2, hb.h3, hb.h4⟩ h1
       rcases hr with ⟨k, hk, e, rfl⟩ | ⟨rfl, hn⟩
       ·rcases k with _ | k
        ·rw [e] at g2; simp at g2
        ·omega
       ·exact absurd hb.h7 (hn b (by have := hb.h6; omega))
     clear hr
     by_cases q1 : 0 < r
     ·by_cases q2 : mn ≤ av
      ·by_cases q3 : av ≤ mx
       ·have q4 : ¬ mx ≤ 4096 := fun q4 => h1 ⟨q1, q2, q3, q4⟩
        have d4 : decide (mx ≤ 4096) = false := decide_eq_false q4
        clear h1
        go_wp2
        go_ret
        exact ⟨rfl, (Below.refl _ _).alloc (Nat.le_refl _) _⟩
       ·clear h1
        go_wp2
        go_ret
        exact ⟨rfl, (Below.refl _ _).alloc (Nat.le_refl _) _⟩
      ·clear h1
       go_wp2
       go_ret
       exact ⟨rfl, (Below.refl _ _).alloc (Nat.le_refl _) _⟩
     ·clear h1
      go_wp2
      go_ret
      exact ⟨rfl, (Below.refl _ _).alloc (Nat.le_refl _) _⟩
   ·obtain rfl : false = v := by
     rcases hc : v with _ | _
     ·rfl
     ·obtain ⟨b, hb⟩ := fitB_true_Cdm (HV.out.trans hc)
      exact absurd hb.two g2
    go_enter Tryz.func48, Tryz.ntmps48
    go_wp2
    go_ret
    exact ⟨rfl, (Below.refl _ _).alloc (Nat.le_refl _) _⟩
  ·obtain rfl : false = v := by
    rcases hc : v with _ | _
    ·rfl
    ·obtain ⟨b, hb⟩ := fitB_true_Cdm (HV.out.trans hc)
     exact absurd hb.h1 g1
   go_enter Tryz.func48, Tryz.ntmps48
   go_wp2
   go_ret
   exact ⟨rfl, (Below.refl _ _).alloc (Nat.le_refl _) _⟩
 exact key _ rfl
theorem stop_blank {b at' h : Nat} : stopB b (at', h) = blankN h (if at' < 2 ^ b then b + 1 else b - 1) := rfl
theorem upTo_on (s : ByteArray) (p j : Nat) (h0 : p ≤ j) (h : j < s.size) :
  (hs p (s.data.toList.drop p)).take (j + 1 - p) = (hs p (s.data.toList.drop p)).take (j - p) ++ [(j, rollN (hashF 0 ((s.data.toList.drop p).take (j - p))) (s[j]'h).toNat)] ∧ hashF 0 ((s.data.toList.drop p).take (j + 1 - p)) = rollN (hashF 0 ((s.data.toList.drop p).take (j - p))) (s[j]'h).toNat := by
 have hl : j - p < (s.data.toList.drop p).length := by rw [List.length_drop, ← Lib.size_eq]; omega
 have e1 : j + 1 - p = j - p + 1 := by omega
 have hx : (s.data.toList.drop p).take (j - p + 1) = (s.data.toList.drop p).take (j - p) ++ [s[j]'h] := by
  rw [List.take_succ_eq_append_getElem hl]
  congr 2
  simp only [List.getElem_drop]
  have : p + (j - p) = j := by omega
  simp only [this]; rfl
 have h2 : hashF 0 ((s.data.toList.drop p).take (j - p + 1)) = rollN (hashF 0 ((s.data.toList.drop p).take (j - p))) (s[j]'h).toNat := by rw [hx, hashF_snoc]
 rw [e1]
 refine ⟨?_, h2⟩
 have := hs_snoc p (s.data.toList.drop p) (j - p) hl
 rw [hs_take, hs_take, this, h2, show p + (j - p) = j by omega]
theorem power_of (b : Nat) (hb : b ≤ 12) (w : World) : Calls Tryz.prog 79 #[.int .i64 (2 ^ b : Nat)] w fun e w' => e = .returned (.int .i64 b) ∧ w = w' := by
 refine (power_any _ w).mono ?_
 rintro e w' ⟨r, rfl, hr, rfl⟩
 refine ⟨ret_i ?_, rfl⟩
 rcases hr with ⟨k, hk, e, rfl⟩ | ⟨_, hn⟩
 ·have h1 : (2 ^ b : Nat) = 2 ^ k := by exact_mod_cast e
  have : k = b := by
   rcases Nat.lt_trichotomy k b with h | h | h
   ·have := Nat.pow_lt_pow_right (a := 2) (by decide) h; omega
   ·exact h
   ·have := Nat.pow_lt_pow_right (a := 2) (by decide) h; omega
  rw [this]
 ·exact absurd rfl (hn b (by omega))
theorem hs_upto (mn mx : Nat) (s : ByteArray) : (hs mn (s.data.toList.drop mn)).take (min s.size mx - mn) = hs mn ((s.data.toList.take mx).drop mn) := by
 rw [hs_take, List.drop_take]
 congr 1
 rw [Lib.size_eq]
 by_cases h : s.data.toList.length ≤ mx
 ·rw [Nat.min_eq_left h, List.take_of_length_le (by rw [List.length_drop]; omega), List.take_of_length_le (by rw [List.length_drop]; omega)]
 ·rw [Nat.min_eq_right (by omega)]
def NoStop (b mn : Nat) (s : ByteArray) (j : Nat) : Prop := ∀ y ∈ (hs mn (s.data.toList.drop mn)).take (j - mn), stopB b y = false
set_option maxRecDepth 100000 in
set_option maxHeartbeats 4000000 in
theorem refCut_any (mn av b mx : Nat) (hF : FitAt mn av mx b) (s : ByteArray) (hs : s.size ≤ maxLen) (w : World) :
  Calls Tryz.prog 97 #[pV mn av mx, .string s] w fun e w' => e = .returned (.int .i64 (cutN mn b mx s.data.toList : Nat)) ∧ Below w.heap.size w w' := by
 obtain ⟨h1, h2, h3, h4, h5, h6, h7⟩ := hF
 have h7' : av = 2 ^ b := by exact_mod_cast h7
 have P := Lib.hid (power_of b h6)
 rw [← h7'] at P
 have H7 := Lib.hid h7'
 clear h7 h7'
 simp only [maxLen] at hs
 have hcI : (min (s.size : Int) (mx : Int)) = ((min s.size mx : Nat) : Int) := by omega
 have HCI := Lib.hid hcI
 clear hcI
 by_cases hsm : s.size ≤ mn
 ·have e1 : decide ((s.size : Int) ≤ (mn : Int)) = true := by simpa using hsm
  have hcut : cutN mn b mx s.data.toList = s.size := by
   unfold cutN
   rw [if_pos (by rw [List.length_take, ← Lib.size_eq]; omega), List.length_take, ← Lib.size_eq]; omega
  have HCU := Lib.hid hcut; clear hcut
  go_enter Tryz.func97, Tryz.ntmps97
  go_wp2
  go_ret
  exact ⟨by rw [HCU.out]; rfl, (Below.refl _ _).alloc (Nat.le_refl _) _⟩
 ·have e1 : decide ((s.size : Int) ≤ (mn : Int)) = false := by simp; omega
  go_enter Tryz.func97, Tryz.ntmps97
  go_wp2_with fail
  refine (P.out _).mono ?_
  rintro e w1 ⟨rfl, rfl⟩
  go_wp2_with fail
  rw [HCI.out]
  obtain ⟨c, hc⟩ : ∃ c : Nat, c = min s.size mx := ⟨_, rfl⟩
  rw [← hc]
  have hcs : c ≤ s.size := by omega
  have hcm : mn ≤ c := by omega
  have HC := Lib.hid hc
  clear hc HCI
  go_loop [7, 8] (fun h i => ∃ j : Nat, mn ≤ j ∧ j ≤ c ∧ i = .int .i64 j ∧ h = .int .u64 (hashF 0 ((s.data.toList.drop mn).take (j - mn)) : Nat) ∧ NoStop b mn s j) (fun _ i => c - (intOf i).toNat)
  case atStart => exact ⟨mn, Nat.le_refl _, hcm, rfl, by simp [hashF], fun y hy => by simp at hy⟩
  case round =>
   obtain ⟨j, hj1, hj2, rfl, rfl, hno⟩ := hrel
   have HNO := Lib.hid hno
   clear hno
   by_cases hlt : j < c
   ·have hlts : j < s.size := by omega
    obtain ⟨hup, hv⟩ := upTo_on s mn j hj1 hlts
    have RO := Lib.hid (refRoll_any (hashF 0 ((s.data.toList.drop mn).take (j - mn))) (s[j]'hlts))
    have hm0 := rollN_lt (hashF 0 ((s.data.toList.drop mn).take (j - mn))) (s[j]'hlts).toNat
    obtain ⟨hn, hhn⟩ : ∃ hn, hn = hashF 0 ((s.data.toList.drop mn).take (j - mn)) := ⟨_, rfl⟩
    rw [← hhn] at hv hup RO hm0 ⊢
    obtain ⟨hm, hhm⟩ : ∃ hm, hm = rollN hn (s[j]'hlts).toNat := ⟨_, rfl⟩
    rw [← hhm] at hv hup RO hm0
    have K1 := blank_any hm (b + 1) hm0 (by omega)
    have K2 := blank_any hm (b - 1) hm0 (by omega)
    rw [show ((b + 1 : Nat) : Int) = (b : Int) + 1 by omega] at K1
    rw [show ((b - 1 : Nat) : Int) = (b : Int) - 1 by omega] at K2
    have ST := stop_blank (b := b) (at' := j) (h := hm)
    rw [← H7.out] at ST
    obtain ⟨v1, hv1⟩ : ∃ v1, v1 = blankN hm (b + 1) := ⟨_, rfl⟩
    obtain ⟨v2, hv2⟩ : ∃ v2, v2 = blankN hm (b - 1) := ⟨_, rfl⟩
    rw [← hv1] at K1
    rw [← hv2] at K2
    have K1 := Lib.hid K1; have K2 := Lib.hid K2
    have HV := Lib.hid hv; have HUP := Lib.hid hup; have ST := Lib.hid ST
    have V1 := Lib.hid hv1; have V2 := Lib.hid hv2
    clear hhn hhm hv hup hv1 hv2
    have GO : Hid (stopB b (j, hm) = true → cutN mn b mx s.data.toList = j + 1) := fun hst => by
     refine cutN_stop (pre := (Go.Proofs.YtlccihidedfemaaGreatDoor.hs mn (s.data.toList.drop mn)).take (j - mn)) (x := (j, hm)) ?_ HNO.out hst
     rw [← HUP.out, ← hs_upto, ← HC.out, show j + 1 - mn = min (j + 1 - mn) (c - mn) by omega, ← List.take_take]
     exact List.take_prefix _ _
    have ON : Hid (stopB b (j, hm) = false → NoStop b mn s (j + 1)) := fun hst y hy => by
     rw [HUP.out] at hy
     rcases List.mem_append.1 hy with h | h
     ·exact HNO.out y h
     ·obtain rfl := List.mem_singleton.1 h; exact hst
    by_cases hav : j < av
    ·have e2 : decide ((j : Int) < (av : Int)) = true := by simpa using hav
     have e3 : decide ((av : Int) ≤ (j : Int)) = false := by simp; omega
     have ST2 : Hid (stopB b (j, hm) = v1) := by
      show _ = _
      rw [ST.out, if_pos hav, V1.out]
     rcases v1 with _ | _
     ·go_wp2_with fail
      refine (RO.out _).mono ?_
      rintro e w2 ⟨rfl, rfl⟩
      go_wp2_with fail
      refine (K1.out _).mono ?_
      rintro e w2 ⟨rfl, rfl⟩
      go_wp2
      go_round
      case rel => exact ⟨j + 1, by omega, by omega, by go_num, by rw [HV.out], ON.out ST2.out⟩
      case measure => simp [intOf]; omega
     ·have HCU := Lib.hid (GO.out ST2.out)
      go_wp2_with fail
      refine (RO.out _).mono ?_
      rintro e w2 ⟨rfl, rfl⟩
      go_wp2_with fail
      refine (K1.out _).mono ?_
      rintro e w2 ⟨rfl, rfl⟩
      go_wp2
      go_ret
      exact ⟨by rw [HCU.out]; exact ret_i (by omega), (Below.refl _ _).alloc (Nat.le_refl _) _⟩
    ·have e2 : decide ((j : Int) < (av : Int)) = false := by simp; omega
     have e3 : decide ((av : Int) ≤ (j : Int)) = true := by simp; omega
     have ST2 : Hid (stopB b (j, hm) = v2) := by
      show _ = _
      rw [ST.out, if_neg hav, V2.out]
     rcases v2 with _ | _
     ·go_wp2_with fail
      refine (RO.out _).mono ?_
      rintro e w2 ⟨rfl, rfl⟩
      go_wp2_with fail
      refine (K2.out _).mono ?_
      rintro e w2 ⟨rfl, rfl⟩
      go_wp2
      go_round
      case rel => exact ⟨j + 1, by omega, by omega, by go_num, by rw [HV.out], ON.out ST2.out⟩
      case measure => simp [intOf]; omega
     ·have HCU := Lib.hid (GO.out ST2.out)
      go_wp2_with fail
      refine (RO.out _).mono ?_
      rintro e w2 ⟨rfl, rfl⟩
      go_wp2_with fail
      refine (K2.out _).mono ?_
      rintro e w2 ⟨rfl, rfl⟩
      go_wp2
      go_ret
      exact ⟨by rw [HCU.out]; exact ret_i (by omega), (Below.refl _ _).alloc (Nat.le_refl _) _⟩
   ·obtain rfl : j = c := by omega
    have hcut : cutN mn b mx s.data.toList = j := by
     rw [cutN_none (by rw [← hs_upto, ← HC.out]; exact HNO.out), List.length_take, ← Lib.size_eq]
     have := HC.out; omega
    have HCU := Lib.hid hcut; clear hcut
    go_wp2
    go_ret
    exact ⟨by rw [HCU.out]; rfl, (Below.refl _ _).alloc (Nat.le_refl _) _⟩
def lenOf : Value → Nat
 | .string x => x.size
 | _ => 0
theorem str_nonempty (x : ByteArray) : (x.toList.isEmpty = false) = (0 < x.size) := by
 rw [eq_iff_iff]
 have : x.toList = x.data.toList := ByteArray.toList_eq x
 rw [this, Lib.size_eq]
 cases x.data.toList <;> simp
def RetPcs (c : List UInt8 → Nat) (l : List UInt8) (w : World) (e : Ending) (w' : World) : Prop := ∃ v, e = .returned v ∧ IsStrs w' v (strsOf (pcs c l)) ∧ Below w.heap.size w w'
def OnWay (c : List UInt8 → Nat) (l : List UInt8) (M : List (List UInt8)) (x : ByteArray) : Prop := M ++ pcs c x.data.toList = pcs c l
theorem onWay_step {mn mx : Nat} {c : List UInt8 → Nat} (H : CutOk mn mx c) {l : List UInt8} {M : List (List UInt8)} {x : ByteArray} (h : OnWay c l M x) (hx : 0 < x.size) :
  OnWay c l (M ++ [(x.extract 0 (c x.data.toList)).data.toList]) (x.extract (c x.data.toList) x.size) := by
 have hne : x.data.toList ≠ [] := fun e => by rw [Lib.size_eq, e] at hx; exact absurd hx (by simp)
 unfold OnWay at h ⊢
 rw [← h, pcs_cons H.pos hne, Lib.extract_to_end, ext_take, List.append_assoc]; rfl
theorem onWay_len {mn mx : Nat} {c : List UInt8 → Nat} (H : CutOk mn mx c) {l : List UInt8} {M : List (List UInt8)} {x : ByteArray} (h : OnWay c l M x) : M.length ≤ l.length := by
 have h1 := pcs_len H.pos l.length l (Nat.le_refl _)
 have h2 := congrArg List.length h
 rw [List.length_append] at h2
 omega
theorem onWay_end {c : List UInt8 → Nat} {l : List UInt8} {M : List (List UInt8)} {x : ByteArray} (h : OnWay c l M x) (hx : x.size = 0) : M = pcs c l := by
 have e : x.data.toList = [] := List.length_eq_zero_iff.1 (by rw [← Lib.size_eq]; exact hx)
 unfold OnWay at h
 rw [e, pcs_nil, List.append_nil] at h
 exact h
def RetPcsO (c : List UInt8 → Nat) (l : List UInt8) (w : World) (e : Ending) (w' : World) : Prop := ∃ v, e = .returned v ∧ OwnTxt w w' v (pcs c l) ∧ Below w.heap.size w w'
theorem OwnTxt.low {W V w : World} {v : Value} {M : List (List UInt8)} (h : OwnTxt V w v M) (hb : W.heap.size ≤ V.heap.size) : OwnTxt W w v M := by
 refine ⟨h.1, ?_⟩
 rcases h.2 with h2 | ⟨g, cap, cur, h3, h4, h5⟩
 ·exact .inl h2
 ·exact .inr ⟨g, cap, cur, h3, Nat.le_trans hb h4, h5⟩
set_option maxRecDepth 100000 in
set_option maxHeartbeats 4000000 in
theorem refPiecesO_any (mn av b mx : Nat) (hF : FitAt mn av mx b) (s : ByteArray) (hs : s.size ≤ 100000) (w : World) :
  Calls Tryz.prog 76 #[pV mn av mx, .string s] w (RetPcsO (cutN mn b mx) s.data.toList w) := by
 have OK := Lib.hid (cutN_ok (mn := mn) (b := b) (mx := mx) (by have := hF.h1; omega) (by have := hF.h2; have := hF.h3; omega))
 have C := Lib.hid (fun (x : ByteArray) (hx : x.size ≤ maxLen) W => refCut_any mn av b mx hF x hx W)
 clear hF
 have hown0 : OwnTxt (w.alloc (.cells #[.int .i64 mn, .int .i64 av, .int .i64 mx] 23)) (w.alloc (.cells #[.int .i64 mn, .int .i64 av, .int .i64 mx] 23)) (.slice none 0 0) [] := ownTxt_nil _
 obtain ⟨V, hV⟩ : ∃ V, V = w.alloc (.cells #[.int .i64 mn, .int .i64 av, .int .i64 mx] 23) := ⟨_, rfl⟩
 have hRV : Row V w.heap.size #[.int .i64 mn, .int .i64 av, .int .i64 mx] 23 := by rw [hV]; exact Row.made _ _ _
 have hBV : Below w.heap.size w V := by rw [hV]; exact (Below.refl _ _).alloc (Nat.le_refl _) _
 rw [← hV] at hown0
 have HV := Lib.hid hV; have HRV := Lib.hid hRV
 clear hV hRV
 go_enter Tryz.func76, Tryz.ntmps76
 go_wp2_with fail
 rw [← HV.out]
 go_loopw [1, 5] (fun q v wr => ∃ (M : List (List UInt8)) (x : ByteArray), q = .string x ∧ x.size ≤ s.size ∧ OnWay (cutN mn b mx) s.data.toList M x ∧ OwnTxt V wr v M ∧ Below V.heap.size V wr) (fun q _ _ => lenOf q)
 case atStart => exact ⟨[], s, rfl, Nat.le_refl _, rfl, hown0, Below.refl _ _⟩
 case round =>
  obtain ⟨M, x, rfl, hxs, hway, hown, hB⟩ := hrel
  have HW := Lib.hid hway; have HO := Lib.hid hown
  have hml := onWay_len OK.out hway
  rw [← Lib.size_eq] at hml
  have hol : M.length ≤ 1000000 := by omega
  clear hway hown hown0 hml
  have hR := HRV.out.step hB
  have g0 := hR.cell 0; have g1 := hR.cell 1; have g2 := hR.cell 2
  simp only [List.getElem?_toArray, List.getElem?_cons_zero, List.getElem?_cons_succ] at g0 g1 g2
  clear hR
  by_cases hx : 0 < x.size
  ·have hem : x.toList.isEmpty = false := by rw [str_nonempty]; exact hx
   have hstep := onWay_step OK.out HW.out hx
   have hn1 := OK.out.pos x.data.toList (fun e => by rw [Lib.size_eq, e] at hx; exact absurd hx (by simp))
   have hn2 := OK.out.le x.data.toList
   rw [← Lib.size_eq] at hn2
   have hC := C.out x (by unfold maxLen; omega)
   obtain ⟨n, hn⟩ : ∃ n, n = cutN mn b mx x.data.toList := ⟨_, rfl⟩
   rw [← hn] at hstep hn1 hn2 hC
   have hd1 := fun W => run_slice_to (P := Tryz.prog) Tryz.underlying9 x n hn2 W
   have hd2 := fun W => run_slice_from (P := Tryz.prog) Tryz.underlying9 x n hn2 W
   have hys : (x.extract n x.size).size = x.size - n := by rw [ByteArray.size_extract]; omega
   obtain ⟨t, ht⟩ : ∃ t, t = x.extract 0 n := ⟨_, rfl⟩
   obtain ⟨y, hy⟩ : ∃ y, y = x.extract n x.size := ⟨_, rfl⟩
   rw [← ht] at hd1 hstep
   rw [← hy] at hd2 hstep hys
   have HC := Lib.hid hC; have HS := Lib.hid hstep; have HYS := Lib.hid hys
   clear hC hstep hys ht hy hn
   go_wp2_with fail
   refine (HC.out _).mono ?_
   rintro e w1 ⟨rfl, hb1⟩
   have hB1 := below_step hB hb1
   have HO1 := Lib.hid (HO.out.stays hb1)
   clear HO hB hb1 g0 g1 g2
   go_wp2_with (at_builtin; refine wpList_append_txt rfl _ _ rfl HO1.out hB1 rfl rfl hol ?_)
   intro v' w2 hown' hb2
   have HO2 := Lib.hid hown'
   clear hown'
   go_wp2_with fail
   go_roundw
   case rel => exact ⟨_, y, rfl, by rw [HYS.out]; omega, HS.out, HO2.out, hb2⟩
   case measure => simp only [lenOf]; rw [HYS.out]; omega
  ·have hem : x.toList.isEmpty = true := by
    rcases h : x.toList.isEmpty with _ | _
    ·rw [str_nonempty] at h; exact absurd h hx
    ·rfl
   have hfin := onWay_end HW.out (by omega)
   have hstr := HO.out.low hBV.size
   rw [hfin] at hstr
   have hBw := hBV.trans (hB.mono hBV.size)
   have HST := Lib.hid hstr; have HBW := Lib.hid hBw
   clear hfin hstr HO hBw
   go_wp2
   go_ret
   exact ⟨_, rfl, HST.out, HBW.out⟩
theorem refPieces_any (mn av b mx : Nat) (hF : FitAt mn av mx b) (s : ByteArray) (hs : s.size ≤ 100000) (w : World) :
  Calls Tryz.prog 76 #[pV mn av mx, .string s] w (RetPcs (cutN mn b mx) s.data.toList w) :=
 (refPiecesO_any mn av b mx hF s hs w).mono fun _ _ ⟨v, h1, h2, h3⟩ => ⟨v, h1, h2.strs, h3⟩
end Go.Proofs.YtlccihidedfemaaGreatDoor

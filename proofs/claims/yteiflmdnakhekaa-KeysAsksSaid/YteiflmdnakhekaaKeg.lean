/-
  Contracts over this translation: which lists are sets (both), lists of few texts.
-/
import Derived.Test.YteiflmdnakhekaaKed
set_option linter.unusedVariables false
namespace Go.Proofs.Yteiflmdnakhekaa
open Go.RowKit
attribute [local go_sem] Oper.semAt_some

/-! ## Fit -/
def FitTo (l : List Txt) (k : Nat) : Prop := ∀ i (h : i < l.length), i < k → l[i].length = 32 ∧ (0 < i → l[i - 1]'(by omega) < l[i])
theorem fitTo_zero (l : List Txt) : FitTo l 0 := fun i _ h => absurd h (by omega)
theorem fitTo_step {l : List Txt} {k : Nat} (h : FitTo l k) (hk : k < l.length) (h32 : l[k].length = 32) (hr : 0 < k → l[k - 1]'(by omega) < l[k]) : FitTo l (k + 1) := fun i hi hik => by
  rcases Nat.lt_or_ge i k with e | e
  · exact h i hi e
  · obtain rfl : i = k := by omega
    exact ⟨h32, hr⟩
theorem fitB_all {l : List Txt} {k : Nat} (h : FitTo l k) (hk : l.length ≤ k) : fitB l = true := fitB_true fun i hi => h i hi (by omega)
theorem fitB_no32 {l : List Txt} {k : Nat} (hk : k < l.length) (h32 : l[k].length ≠ 32) : fitB l = false := fitB_false fun h => h32 (h k hk).1
theorem fitB_norise {l : List Txt} {k : Nat} (hk : k < l.length) (h0 : 0 < k) (hr : ¬ l[k - 1]'(by omega) < l[k]) : fitB l = false := fitB_false fun h => hr ((h k hk).2 h0)

theorem isKey_any (x : ByteArray) (w : World) :
    Calls Try.prog 27 #[.string x] w fun e w' => e = .returned (.bool (((x.size : Nat) : Int) == 32)) ∧ w = w' := by
  go_enter Try.func27, Try.ntmps27
  go_wp2
  go_ret
  exact ⟨rfl, rfl⟩

set_option maxRecDepth 100000 in
set_option maxHeartbeats 2000000 in
theorem Fit_any (v : Value) (L : List ByteArray) (w : World) (hv : IsStrs w v L) :
    Calls Try.prog 9 #[v] w fun e w' => e = .returned (.bool (fitB (txts L))) ∧ w = w' := by
  obtain ⟨hm, a, cap, rfl, _, hc⟩ := hv
  have hmm : L.length ≤ 9223372036854775807 := by unfold maxLen at hm; omega
  have HC := Lib.hid hc
  clear hc hm
  go_enter Try.func9, Try.ntmps9
  go_wp2
  go_loop [7] (fun i => ∃ k : Nat, k ≤ L.length ∧ i = .int .i64 k ∧ FitTo (txts L) k) (fun i => L.length - (intOf i).toNat)
  case atStart => exact ⟨0, Nat.zero_le _, rfl, fitTo_zero _⟩
  case round =>
    obtain ⟨k, hk, rfl, hF⟩ := hrel
    have HF := Lib.hid hF; clear hF
    by_cases hlt : k < L.length
    · obtain ⟨b1, o1, rfl, _, g1⟩ := HC.out (by omega)
      have q1 := g1 k hlt
      have hkl : k < (txts L).length := by rw [txts_len]; exact hlt
      have hty := txts_get hlt
      obtain ⟨y, hy⟩ : ∃ y, y = L[k] := ⟨_, rfl⟩
      rw [← hy] at q1 hty
      clear hy
      have HT := Lib.hid hty; clear hty
      have hK := Lib.hid (isKey_any y)
      have hbk : decide ((k : Int) < (L.length : Int)) = true := by simpa using (show (k : Int) < L.length by omega)
      by_cases h32 : y.size = 32
      · have h32b : (((y.size : Nat) : Int) == 32) = true := by rw [h32]; rfl
        have h32l : (txts L)[k].length = 32 := by rw [HT.out, ← Lib.size_eq]; exact h32
        have H32 := Lib.hid h32l
        clear h32 h32l
        rw [h32b] at hK
        by_cases h0 : k = 0
        · subst h0
          have HS := Lib.hid (fitTo_step HF.out hkl H32.out (fun h => absurd h (by omega)))
          simp only [Nat.add_zero] at q1
          clear g1
          go_wp2_with ((with_reducible refine (hK.out _).mono ?_); rintro e w1 ⟨rfl, rfl⟩)
          go_round
          case rel => exact ⟨1, by omega, by go_num, HS.out⟩
          case measure => simp [intOf]; omega
        · have q0 := g1 (k - 1) (by omega)
          have htz := txts_get (L := L) (i := k - 1) (by omega)
          obtain ⟨z, hz⟩ : ∃ z, z = L[k - 1] := ⟨_, rfl⟩
          rw [← hz] at q0 htz
          clear hz g1
          have hk0 : decide ((0 : Int) < (k : Int)) = true := by simpa using (show (0 : Int) < k by omega)
          have hk1 : (k : Int) - 1 = ((k - 1 : Nat) : Int) := by omega
          have HK1 := Lib.hid hk1
          obtain ⟨j, hj⟩ : ∃ j, j = k - 1 := ⟨_, rfl⟩
          obtain rfl : k = j + 1 := by omega
          simp only [Nat.add_sub_cancel] at q0 htz
          clear hk1 HK1 hj
          by_cases hr : z.data.toList < y.data.toList
          · have hrb : Op.bytesLess z.toList y.toList = true := by rw [less_eq]; exact decide_eq_true hr
            have HS := Lib.hid (fitTo_step HF.out hkl H32.out (fun h => by rw [HT.out]; simp only [Nat.add_sub_cancel]; rw [htz]; exact hr))
            clear hr htz
            go_wp2_with ((with_reducible refine (hK.out _).mono ?_); rintro e w1 ⟨rfl, rfl⟩)
            go_round
            case rel => exact ⟨j + 2, by omega, by go_num, HS.out⟩
            case measure => simp [intOf]; omega
          · have hrb : Op.bytesLess z.toList y.toList = false := by rw [less_eq]; exact decide_eq_false hr
            have HS := Lib.hid (fitB_norise hkl (by omega) (by rw [HT.out]; simp only [Nat.add_sub_cancel]; rw [htz]; exact hr))
            clear hr htz
            go_wp2_with ((with_reducible refine (hK.out _).mono ?_); rintro e w1 ⟨rfl, rfl⟩)
            go_ret
            exact ⟨ret_val (congrArg Value.bool HS.out.symm), rfl⟩
      · have h32b : (((y.size : Nat) : Int) == 32) = false := by simp; omega
        have HS := Lib.hid (fitB_no32 hkl (by rw [HT.out, ← Lib.size_eq]; exact h32))
        rw [h32b] at hK
        clear h32 g1
        go_wp2_with ((with_reducible refine (hK.out _).mono ?_); rintro e w1 ⟨rfl, rfl⟩)
        go_ret
        exact ⟨ret_val (congrArg Value.bool HS.out.symm), rfl⟩
    · have HS := Lib.hid (fitB_all HF.out (by rw [txts_len]; omega))
      have hge : decide ((k : Int) < (L.length : Int)) = false := by simp; omega
      go_wp2
      go_ret
      exact ⟨ret_val (congrArg Value.bool HS.out.symm), rfl⟩

set_option maxRecDepth 100000 in
set_option maxHeartbeats 2000000 in
theorem refFit_any (v : Value) (L : List ByteArray) (w : World) (hv : IsStrs w v L) :
    Calls Try.prog 10 #[v] w fun e w' => e = .returned (.bool (fitB (txts L))) ∧ Below w.heap.size w w' := by
  obtain ⟨hm, a, cap, rfl, _, hc⟩ := hv
  have hmm : L.length ≤ 9223372036854775807 := by unfold maxLen at hm; omega
  have HC := Lib.hid hc
  clear hc hm
  go_enter Try.func10, Try.ntmps10
  go_wp2
  go_loopw [3] (fun i wr => ∃ k m : Nat, k ≤ L.length ∧ i = .int .i64 k ∧ FitTo (txts L) k ∧ wr = w.drewN m) (fun i _ => L.length - (intOf i).toNat)
  case atStart => exact ⟨0, 0, Nat.zero_le _, rfl, fitTo_zero _, rfl⟩
  case round =>
    obtain ⟨k, m, hk, rfl, hF, rfl⟩ := hrel
    have HF := Lib.hid hF; clear hF
    by_cases hlt : k < L.length
    · obtain ⟨b1, o1, rfl, _, g1⟩ := HC.out (by omega)
      have q1 := g1 k hlt
      have hkl : k < (txts L).length := by rw [txts_len]; exact hlt
      have hty := txts_get hlt
      obtain ⟨y, hy⟩ : ∃ y, y = L[k] := ⟨_, rfl⟩
      rw [← hy] at q1 hty
      clear hy
      have HT := Lib.hid hty; clear hty
      have hbk : decide ((k : Int) < (L.length : Int)) = true := by simpa using (show (k : Int) < L.length by omega)
      by_cases h32 : y.size = 32
      · have h32b : (((y.size : Nat) : Int) != 32) = false := by rw [h32]; rfl
        have h32l : (txts L)[k].length = 32 := by rw [HT.out, ← Lib.size_eq]; exact h32
        have H32 := Lib.hid h32l
        clear h32 h32l
        by_cases h0 : k = 0
        · subst h0
          have HS := Lib.hid (fitTo_step HF.out hkl H32.out (fun h => absurd h (by omega)))
          simp only [Nat.add_zero] at q1
          clear g1
          go_wp2_with fail
          go_quiet (fail)
          go_wp2
          go_roundw
          case rel => exact ⟨1, m + nq, by omega, by go_num, HS.out, by simp [World.drewN]⟩
          case measure => simp [intOf]; omega
        · have q0 := g1 (k - 1) (by omega)
          have htz := txts_get (L := L) (i := k - 1) (by omega)
          obtain ⟨z, hz⟩ : ∃ z, z = L[k - 1] := ⟨_, rfl⟩
          rw [← hz] at q0 htz
          clear hz g1
          obtain ⟨j, hj⟩ : ∃ j, j = k - 1 := ⟨_, rfl⟩
          obtain rfl : k = j + 1 := by omega
          simp only [Nat.add_sub_cancel] at q0 htz
          clear hj
          have hk0 : decide ((0 : Int) < ((j + 1 : Nat) : Int)) = true := by simp
          by_cases hr : z.data.toList < y.data.toList
          · have hrb : Op.bytesLess z.toList y.toList = true := by rw [less_eq]; exact decide_eq_true hr
            have HS := Lib.hid (fitTo_step HF.out hkl H32.out (fun h => by rw [HT.out]; simp only [Nat.add_sub_cancel]; rw [htz]; exact hr))
            clear hr htz
            go_wp2_with fail
            go_quiet (fail)
            go_wp2
            go_roundw
            case rel => exact ⟨j + 2, m + nq, by omega, by go_num, HS.out, by simp [World.drewN]⟩
            case measure => simp [intOf]; omega
          · have hrb : Op.bytesLess z.toList y.toList = false := by rw [less_eq]; exact decide_eq_false hr
            have HS := Lib.hid (fitB_norise hkl (by omega) (by rw [HT.out]; simp only [Nat.add_sub_cancel]; rw [htz]; exact hr))
            clear hr htz
            go_wp2_with fail
            go_quiet (fail)
            go_wp2
            go_ret
            exact ⟨ret_val (congrArg Value.bool HS.out.symm), below_drewN (below_drewN (Below.refl _ _) _) _⟩
      · have h32b : (((y.size : Nat) : Int) != 32) = true := by simp; omega
        have HS := Lib.hid (fitB_no32 hkl (by rw [HT.out, ← Lib.size_eq]; exact h32))
        clear h32 g1
        go_wp2_with fail
        go_quiet (fail)
        go_wp2
        go_ret
        exact ⟨ret_val (congrArg Value.bool HS.out.symm), below_drewN (below_drewN (Below.refl _ _) _) _⟩
    · have HS := Lib.hid (fitB_all HF.out (by rw [txts_len]; omega))
      have hge : decide ((k : Int) < (L.length : Int)) = false := by simp; omega
      go_wp2
      go_ret
      exact ⟨ret_val (congrArg Value.bool HS.out.symm), below_drewN (Below.refl _ _) _⟩

/-! ## few -/
/-- A slice of slices of strings. -/
def IsLists (w : World) (v : Value) (Ls : List (List ByteArray)) : Prop :=
  Ls.length ≤ 1000 ∧ ∃ b off cap, v = .slice (some ⟨b, off, none⟩) Ls.length cap ∧ ∀ i (h : i < Ls.length), ∃ u, w.cell? ⟨b, off + i, none⟩ = some u ∧ IsStrs w u Ls[i]
def few1 (L : List ByteArray) : Prop := L.length ≤ 200 ∧ ∀ s ∈ L, s.size ≤ 200
instance (L : List ByteArray) : Decidable (few1 L) := by unfold few1; infer_instance
def fewB (Ls : List (List ByteArray)) : Bool := decide (∀ L ∈ Ls, few1 L)
def FewTo (Ls : List (List ByteArray)) (k : Nat) : Prop := ∀ i (h : i < Ls.length), i < k → few1 Ls[i]
def SmallTo (L : List ByteArray) (k : Nat) : Prop := ∀ i (h : i < L.length), i < k → L[i].size ≤ 200
theorem smallTo_step {L : List ByteArray} {k : Nat} (h : SmallTo L k) (hk : k < L.length) (hs : L[k].size ≤ 200) : SmallTo L (k + 1) := fun i hi hik => by
  rcases Nat.lt_or_ge i k with e | e
  · exact h i hi e
  · obtain rfl : i = k := by omega
    exact hs
theorem few1_of {L : List ByteArray} {k : Nat} (h : SmallTo L k) (hk : L.length ≤ k) (hl : L.length ≤ 200) : few1 L := ⟨hl, fun s hs => by
  obtain ⟨i, hi, rfl⟩ := List.mem_iff_getElem.1 hs
  exact h i hi (by omega)⟩
theorem fewTo_step {Ls : List (List ByteArray)} {k : Nat} (h : FewTo Ls k) (hk : k < Ls.length) (hs : few1 Ls[k]) : FewTo Ls (k + 1) := fun i hi hik => by
  rcases Nat.lt_or_ge i k with e | e
  · exact h i hi e
  · obtain rfl : i = k := by omega
    exact hs
theorem fewB_all {Ls : List (List ByteArray)} {k : Nat} (h : FewTo Ls k) (hk : Ls.length ≤ k) : fewB Ls = true := decide_eq_true fun L hL => by
  obtain ⟨i, hi, rfl⟩ := List.mem_iff_getElem.1 hL
  exact h i hi (by omega)
theorem fewB_no {Ls : List (List ByteArray)} {k : Nat} (hk : k < Ls.length) (h : ¬ few1 Ls[k]) : fewB Ls = false := decide_eq_false fun g => h (g _ (List.getElem_mem ..))

set_option maxRecDepth 100000 in
set_option maxHeartbeats 2000000 in
theorem few_any (v : Value) (Ls : List (List ByteArray)) (w : World) (hv : IsLists w v Ls) :
    Calls Try.prog 8 #[v] w fun e w' => e = .returned (.bool (fewB Ls)) ∧ w = w' := by
  obtain ⟨hm, b, off, cap, rfl, hc⟩ := hv
  have HC := Lib.hid hc
  clear hc
  go_enter Try.func8, Try.ntmps8
  go_wp2
  go_loop [9] (fun i => ∃ k : Nat, k ≤ Ls.length ∧ i = .int .i64 k ∧ FewTo Ls k) (fun i => Ls.length - (intOf i).toNat)
  case atStart => exact ⟨0, Nat.zero_le _, rfl, fun i _ h => absurd h (by omega)⟩
  case round =>
    obtain ⟨k, hk, rfl, hF⟩ := hrel
    have HF := Lib.hid hF; clear hF
    by_cases hlt : k < Ls.length
    · obtain ⟨u, q1, hu⟩ := HC.out k hlt
      obtain ⟨L, hL⟩ : ∃ L, L = Ls[k] := ⟨_, rfl⟩
      rw [← hL] at hu
      have HL := Lib.hid hL; clear hL
      obtain ⟨hm2, a2, cap2, rfl, _, hc2⟩ := hu
      have hmm2 : L.length ≤ 9223372036854775807 := by unfold maxLen at hm2; omega
      have HC2 := Lib.hid hc2; clear hc2 hm2
      have hbk : decide ((k : Int) < (Ls.length : Int)) = true := by simpa using (show (k : Int) < Ls.length by omega)
      by_cases h200 : L.length ≤ 200
      · have h2b : decide ((200 : Int) < (L.length : Int)) = false := by simp; omega
        go_wp2
        go_loop [18] (fun i => ∃ j : Nat, j ≤ L.length ∧ i = .int .i64 j ∧ SmallTo L j) (fun i => L.length - (intOf i).toNat)
        case atStart => exact ⟨0, Nat.zero_le _, rfl, fun i _ h => absurd h (by omega)⟩
        case round =>
          obtain ⟨j, hj, rfl, hS⟩ := hrel
          have HS := Lib.hid hS; clear hS
          by_cases hjl : j < L.length
          · obtain ⟨b3, o3, rfl, _, g3⟩ := HC2.out (by omega)
            have q3 := g3 j hjl
            clear g3
            obtain ⟨y, hy⟩ : ∃ y, y = L[j] := ⟨_, rfl⟩
            rw [← hy] at q3
            have HY := Lib.hid hy; clear hy
            have hbj : decide ((j : Int) < (L.length : Int)) = true := by simpa using (show (j : Int) < L.length by omega)
            by_cases hy2 : y.size ≤ 200
            · have hyb : decide ((200 : Int) < (y.size : Int)) = false := by simp; omega
              have HN := Lib.hid (smallTo_step HS.out hjl (by rw [← HY.out]; exact hy2))
              go_wp2
              go_round
              case rel => exact ⟨j + 1, by omega, by go_num, HN.out⟩
              case measure => simp [intOf]; omega
            · have hyb : decide ((200 : Int) < (y.size : Int)) = true := by simp; omega
              have HN := Lib.hid (fewB_no hlt (fun h => hy2 (by rw [HY.out]; exact h.2 _ (by rw [← HL.out]; exact List.getElem_mem ..))))
              go_wp2
              go_ret
              exact ⟨ret_val (congrArg Value.bool HN.out.symm), rfl⟩
          · have hge : decide ((j : Int) < (L.length : Int)) = false := by simp; omega
            have HN := Lib.hid (fewTo_step HF.out hlt (by rw [← HL.out]; exact few1_of HS.out (by omega) h200))
            go_wp2
            go_round
            case rel => exact ⟨k + 1, by omega, by go_num, HN.out⟩
            case measure => simp [intOf]; omega
      · have h2b : decide ((200 : Int) < (L.length : Int)) = true := by simp; omega
        have HN := Lib.hid (fewB_no hlt (fun h => h200 (by rw [HL.out]; exact h.1)))
        go_wp2
        go_ret
        exact ⟨ret_val (congrArg Value.bool HN.out.symm), rfl⟩
    · have HS := Lib.hid (fewB_all HF.out (by omega))
      have hge : decide ((k : Int) < (Ls.length : Int)) = false := by simp; omega
      go_wp2
      go_ret
      exact ⟨ret_val (congrArg Value.bool HS.out.symm), rfl⟩
end Go.Proofs.Yteiflmdnakhekaa

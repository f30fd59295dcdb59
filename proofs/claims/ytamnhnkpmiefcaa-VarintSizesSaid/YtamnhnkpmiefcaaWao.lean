/-
  The statements of layer 1 as walks over this translation, the last: sizes.
-/
import Derived.Test.YtamnhnkpmiefcaaWan
set_option linter.unusedVariables false
namespace Go.Proofs.Ytamnhnkpmiefcaa
open Go.RowKit Go.BigFrame

/-- How many bytes are still to be counted. -/
def cnt (j r : Nat) : Nat := if r = 0 then 0 else (vputF j r).length
/-- k bytes have been counted, r is left. -/
def counted (n k j r : Nat) : Prop := r < 128 ^ j ∧ (vput n).length = k + cnt j r
theorem counted_start (n : Nat) (hn : U64 n) : counted n 1 9 (n / 128) := by
  unfold U64 at hn
  refine ⟨by rw [Nat.div_lt_iff_lt_mul (by decide)]; omega, ?_⟩
  show (vputF 10 n).length = _
  by_cases h : n < 128
  · rw [vputF_lo h, cnt, if_pos (by omega)]; rfl
  · rw [vputF_hi (by omega), cnt, if_neg (by omega), List.length_cons]; omega
theorem counted_step {n k j r : Nat} (h : counted n k j r) (hr : 0 < r) : counted n (k + 1) (j - 1) (r / 128) := by
  obtain ⟨h1, h2⟩ := h
  cases j with
  | zero => simp at h1; omega
  | succ j =>
    refine ⟨?_, ?_⟩
    · rw [Nat.add_sub_cancel, Nat.div_lt_iff_lt_mul (by decide)]; rw [Nat.pow_succ] at h1; exact h1
    · rw [h2, Nat.add_sub_cancel, cnt, cnt, if_neg (by omega)]
      by_cases h : r < 128
      · rw [vputF_lo h, if_pos (by omega)]; rfl
      · rw [vputF_hi (by omega), if_neg (by omega), List.length_cons]; omega
theorem counted_end {n k j : Nat} (h : counted n k j 0) : (vput n).length = k := by rw [h.2, cnt, if_pos rfl]; rfl
theorem counted_le {n k j r : Nat} (h : counted n k j r) : k ≤ 10 := by have := vput_len n; rw [h.2] at this; omega

set_option maxRecDepth 100000 in
set_option maxHeartbeats 2000000 in
theorem VarintSizes_walk (n : Nat) (hn : U64 n) (a : ByteArray) (ha : Reach a) (b : ByteArray) (hb : Reach b) (w : World) :
    Calls Try.prog 8 #[.int .u64 n, .string a, .string b] w fun e w' => e = .returned (.bool true) ∧ Below w.heap.size w w' := by
  have hwd := hn.wrap_div 128
  simp only [Int.cast_ofNat_Int] at hwd
  go_enter Try.func8, Try.ntmps8
  go_wp2_with fail
  go_loop [7, 8] (fun t p => ∃ k j r : Nat, t = .int .i64 k ∧ p = .int .u64 r ∧ U64 r ∧ counted n k j r) (fun _ p => (intOf p).toNat)
  case atStart => exact ⟨1, 9, n / 128, rfl, by simp, hn.div _, counted_start n hn⟩
  case round =>
    obtain ⟨k, j, r, rfl, rfl, hu, hc⟩ := hrel
    have hk := counted_le hc
    by_cases hr : 0 < r
    · have hst := counted_step hc hr
      have hwr := hu.wrap_div 128
      simp only [Int.cast_ofNat_Int] at hwr
      clear hwd
      go_wp2_with fail
      go_round
      case rel => exact ⟨k + 1, j - 1, r / 128, by go_num, by go_num, hu.div _, hst⟩
      case measure => simp [intOf]; omega
    · obtain rfl : r = 0 := by omega
      have hlen := counted_end hc
      clear hc hwd hu
      have hP := fun w => Put_any n hn w
      by_cases hg : a.size ≤ 3000 ∧ b.size ≤ 3000
      · obtain ⟨g1, g2⟩ := hg
        have la := (vputText_len a.data.toList (by rw [← Lib.size_eq]; omega)).1
        have lb := (vputText_len b.data.toList (by rw [← Lib.size_eq]; omega)).1
        obtain ⟨u, hu⟩ : ∃ u : ByteArray, u = ⟨(vputText a.data.toList).toArray⟩ := ⟨_, rfl⟩
        obtain ⟨v, hv⟩ : ∃ v : ByteArray, v = ⟨(vputText b.data.toList).toArray⟩ := ⟨_, rfl⟩
        have hus : u.size = (vputText a.data.toList).length := by rw [hu, size_mk]
        have hvs : v.size = (vputText b.data.toList).length := by rw [hv, size_mk]
        have cA := fun w => PutText_any a ha.le w
        have cB := fun w => PutText_any b hb.le w
        have cT := fun w => TakeText_put a (by omega) v (by omega) w
        have cU := fun w => TakeText_put b (by omega) ⟨#[]⟩ (by simp [ByteArray.size]) w
        rw [← hu] at cA cT
        rw [← hv] at cB cU
        have hv0 : v ++ (⟨#[]⟩ : ByteArray) = v := by apply ByteArray.ext; rw [ByteArray.data_append]; simp
        rw [hv0] at cU
        rw [← hus] at cT
        rw [← hvs] at cU
        have hsum : ¬ 9223372036854775807 < u.size + v.size := by omega
        have hap : (u ++ v).size = u.size + v.size := ByteArray.size_append
        have hext : (u ++ v).extract u.size (u ++ v).size = v := by
          rw [Lib.extract_eq]
          apply ByteArray.ext
          rw [hap, ByteArray.data_append, hu, size_mk]
          simp
          rw [List.take_of_length_le (by rw [← Lib.size_eq]; exact Nat.le_refl _)]
        have hsl := fun W => run_slice_from (P := Try.prog) Try.underlying9 (u ++ v) u.size (by rw [hap]; omega) W
        rw [hext] at hsl
        have CA := Lib.hid cA; have CB := Lib.hid cB; have CT := Lib.hid cT; have CU := Lib.hid cU
        have HP := Lib.hid hP
        have hub : u.size ≤ 70000 := by omega
        have hvb : v.size ≤ 70000 := by omega
        clear cA cB cT cU hP hu hv hus hvs la lb hv0 hext
        go_wp2_with fail
        refine (HP.out _).mono ?_
        rintro e w1 ⟨rfl, hb1⟩
        go_wp2_with fail
        refine (CA.out _).mono ?_
        rintro e w2 ⟨rfl, hb2⟩
        go_wp2_with fail
        refine (CB.out _).mono ?_
        rintro e w3 ⟨rfl, hb3⟩
        go_wp2_with fail
        refine (CT.out _).mono ?_
        rintro e w4 ⟨rfl, hb4⟩
        go_wp2_with fail
        refine (CU.out _).mono ?_
        rintro e w5 ⟨rfl, hb5⟩
        go_wp2_with fail
        refine (awake_any _).mono ?_
        rintro e w6 ⟨rfl, hb6⟩
        go_wp2_with fail
        go_ret
        exact ⟨rfl, below_step (below_step (below_step (below_step (below_step hb1 hb2) hb3) hb4) hb5) hb6⟩
      · have HP := Lib.hid hP
        clear hP
        by_cases g1 : a.size ≤ 3000
        · have g2 : ¬ b.size ≤ 3000 := fun h => hg ⟨g1, h⟩
          clear hg
          go_wp2_with fail
          refine (HP.out _).mono ?_
          rintro e w1 ⟨rfl, hb1⟩
          go_wp2_with fail
          refine (HP.out _).mono ?_
          rintro e w2 ⟨rfl, hb2⟩
          go_wp2_with fail
          refine (awake_any _).mono ?_
          rintro e w3 ⟨rfl, hb3⟩
          go_wp2_with fail
          go_ret
          exact ⟨rfl, below_step (below_step hb1 hb2) hb3⟩
        · clear hg
          go_wp2_with fail
          refine (HP.out _).mono ?_
          rintro e w1 ⟨rfl, hb1⟩
          go_wp2_with fail
          refine (HP.out _).mono ?_
          rintro e w2 ⟨rfl, hb2⟩
          go_wp2_with fail
          refine (awake_any _).mono ?_
          rintro e w3 ⟨rfl, hb3⟩
          go_wp2_with fail
          go_ret
          exact ⟨rfl, below_step (below_step hb1 hb2) hb3⟩
end Go.Proofs.Ytamnhnkpmiefcaa

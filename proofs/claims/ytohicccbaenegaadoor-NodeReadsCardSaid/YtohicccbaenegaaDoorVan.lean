/-
  Plain mathematics of varint, its second part: there and back; texts with their lengths. No program.
-/
import Derived.Test.YtohicccbaenegaaDoorVam
namespace Go.Proofs.YtohicccbaenegaaDoor

theorem take_put_gen : ∀ (k i a r : Nat) (t : List UInt8), i + k = 10 → r * 2 ^ (7 * i) < 18446744073709551616 → (0 < i → 0 < r) →
    vtakeF i a (vputF k r ++ t) = (a + r * 2 ^ (7 * i), i + (vputF k r).length, 0) := by
  intro k
  induction k with
  | zero =>
    intro i a r t hi hr h0
    obtain rfl : i = 10 := by omega
    have : 0 < r := h0 (by decide)
    omega
  | succ k ih =>
    intro i a r t hi hr h0
    have hi9 : i ≤ 9 := by omega
    have h9 : i = 9 → r ≤ 1 := by
      rintro rfl
      omega
    by_cases h : r < 128
    · have hb : (UInt8.ofNat r).toNat = r := by rw [UInt8.toNat_ofNat']; omega
      rw [vputF_lo h, List.singleton_append, vtakeF, hb, if_neg (fun hA => by have := h9 hA.1; omega), if_neg (by omega), if_neg (fun hz => by have := h0 hz.2; omega)]
      rfl
    · have hb : (UInt8.ofNat (r % 128 + 128)).toNat = r % 128 + 128 := by rw [UInt8.toNat_ofNat']; omega
      have e : 2 ^ (7 * (i + 1)) = 2 ^ (7 * i) * 128 := by rw [show 7 * (i + 1) = 7 * i + 7 by omega, Nat.pow_add]
      have hm : r / 128 * (2 ^ (7 * i) * 128) ≤ r * 2 ^ (7 * i) := by
        have := Nat.mul_le_mul_right (2 ^ (7 * i)) (Nat.div_mul_le_self r 128)
        calc r / 128 * (2 ^ (7 * i) * 128) = r / 128 * 128 * 2 ^ (7 * i) := by rw [Nat.mul_assoc, Nat.mul_comm 128]
          _ ≤ _ := this
      rw [vputF_hi (by omega), List.cons_append, vtakeF, hb, if_neg (fun hA => by have := h9 hA.1; omega), if_pos (by omega),
        ih (i + 1) _ (r / 128) t (by omega) (by rw [e]; omega) (fun _ => by omega)]
      have hs : a + (r % 128 + 128) % 128 * 2 ^ (7 * i) + r / 128 * 2 ^ (7 * (i + 1)) = a + r * 2 ^ (7 * i) := by
        have h1 : (r % 128 + 128) % 128 = r % 128 := by omega
        have h2 : r = r % 128 + r / 128 * 128 := by omega
        rw [h1, e]
        conv => rhs; rw [h2, Nat.add_mul, Nat.mul_assoc, Nat.mul_comm 128]
        omega
      rw [hs, List.length_cons]
      congr 2; omega

theorem take_put {n : Nat} (h : U64 n) (t : List UInt8) : vtake (vput n ++ t) = (n, (vput n).length, 0) := by
  unfold U64 at h
  have := take_put_gen 10 0 0 n t (by decide) (by simpa using h) (by simp)
  simpa [vtake, vput] using this

theorem put_take_gen : ∀ (l : List UInt8) (i a n j : Nat), i ≤ 9 → vtakeF i a l = (n, j, 0) →
    ∃ r, n = a + r * 2 ^ (7 * i) ∧ l.take (j - i) = vputF (10 - i) r ∧ i < j ∧ j ≤ i + l.length ∧ j ≤ 10 ∧ r * 2 ^ (7 * i) < 18446744073709551616 ∧ (0 < i → 0 < r) := by
  intro l
  induction l with
  | nil => intro i a n j _ h; simp [vtakeF] at h
  | cons b t ih =>
    intro i a n j hi h
    obtain ⟨k, hk⟩ : ∃ k, 10 - i = k + 1 := ⟨9 - i, by omega⟩
    have hb := b.toNat_lt
    rw [vtakeF] at h
    by_cases hA : i = 9 ∧ 1 < b.toNat
    · rw [if_pos hA] at h; simp at h
    · rw [if_neg hA] at h
      by_cases hc : 128 ≤ b.toNat
      · rw [if_pos hc] at h
        have hi8 : i ≤ 8 := by rcases Nat.lt_or_ge i 9 with h9 | h9; omega; exact absurd ⟨by omega, by omega⟩ hA
        obtain ⟨r, h1, h2, h3, h4, h5, h6, h7⟩ := ih (i + 1) _ n j (by omega) h
        have e : 2 ^ (7 * (i + 1)) = 2 ^ (7 * i) * 128 := by rw [show 7 * (i + 1) = 7 * i + 7 by omega, Nat.pow_add]
        have hr := h7 (by omega)
        have hsum : (b.toNat % 128 + r * 128) * 2 ^ (7 * i) = b.toNat % 128 * 2 ^ (7 * i) + r * 2 ^ (7 * (i + 1)) := by
          rw [Nat.add_mul, e, Nat.mul_assoc, Nat.mul_comm 128]
        have hlt : (b.toNat % 128 + r * 128) * 2 ^ (7 * i) < 18446744073709551616 := by
          -- r * 2^(7(i+1)) below 2^64 is a multiple of 2^(7(i+1)), and so is 2^64 less at most 2^(7(i+1))
          rw [hsum]
          have hdvd : 2 ^ (7 * (i + 1)) ∣ 18446744073709551616 := by
            rw [show (18446744073709551616 : Nat) = 2 ^ 64 by decide]
            exact Nat.pow_dvd_pow 2 (by omega)
          obtain ⟨q, hq⟩ := hdvd
          have hrq : r < q := by
            rw [hq, Nat.mul_comm r] at h6
            exact Nat.lt_of_mul_lt_mul_left h6
          have h8 : (r + 1) * 2 ^ (7 * (i + 1)) ≤ 18446744073709551616 := by
            rw [hq, Nat.mul_comm]; exact Nat.mul_le_mul_left _ hrq
          rw [Nat.add_mul, Nat.one_mul] at h8
          have h9 : b.toNat % 128 * 2 ^ (7 * i) < 2 ^ (7 * (i + 1)) := by
            rw [e, Nat.mul_comm (2 ^ (7 * i))]
            exact Nat.mul_lt_mul_of_pos_right (by omega) (Nat.two_pow_pos _)
          omega
        refine ⟨b.toNat % 128 + r * 128, ?_, ?_, by omega, by simp; omega, h5, hlt, fun _ => by omega⟩
        · rw [h1, hsum]; omega
        · have hj : j - i = (j - (i + 1)) + 1 := by omega
          rw [hj, List.take_succ_cons, h2, hk, vputF_hi (by omega)]
          have e1 : (b.toNat % 128 + r * 128) / 128 = r := by omega
          have e2 : (b.toNat % 128 + r * 128) % 128 + 128 = b.toNat := by omega
          rw [e1, e2, UInt8.ofNat_toNat]
          congr 2; omega
      · rw [if_neg hc] at h
        by_cases hz : b.toNat = 0 ∧ 0 < i
        · rw [if_pos hz] at h; simp at h
        · rw [if_neg hz] at h
          simp only [Prod.mk.injEq, and_true] at h
          obtain ⟨rfl, rfl⟩ := h
          refine ⟨b.toNat, rfl, ?_, by omega, by simp, by omega, ?_, fun h0 => ?_⟩
          · have : i + 1 - i = 1 := by omega
            rw [this, hk, vputF_lo (by omega), UInt8.ofNat_toNat]; rfl
          · by_cases h9 : i = 9
            · subst h9; omega
            · have h3 : 2 ^ (7 * i) ≤ 2 ^ (7 * 8) := Nat.pow_le_pow_right (by decide) (by omega)
              have := Nat.mul_le_mul (show b.toNat ≤ 127 by omega) h3
              omega
          · rcases Nat.eq_zero_or_pos b.toNat with h1 | h1
            · exact absurd ⟨h1, h0⟩ hz
            · exact h1

theorem put_take {l : List UInt8} {n j : Nat} (h : vtake l = (n, j, 0)) : l.take j = vput n ∧ 0 < j ∧ j ≤ l.length ∧ j ≤ 10 ∧ U64 n := by
  obtain ⟨r, h1, h2, h3, h4, h5, h6, _⟩ := put_take_gen l 0 0 n j (by decide) h
  simp at h1 h2 h4 h6
  subst h1
  exact ⟨h2, h3, h4, h5, h6⟩

theorem vtakeF_err : ∀ (l : List UInt8) (i a n j e : Nat), vtakeF i a l = (n, j, e) → e ≠ 0 → n = 0 ∧ j = 0 ∧ e ≤ 4 := by
  intro l
  induction l with
  | nil => intro i a n j e h _; simp [vtakeF] at h; omega
  | cons b t ih =>
    intro i a n j e h he
    rw [vtakeF] at h
    split at h
    · simp at h; omega
    · split at h
      · exact ih _ _ n j e h he
      · split at h
        · simp at h; omega
        · simp at h; omega
theorem vtake_err {l : List UInt8} {n j e : Nat} (h : vtake l = (n, j, e)) (he : e ≠ 0) : n = 0 ∧ j = 0 ∧ e ≤ 4 := vtakeF_err l 0 0 n j e h he

/-- How many bytes a number has. -/
theorem vputF_len_mono : ∀ (k a b : Nat), a ≤ b → (vputF k a).length ≤ (vputF k b).length := by
  intro k
  induction k with
  | zero => intro a b _; simp [vputF]
  | succ k ih =>
    intro a b hab
    by_cases ha : a < 128
    · rw [vputF_lo ha]; exact vputF_pos k b
    · rw [vputF_hi (by omega), vputF_hi (by omega)]
      simp only [List.length_cons]
      have := ih (a / 128) (b / 128) (Nat.div_le_div_right hab)
      omega
theorem vput_len_mono {a b : Nat} (h : a ≤ b) : (vput a).length ≤ (vput b).length := vputF_len_mono 10 a b h

/-! Texts with their lengths. -/
def vputText (l : List UInt8) : List UInt8 := if 65536 < l.length then [] else vput l.length ++ l
def vtakeText (l : List UInt8) : List UInt8 × Nat × Nat :=
  if (vtake l).2.2 ≠ 0 then ([], 0, (vtake l).2.2)
  else if 65536 < (vtake l).1 then ([], 0, 4)
  else if l.length < (vtake l).2.1 + (vtake l).1 then ([], 0, 1)
  else ((l.drop (vtake l).2.1).take (vtake l).1, (vtake l).2.1 + (vtake l).1, 0)

theorem takeText_putText {l : List UInt8} (h : l.length ≤ 65536) (t : List UInt8) : vtakeText (vputText l ++ t) = (l, (vputText l).length, 0) := by
  have hu : U64 l.length := by unfold U64; omega
  have e : vputText l = vput l.length ++ l := by rw [vputText, if_neg (by omega)]
  have hT : vtake (vputText l ++ t) = (l.length, (vput l.length).length, 0) := by rw [e, List.append_assoc, take_put hu]
  rw [vtakeText, hT, if_neg (by simp), if_neg (by simp; omega), if_neg (by rw [e]; simp), e]
  simp

theorem putText_takeText {l b : List UInt8} {m : Nat} (h : vtakeText l = (b, m, 0)) : m ≤ l.length ∧ vputText b = l.take m := by
  rw [vtakeText] at h
  split at h
  · rename_i he
    simp at h; exact absurd h.2.2 he
  · rename_i he
    split at h
    · simp at h
    · rename_i hn
      split at h
      · simp at h
      · rename_i hl
        simp only [Prod.mk.injEq, and_true] at h
        obtain ⟨rfl, rfl⟩ := h
        obtain ⟨n, k, e, hv⟩ : ∃ n k e, vtake l = (n, k, e) := ⟨_, _, _, rfl⟩
        rw [hv] at he hn hl ⊢
        simp only [ne_eq, Decidable.not_not] at he hn hl ⊢
        subst he
        obtain ⟨h1, h2, h3, h4, h5⟩ := put_take hv
        refine ⟨by omega, ?_⟩
        have hlen : ((l.drop k).take n).length = n := by simp; omega
        rw [vputText, if_neg (by omega), hlen, ← h1, List.take_add]
theorem takeText_err {l b : List UInt8} {m e : Nat} (h : vtakeText l = (b, m, e)) (he : e ≠ 0) : b = [] ∧ m = 0 := by
  rw [vtakeText] at h
  split at h
  · simp at h; exact ⟨h.1, h.2.1.symm⟩
  · split at h
    · simp at h; exact ⟨h.1, h.2.1.symm⟩
    · split at h
      · simp at h; exact ⟨h.1, h.2.1.symm⟩
      · simp at h; exact absurd h.2.2.symm he
end Go.Proofs.YtohicccbaenegaaDoor

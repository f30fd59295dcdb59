/-
  Halving a rising list: what is found.
-/
import Derived.Test.YteiflmdnakhekaaKem
import Derived.Shelf.Spec.SearchS
set_option linter.unusedVariables false
namespace Go.Proofs.Yteiflmdnakhekaa

/-! ## Halving -/
theorem bs_has {l : List Txt} (h : Rises l) (x : Txt) (less : Nat → Bool) (hl : ∀ i (g : i < l.length), less i = decide (l[i] < x)) :
    ∃ I, Lib.bsGo less l.length 0 l.length = I ∧ ((∃ g : I < l.length, l[I] = x) ↔ x ∈ l) := by
  let less' : Nat → Bool := fun i => if i < l.length then less i else false
  have hgo : ∀ f lo hi, hi ≤ l.length → Lib.bsGo less f lo hi = Lib.bsGo less' f lo hi := by
    intro f
    induction f with
    | zero => intro lo hi _; rfl
    | succ f ih =>
      intro lo hi hh
      unfold Lib.bsGo
      by_cases c : lo < hi
      · rw [if_pos c, if_pos c, show less' ((lo + hi) / 2) = less ((lo + hi) / 2) from if_pos (by omega), ih _ _ hh, ih _ _ (by omega)]
      · rw [if_neg c, if_neg c]
  have hmono : ∀ i j (gi : i < l.length) (gj : j < l.length), i ≤ j → l[j] < x → l[i] < x := fun i j gi gj hij hx => by
    rcases Nat.lt_or_ge i j with e | e
    · exact t_trans (List.pairwise_iff_getElem.1 h i j gi gj e) hx
    · obtain rfl : i = j := by omega
      exact hx
  obtain ⟨k, hk, h1, h2⟩ : ∃ k, k ≤ l.length ∧ (∀ t, t < k → less' t = true) ∧ (∀ t, k ≤ t → less' t = false) := by
    have : ∀ n, n ≤ l.length → (∃ k, k ≤ n ∧ (∀ t, t < k → less' t = true) ∧ (∀ t, k ≤ t → t < n → less' t = false)) := by
      intro n
      induction n with
      | zero => intro _; exact ⟨0, Nat.le_refl _, fun t ht => absurd ht (by omega), fun t _ ht => absurd ht (by omega)⟩
      | succ n ih =>
        intro hn
        obtain ⟨k, hk, g1, g2⟩ := ih (by omega)
        by_cases c : l[n] < x
        · refine ⟨n + 1, Nat.le_refl _, fun t ht => ?_, fun t ht ht' => absurd ht (by omega)⟩
          have : l[t]'(by omega) < x := hmono t n (by omega) (by omega) (by omega) c
          simp only [less', show t < l.length by omega, if_true, hl t (by omega)]
          exact decide_eq_true this
        · refine ⟨k, by omega, g1, fun t ht ht' => ?_⟩
          rcases Nat.lt_or_ge t n with e | e
          · exact g2 t ht e
          · obtain rfl : t = n := by omega
            simp only [less', show t < l.length by omega, if_true, hl t (by omega)]
            exact decide_eq_false c
    obtain ⟨k, hk, g1, g2⟩ := this l.length (Nat.le_refl _)
    refine ⟨k, hk, g1, fun t ht => ?_⟩
    by_cases e : t < l.length
    · exact g2 t ht e
    · simp [less', e]
  refine ⟨k, by rw [hgo _ _ _ (Nat.le_refl _)]; exact Lib.bsGo_spec less' k h1 h2 _ _ _ (by omega) (Nat.zero_le _) hk, ⟨fun ⟨g, e⟩ => e ▸ List.getElem_mem .., fun hx => ?_⟩⟩
  obtain ⟨i, hi, rfl⟩ := List.mem_iff_getElem.1 hx
  have hki : k ≤ i := by
    refine Nat.le_of_not_lt fun c => ?_
    have := h1 i c
    simp only [less', hi, if_true, hl i hi, decide_eq_true_eq] at this
    exact t_irrefl _ this
  have hkl : k < l.length := by omega
  refine ⟨hkl, ?_⟩
  rcases Nat.lt_or_ge k i with e | e
  · have h3 := h2 k (Nat.le_refl _)
    simp only [less', hkl, if_true, hl k hkl, decide_eq_false_iff_not] at h3
    exact absurd (List.pairwise_iff_getElem.1 h k i hkl hi e) h3
  · obtain rfl : k = i := by omega
    rfl
end Go.Proofs.Yteiflmdnakhekaa

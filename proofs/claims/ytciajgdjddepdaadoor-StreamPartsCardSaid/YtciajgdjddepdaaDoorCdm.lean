/-
  Mathematics of cdc, of no program: hashes along a text, the first cut, pieces.
-/
import Derived.Test.YtciajgdjddepdaaDoorGem
set_option linter.unusedVariables false
namespace Go.Proofs.YtciajgdjddepdaaDoor

/-! ## Hashes along a text, from a place on -/
def hs (at' : Nat) (l : List UInt8) : List (Nat × Nat) := (List.range l.length).map fun k => (at' + k, hashF 0 (l.take (k + 1)))
theorem hs_len (p : Nat) (l : List UInt8) : (hs p l).length = l.length := by simp [hs]
theorem hs_get (p : Nat) (l : List UInt8) (k : Nat) (h : k < l.length) : (hs p l)[k]? = some (p + k, hashF 0 (l.take (k + 1))) := by
  simp [hs, List.getElem?_range h]
theorem hs_take (p : Nat) (l : List UInt8) (n : Nat) : (hs p l).take n = hs p (l.take n) := by
  apply List.ext_getElem?
  intro i
  by_cases h : i < n ∧ i < l.length
  · rw [List.getElem?_take, if_pos h.1, hs_get p l i h.2, hs_get p (l.take n) i (by rw [List.length_take]; omega), List.take_take, Nat.min_eq_left (by omega)]
  · rw [List.getElem?_eq_none (by rw [List.length_take, hs_len]; omega), List.getElem?_eq_none (by rw [hs_len, List.length_take]; omega)]
theorem hs_app (p : Nat) (l q : List UInt8) : hs p l <+: hs p (l ++ q) := by
  have := hs_take p (l ++ q) l.length
  rw [List.take_append_of_le_length (Nat.le_refl _), List.take_length] at this
  rw [← this]
  exact List.take_prefix _ _
theorem hs_nil (p : Nat) : hs p [] = [] := rfl
theorem hs_snoc (p : Nat) (l : List UInt8) (k : Nat) (h : k < l.length) : hs p (l.take (k + 1)) = hs p (l.take k) ++ [(p + k, hashF 0 (l.take (k + 1)))] := by
  rw [← hs_take, ← hs_take, List.take_add_one, hs_get p l k h]; rfl
theorem hs_mem {p : Nat} {l : List UInt8} {y : Nat × Nat} (h : y ∈ hs p l) : ∃ k, k < l.length ∧ y = (p + k, hashF 0 (l.take (k + 1))) := by
  simp only [hs, List.mem_map, List.mem_range] at h
  obtain ⟨k, hk, rfl⟩ := h
  exact ⟨k, hk, rfl⟩

/-! ## Where a cut is -/
def stopB (b : Nat) (y : Nat × Nat) : Bool := decide (y.2 < 2 ^ (64 - (if y.1 < 2 ^ b then b + 1 else b - 1)))
def cutFrom (b p : Nat) (l : List UInt8) : Nat := (((hs p l).find? (stopB b)).map (·.1 + 1)).getD (p + l.length)
theorem cutFrom_none {b p : Nat} {l : List UInt8} (h : ∀ y ∈ hs p l, stopB b y = false) : cutFrom b p l = p + l.length := by
  have : (hs p l).find? (stopB b) = none := by
    rw [List.find?_eq_none]; intro y hy; rw [h y hy]; simp
  rw [cutFrom, this]; rfl
theorem cutFrom_stop {b p : Nat} {l : List UInt8} {pre : List (Nat × Nat)} {x : Nat × Nat} (hp : pre ++ [x] <+: hs p l) (h : ∀ y ∈ pre, stopB b y = false) (hx : stopB b x = true) : cutFrom b p l = x.1 + 1 := by
  obtain ⟨r, hr⟩ := hp
  have : (hs p l).find? (stopB b) = some x := by
    rw [← hr, List.append_assoc, List.find?_append]
    have hn : pre.find? (stopB b) = none := by
      rw [List.find?_eq_none]; intro y hy; rw [h y hy]; simp
    rw [hn]
    simp [hx]
  rw [cutFrom, this]; rfl
theorem cutFrom_cases (b p : Nat) (l : List UInt8) : ((hs p l).find? (stopB b) = none ∧ cutFrom b p l = p + l.length) ∨ ∃ k, k < l.length ∧ (hs p l).find? (stopB b) = some (p + k, hashF 0 (l.take (k + 1))) ∧ cutFrom b p l = p + k + 1 := by
  unfold cutFrom
  rcases hf : (hs p l).find? (stopB b) with _ | y
  · exact .inl ⟨rfl, rfl⟩
  · obtain ⟨k, hk, rfl⟩ := hs_mem (List.mem_of_find?_eq_some hf)
    exact .inr ⟨k, hk, rfl, rfl⟩
theorem cutFrom_le (b p : Nat) (l : List UInt8) : cutFrom b p l ≤ p + l.length := by
  rcases cutFrom_cases b p l with ⟨_, h⟩ | ⟨k, hk, _, h⟩ <;> omega
theorem cutFrom_ge (b p : Nat) (l : List UInt8) : p ≤ cutFrom b p l := by
  rcases cutFrom_cases b p l with ⟨_, h⟩ | ⟨k, hk, _, h⟩ <;> omega
theorem cutFrom_app {b p : Nat} {l : List UInt8} (q : List UInt8) (h : cutFrom b p l < p + l.length) : cutFrom b p (l ++ q) = cutFrom b p l := by
  rcases cutFrom_cases b p l with ⟨_, h1⟩ | ⟨k, hk, hf, h1⟩
  · omega
  · obtain ⟨r, hr⟩ := hs_app p l q
    have : (hs p (l ++ q)).find? (stopB b) = some (p + k, hashF 0 (l.take (k + 1))) := by
      rw [← hr, List.find?_append, hf]; rfl
    rw [h1, cutFrom, this]; rfl

/-- The first cut. -/
def cutN (mn b mx : Nat) (l : List UInt8) : Nat :=
  if (l.take mx).length ≤ mn then (l.take mx).length else cutFrom b mn ((l.take mx).drop mn)
theorem cutN_take (mn b mx : Nat) (l : List UInt8) : cutN mn b mx (l.take mx) = cutN mn b mx l := by
  unfold cutN; rw [List.take_take, Nat.min_self]
theorem cutN_le (mn b mx : Nat) (l : List UInt8) : cutN mn b mx l ≤ l.length := by
  unfold cutN
  split
  · rw [List.length_take]; omega
  · have := cutFrom_le b mn ((l.take mx).drop mn)
    rw [List.length_drop, List.length_take] at this
    rename_i h; rw [List.length_take] at h
    omega
theorem cutN_max (mn b mx : Nat) (l : List UInt8) : cutN mn b mx l ≤ mx := by
  unfold cutN
  split
  · rw [List.length_take]; omega
  · have := cutFrom_le b mn ((l.take mx).drop mn)
    rw [List.length_drop, List.length_take] at this
    rename_i h; rw [List.length_take] at h
    omega
theorem cutN_pos {mn b mx : Nat} (h1 : 1 ≤ mn) (h2 : mn ≤ mx) {l : List UInt8} (hl : l ≠ []) : 1 ≤ cutN mn b mx l := by
  have := List.length_pos_iff.2 hl
  unfold cutN
  split
  · rw [List.length_take]; omega
  · have := cutFrom_ge b mn ((l.take mx).drop mn)
    omega
theorem cutN_min {mn b mx : Nat} (h2 : mn ≤ mx) {l : List UInt8} (h : cutN mn b mx l < l.length) : mn ≤ cutN mn b mx l := by
  revert h
  unfold cutN
  split
  · rw [List.length_take]; omega
  · intro _
    exact cutFrom_ge b mn ((l.take mx).drop mn)
theorem cutN_app {mn b mx : Nat} {l : List UInt8} (q : List UInt8) (h : cutN mn b mx l < l.length) : cutN mn b mx (l ++ q) = cutN mn b mx l := by
  by_cases hm : mx ≤ l.length
  · unfold cutN; rw [List.take_append_of_le_length hm]
  · have e1 : l.take mx = l := List.take_of_length_le (by omega)
    have e2 : (l ++ q).take mx = l ++ q.take (mx - l.length) := by rw [List.take_append, e1]
    unfold cutN at h ⊢
    rw [e1] at h ⊢
    rw [e2]
    by_cases hn : l.length ≤ mn
    · rw [if_pos hn] at h; omega
    · rw [if_neg hn] at h ⊢
      rw [if_neg (by rw [List.length_append]; omega), List.drop_append_of_le_length (by omega)]
      exact cutFrom_app _ (by rw [List.length_drop]; omega)
theorem cutN_app_max {mn b mx : Nat} {l : List UInt8} (q : List UInt8) (h : mx ≤ l.length) : cutN mn b mx (l ++ q) = cutN mn b mx l := by
  unfold cutN; rw [List.take_append_of_le_length h]

theorem cutN_none {mn b mx : Nat} {l : List UInt8} (h : ∀ y ∈ hs mn ((l.take mx).drop mn), stopB b y = false) : cutN mn b mx l = (l.take mx).length := by
  unfold cutN
  split
  · rfl
  · rw [cutFrom_none h, List.length_drop]; omega
theorem cutN_stop {mn b mx : Nat} {l : List UInt8} {pre : List (Nat × Nat)} {x : Nat × Nat} (hp : pre ++ [x] <+: hs mn ((l.take mx).drop mn)) (h : ∀ y ∈ pre, stopB b y = false) (hx : stopB b x = true) : cutN mn b mx l = x.1 + 1 := by
  have := hp.length_le
  rw [List.length_append, hs_len, List.length_drop, List.length_singleton] at this
  unfold cutN
  rw [if_neg (by omega), cutFrom_stop hp h hx]

/-! ## Pieces, by any cut -/
def pcsK (c : List UInt8 → Nat) : Nat → List UInt8 → List (List UInt8)
  | 0, _ => []
  | n + 1, l => if l.isEmpty then [] else l.take (c l) :: pcsK c n (l.drop (c l))
def pcs (c : List UInt8 → Nat) (l : List UInt8) : List (List UInt8) := pcsK c l.length l
theorem pcsK_enough {c : List UInt8 → Nat} (hc : ∀ l, l ≠ [] → 1 ≤ c l) : ∀ (n m : Nat) (l : List UInt8), l.length ≤ n → l.length ≤ m → pcsK c n l = pcsK c m l
  | 0, 0, _, _, _ => rfl
  | 0, m + 1, l, h, _ => by
    obtain rfl : l = [] := List.length_eq_zero_iff.1 (by omega)
    rfl
  | n + 1, 0, l, _, h => by
    obtain rfl : l = [] := List.length_eq_zero_iff.1 (by omega)
    rfl
  | n + 1, m + 1, l, h1, h2 => by
    by_cases hl : l = []
    · subst hl; rfl
    · have hp := List.length_pos_iff.2 hl
      have := hc l hl
      simp only [pcsK]
      rw [pcsK_enough hc n m (l.drop (c l)) (by rw [List.length_drop]; omega) (by rw [List.length_drop]; omega)]
theorem pcs_nil (c : List UInt8 → Nat) : pcs c [] = [] := rfl
theorem pcs_cons {c : List UInt8 → Nat} (hc : ∀ l, l ≠ [] → 1 ≤ c l) {l : List UInt8} (hl : l ≠ []) : pcs c l = l.take (c l) :: pcs c (l.drop (c l)) := by
  have hp := List.length_pos_iff.2 hl
  have := hc l hl
  obtain ⟨n, hn⟩ : ∃ n, l.length = n + 1 := ⟨l.length - 1, by omega⟩
  unfold pcs
  rw [hn]
  simp only [pcsK]
  rw [if_neg (by simpa using hl), pcsK_enough hc n (l.drop (c l)).length (l.drop (c l)) (by rw [List.length_drop]; omega) (Nat.le_refl _)]
theorem pcs_len {c : List UInt8 → Nat} (hc : ∀ l, l ≠ [] → 1 ≤ c l) : ∀ (n : Nat) (l : List UInt8), l.length ≤ n → (pcs c l).length ≤ l.length
  | 0, l, h => by
    obtain rfl : l = [] := List.length_eq_zero_iff.1 (by omega)
    exact Nat.le_refl _
  | n + 1, l, h => by
    by_cases hl : l = []
    · subst hl; exact Nat.le_refl _
    · have hp := List.length_pos_iff.2 hl
      have := hc l hl
      have := pcs_len hc n (l.drop (c l)) (by rw [List.length_drop]; omega)
      rw [pcs_cons hc hl, List.length_cons]
      rw [List.length_drop] at this
      omega
theorem pcs_flat {c : List UInt8 → Nat} (hc : ∀ l, l ≠ [] → 1 ≤ c l) : ∀ (n : Nat) (l : List UInt8), l.length ≤ n → (pcs c l).flatten = l
  | 0, l, h => by
    obtain rfl : l = [] := List.length_eq_zero_iff.1 (by omega)
    rfl
  | n + 1, l, h => by
    by_cases hl : l = []
    · subst hl; rfl
    · have hp := List.length_pos_iff.2 hl
      have := hc l hl
      rw [pcs_cons hc hl, List.flatten_cons, pcs_flat hc n (l.drop (c l)) (by rw [List.length_drop]; omega), List.take_append_drop]

/-- A cut with the document's bounds. -/
structure CutOk (mn mx : Nat) (c : List UInt8 → Nat) : Prop where
  pos : ∀ l, l ≠ [] → 1 ≤ c l
  le : ∀ l, c l ≤ l.length
  max : ∀ l, c l ≤ mx
  min : ∀ l, c l < l.length → mn ≤ c l
  app : ∀ l q, c l < l.length → c (l ++ q) = c l
theorem cutN_ok {mn b mx : Nat} (h1 : 1 ≤ mn) (h2 : mn ≤ mx) : CutOk mn mx (cutN mn b mx) :=
  ⟨fun _ => cutN_pos h1 h2, cutN_le _ _ _, cutN_max _ _ _, fun _ => cutN_min h2, fun _ q h => cutN_app q h⟩

theorem pcs_each {mn mx : Nat} {c : List UInt8 → Nat} (H : CutOk mn mx c) : ∀ (n : Nat) (l : List UInt8), l.length ≤ n → ∀ (i : Nat) (x : List UInt8), (pcs c l)[i]? = some x → 1 ≤ x.length ∧ x.length ≤ mx ∧ (i + 1 < (pcs c l).length → mn ≤ x.length)
  | 0, l, h, i, x, hx => by
    obtain rfl : l = [] := List.length_eq_zero_iff.1 (by omega)
    rw [pcs_nil] at hx; simp at hx
  | n + 1, l, h, i, x, hx => by
    by_cases hl : l = []
    · subst hl; rw [pcs_nil] at hx; simp at hx
    · have hp := List.length_pos_iff.2 hl
      have h1 := H.pos l hl
      have h2 := H.le l
      have h3 := H.max l
      rw [pcs_cons H.pos hl] at hx ⊢
      cases i with
      | zero =>
        simp only [List.getElem?_cons_zero, Option.some.injEq] at hx
        subst hx
        have e : (l.take (c l)).length = c l := by rw [List.length_take]; omega
        refine ⟨by omega, by omega, fun hi => ?_⟩
        rw [e]
        refine H.min l ?_
        by_cases hd : c l < l.length
        · exact hd
        · have : l.drop (c l) = [] := List.drop_of_length_le (by omega)
          rw [this, pcs_nil] at hi; simp at hi
      | succ i =>
        rw [List.getElem?_cons_succ] at hx
        obtain ⟨g1, g2, g3⟩ := pcs_each H n (l.drop (c l)) (by rw [List.length_drop]; omega) i x hx
        refine ⟨g1, g2, fun hi => g3 ?_⟩
        rw [List.length_cons] at hi; omega
theorem pcs_ahead {mn mx : Nat} {c : List UInt8 → Nat} (H : CutOk mn mx c) : ∀ (n : Nat) (a q : List UInt8), a.length ≤ n → (pcs c a).length ≤ (pcs c (a ++ q)).length ∧ ∀ i, i + 1 < (pcs c a).length → (pcs c a)[i]? = (pcs c (a ++ q))[i]?
  | 0, a, q, h => by
    obtain rfl : a = [] := List.length_eq_zero_iff.1 (by omega)
    exact ⟨Nat.zero_le _, fun i hi => by rw [pcs_nil] at hi; simp at hi⟩
  | n + 1, a, q, h => by
    by_cases ha : a = []
    · subst ha; exact ⟨Nat.zero_le _, fun i hi => by rw [pcs_nil] at hi; simp at hi⟩
    · have hp := List.length_pos_iff.2 ha
      have h1 := H.pos a ha
      have h2 := H.le a
      have haq : a ++ q ≠ [] := by simp [ha]
      rw [pcs_cons H.pos ha, pcs_cons H.pos haq]
      by_cases hc : c a < a.length
      · rw [H.app a q hc, List.drop_append_of_le_length (by omega), List.take_append_of_le_length (by omega)]
        obtain ⟨g1, g2⟩ := pcs_ahead H n (a.drop (c a)) q (by rw [List.length_drop]; omega)
        refine ⟨by simp only [List.length_cons]; omega, fun i hi => ?_⟩
        cases i with
        | zero => rfl
        | succ i =>
          rw [List.getElem?_cons_succ, List.getElem?_cons_succ]
          exact g2 i (by simp only [List.length_cons] at hi; omega)
      · have : a.drop (c a) = [] := List.drop_of_length_le (by omega)
        rw [this, pcs_nil]
        exact ⟨by simp, fun i hi => by simp at hi⟩

/-! ## Which parameters are fit -/
structure FitAt (mn av mx : Int) (b : Nat) : Prop where
  h1 : 1 ≤ mn
  h2 : mn ≤ av
  h3 : av ≤ mx
  h4 : mx ≤ 4096
  h5 : 1 ≤ b
  h6 : b ≤ 12
  h7 : av = ((2 ^ b : Nat) : Int)
theorem FitAt.two {mn av mx : Int} {b : Nat} (h : FitAt mn av mx b) : 2 ≤ av := by
  rw [h.h7]
  have : 2 ^ 1 ≤ 2 ^ b := Nat.pow_le_pow_right (by decide) h.h5
  exact_mod_cast this
def fitB (mn av mx : Int) : Bool := decide (∃ b, b < 13 ∧ 1 ≤ mn ∧ mn ≤ av ∧ av ≤ mx ∧ mx ≤ 4096 ∧ 1 ≤ b ∧ av = ((2 ^ b : Nat) : Int))
theorem fitB_true {mn av mx : Int} (h : fitB mn av mx = true) : ∃ b, FitAt mn av mx b := by
  obtain ⟨b, h0, h1, h2, h3, h4, h5, h6⟩ := of_decide_eq_true h
  exact ⟨b, h1, h2, h3, h4, h5, by omega, h6⟩
theorem fitB_of {mn av mx : Int} {b : Nat} (h : FitAt mn av mx b) : fitB mn av mx = true :=
  decide_eq_true ⟨b, by have := h.h6; omega, h.h1, h.h2, h.h3, h.h4, h.h5, h.h7⟩
theorem fitB_not {mn av mx : Int} (h : fitB mn av mx = false) : ∀ b, ¬ FitAt mn av mx b := fun b hb => by
  rw [fitB_of hb] at h; cases h
/-- How many bits are 1, as the library reckons it. -/
def ones1 (n : Nat) : Nat := n / 2 &&& 6148914691236517205
theorem pow_lt13 {b : Nat} (h : b ≤ 12) : (2 ^ b : Nat) ≤ 4096 := by
  have : b < 13 := by omega
  revert b; decide
end Go.Proofs.YtciajgdjddepdaaDoor

/-
  Mathematics of stream, of no program: what a text tells as long as it is long enough, and what is left.
-/
import Derived.Test.YtciajgdjddepdaaDoorCdm
set_option linter.unusedVariables false
namespace Go.Proofs.YtciajgdjddepdaaDoor

def fedK (c : List UInt8 → Nat) (mx : Nat) : Nat → List UInt8 → List (List UInt8)
  | 0, _ => []
  | n + 1, l => if l.length < mx then [] else l.take (c l) :: fedK c mx n (l.drop (c l))
def leftK (c : List UInt8 → Nat) (mx : Nat) : Nat → List UInt8 → List UInt8
  | 0, l => l
  | n + 1, l => if l.length < mx then l else leftK c mx n (l.drop (c l))
/-- The pieces that are sure, and what is left. -/
def fed (c : List UInt8 → Nat) (mx : Nat) (l : List UInt8) : List (List UInt8) := fedK c mx l.length l
def left (c : List UInt8 → Nat) (mx : Nat) (l : List UInt8) : List UInt8 := leftK c mx l.length l

/-- A cut that hangs on the first bytes alone. -/
structure CutSure (mn mx : Nat) (c : List UInt8 → Nat) : Prop extends CutOk mn mx c where
  one : 1 ≤ mx
  sure : ∀ l q, mx ≤ l.length → c (l ++ q) = c l
theorem cutN_sure {mn b mx : Nat} (h1 : 1 ≤ mn) (h2 : mn ≤ mx) : CutSure mn mx (cutN mn b mx) :=
  ⟨cutN_ok h1 h2, by omega, fun _ q h => cutN_app_max q h⟩

section
variable {mn mx : Nat} {c : List UInt8 → Nat}
theorem long_ne (H : CutSure mn mx c) {l : List UInt8} (h : mx ≤ l.length) : l ≠ [] := fun e => by rw [e] at h; have := H.one; simp at h; omega
theorem fedK_enough (H : CutSure mn mx c) : ∀ (n m : Nat) (l : List UInt8), l.length ≤ n → l.length ≤ m → fedK c mx n l = fedK c mx m l ∧ leftK c mx n l = leftK c mx m l
  | 0, 0, _, _, _ => ⟨rfl, rfl⟩
  | 0, m + 1, l, h, _ => by
    have := H.one
    simp only [fedK, leftK]
    rw [if_pos (by omega), if_pos (by omega)]; exact ⟨rfl, rfl⟩
  | n + 1, 0, l, _, h => by
    have := H.one
    simp only [fedK, leftK]
    rw [if_pos (by omega), if_pos (by omega)]; exact ⟨rfl, rfl⟩
  | n + 1, m + 1, l, h1, h2 => by
    simp only [fedK, leftK]
    by_cases hl : l.length < mx
    · rw [if_pos hl, if_pos hl, if_pos hl, if_pos hl]; exact ⟨rfl, rfl⟩
    · rw [if_neg hl, if_neg hl, if_neg hl, if_neg hl]
      have hp := H.pos l (long_ne H (by omega))
      have hq := List.length_pos_iff.2 (long_ne H (l := l) (by omega))
      obtain ⟨e1, e2⟩ := fedK_enough H n m (l.drop (c l)) (by rw [List.length_drop]; omega) (by rw [List.length_drop]; omega)
      exact ⟨by rw [e1], e2⟩
theorem fed_short (H : CutSure mn mx c) {l : List UInt8} (h : l.length < mx) : fed c mx l = [] ∧ left c mx l = l := by
  have := H.one
  unfold fed left
  cases hn : l.length with
  | zero => exact ⟨rfl, rfl⟩
  | succ n => simp only [fedK, leftK]; rw [if_pos h, if_pos h]; exact ⟨rfl, rfl⟩
theorem fed_long (H : CutSure mn mx c) {l : List UInt8} (h : mx ≤ l.length) : fed c mx l = l.take (c l) :: fed c mx (l.drop (c l)) ∧ left c mx l = left c mx (l.drop (c l)) := by
  have hp := H.pos l (long_ne H h)
  have h1 := H.one
  obtain ⟨n, hn⟩ : ∃ n, l.length = n + 1 := ⟨l.length - 1, by omega⟩
  unfold fed left
  rw [hn]
  simp only [fedK, leftK]
  rw [if_neg (by omega), if_neg (by omega)]
  obtain ⟨e1, e2⟩ := fedK_enough H n (l.drop (c l)).length (l.drop (c l)) (by rw [List.length_drop]; omega) (Nat.le_refl _)
  exact ⟨by rw [e1], e2⟩
/-- By steps. -/
theorem fed_ind (H : CutSure mn mx c) {p : List UInt8 → Prop} (h0 : ∀ l, l.length < mx → p l) (h1 : ∀ l, mx ≤ l.length → p (l.drop (c l)) → p l) : ∀ (n : Nat) (l : List UInt8), l.length ≤ n → p l
  | 0, l, h => h0 l (by have := H.one; omega)
  | n + 1, l, h => by
    by_cases hl : l.length < mx
    · exact h0 l hl
    · have hp := H.pos l (long_ne H (by omega))
      exact h1 l (by omega) (fed_ind H h0 h1 n (l.drop (c l)) (by rw [List.length_drop]; omega))
theorem left_lt (H : CutSure mn mx c) (l : List UInt8) : (left c mx l).length < mx :=
  fed_ind H (p := fun l => (left c mx l).length < mx) (fun l h => by rw [(fed_short H h).2]; exact h) (fun l h i => by rw [(fed_long H h).2]; exact i) l.length l (Nat.le_refl _)
theorem left_le (H : CutSure mn mx c) (l : List UInt8) : (left c mx l).length ≤ l.length :=
  fed_ind H (p := fun l => (left c mx l).length ≤ l.length) (fun l h => by rw [(fed_short H h).2]; exact Nat.le_refl _) (fun l h i => by rw [(fed_long H h).2]; rw [List.length_drop] at i; omega) l.length l (Nat.le_refl _)
theorem fed_len (H : CutSure mn mx c) (l : List UInt8) : (fed c mx l).length ≤ l.length :=
  fed_ind H (p := fun l => (fed c mx l).length ≤ l.length) (fun l h => by rw [(fed_short H h).1]; exact Nat.zero_le _) (fun l h i => by
    have hp := H.pos l (long_ne H h)
    have := H.one
    rw [(fed_long H h).1, List.length_cons]; rw [List.length_drop] at i; omega) l.length l (Nat.le_refl _)
/-- In two parts. -/
theorem fed_app (H : CutSure mn mx c) (l q : List UInt8) : fed c mx (l ++ q) = fed c mx l ++ fed c mx (left c mx l ++ q) ∧ left c mx (l ++ q) = left c mx (left c mx l ++ q) :=
  fed_ind H (p := fun l => fed c mx (l ++ q) = fed c mx l ++ fed c mx (left c mx l ++ q) ∧ left c mx (l ++ q) = left c mx (left c mx l ++ q))
    (fun l h => by rw [(fed_short H h).1, (fed_short H h).2]; exact ⟨rfl, rfl⟩)
    (fun l h i => by
      have hle := H.le l
      have hlq : mx ≤ (l ++ q).length := by rw [List.length_append]; omega
      obtain ⟨e1, e2⟩ := fed_long H h
      obtain ⟨e3, e4⟩ := fed_long H hlq
      rw [H.sure l q h, List.drop_append_of_le_length hle] at e3 e4
      rw [List.take_append_of_le_length hle] at e3
      rw [e1, e2, e3, e4]
      exact ⟨by rw [i.1]; rfl, i.2⟩) l.length l (Nat.le_refl _)
/-- As at once. -/
theorem fed_pcs (H : CutSure mn mx c) (l : List UInt8) : fed c mx l ++ pcs c (left c mx l) = pcs c l :=
  fed_ind H (p := fun l => fed c mx l ++ pcs c (left c mx l) = pcs c l) (fun l h => by rw [(fed_short H h).1, (fed_short H h).2]; rfl)
    (fun l h i => by rw [(fed_long H h).1, (fed_long H h).2, pcs_cons H.pos (long_ne H h), List.cons_append, i]) l.length l (Nat.le_refl _)
theorem fed_left (H : CutSure mn mx c) (l : List UInt8) : fed c mx (left c mx l) = [] ∧ left c mx (left c mx l) = left c mx l := fed_short H (left_lt H l)
/-- One byte more tells one piece at most. -/
theorem fed_one (H : CutSure mn mx c) {l : List UInt8} (h : l.length < mx) (x : UInt8) : (fed c mx (l ++ [x])).length ≤ 1 := by
  by_cases hl : mx ≤ (l ++ [x]).length
  · have hp := H.pos _ (long_ne H hl)
    have hs : ((l ++ [x]).drop (c (l ++ [x]))).length < mx := by rw [List.length_drop, List.length_append, List.length_singleton]; have := H.one; omega
    rw [(fed_long H hl).1, (fed_short H hs).1]; exact Nat.le_refl _
  · rw [(fed_short H (by omega)).1]; exact Nat.zero_le _
end
theorem left_nil (c : List UInt8 → Nat) (mx : Nat) : left c mx [] = [] ∧ fed c mx [] = [] := ⟨rfl, rfl⟩
end Go.Proofs.YtciajgdjddepdaaDoor

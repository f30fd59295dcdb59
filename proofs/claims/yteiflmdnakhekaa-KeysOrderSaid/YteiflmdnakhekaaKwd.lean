/-
  Layer 5: contracts in the words of sets, for the laws' walks.
-/
import Derived.Test.YteiflmdnakhekaaKwa
set_option linter.unusedVariables false
namespace Go.Proofs.Yteiflmdnakhekaa
open Go.RowKit
attribute [local go_sem] Oper.semAt_some

/-- A value that reads as texts. -/
def IsSet (w : World) (v : Value) (M : List Txt) : Prop := IsStrs w v (strsOf M)
theorem IsSet.stays {w w' : World} {v : Value} {M : List Txt} (h : IsSet w v M) (hb : Below w.heap.size w w') : IsSet w' v M := IsStrs.stays h hb
theorem isSet_of {w : World} {v : Value} {L : List ByteArray} (h : IsStrs w v L) : IsSet w v (txts L) := by unfold IsSet; rw [strsOf_txts]; exact h
theorem IsStrs.shape {w : World} {v : Value} {L : List ByteArray} (h : IsStrs w v L) : ∃ a cap, v = .slice a L.length cap := by
  obtain ⟨_, a, cap, e, _⟩ := h
  exact ⟨a, cap, e⟩
theorem IsSet.shape {w : World} {v : Value} {M : List Txt} (h : IsSet w v M) : ∃ a cap, v = .slice a M.length cap := by
  obtain ⟨_, a, cap, e, _⟩ := h
  exact ⟨a, cap, by rw [e, strsOf_len]⟩
def RetSet (W : World) (M : List Txt) (e : Ending) (w' : World) : Prop := ∃ v', e = .returned v' ∧ IsSet w' v' M ∧ Below W.heap.size W w'
theorem ofL_len (l : List Txt) : (ofL l).length ≤ l.length := by
  have h1 := Lib.compact_length_le ((l.filter isK).mergeSort fun x y => decide (x ≤ y))
  have h2 := List.length_filter_le isK l
  rw [List.length_mergeSort] at h1
  unfold ofL; omega

theorem Of_set {W : World} {v : Value} {M : List Txt} (h : IsSet W v M) (hl : M.length ≤ 1000) : Calls Try.prog 12 #[v] W (RetSet W (ofL M)) := by
  have := Of_any v (strsOf M) W h (by rw [strsOf_len]; omega)
  rw [txts_strsOf] at this; exact this
theorem refOf_set {W : World} {v : Value} {M : List Txt} (h : IsSet W v M) (hl : M.length ≤ 1000) : Calls Try.prog 13 #[v] W (RetSet W (ofL M)) := by
  have := refOf_any v (strsOf M) W h (by rw [strsOf_len]; omega)
  rw [txts_strsOf] at this; exact this
theorem Join_set {W : World} {u v : Value} {A B : List Txt} (h1 : IsSet W u A) (h2 : IsSet W v B) (hl : A.length + B.length ≤ 10000) : Calls Try.prog 17 #[u, v] W (RetSet W (sift kOr A B)) := by
  have := Join_any u v (strsOf A) (strsOf B) W h1 h2 (by rw [strsOf_len, strsOf_len]; omega)
  rw [txts_strsOf, txts_strsOf] at this; exact this
theorem Both_set {W : World} {u v : Value} {A B : List Txt} (h1 : IsSet W u A) (h2 : IsSet W v B) (hl : A.length + B.length ≤ 10000) : Calls Try.prog 19 #[u, v] W (RetSet W (sift kAnd A B)) := by
  have := Both_any u v (strsOf A) (strsOf B) W h1 h2 (by rw [strsOf_len, strsOf_len]; omega)
  rw [txts_strsOf, txts_strsOf] at this; exact this
theorem Less_set {W : World} {u v : Value} {A B : List Txt} (h1 : IsSet W u A) (h2 : IsSet W v B) (hl : A.length + B.length ≤ 10000) : Calls Try.prog 21 #[u, v] W (RetSet W (sift kLess A B)) := by
  have := Less_any u v (strsOf A) (strsOf B) W h1 h2 (by rw [strsOf_len, strsOf_len]; omega)
  rw [txts_strsOf, txts_strsOf] at this; exact this
theorem refJoin_set {W : World} {u v : Value} {A B : List Txt} (h1 : IsSet W u A) (h2 : IsSet W v B) (hA : Rises A) (hB : Rises B) (hl : A.length + B.length ≤ 10000) : Calls Try.prog 18 #[u, v] W (RetSet W (sift kOr A B)) := by
  have := refJoin_any u v (strsOf A) (strsOf B) W h1 h2 (by rw [strsOf_len, strsOf_len]; omega)
  rw [txts_strsOf, txts_strsOf, refJoin_eq hA hB] at this; exact this
theorem refBoth_set {W : World} {u v : Value} {A B : List Txt} (h1 : IsSet W u A) (h2 : IsSet W v B) (hA : Rises A) (hB : Rises B) (hl : A.length + B.length ≤ 10000) : Calls Try.prog 20 #[u, v] W (RetSet W (sift kAnd A B)) := by
  have := refBoth_any u v (strsOf A) (strsOf B) W h1 h2 (by rw [strsOf_len]; omega)
  rw [txts_strsOf, txts_strsOf, refBoth_eq hA hB] at this; exact this
theorem refLess_set {W : World} {u v : Value} {A B : List Txt} (h1 : IsSet W u A) (h2 : IsSet W v B) (hA : Rises A) (hB : Rises B) (hl : A.length + B.length ≤ 10000) : Calls Try.prog 22 #[u, v] W (RetSet W (sift kLess A B)) := by
  have := refLess_any u v (strsOf A) (strsOf B) W h1 h2 (by rw [strsOf_len]; omega)
  rw [txts_strsOf, txts_strsOf, refLess_eq hA hB] at this; exact this
theorem Same_set {W : World} {u v : Value} {A B : List Txt} (h1 : IsSet W u A) (h2 : IsSet W v B) (e : A = B) : Calls Try.prog 11 #[u, v] W fun e w' => e = .returned (.bool true) ∧ Below W.heap.size W w' := by
  subst e; exact Same_eq u v _ W h1 h2
theorem Has_set {W : World} {v : Value} {A : List Txt} (x : ByteArray) (h : IsSet W v A) (hA : Rises A) (hl : A.length ≤ 10000) (c : Bool) (hc : hasB A x.data.toList = c) : Calls Try.prog 15 #[v, .string x] W fun e w' => e = .returned (.bool c) ∧ Below W.heap.size W w' := by
  have := Has_any v (strsOf A) x W h (by rw [txts_strsOf]; exact hA) (by rw [strsOf_len]; omega)
  rw [txts_strsOf, hc] at this
  refine this.mono ?_
  rintro e w' ⟨rfl, n, rfl⟩
  exact ⟨rfl, below_drewN (Below.refl _ _) _⟩
theorem refHas_set {W : World} {v : Value} {A : List Txt} (x : ByteArray) (h : IsSet W v A) (c : Bool) (hc : hasB A x.data.toList = c) : Calls Try.prog 16 #[v, .string x] W fun e w' => e = .returned (.bool c) ∧ Below W.heap.size W w' := by
  have := refHas_any v (strsOf A) x W h
  rw [txts_strsOf, hc] at this
  refine this.mono ?_
  rintro e w' ⟨rfl, rfl⟩
  exact ⟨rfl, Below.refl _ _⟩
theorem Fit_set {W : World} {v : Value} {A : List Txt} (h : IsSet W v A) (c : Bool) (hc : fitB A = c) : Calls Try.prog 9 #[v] W fun e w' => e = .returned (.bool c) ∧ Below W.heap.size W w' := by
  have := Fit_any v (strsOf A) W h
  rw [txts_strsOf, hc] at this
  refine this.mono ?_
  rintro e w' ⟨rfl, rfl⟩
  exact ⟨rfl, Below.refl _ _⟩
theorem refFit_set {W : World} {v : Value} {A : List Txt} (h : IsSet W v A) (c : Bool) (hc : fitB A = c) : Calls Try.prog 10 #[v] W fun e w' => e = .returned (.bool c) ∧ Below W.heap.size W w' := by
  have := refFit_any v (strsOf A) W h
  rw [txts_strsOf, hc] at this; exact this
theorem few_two {W : World} {u v : Value} {K L : List ByteArray} (h1 : IsStrs W u K) (h2 : IsStrs W v L) (c : Bool) (hc : fewB [K, L] = c) :
    Calls Try.prog 8 #[.slice (some ⟨W.heap.size, 0, none⟩) 2 2] (W.alloc (.cells #[u, v] 22)) fun e w' => e = .returned (.bool c) ∧ Below W.heap.size W w' := by
  have hb : Below W.heap.size W (W.alloc (.cells #[u, v] 22)) := (Below.refl _ _).alloc (Nat.le_refl _) _
  have hbk : (W.alloc (.cells #[u, v] 22)).heap[W.heap.size]? = some (.cells #[u, v] 22 (0, 0)) := heap_alloc_new _ _
  have := few_any (.slice (some ⟨W.heap.size, 0, none⟩) 2 2) [K, L] (W.alloc (.cells #[u, v] 22)) ⟨by show 2 ≤ 1000; decide, W.heap.size, 0, 2, rfl, fun i hi => by
    match i, hi with
    | 0, _ => exact ⟨u, by rw [cell_of_row _ _ _ _ _ _ hbk]; rfl, h1.stays hb⟩
    | 1, _ => exact ⟨v, by rw [cell_of_row _ _ _ _ _ _ hbk]; rfl, h2.stays hb⟩⟩
  rw [hc] at this
  refine this.mono ?_
  rintro e w' ⟨rfl, rfl⟩
  exact ⟨rfl, hb⟩
theorem few_one {W : World} {u : Value} {K : List ByteArray} (h1 : IsStrs W u K) (c : Bool) (hc : fewB [K] = c) :
    Calls Try.prog 8 #[.slice (some ⟨W.heap.size, 0, none⟩) 1 1] (W.alloc (.cells #[u] 22)) fun e w' => e = .returned (.bool c) ∧ Below W.heap.size W w' := by
  have hb : Below W.heap.size W (W.alloc (.cells #[u] 22)) := (Below.refl _ _).alloc (Nat.le_refl _) _
  have hbk : (W.alloc (.cells #[u] 22)).heap[W.heap.size]? = some (.cells #[u] 22 (0, 0)) := heap_alloc_new _ _
  have := few_any (.slice (some ⟨W.heap.size, 0, none⟩) 1 1) [K] (W.alloc (.cells #[u] 22)) ⟨by show 1 ≤ 1000; decide, W.heap.size, 0, 1, rfl, fun i hi => by
    match i, hi with
    | 0, _ => exact ⟨u, by rw [cell_of_row _ _ _ _ _ _ hbk]; rfl, h1.stays hb⟩⟩
  rw [hc] at this
  refine this.mono ?_
  rintro e w' ⟨rfl, rfl⟩
  exact ⟨rfl, hb⟩
theorem fewB_two {K L : List ByteArray} (h : fewB [K, L] = true) : K.length ≤ 200 ∧ L.length ≤ 200 := by
  have := of_decide_eq_true h
  exact ⟨(this K (by simp)).1, (this L (by simp)).1⟩
theorem fewB_one {K : List ByteArray} (h : fewB [K] = true) : K.length ≤ 200 := by
  have := of_decide_eq_true h
  exact (this K (by simp)).1
theorem hasB_or {A B : List Txt} (ha : Rises A) (hb : Rises B) (x : Txt) : hasB (sift kOr A B) x = (hasB A x || hasB B x) := by
  unfold hasB; rw [← Bool.decide_or]; exact decide_eq_decide.2 (mem_or ha hb x)
theorem hasB_and {A B : List Txt} (ha : Rises A) (hb : Rises B) (x : Txt) : hasB (sift kAnd A B) x = (hasB A x && hasB B x) := by
  unfold hasB; rw [← Bool.decide_and]; exact decide_eq_decide.2 (mem_and ha hb x)
theorem hasB_less {A B : List Txt} (ha : Rises A) (hb : Rises B) (x : Txt) : hasB (sift kLess A B) x = (hasB A x && !hasB B x) := by
  unfold hasB; rw [← decide_not, ← Bool.decide_and]; exact decide_eq_decide.2 (mem_less ha hb x)
end Go.Proofs.Yteiflmdnakhekaa

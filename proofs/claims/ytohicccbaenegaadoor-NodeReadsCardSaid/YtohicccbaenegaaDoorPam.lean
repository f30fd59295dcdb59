/-
  Mathematics of paths: the parts between the slashes, names, what is told of them, how two stand to each other. Of no program.
-/
namespace Go.Proofs.YtohicccbaenegaaDoor

/-- The parts between the slashes. -/
def pts : List UInt8 → List (List UInt8)
  | [] => [[]]
  | c :: r => if c = 47 then [] :: pts r else match pts r with
    | [] => [[c]]
    | h :: t => (c :: h) :: t
/-- Texts with a slash between. -/
def joinS : List (List UInt8) → List UInt8
  | [] => []
  | [a] => a
  | a :: b :: r => a ++ 47 :: joinS (b :: r)

theorem pts_ne (l : List UInt8) : pts l ≠ [] := by
  cases l with
  | nil => simp [pts]
  | cons c r =>
    simp only [pts]
    split
    · simp
    · split <;> simp
theorem pts_slash (r : List UInt8) : pts (47 :: r) = [] :: pts r := by simp [pts]
theorem pts_other {c : UInt8} (hc : c ≠ 47) {r h : List UInt8} {t : List (List UInt8)} (e : pts r = h :: t) : pts (c :: r) = (c :: h) :: t := by simp [pts, hc, e]
theorem pts_app (a b : List UInt8) : pts (a ++ 47 :: b) = pts a ++ pts b := by
  induction a with
  | nil => simp [pts]
  | cons c r ih =>
    by_cases hc : c = 47
    · subst hc; simp [pts, ih]
    · obtain ⟨h, t, e⟩ := List.exists_cons_of_ne_nil (pts_ne r)
      rw [List.cons_append, pts_other hc (show pts (r ++ 47 :: b) = h :: (t ++ pts b) by rw [ih, e]; rfl), pts_other hc e]; rfl
theorem pts_one {a : List UInt8} (h : (47 : UInt8) ∉ a) : pts a = [a] := by
  induction a with
  | nil => rfl
  | cons c r ih =>
    have hc : c ≠ 47 := fun e => h (by rw [e]; exact List.mem_cons_self ..)
    exact pts_other hc (ih (fun hr => h (List.mem_cons_of_mem _ hr)))
theorem pts_free (l : List UInt8) : ∀ p ∈ pts l, (47 : UInt8) ∉ p := by
  induction l with
  | nil => simp [pts]
  | cons c r ih =>
    by_cases hc : c = 47
    · subst hc; rw [pts_slash]; intro p hp
      rcases List.mem_cons.1 hp with rfl | hp
      · simp
      · exact ih p hp
    · obtain ⟨h, t, e⟩ := List.exists_cons_of_ne_nil (pts_ne r)
      rw [pts_other hc e]; rw [e] at ih; intro p hp
      rcases List.mem_cons.1 hp with rfl | hp
      · intro hm
        rcases List.mem_cons.1 hm with e2 | hm
        · exact hc e2.symm
        · exact ih h (List.mem_cons_self ..) hm
      · exact ih p (List.mem_cons_of_mem _ hp)
theorem joinS_cons {a : List UInt8} {L : List (List UInt8)} (h : L ≠ []) : joinS (a :: L) = a ++ 47 :: joinS L := by
  cases L with
  | nil => exact absurd rfl h
  | cons b r => rfl
theorem joinS_pts (l : List UInt8) : joinS (pts l) = l := by
  induction l with
  | nil => rfl
  | cons c r ih =>
    by_cases hc : c = 47
    · subst hc; rw [pts_slash, joinS_cons (pts_ne r), ih]; rfl
    · obtain ⟨h, t, e⟩ := List.exists_cons_of_ne_nil (pts_ne r)
      rw [pts_other hc e]; rw [e] at ih
      cases t with
      | nil => simp only [joinS] at ih ⊢; rw [ih]
      | cons b t => simp only [joinS] at ih ⊢; rw [List.cons_append, ih]
theorem pts_joinS : ∀ {L : List (List UInt8)}, L ≠ [] → (∀ p ∈ L, (47 : UInt8) ∉ p) → pts (joinS L) = L
  | [], h, _ => absurd rfl h
  | [a], _, h => pts_one (h a (List.mem_cons_self ..))
  | a :: b :: r, _, h => by
    show pts (a ++ 47 :: joinS (b :: r)) = _
    rw [pts_app, pts_one (h a (List.mem_cons_self ..)), pts_joinS (by simp) (fun p hp => h p (List.mem_cons_of_mem _ hp))]; rfl
theorem joinS_snoc {L : List (List UInt8)} (h : L ≠ []) (p : List UInt8) : joinS (L ++ [p]) = joinS L ++ 47 :: p := by
  induction L with
  | nil => exact absurd rfl h
  | cons a r ih =>
    cases r with
    | nil => rfl
    | cons b r => rw [List.cons_append, joinS_cons (L := b :: r ++ [p]) (by simp), ih (by simp), joinS_cons (a := a) (L := b :: r) (by simp), List.append_assoc, List.cons_append]
theorem joinS_len : ∀ (L : List (List UInt8)), (joinS L).length + 1 = (L.map List.length).sum + L.length ∨ L = []
  | [] => .inr rfl
  | [a] => .inl (by simp [joinS])
  | a :: b :: r => .inl (by
    rcases joinS_len (b :: r) with h | h
    · show (a ++ 47 :: joinS (b :: r)).length + 1 = _
      rw [List.length_append, List.length_cons]; simp only [List.map_cons, List.sum_cons, List.length_cons] at h ⊢; omega
    · cases h)

/-- A name. -/
def nameB (l : List UInt8) : Bool := decide (1 ≤ l.length ∧ l.length ≤ 31 ∧ l ≠ [46] ∧ l ≠ [46, 46] ∧ (0 : UInt8) ∉ l ∧ (47 : UInt8) ∉ l)
theorem nameB_iff {l : List UInt8} : nameB l = true ↔ 1 ≤ l.length ∧ l.length ≤ 31 ∧ l ≠ [46] ∧ l ≠ [46, 46] ∧ (0 : UInt8) ∉ l ∧ (47 : UInt8) ∉ l := by simp [nameB]
theorem nameB_mk {l : List UInt8} (h : 1 ≤ l.length ∧ l.length ≤ 31 ∧ l ≠ [46] ∧ l ≠ [46, 46] ∧ (0 : UInt8) ∉ l ∧ (47 : UInt8) ∉ l) : nameB l = true := nameB_iff.2 h
theorem nameB_no {l : List UInt8} (h : ¬ (1 ≤ l.length ∧ l.length ≤ 31 ∧ l ≠ [46] ∧ l ≠ [46, 46] ∧ (0 : UInt8) ∉ l ∧ (47 : UInt8) ∉ l)) : nameB l = false := by
  rcases hb : nameB l with _ | _
  · rfl
  · exact absurd (nameB_iff.1 hb) h
theorem nameB_nil : nameB [] = false := rfl

/-- Names as a path; nothing: they are none. -/
def joinN (L : List (List UInt8)) : List UInt8 := if L.length ≤ 8 ∧ L.all nameB = true then joinS L else []
/-- A path's names; none: it is no path. -/
def splitS (l : List UInt8) : List (List UInt8) := if (pts l).length ≤ 8 ∧ (pts l).all nameB = true then pts l else []
/-- The names that a text begins with. -/
def firstN (l : List UInt8) : List (List UInt8) := (pts l).takeWhile nameB
/-- The path of a directory. -/
def dirS (l : List UInt8) : List UInt8 := joinN (splitS l).dropLast

theorem firstN_all (l : List UInt8) : (firstN l).all nameB = true := by
  unfold firstN; exact List.all_takeWhile
theorem firstN_free (l : List UInt8) : ∀ p ∈ firstN l, (47 : UInt8) ∉ p := fun p hp => (nameB_iff.1 (List.all_eq_true.1 (firstN_all l) p hp)).2.2.2.2.2
theorem takeWhile_all {p : List UInt8 → Bool} : ∀ {L : List (List UInt8)}, L.all p = true → L.takeWhile p = L
  | [], _ => rfl
  | a :: L, h => by
    rw [List.all_cons, Bool.and_eq_true] at h
    rw [List.takeWhile_cons, h.1, if_pos rfl, takeWhile_all h.2]
/-- What is joined again makes the text: the names are the path's. -/
theorem split_same {l : List UInt8} (h : joinN (firstN l) = l) : splitS l = firstN l := by
  unfold joinN at h
  by_cases h8 : (firstN l).length ≤ 8
  · rw [if_pos ⟨h8, firstN_all l⟩] at h
    by_cases hn : firstN l = []
    · rw [hn] at h
      subst h
      decide
    · have hp := pts_joinS hn (firstN_free l)
      rw [h] at hp
      unfold splitS
      rw [hp, if_pos ⟨h8, firstN_all l⟩]
  · rw [if_neg (fun hh => h8 hh.1)] at h
    subst h
    exact absurd (by decide) h8
/-- Else it is no path. -/
theorem split_other {l : List UInt8} (h : joinN (firstN l) ≠ l) : splitS l = [] := by
  unfold splitS
  split
  · rename_i hh
    refine absurd ?_ h
    have e : firstN l = pts l := takeWhile_all hh.2
    rw [e]; unfold joinN; rw [if_pos hh, joinS_pts]
  · rfl
theorem splitS_cases (l : List UInt8) : (splitS l = [] ∧ ¬ ((pts l).length ≤ 8 ∧ (pts l).all nameB = true)) ∨ (splitS l = pts l ∧ (pts l).length ≤ 8 ∧ (pts l).all nameB = true) := by
  by_cases h : (pts l).length ≤ 8 ∧ (pts l).all nameB = true
  · exact .inr ⟨if_pos h, h⟩
  · exact .inl ⟨if_neg h, h⟩
theorem splitS_ne {l : List UInt8} (h : splitS l ≠ []) : splitS l = pts l ∧ (pts l).length ≤ 8 ∧ (pts l).all nameB = true := (splitS_cases l).resolve_left fun e => h e.1
theorem splitS_le (l : List UInt8) : (splitS l).length ≤ 8 := by
  rcases splitS_cases l with ⟨h, _⟩ | ⟨h, h8, _⟩ <;> rw [h]
  · exact Nat.zero_le _
  · exact h8
theorem splitS_all (l : List UInt8) : (splitS l).all nameB = true := by
  rcases splitS_cases l with ⟨h, _⟩ | ⟨h, _, ha⟩ <;> rw [h]
  · rfl
  · exact ha
theorem join_split {l : List UInt8} (h : splitS l ≠ []) : joinN (splitS l) = l := by
  obtain ⟨e, h8, ha⟩ := splitS_ne h
  rw [e]; unfold joinN; rw [if_pos ⟨h8, ha⟩, joinS_pts]
theorem joinN_small {L : List (List UInt8)} (h : L.length ≤ 8) (hL : L.all nameB = true) : joinN L = joinS L := if_pos ⟨h, hL⟩
theorem joinN_none {L : List (List UInt8)} (h : ¬ (L.length ≤ 8 ∧ L.all nameB = true)) : joinN L = [] := if_neg h
theorem joinN_long {L : List (List UInt8)} (h : 8 < L.length) : joinN L = [] := if_neg fun hh => absurd hh.1 (by omega)
theorem joinN_bad {L : List (List UInt8)} {p : List UInt8} (hp : p ∈ L) (h : nameB p = false) : joinN L = [] := if_neg fun hh => by
  have := List.all_eq_true.1 hh.2 p hp; rw [h] at this; cases this
theorem splitS_short {l : List UInt8} (h : (splitS l).length < 2) : dirS l = [] := by
  unfold dirS
  have : (splitS l).dropLast = [] := by
    cases hs : splitS l with
    | nil => rfl
    | cons a r => cases r with
      | nil => rfl
      | cons b r => rw [hs] at h; simp at h; omega
  rw [this]; rfl
theorem dirS_none {l : List UInt8} (h : splitS l = []) : dirS l = [] := splitS_short (by rw [h]; decide)

/-- How two lists of texts stand to each other: 'a < b' among bytes' lists is Lean's own. -/
def cmpP : List (List UInt8) → List (List UInt8) → Int
  | [], [] => 0
  | [], _ :: _ => -1
  | _ :: _, [] => 1
  | a :: x, b :: y => if a < b then -1 else if b < a then 1 else cmpP x y
def orderS (a b : List UInt8) : Int := cmpP (pts a) (pts b)
end Go.Proofs.YtohicccbaenegaaDoor

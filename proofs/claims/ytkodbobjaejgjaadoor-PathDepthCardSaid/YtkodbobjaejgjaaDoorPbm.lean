/-
  Mathematics of layer 9's laws: how two paths stand, turned, below, ahead; a path one name deeper. Of no program.
-/
import Derived.Test.YtkodbobjaejgjaaDoorPam
namespace Go.Proofs.YtkodbobjaejgjaaDoor

theorem l_irrefl (x : List UInt8) : ¬ x < x := List.lt_irrefl x
theorem l_trans {x y z : List UInt8} (h : x < y) (h' : y < z) : x < z := List.lt_trans h h'
theorem l_tri (x y : List UInt8) (h : ¬ x < y) (h' : ¬ y < x) : x = y := List.le_antisymm (List.not_lt.1 h') (List.not_lt.1 h)
theorem l_asymm {x y : List UInt8} (h : x < y) : ¬ y < x := fun h' => l_irrefl _ (l_trans h h')

theorem cmp_cons (a b : List UInt8) (x y : List (List UInt8)) : cmpP (a :: x) (b :: y) = if a < b then -1 else if b < a then 1 else cmpP x y := rfl
theorem cmp_same (a : List UInt8) (x y : List (List UInt8)) : cmpP (a :: x) (a :: y) = cmpP x y := by rw [cmp_cons, if_neg (l_irrefl a), if_neg (l_irrefl a)]
theorem cmp_three : ∀ x y : List (List UInt8), cmpP x y = -1 ∨ cmpP x y = 0 ∨ cmpP x y = 1
  | [], [] => .inr (.inl rfl)
  | [], _ :: _ => .inl rfl
  | _ :: _, [] => .inr (.inr rfl)
  | a :: x, b :: y => by
    rw [cmp_cons]
    split
    · exact .inl rfl
    · split
      · exact .inr (.inr rfl)
      · exact cmp_three x y
theorem cmp_turn : ∀ x y : List (List UInt8), cmpP y x = - cmpP x y
  | [], [] => rfl
  | [], _ :: _ => rfl
  | _ :: _, [] => rfl
  | a :: x, b :: y => by
    rw [cmp_cons, cmp_cons]
    by_cases h : a < b
    · rw [if_pos h, if_neg (l_asymm h), if_pos h]; rfl
    · by_cases h2 : b < a
      · rw [if_pos h2, if_neg h, if_pos h2]
      · rw [if_neg h2, if_neg h, if_neg h, if_neg h2]; exact cmp_turn x y
theorem cmp_refl : ∀ x : List (List UInt8), cmpP x x = 0
  | [] => rfl
  | a :: x => by rw [cmp_same]; exact cmp_refl x
theorem cmp_zero : ∀ {x y : List (List UInt8)}, cmpP x y = 0 → x = y
  | [], [], _ => rfl
  | [], _ :: _, h => by cases h
  | _ :: _, [], h => by cases h
  | a :: x, b :: y, h => by
    rw [cmp_cons] at h
    by_cases h1 : a < b
    · rw [if_pos h1] at h; cases h
    · rw [if_neg h1] at h
      by_cases h2 : b < a
      · rw [if_pos h2] at h; cases h
      · rw [if_neg h2] at h; rw [l_tri a b h1 h2, cmp_zero h]
theorem cmp_trans : ∀ {x y z : List (List UInt8)}, cmpP x y = -1 → cmpP y z = -1 → cmpP x z = -1
  | [], [], _, h, _ => by cases h
  | [], _ :: _, [], _, h => by cases h
  | [], _ :: _, _ :: _, _, _ => rfl
  | _ :: _, [], _, h, _ => by cases h
  | _ :: _, _ :: _, [], _, h => by cases h
  | a :: x, b :: y, c :: z, h, h' => by
    rw [cmp_cons] at h h' ⊢
    by_cases h1 : a < b
    · by_cases h2 : b < c
      · rw [if_pos (l_trans h1 h2)]
      · rw [if_neg h2] at h'
        by_cases h3 : c < b
        · rw [if_pos h3] at h'; cases h'
        · rw [← l_tri b c h2 h3, if_pos h1]
    · rw [if_neg h1] at h
      by_cases h2 : b < a
      · rw [if_pos h2] at h; cases h
      · rw [if_neg h2] at h
        have e := l_tri a b h1 h2
        subst e
        by_cases h3 : a < c
        · rw [if_pos h3]
        · rw [if_neg h3] at h' ⊢
          by_cases h4 : c < a
          · rw [if_pos h4] at h'; cases h'
          · rw [if_neg h4] at h' ⊢; exact cmp_trans h h'
theorem cmp_below : ∀ (x : List (List UInt8)) {z : List (List UInt8)}, z ≠ [] → cmpP x (x ++ z) = -1
  | [], _ :: _, _ => rfl
  | [], [], h => absurd rfl h
  | a :: x, z, h => by rw [List.cons_append, cmp_same]; exact cmp_below x h
/-- What stands behind x, and not below it, stands behind all that is below x. -/
theorem cmp_aside : ∀ {x y : List (List UInt8)} (z : List (List UInt8)), cmpP x y = -1 → (∀ t, y ≠ x ++ t) → cmpP (x ++ z) y = -1
  | [], y, _, _, h => absurd rfl (h y)
  | _ :: _, [], _, h, _ => by cases h
  | a :: x, b :: y, z, h, hn => by
    rw [List.cons_append]
    rw [cmp_cons] at h ⊢
    by_cases h1 : a < b
    · rw [if_pos h1]
    · rw [if_neg h1] at h ⊢
      by_cases h2 : b < a
      · rw [if_pos h2] at h; cases h
      · rw [if_neg h2] at h ⊢
        have e := l_tri a b h1 h2
        subst e
        exact cmp_aside z h (fun t e => hn t (by rw [e]; rfl))

theorem pts_inj {a b : List UInt8} (h : pts a = pts b) : a = b := by rw [← joinS_pts a, h, joinS_pts]
theorem order_three (a b : List UInt8) : orderS a b = -1 ∨ orderS a b = 0 ∨ orderS a b = 1 := cmp_three _ _
theorem order_turn (a b : List UInt8) : orderS b a = - orderS a b := cmp_turn _ _
theorem order_zero (a b : List UInt8) : orderS a b = 0 ↔ a = b := ⟨fun h => pts_inj (cmp_zero h), fun h => by subst h; exact cmp_refl _⟩
theorem order_trans {a b c : List UInt8} (h : orderS a b = -1) (h' : orderS b c = -1) : orderS a c = -1 := cmp_trans h h'
theorem order_below (a c : List UInt8) : orderS a (a ++ 47 :: c) = -1 := by
  unfold orderS; rw [pts_app]; exact cmp_below _ (pts_ne c)
theorem joinS_app {L M : List (List UInt8)} (hL : L ≠ []) (hM : M ≠ []) : joinS (L ++ M) = joinS L ++ 47 :: joinS M := by
  induction L with
  | nil => exact absurd rfl hL
  | cons a r ih =>
    cases r with
    | nil => exact joinS_cons hM
    | cons b r => rw [List.cons_append, joinS_cons (L := b :: r ++ M) (by simp), ih (by simp), joinS_cons (a := a) (L := b :: r) (by simp), List.append_assoc, List.cons_append]
theorem order_aside {a b : List UInt8} (c : List UInt8) (h : orderS a b = -1) (hn : ∀ t, b ≠ a ++ 47 :: t) : orderS (a ++ 47 :: c) b = -1 := by
  unfold orderS; rw [pts_app]
  refine cmp_aside _ h (fun t e => ?_)
  by_cases ht : t = []
  · subst ht
    rw [List.append_nil] at e
    unfold orderS at h
    rw [e, cmp_refl] at h; cases h
  · refine hn (joinS t) ?_
    rw [← joinS_pts b, e, joinS_app (pts_ne a) ht, joinS_pts]
/-- Whether b lies below a, as the law asks it. -/
theorem inside_iff (a b : List UInt8) : (∃ t, b = a ++ 47 :: t) ↔ (a.length < b.length ∧ b.take (a.length + 1) = a ++ [47]) := by
  constructor
  · rintro ⟨t, rfl⟩
    refine ⟨by simp, ?_⟩
    rw [show a ++ 47 :: t = (a ++ [47]) ++ t by simp, List.take_left' (by simp)]
  · rintro ⟨_, h⟩
    refine ⟨b.drop (a.length + 1), ?_⟩
    conv => lhs; rw [← List.take_append_drop (a.length + 1) b, h]
    simp

/-! ## one name deeper -/
def pathB (l : List UInt8) : Bool := decide (0 < (splitS l).length)
theorem path_iff (l : List UInt8) : 0 < (splitS l).length ↔ ((pts l).length ≤ 8 ∧ (pts l).all nameB = true) := by
  rcases splitS_cases l with ⟨h, hn⟩ | ⟨h, h2⟩
  · rw [h]; exact ⟨fun h => absurd h (by simp), fun h => absurd h hn⟩
  · rw [h]; exact ⟨fun _ => h2, fun _ => List.length_pos_iff.2 (pts_ne l)⟩
/-- What the law asks of a path and one that lies below it. -/
theorem deeper {s n : List UInt8} (hs : 0 < (splitS s).length) :
    (0 < (splitS (s ++ 47 :: n)).length) ↔ ((pts s).length < 8 ∧ 0 < (splitS n).length ∧ ((splitS n).length : Int) ≤ 8 - ((pts s).length : Int)) := by
  obtain ⟨h1, h2⟩ := (path_iff s).1 hs
  rw [path_iff, pts_app, List.length_append, List.all_append, h2, Bool.true_and]
  have hp := List.length_pos_iff.2 (pts_ne n)
  constructor
  · rintro ⟨h3, h4⟩
    have h5 : 0 < (splitS n).length := (path_iff n).2 ⟨by omega, h4⟩
    have h6 : splitS n = pts n := (splitS_ne (List.length_pos_iff.1 h5)).1
    exact ⟨by omega, h5, by rw [h6]; omega⟩
  · rintro ⟨_, h5, h7⟩
    have h6 := splitS_ne (List.length_pos_iff.1 h5)
    rw [h6.1] at h7
    exact ⟨by omega, h6.2.2⟩
theorem dir_deeper {s n : List UInt8} (hs : 0 < (splitS s).length) (hn : nameB n = true) (h8 : (pts s).length < 8) : dirS (s ++ 47 :: n) = s := by
  obtain ⟨h1, h2⟩ := (path_iff s).1 hs
  have hpn : pts n = [n] := pts_one (nameB_iff.1 hn).2.2.2.2.2
  have he : splitS (s ++ 47 :: n) = pts s ++ [n] := by
    unfold splitS
    rw [pts_app, hpn, if_pos ⟨by rw [List.length_append]; simp; omega, by rw [List.all_append, h2]; simp [hn]⟩]
  unfold dirS
  rw [he, List.dropLast_concat, joinN_small h1 h2, joinS_pts]
theorem split_len {s : List UInt8} (hs : 0 < (splitS s).length) : (splitS s).length = (pts s).length := by
  rw [(splitS_ne (List.length_pos_iff.1 hs)).1]
/-- The names' count among the first k bytes. -/
theorem count_take {l : List UInt8} {k : Nat} (hk : k < l.length) : (l.take (k + 1)).count 47 = (l.take k).count 47 + if l[k] = 47 then 1 else 0 := by
  rw [List.take_succ_eq_append_getElem hk, List.count_append, List.count_singleton]
  by_cases h : l[k] = 47
  · rw [if_pos h, h]; rfl
  · rw [if_neg h]; simp [h]
end Go.Proofs.YtkodbobjaejgjaaDoor

/-
  Sets of texts, of no program: rising lists, joined, common, less; their sameness by their members.
-/
import Derived.Lib.SlicesCompact
import Derived.Sort.Walk0
set_option linter.unusedVariables false
namespace Go.Proofs.YtohicccbaenegaaDoor

abbrev Txt := List UInt8

theorem t_irrefl (x : Txt) : ¬ x < x := List.lt_irrefl x
theorem t_trans {x y z : Txt} (h : x < y) (h' : y < z) : x < z := List.lt_trans h h'
theorem t_tri (x y : Txt) (h : ¬ x < y) (h' : ¬ y < x) : x = y := List.le_antisymm (List.not_lt.1 h') (List.not_lt.1 h)
theorem t_asymm {x y : Txt} (h : x < y) : ¬ y < x := fun h' => t_irrefl _ (t_trans h h')

abbrev Rises (l : List Txt) : Prop := l.Pairwise (· < ·)

/-- Two rising lists of the same members are the same. -/
theorem rises_ext : ∀ {a b : List Txt}, Rises a → Rises b → (∀ x, x ∈ a ↔ x ∈ b) → a = b
  | [], [], _, _, _ => rfl
  | [], y :: b, _, _, h => absurd ((h y).2 (List.mem_cons_self ..)) (by simp)
  | x :: a, [], _, _, h => absurd ((h x).1 (List.mem_cons_self ..)) (by simp)
  | x :: a, y :: b, ha, hb, h => by
    have ha' := List.pairwise_cons.1 ha
    have hb' := List.pairwise_cons.1 hb
    have hxy : x = y := by
      rcases List.mem_cons.1 ((h x).1 (List.mem_cons_self ..)) with e | e
      · exact e
      · rcases List.mem_cons.1 ((h y).2 (List.mem_cons_self ..)) with f | f
        · exact f.symm
        · exact absurd (ha'.1 y f) (t_asymm (hb'.1 x e))
    subst hxy
    congr 1
    refine rises_ext ha'.2 hb'.2 fun z => ⟨fun hz => ?_, fun hz => ?_⟩
    · rcases List.mem_cons.1 ((h z).1 (List.mem_cons_of_mem _ hz)) with e | e
      · subst e; exact absurd (ha'.1 z hz) (t_irrefl _)
      · exact e
    · rcases List.mem_cons.1 ((h z).2 (List.mem_cons_of_mem _ hz)) with e | e
      · subst e; exact absurd (hb'.1 z hz) (t_irrefl _)
      · exact e

/-! ## Two lists gone through at once -/
def opt (b : Bool) (x : Txt) : List Txt := if b then [x] else []
theorem mem_opt {b : Bool} {x z : Txt} : z ∈ opt b x ↔ b = true ∧ z = x := by cases b <;> simp [opt]

def sift (k : Bool → Bool → Bool) : List Txt → List Txt → List Txt
  | [], [] => []
  | x :: a, [] => opt (k true false) x ++ sift k a []
  | [], y :: b => opt (k false true) y ++ sift k [] b
  | x :: a, y :: b =>
    if x < y then opt (k true false) x ++ sift k a (y :: b)
    else if y < x then opt (k false true) y ++ sift k (x :: a) b
    else opt (k true true) x ++ sift k a b
termination_by a b => a.length + b.length

theorem sift_spec (k : Bool → Bool → Bool) : ∀ (a b : List Txt), Rises a → Rises b →
    Rises (sift k a b) ∧ ∀ z, z ∈ sift k a b ↔ (z ∈ a ∨ z ∈ b) ∧ k (decide (z ∈ a)) (decide (z ∈ b)) = true
  | [], [], _, _ => by simp [sift]
  | x :: a, [], ha, hb => by
    have ha' := List.pairwise_cons.1 ha
    obtain ⟨h1, h2⟩ := sift_spec k a [] ha'.2 hb
    rw [sift]
    refine ⟨List.pairwise_append.2 ⟨by cases k true false <;> simp [opt], h1, fun p hp q hq => ?_⟩, fun z => ?_⟩
    · obtain ⟨_, rfl⟩ := mem_opt.1 hp
      exact ha'.1 q (by simpa using ((h2 q).1 hq).1)
    · rw [List.mem_append, mem_opt, h2]
      have hx : x ∉ a := fun h => t_irrefl _ (ha'.1 x h)
      by_cases e : z = x
      · subst e; simp [hx]
      · simp [e]
  | [], y :: b, ha, hb => by
    have hb' := List.pairwise_cons.1 hb
    obtain ⟨h1, h2⟩ := sift_spec k [] b ha hb'.2
    rw [sift]
    refine ⟨List.pairwise_append.2 ⟨by cases k false true <;> simp [opt], h1, fun p hp q hq => ?_⟩, fun z => ?_⟩
    · obtain ⟨_, rfl⟩ := mem_opt.1 hp
      exact hb'.1 q (by simpa using ((h2 q).1 hq).1)
    · rw [List.mem_append, mem_opt, h2]
      have hx : y ∉ b := fun h => t_irrefl _ (hb'.1 y h)
      by_cases e : z = y
      · subst e; simp [hx]
      · simp [e]
  | x :: a, y :: b, ha, hb => by
    have ha' := List.pairwise_cons.1 ha
    have hb' := List.pairwise_cons.1 hb
    have hx : x ∉ a := fun h => t_irrefl _ (ha'.1 x h)
    have hy : y ∉ b := fun h => t_irrefl _ (hb'.1 y h)
    rw [sift]
    by_cases c : x < y
    · rw [if_pos c]
      obtain ⟨h1, h2⟩ := sift_spec k a (y :: b) ha'.2 hb
      have hxb : x ∉ y :: b := fun h => by
        rcases List.mem_cons.1 h with e | e
        · subst e; exact t_irrefl _ c
        · exact t_asymm c (hb'.1 x e)
      refine ⟨List.pairwise_append.2 ⟨by cases k true false <;> simp [opt], h1, fun p hp q hq => ?_⟩, fun z => ?_⟩
      · obtain ⟨_, rfl⟩ := mem_opt.1 hp
        rcases ((h2 q).1 hq).1 with h | h
        · exact ha'.1 q h
        · rcases List.mem_cons.1 h with e | e
          · subst e; exact c
          · exact t_trans c (hb'.1 q e)
      · rw [List.mem_append, mem_opt, h2]
        by_cases e : z = x
        · subst e; simp [hx, hxb]
        · simp [e]
    · rw [if_neg c]
      by_cases c2 : y < x
      · rw [if_pos c2]
        obtain ⟨h1, h2⟩ := sift_spec k (x :: a) b ha hb'.2
        have hya : y ∉ x :: a := fun h => by
          rcases List.mem_cons.1 h with e | e
          · subst e; exact t_irrefl _ c2
          · exact t_asymm c2 (ha'.1 y e)
        refine ⟨List.pairwise_append.2 ⟨by cases k false true <;> simp [opt], h1, fun p hp q hq => ?_⟩, fun z => ?_⟩
        · obtain ⟨_, rfl⟩ := mem_opt.1 hp
          rcases ((h2 q).1 hq).1 with h | h
          · rcases List.mem_cons.1 h with e | e
            · subst e; exact c2
            · exact t_trans c2 (ha'.1 q e)
          · exact hb'.1 q h
        · rw [List.mem_append, mem_opt, h2]
          by_cases e : z = y
          · subst e; simp [hy, hya]
          · simp [e]
      · rw [if_neg c2]
        obtain rfl := t_tri x y c c2
        obtain ⟨h1, h2⟩ := sift_spec k a b ha'.2 hb'.2
        refine ⟨List.pairwise_append.2 ⟨by cases k true true <;> simp [opt], h1, fun p hp q hq => ?_⟩, fun z => ?_⟩
        · obtain ⟨_, rfl⟩ := mem_opt.1 hp
          rcases ((h2 q).1 hq).1 with h | h
          · exact ha'.1 q h
          · exact hb'.1 q h
        · rw [List.mem_append, mem_opt, h2]
          by_cases e : z = x
          · subst e; simp [hx, hy]
          · simp [e]
termination_by a b => a.length + b.length

def kOr (x y : Bool) : Bool := x || y
def kAnd (x y : Bool) : Bool := x && y
def kLess (x y : Bool) : Bool := x && !y

theorem sift_or_len : ∀ (a b : List Txt), (sift kOr a b).length = (sift kLess a b).length + b.length
  | [], [] => by simp [sift]
  | x :: a, [] => by
    have := sift_or_len a []
    rw [sift, sift]; simp only [List.length_append, List.length_nil] at this ⊢
    simp [opt, kOr, kLess]; omega
  | [], y :: b => by
    have := sift_or_len [] b
    rw [sift, sift]; simp [opt, kOr, kLess]; omega
  | x :: a, y :: b => by
    rw [sift, sift]
    by_cases c : x < y
    · have := sift_or_len a (y :: b)
      simp only [if_pos c]
      simp [opt, kOr, kLess] at this ⊢; omega
    · by_cases c2 : y < x
      · have := sift_or_len (x :: a) b
        simp only [if_neg c, if_pos c2]
        simp [opt, kOr, kLess] at this ⊢; omega
      · have := sift_or_len a b
        simp only [if_neg c, if_neg c2]
        simp [opt, kOr, kLess] at this ⊢; omega
termination_by a b => a.length + b.length

theorem sift_and_len : ∀ (a b : List Txt), a.length = (sift kLess a b).length + (sift kAnd a b).length
  | [], [] => by simp [sift]
  | x :: a, [] => by
    have := sift_and_len a []
    rw [sift, sift]; simp [opt, kAnd, kLess]; omega
  | [], y :: b => by
    have := sift_and_len [] b
    rw [sift, sift]; simp [opt, kAnd, kLess] at this ⊢; exact this
  | x :: a, y :: b => by
    rw [sift, sift]
    by_cases c : x < y
    · have := sift_and_len a (y :: b)
      simp only [if_pos c]
      simp [opt, kAnd, kLess] at this ⊢; omega
    · by_cases c2 : y < x
      · have := sift_and_len (x :: a) b
        simp only [if_neg c, if_pos c2]
        simp [opt, kAnd, kLess] at this ⊢; omega
      · have := sift_and_len a b
        simp only [if_neg c, if_neg c2]
        simp [opt, kAnd, kLess] at this ⊢; omega
termination_by a b => a.length + b.length

theorem sift_len (k : Bool → Bool → Bool) : ∀ (a b : List Txt), (sift k a b).length ≤ a.length + b.length
  | [], [] => by simp [sift]
  | x :: a, [] => by
    have := sift_len k a []
    rw [sift]; cases k true false <;> simp [opt] at this ⊢ <;> omega
  | [], y :: b => by
    have := sift_len k [] b
    rw [sift]; cases k false true <;> simp [opt] at this ⊢ <;> omega
  | x :: a, y :: b => by
    rw [sift]
    by_cases c : x < y
    · have := sift_len k a (y :: b)
      simp only [if_pos c]
      cases k true false <;> simp [opt] at this ⊢ <;> omega
    · by_cases c2 : y < x
      · have := sift_len k (x :: a) b
        simp only [if_neg c, if_pos c2]
        cases k false true <;> simp [opt] at this ⊢ <;> omega
      · have := sift_len k a b
        simp only [if_neg c, if_neg c2]
        cases k true true <;> simp [opt] at this ⊢ <;> omega
termination_by a b => a.length + b.length

/-! ## The set of a list -/
def isK (t : Txt) : Bool := decide (t.length = 32)
def ofL (l : List Txt) : List Txt := Lib.compact ((l.filter isK).mergeSort fun x y => decide (x ≤ y))

theorem t_le_total (a b : Txt) : (decide (a ≤ b) || decide (b ≤ a)) = true := by
  rcases List.le_total a b with h | h <;> simp [h]
theorem t_le_trans (a b c : Txt) (h1 : decide (a ≤ b) = true) (h2 : decide (b ≤ c) = true) : decide (a ≤ c) = true := by
  simp only [decide_eq_true_eq] at *; exact List.le_trans h1 h2
theorem t_lt_of_le_ne {x y : Txt} (h : x ≤ y) (h' : x ≠ y) : x < y := by
  refine Classical.byContradiction fun c => h' ?_
  exact t_tri x y c (List.not_lt.2 h)

theorem compactUpTo_rises (zs : List Txt) (hs : zs.Pairwise (· ≤ ·)) : ∀ m, m ≤ zs.length →
    Rises (Lib.compactUpTo zs.toArray m) ∧ (∀ x, x ∈ Lib.compactUpTo zs.toArray m ↔ x ∈ zs.take m) ∧ (∀ x ∈ Lib.compactUpTo zs.toArray m, ∀ h : 0 < m, ∀ h2 : m - 1 < zs.length, x ≤ zs[m - 1])
  | 0, _ => by simp [Lib.compactUpTo]
  | m + 1, hm => by
    obtain ⟨h1, h2, h3⟩ := compactUpTo_rises zs hs m (by omega)
    have hlt : m < zs.length := by omega
    have hget : zs.toArray[m]! = zs[m] := by simp [hlt]
    have hle : ∀ x ∈ Lib.compactUpTo zs.toArray m, x ≤ zs[m] := fun x hx => by
      have hx' := (h2 x).1 hx
      obtain ⟨i, hi, rfl⟩ := List.mem_iff_getElem.1 hx'
      rw [List.length_take] at hi
      rw [List.getElem_take]
      exact List.pairwise_iff_getElem.1 hs i m (by omega) hlt (by omega)
    rw [Lib.compactUpTo_succ, hget]
    rw [List.take_succ_eq_append_getElem hlt]
    by_cases hk : Lib.keeps zs.toArray m = true
    · rw [if_pos hk]
      have hne : m = 0 ∨ zs[m] ≠ zs[m - 1]'(by omega) := by
        unfold Lib.keeps at hk
        have := of_decide_eq_true hk
        rcases this with h | h
        · exact .inl h
        · right; rw [hget] at h
          intro e; apply h; rw [e]; simp [show m - 1 < zs.length by omega]
      refine ⟨List.pairwise_append.2 ⟨h1, by simp, fun x hx y hy => ?_⟩, fun x => ?_, fun x hx _ _ => ?_⟩
      · obtain rfl := List.mem_singleton.1 hy
        refine t_lt_of_le_ne (hle x hx) fun e => ?_
        subst e
        rcases hne with h | h
        · subst h; simp [Lib.compactUpTo] at hx
        · have h5 := h3 _ hx (by rcases Nat.eq_zero_or_pos m with e | e; · subst e; simp [Lib.compactUpTo] at hx
                                 exact e) (by omega)
          have h6 : zs[m - 1] ≤ zs[m] := by
            by_cases e0 : m = 0
            · subst e0; exact List.le_refl _
            · exact List.pairwise_iff_getElem.1 hs (m - 1) m (by omega) hlt (by omega)
          exact h (List.le_antisymm h5 h6)
      · rw [List.mem_append, List.mem_append, h2]
      · rcases List.mem_append.1 hx with h | h
        · exact hle x h
        · obtain rfl := List.mem_singleton.1 h; exact List.le_refl _
    · rw [if_neg hk, List.append_nil]
      have hk' : m ≠ 0 ∧ zs[m] = zs[m - 1]'(by omega) := by
        unfold Lib.keeps at hk
        have := of_decide_eq_false (Bool.not_eq_true _ ▸ hk)
        rw [not_or] at this
        refine ⟨this.1, ?_⟩
        have h4 := Classical.not_not.1 this.2
        rw [hget] at h4; rw [h4]; simp [show m - 1 < zs.length by omega]
      refine ⟨h1, fun x => ?_, fun x hx _ _ => hle x hx⟩
      rw [h2, List.mem_append]
      refine ⟨fun h => .inl h, fun h => h.elim id fun h => ?_⟩
      obtain rfl := List.mem_singleton.1 h
      rw [hk'.2]
      exact List.mem_iff_getElem.2 ⟨m - 1, by rw [List.length_take]; omega, by rw [List.getElem_take]⟩

theorem compact_rises (zs : List Txt) (hs : zs.Pairwise (· ≤ ·)) : Rises (Lib.compact zs) ∧ ∀ x, x ∈ Lib.compact zs ↔ x ∈ zs := by
  obtain ⟨h1, h2, _⟩ := compactUpTo_rises zs hs zs.length (Nat.le_refl _)
  exact ⟨h1, fun x => by rw [Lib.compact, h2, List.take_length]⟩

theorem ofL_spec (l : List Txt) : Rises (ofL l) ∧ ∀ x, x ∈ ofL l ↔ x ∈ l ∧ x.length = 32 := by
  have hs : ((l.filter isK).mergeSort fun x y => decide (x ≤ y)).Pairwise (· ≤ ·) := by
    have := List.pairwise_mergeSort (le := fun x y : Txt => decide (x ≤ y)) t_le_trans t_le_total (l.filter isK)
    exact this.imp fun h => of_decide_eq_true h
  obtain ⟨h1, h2⟩ := compact_rises _ hs
  refine ⟨h1, fun x => ?_⟩
  rw [ofL, h2, (List.mergeSort_perm _ _).mem_iff, List.mem_filter]
  simp [isK]
theorem ofL_ext {l m : List Txt} (h : ∀ x, x.length = 32 → (x ∈ l ↔ x ∈ m)) : ofL l = ofL m :=
  rises_ext (ofL_spec l).1 (ofL_spec m).1 fun x => by
    rw [(ofL_spec l).2, (ofL_spec m).2]
    exact ⟨fun ⟨a, b⟩ => ⟨(h x b).1 a, b⟩, fun ⟨a, b⟩ => ⟨(h x b).2 a, b⟩⟩

/-! ## The document's -/
def ins : List Txt → Txt → List Txt
  | [], k => [k]
  | x :: l, k => if k < x then k :: x :: l else x :: ins l k
def addL (l : List Txt) (k : Txt) : List Txt := if k ∈ l then l else ins l k
theorem mem_ins : ∀ (l : List Txt) (k z : Txt), z ∈ ins l k ↔ z = k ∨ z ∈ l
  | [], k, z => by simp [ins]
  | x :: l, k, z => by
    rw [ins]; split
    · simp
    · rw [List.mem_cons, mem_ins l k z, List.mem_cons]
      exact ⟨fun h => h.elim (fun a => .inr (.inl a)) (·.elim .inl fun a => .inr (.inr a)), fun h => h.elim (fun a => .inr (.inl a)) (·.elim .inl fun a => .inr (.inr a))⟩
theorem ins_rises : ∀ (l : List Txt) (k : Txt), Rises l → k ∉ l → Rises (ins l k)
  | [], k, _, _ => by simp [ins]
  | x :: l, k, h, hk => by
    have h' := List.pairwise_cons.1 h
    rw [ins]
    by_cases c : k < x
    · rw [if_pos c]
      refine List.pairwise_cons.2 ⟨fun z hz => ?_, h⟩
      rcases List.mem_cons.1 hz with e | e
      · subst e; exact c
      · exact t_trans c (h'.1 z e)
    · rw [if_neg c]
      refine List.pairwise_cons.2 ⟨fun z hz => ?_, ins_rises l k h'.2 fun h => hk (List.mem_cons_of_mem _ h)⟩
      rcases (mem_ins l k z).1 hz with e | e
      · subst e
        refine Classical.byContradiction fun c2 => hk ?_
        rw [t_tri z x c c2]; exact List.mem_cons_self ..
      · exact h'.1 z e
theorem addL_spec (l : List Txt) (k : Txt) (h : Rises l) : Rises (addL l k) ∧ ∀ z, z ∈ addL l k ↔ z = k ∨ z ∈ l := by
  unfold addL
  split
  · next hk => exact ⟨h, fun z => ⟨.inr, fun e => e.elim (fun e => e ▸ hk) id⟩⟩
  · next hk => exact ⟨ins_rises l k h hk, mem_ins l k⟩
theorem ins_len : ∀ (l : List Txt) (k : Txt), (ins l k).length = l.length + 1
  | [], _ => rfl
  | x :: l, k => by rw [ins]; split <;> simp [ins_len l k]
theorem addL_len (l : List Txt) (k : Txt) : (addL l k).length ≤ l.length + 1 := by
  unfold addL; split
  · omega
  · rw [ins_len]; omega
theorem adds_spec : ∀ (m l : List Txt), Rises l → Rises (m.foldl addL l) ∧ ∀ z, z ∈ m.foldl addL l ↔ z ∈ m ∨ z ∈ l
  | [], l, h => ⟨h, fun z => by simp⟩
  | k :: m, l, h => by
    obtain ⟨h1, h2⟩ := addL_spec l k h
    obtain ⟨h3, h4⟩ := adds_spec m _ h1
    refine ⟨h3, fun z => ?_⟩
    rw [List.foldl_cons, h4, h2, List.mem_cons]
    exact ⟨fun h => h.elim (fun a => .inl (.inr a)) (·.elim (fun a => .inl (.inl a)) .inr), fun h => h.elim (·.elim (fun a => .inr (.inl a)) .inl) fun a => .inr (.inr a)⟩
theorem adds_len : ∀ (m l : List Txt), (m.foldl addL l).length ≤ m.length + l.length
  | [], l => by simp
  | k :: m, l => by
    have h1 := adds_len m (addL l k)
    have h2 := addL_len l k
    rw [List.foldl_cons, List.length_cons]; omega
def refOfL (l : List Txt) : List Txt := (l.filter isK).foldl addL []
theorem refOf_eq (l : List Txt) : refOfL l = ofL l := by
  obtain ⟨h1, h2⟩ := adds_spec (l.filter isK) [] List.Pairwise.nil
  refine rises_ext h1 (ofL_spec l).1 fun x => ?_
  rw [refOfL, h2, (ofL_spec l).2, List.mem_filter]
  simp [isK]
def refJoinL (a b : List Txt) : List Txt := b.foldl addL a
theorem refJoin_eq {a b : List Txt} (ha : Rises a) (hb : Rises b) : refJoinL a b = sift kOr a b := by
  obtain ⟨h1, h2⟩ := adds_spec b a ha
  obtain ⟨h3, h4⟩ := sift_spec kOr a b ha hb
  refine rises_ext h1 h3 fun x => ?_
  rw [refJoinL, h2, h4]; simp only [kOr, Bool.or_eq_true, decide_eq_true_eq]
  exact ⟨fun h => ⟨h.symm, h.symm⟩, fun h => h.1.symm⟩
def refSomeL (a b : List Txt) (c : Bool) : List Txt := a.filter fun x => decide (x ∈ b) == c
theorem refBoth_eq {a b : List Txt} (ha : Rises a) (hb : Rises b) : refSomeL a b true = sift kAnd a b := by
  obtain ⟨h3, h4⟩ := sift_spec kAnd a b ha hb
  refine rises_ext (ha.filter _) h3 fun x => ?_
  rw [h4, refSomeL, List.mem_filter]; simp [kAnd]
  exact fun h _ => .inl h
theorem refLess_eq {a b : List Txt} (ha : Rises a) (hb : Rises b) : refSomeL a b false = sift kLess a b := by
  obtain ⟨h3, h4⟩ := sift_spec kLess a b ha hb
  refine rises_ext (ha.filter _) h3 fun x => ?_
  rw [h4, refSomeL, List.mem_filter]; simp [kLess]
  exact fun h _ => .inl h

/-! ## What follows -/
theorem mem_or {a b : List Txt} (ha : Rises a) (hb : Rises b) (x : Txt) : x ∈ sift kOr a b ↔ x ∈ a ∨ x ∈ b := by
  rw [(sift_spec kOr a b ha hb).2]; simp [kOr]
theorem mem_and {a b : List Txt} (ha : Rises a) (hb : Rises b) (x : Txt) : x ∈ sift kAnd a b ↔ x ∈ a ∧ x ∈ b := by
  rw [(sift_spec kAnd a b ha hb).2]; simp only [kAnd, Bool.and_eq_true, decide_eq_true_eq]; exact ⟨fun h => h.2, fun h => ⟨.inl h.1, h⟩⟩
theorem mem_less {a b : List Txt} (ha : Rises a) (hb : Rises b) (x : Txt) : x ∈ sift kLess a b ↔ x ∈ a ∧ x ∉ b := by
  rw [(sift_spec kLess a b ha hb).2]; simp only [kLess, Bool.and_eq_true, decide_eq_true_eq, Bool.not_eq_true', decide_eq_false_iff_not]; exact ⟨fun h => h.2, fun h => ⟨.inl h.1, h⟩⟩
theorem sift_rises {k : Bool → Bool → Bool} {a b : List Txt} (ha : Rises a) (hb : Rises b) : Rises (sift k a b) := (sift_spec k a b ha hb).1
theorem or_comm' {a b : List Txt} (ha : Rises a) (hb : Rises b) : sift kOr a b = sift kOr b a :=
  rises_ext (sift_rises ha hb) (sift_rises hb ha) fun x => by rw [mem_or ha hb, mem_or hb ha]; exact Or.comm
theorem and_comm' {a b : List Txt} (ha : Rises a) (hb : Rises b) : sift kAnd a b = sift kAnd b a :=
  rises_ext (sift_rises ha hb) (sift_rises hb ha) fun x => by rw [mem_and ha hb, mem_and hb ha]; exact And.comm
theorem or_assoc' {a b c : List Txt} (ha : Rises a) (hb : Rises b) (hc : Rises c) : sift kOr (sift kOr a b) c = sift kOr a (sift kOr b c) :=
  rises_ext (sift_rises (sift_rises ha hb) hc) (sift_rises ha (sift_rises hb hc)) fun x => by
    rw [mem_or (sift_rises ha hb) hc, mem_or ha hb, mem_or ha (sift_rises hb hc), mem_or hb hc]; exact or_assoc
theorem less_or {a b c : List Txt} (ha : Rises a) (hb : Rises b) (hc : Rises c) : sift kLess a (sift kOr b c) = sift kLess (sift kLess a b) c :=
  rises_ext (sift_rises ha (sift_rises hb hc)) (sift_rises (sift_rises ha hb) hc) fun x => by
    rw [mem_less ha (sift_rises hb hc), mem_or hb hc, mem_less (sift_rises ha hb) hc, mem_less ha hb, not_or]; exact and_assoc.symm
theorem less_and {a b : List Txt} (ha : Rises a) (hb : Rises b) : sift kOr (sift kLess a b) (sift kAnd a b) = a :=
  rises_ext (sift_rises (sift_rises ha hb) (sift_rises ha hb)) ha fun x => by
    rw [mem_or (sift_rises ha hb) (sift_rises ha hb), mem_less ha hb, mem_and ha hb]
    exact ⟨fun h => h.elim And.left And.left, fun h => (Classical.em (x ∈ b)).elim (fun g => .inr ⟨h, g⟩) fun g => .inl ⟨h, g⟩⟩
theorem or_of (l m : List Txt) : ofL (m ++ l) = sift kOr (ofL l) (ofL m) :=
  rises_ext (ofL_spec _).1 (sift_rises (ofL_spec _).1 (ofL_spec _).1) fun x => by
    rw [mem_or (ofL_spec _).1 (ofL_spec _).1, (ofL_spec _).2, (ofL_spec _).2, (ofL_spec _).2, List.mem_append]
    exact ⟨fun ⟨h, g⟩ => h.elim (fun a => .inr ⟨a, g⟩) fun a => .inl ⟨a, g⟩, fun h => h.elim (fun a => ⟨.inr a.1, a.2⟩) fun a => ⟨.inl a.1, a.2⟩⟩

/-! ## Which lists are sets -/
def FitP (l : List Txt) : Prop := ∀ i (h : i < l.length), l[i].length = 32 ∧ (0 < i → l[i - 1]'(by omega) < l[i])
theorem fit_rises {l : List Txt} (h : FitP l) : Rises l := by
  refine List.pairwise_iff_getElem.2 ?_
  intro i j hi hj hij
  induction j with
  | zero => omega
  | succ j ih =>
    have h1 := (h (j + 1) hj).2 (by omega)
    rcases Nat.lt_or_ge i j with e | e
    · exact t_trans (ih (by omega) e) h1
    · obtain rfl : i = j := by omega
      exact h1
theorem fit_of {l : List Txt} (h : Rises l) (hk : ∀ x ∈ l, x.length = 32) : FitP l := fun i hi =>
  ⟨hk _ (List.getElem_mem ..), fun h0 => List.pairwise_iff_getElem.1 h (i - 1) i (by omega) hi (by omega)⟩
open Classical in
noncomputable def fitB (l : List Txt) : Bool := decide (FitP l)
theorem fitB_true {l : List Txt} (h : FitP l) : fitB l = true := by simp [fitB, h]
theorem fitB_false {l : List Txt} (h : ¬ FitP l) : fitB l = false := by simp [fitB, h]
theorem of_fit {l : List Txt} (h : fitB l = true) : FitP l := by simpa [fitB] using h
theorem ofL_fit (l : List Txt) : FitP (ofL l) := fit_of (ofL_spec l).1 fun x hx => (((ofL_spec l).2 x).1 hx).2
theorem sift_fit {k : Bool → Bool → Bool} {a b : List Txt} (ha : FitP a) (hb : FitP b) : FitP (sift k a b) :=
  fit_of (sift_rises (fit_rises ha) (fit_rises hb)) fun x hx => by
    rcases (((sift_spec k a b (fit_rises ha) (fit_rises hb)).2 x).1 hx).1 with h | h
    · obtain ⟨i, hi, rfl⟩ := List.mem_iff_getElem.1 h; exact (ha i hi).1
    · obtain ⟨i, hi, rfl⟩ := List.mem_iff_getElem.1 h; exact (hb i hi).1

end Go.Proofs.YtohicccbaenegaaDoor

/-
  Over this translation: an item of an owned row is written; the end of a row is cleared; what a keeper holds.
-/
import Derived.Test.YtelaamchafocpaaDoorYTin
import Derived.Test.YtelaamchafocpaaDoorQ2
set_option linter.unusedVariables false
namespace Go.Proofs.YtelaamchafocpaaDoor
open Go.RowKit
attribute [local go_sem] Oper.semAt_some

theorem itCells_set {L : List It} {i : Nat} (hi : i < L.length) (x : It) : itCells (L.set i x) = (itCells L).take (i * 4) ++ itC x ++ (itCells L).drop (i * 4 + 4) := by
  have hL : L = L.take i ++ L[i] :: L.drop (i + 1) := by rw [← List.drop_eq_getElem_cons hi, List.take_append_drop]
  have hl : (itCells (L.take i)).length = i * 4 := by rw [itCells_len, List.length_take]; congr 1; omega
  have e : itCells L = itCells (L.take i) ++ (itC L[i] ++ itCells (L.drop (i + 1))) := by
    conv => lhs; rw [hL]
    rw [itCells_app]; rfl
  rw [List.set_eq_take_append_cons_drop, if_pos hi, itCells_app]
  have h1 : (itCells L).take (i * 4) = itCells (L.take i) := by rw [e, List.take_left' hl]
  have h2 : (itCells L).drop (i * 4 + 4) = itCells (L.drop (i + 1)) := by
    rw [e, ← List.append_assoc]
    exact List.drop_left' (by rw [List.length_append, hl]; rfl)
  rw [h1, h2, List.append_assoc]; rfl
theorem set4 (C : Array Value) (k : Nat) (a b c d : Value) (hk : k + 4 ≤ C.size) :
    ((((C.setIfInBounds k a).setIfInBounds (k + 1) b).setIfInBounds (k + 2) c).setIfInBounds (k + 3) d).toList = C.toList.take k ++ [a, b, c, d] ++ C.toList.drop (k + 4) := by
  apply List.ext_getElem?
  intro j
  simp only [Array.toList_setIfInBounds, List.getElem?_set, List.length_set, Array.length_toList]
  rcases Nat.lt_or_ge j k with h | h
  · rw [if_neg (by omega), if_neg (by omega), if_neg (by omega), if_neg (by omega), List.append_assoc, List.getElem?_append_left (by rw [List.length_take, Array.length_toList]; omega), List.getElem?_take, if_pos h]
  · have hlt : (C.toList.take k).length = k := by rw [List.length_take, Array.length_toList]; omega
    rcases Nat.lt_or_ge j (k + 4) with h4 | h4
    · rw [List.append_assoc, List.getElem?_append_right (by omega), hlt, List.getElem?_append_left (by simp; omega)]
      rcases (show j = k ∨ j = k + 1 ∨ j = k + 2 ∨ j = k + 3 by omega) with rfl | rfl | rfl | rfl
      · rw [if_neg (by omega), if_neg (by omega), if_neg (by omega), if_pos rfl, if_pos (by omega)]; simp
      · rw [if_neg (by omega), if_neg (by omega), if_pos rfl, if_pos (by omega)]; simp
      · rw [if_neg (by omega), if_pos rfl, if_pos (by omega)]; simp
      · rw [if_pos rfl, if_pos (by omega)]; simp
    · rw [if_neg (by omega), if_neg (by omega), if_neg (by omega), if_neg (by omega), List.getElem?_append_right (by rw [List.length_append, hlt]; simp; omega), List.length_append, hlt, List.getElem?_drop]
      congr 1; simp; omega
/-- Four cells of a row. -/
def set4W (w : World) (g k : Nat) (x : It) : World := (((w.setCell ⟨g, k, none⟩ (.string x.p)).setCell ⟨g, k + 1, none⟩ (.bool x.d)).setCell ⟨g, k + 2, none⟩ (.bool x.e)).setCell ⟨g, k + 3, none⟩ (.string x.c)
theorem set4W_row {w : World} {g k : Nat} {cur : Array Value} {t : TypeId} (hg : w.heap[g]? = some (.cells cur t (0, 0))) (hk : k + 4 ≤ cur.size) (x : It) :
    set4W w g k x = w.setRow g (cur.toList.take k ++ itC x ++ cur.toList.drop (k + 4)).toArray := by
  unfold set4W
  rw [setCell_eq_setRow w g k cur t (0, 0) _ hg, setCell_eq_setRow _ g (k + 1) _ t (0, 0) _ (setRow_heap w g cur _ t (0, 0) hg), setRow_setRow,
    setCell_eq_setRow _ g (k + 2) _ t (0, 0) _ (setRow_heap w g cur _ t (0, 0) hg), setRow_setRow, setCell_eq_setRow _ g (k + 3) _ t (0, 0) _ (setRow_heap w g cur _ t (0, 0) hg), setRow_setRow]
  congr 1
  rw [← set4 cur k _ _ _ _ hk]
theorem grownBy_setRow (w : World) (g : Nat) (C : Array Value) : w.grownBy (w.setRow g C) (some g) :=
  ⟨rfl, rfl, rfl, by simp, fun k hk hne => setRow_other w g k C (fun e => hne (by rw [e]))⟩
theorem own_row {B : Nat} {w : World} {g n cap : Nat} {L : List It} (h : OwnI B w (.slice (some ⟨g, 0, none⟩) n cap) L) : ∃ cur, B ≤ g ∧ w.heap[g]? = some (.cells cur 27 (0, 0)) ∧ n = L.length ∧ L.length ≤ cap ∧ cap ≤ maxLen ∧ cur.size = cap * 4 ∧ cur.toList.take (L.length * 4) = itCells L := by
  rcases h.2 with ⟨h0, _⟩ | ⟨g', cap', cur, e, h1, h2, h3, h4, h5, h6⟩
  · cases h0
  · cases e; exact ⟨cur, h1, h2, rfl, h3, h4, h5, h6⟩
theorem own_set {B : Nat} {w : World} {g n cap i : Nat} {L : List It} (h : OwnI B w (.slice (some ⟨g, 0, none⟩) n cap) L) (hi : i < L.length) (x : It) :
    OwnI B (set4W w g (i * 4) x) (.slice (some ⟨g, 0, none⟩) n cap) (L.set i x) ∧ w.grownBy (set4W w g (i * 4) x) (some g) := by
  obtain ⟨cur, h1, h2, h3, h4, h5, h6, h7⟩ := own_row h
  rw [set4W_row h2 (by omega) x]
  refine ⟨⟨itCells_len _, .inr ⟨g, cap, _, by rw [h3, List.length_set], h1, setRow_heap w g cur _ _ (0, 0) h2, by rw [List.length_set]; exact h4, h5, ?_, ?_⟩⟩, grownBy_setRow _ _ _⟩
  · simp only [List.size_toArray, List.length_append, List.length_take, List.length_drop, Array.length_toList, List.length_cons, List.length_nil]; omega
  · rw [List.length_set, itCells_set hi, ← h7]
    have hl : (cur.toList.take (i * 4)).length = i * 4 := by rw [List.length_take, Array.length_toList]; omega
    rw [List.take_take, show min (i * 4) (L.length * 4) = i * 4 by omega]
    show List.take _ (cur.toList.take (i * 4) ++ itC x ++ cur.toList.drop (i * 4 + 4)) = _
    rw [List.take_append, List.length_append, hl, List.take_of_length_le (by rw [List.length_append, hl]; simp; omega), List.drop_take]
    congr 1
theorem wpList_store_it {ops : Array Oper} {rest : List Oper} {o : Oper} {a : Act} {w : World} {Q : Exit → Act → World → Prop} (hgd : o.guard = none) (hd : o.dst = none) (p x : Operand)
    (ho : o.op = .store 27 p x) {B g n cap i : Nat} {L : List It} {y : It} (hown : OwnI B w (.slice (some ⟨g, 0, none⟩) n cap) L) (hi : i < L.length)
    (hp : a.eval p = .pointer (some ⟨g, i * 4, none⟩)) (hx : a.eval x = itV y)
    (h : ∀ w', OwnI B w' (.slice (some ⟨g, 0, none⟩) n cap) (L.set i y) → w.grownBy w' (some g) → wpList Tryd.prog ops Q rest a w') :
    wpList Tryd.prog ops Q (o :: rest) a w := by
  obtain ⟨h1, h2⟩ := own_set hown hi y
  have hc := hown.items
  obtain ⟨_, _, _, e, _, hcc⟩ := hc
  cases e
  obtain ⟨b, off, e, _, hat⟩ := hcc (by omega)
  cases e
  obtain ⟨c0, c1, c2, c3⟩ := hat i hi
  rw [Nat.zero_add] at c0 c1 c2 c3
  obtain ⟨cur, _, hg, _⟩ := own_row hown
  have hf := frozen_of hg
  refine wpList_plain hgd fun K hK => ?_
  refine wp_skip (w' := set4W w g (i * 4) y) ?_ (hK _ _ ?_)
  · unfold execOp set4W
    rw [ho]
    simp only [hp, hx]
    go_simp
  · rw [hd]; exact h _ h1 h2

/-! ## the end of a row is cleared -/
theorem run_clear_row {P : Program} (w : World) (t e ty : TypeId) (z : Value) (ht : P.underlying t = some (.slice e)) (hv : ∀ w, (zeroValue e).run P w = .ok z w) (g off n c : Nat) (hn : 0 < n) (cur : Array Value) (tt : TypeId)
    (hg : w.heap[g]? = some (.cells cur tt (0, 0))) (zs : List Value) (hzs : zs = (Builtin.zeroCells z.cells n).toList) (hfit : off + zs.length ≤ cur.size) (h1 : ∀ u ∈ zs, u.oneCell' = true) :
    (Builtin.clear_ #[t] ty #[.slice (some ⟨g, off, none⟩) n c]).run P w = .ok (.tuple #[]) (w.setRow g (cur.toList.take off ++ zs ++ cur.toList.drop (off + zs.length)).toArray) := by
  have hst := run_storeCells_at P g off tt zs 0 cur w hg (by simpa using hfit) h1
  simp only [Nat.add_zero] at hst
  obtain ⟨m, rfl⟩ : ∃ m, n = m + 1 := ⟨n - 1, by omega⟩
  subst hzs
  simp only [Builtin.clear_, List.getElem?_toArray, List.getElem?_cons_zero, Sem.run_bind, run_underlying ht, Result.andThen_ok, hv, hst, Sem.run_pure]

theorem grownBy_setCellI (w : World) (kb : Nat) (u : Value) : w.grownBy (w.setCell ⟨kb, 0, none⟩ u) (some kb) :=
  ⟨rfl, rfl, rfl, by simp, fun k hk hne => Below.heap_setCell _ _ _ k (fun e => hne (by rw [e]))⟩
/-! ## what a keeper holds -/
structure Kept (B kb : Nat) (w : World) (vs : Value) (L : List It) : Prop where
  row : w.heap[kb]? = some (.cells #[vs] 47 (0, 0))
  own : OwnI B w vs L
  from_ : B ≤ kb
theorem Kept.stays {B kb : Nat} {w w' : World} {vs : Value} {L : List It} (h : Kept B kb w vs L) (hb : Below w.heap.size w w') : Kept B kb w' vs L :=
  ⟨(hb.block kb (Array.getElem?_eq_some_iff.1 h.row).1).trans h.row, h.own.stays hb, h.from_⟩
theorem Kept.apart {B kb : Nat} {w : World} {vs : Value} {L : List It} (h : Kept B kb w vs L) : vs.ownBlock ≠ some kb := fun e => by
  rcases h.own.2 with ⟨rfl, _⟩ | ⟨g, cap, cur, rfl, _, hg, _⟩
  · cases e
  · cases e
    rw [h.row] at hg
    cases hg
theorem Kept.cell {B kb : Nat} {w : World} {vs : Value} {L : List It} (h : Kept B kb w vs L) : w.cell? ⟨kb, 0, none⟩ = some vs := by simp [World.cell?, h.row]
theorem Kept.grown {B kb : Nat} {w w' : World} {vs : Value} {L M : List It} (h : Kept B kb w vs L) (hg : w.grownBy w' vs.ownBlock) (ho : OwnI B w' vs M) : Kept B kb w' vs M :=
  ⟨(hg.block kb (Array.getElem?_eq_some_iff.1 h.row).1 (fun e => h.apart e.symm)).trans h.row, ho, h.from_⟩
theorem Kept.below {B : Nat} {w w' : World} {vs : Value} {L : List It} (h : OwnI B w vs L) (hg : w.grownBy w' vs.ownBlock) (hB : B ≤ w.heap.size) : Below B w w' :=
  (Below.refl B w).grown hg hB (fun j hj => (World.ownsRow.lt h j hj).1)
end Go.Proofs.YtelaamchafocpaaDoor

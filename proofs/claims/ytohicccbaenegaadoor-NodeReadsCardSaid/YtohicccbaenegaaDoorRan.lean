/-
  Ranges over functions: what a loop over an iterator may say of a builder of its own, and of what its body has left. No program.
-/
import Derived.RangeFuncNested
import Derived.RangeFuncBound
import Derived.RangeFuncCalls
import Derived.RangeFuncLeaves
import Derived.RangeFuncBox
import Derived.Lib.OthersKept
namespace Go.Proofs.YtohicccbaenegaaDoor
open Go.RowKit

theorem builderAtF_own {β : Type} (T e : TypeId) (B b : Nat) (p : Value) (bs : β → List Value) : Own (fun (s : β) W => Lib.BuilderAtF T e B b p (bs s) W) := by
  rintro s W W' row ⟨hB, v, hb, hown, hne⟩ hg hr
  have hlt := (Array.getElem?_eq_some_iff.1 hb).1
  refine ⟨hB, v, ?_, ?_, hne⟩
  · rw [hg.block b hlt ?_]
    · exact hb
    · intro h
      obtain ⟨o, ho, hc⟩ := hr b h.symm
      rw [hb] at ho; cases ho; cases hc
  · refine hown.kept hg ?_
    rcases hob : v.ownBlock with _ | g
    · exact .inl rfl
    · refine .inr fun h => ?_
      obtain ⟨o, ho, hc⟩ := hr g h.symm
      obtain ⟨c, fz, hg2⟩ := Lib.ownsRowF_kind hown g hob
      rw [hg2] at ho; cases ho; cases hc

theorem isBuilderF_own {β : Type} (T e : TypeId) (B b : Nat) (bs : β → List Value) : Own (fun (s : β) W => Lib.IsBuilderF T e B b (bs s) W) := by
  intro s W W' row h hg hr
  rcases h with h | h
  · exact .inl (builderAtF_own T e B b _ bs s W W' row h hg hr)
  · exact .inr (builderAtF_own T e B b _ bs s W W' row h hg hr)

/-- What keeps all but a builder and rows of bytes keeps what is no cells. -/
theorem keeps_of_others {e : TypeId} {b : Nat} {W W' : World} (h : Lib.OthersKept e (some b) W W') (hs : W.heap.size ≤ W'.heap.size) (hb : ∃ o : Obj, W.heap[b]? = some o ∧ o.isCells = true) : KeepsOthers W W' := by
  refine ⟨hs, fun k o hk ho => h k o hk ?_ ?_⟩
  · intro hkb
    obtain ⟨o', ho', hc⟩ := hb
    cases hkb
    rw [hk] at ho'; cases ho'; rw [ho] at hc; cases hc
  · rintro c fz rfl
    cases ho
theorem isBuilderF_cells {T e : TypeId} {B b : Nat} {bs : List Value} {W : World} (h : Lib.IsBuilderF T e B b bs W) : ∃ o : Obj, W.heap[b]? = some o ∧ o.isCells = true := by
  rcases h with ⟨_, v, hb, _⟩ | ⟨_, v, hb, _⟩ <;> exact ⟨_, hb, rfl⟩

theorem boxed_keep {A B : World} {row : Option Nat} {b : Nat} {t : TypeId} {v : Value} (h : Boxed A b t v) (hg : A.grownBy B row) (hr : ∀ r, row = some r → ∃ o : Obj, A.heap[r]? = some o ∧ o.isCells = false) : Boxed B b t v := by
  refine h.kept hg fun e => ?_
  obtain ⟨o, ho, hc⟩ := hr b e.symm
  rw [show A.heap[b]? = _ from h] at ho; cases ho; cases hc
/-- A store into another box leaves this one. -/
theorem boxed_set {W : World} {b b' : Nat} {t : TypeId} {v : Value} (h : Boxed W b t v) (v' : Value) (hne : b ≠ b') : Boxed (W.setCell ⟨b', 0, none⟩ v') b t v := by
  refine h.kept (grownBy_setCell' W b' v') (fun e => hne (by cases e; rfl))

/-- Three stores into three boxes, one behind the other. -/
theorem three_set {W : World} {b : Nat} {t0 t1 t2 : TypeId} {u0 u1 u2 : Value} (h0 : Boxed W b t0 u0) (h1 : Boxed W (b + 1) t1 u1) (h2 : Boxed W (b + 2) t2 u2) (v0 v1 v2 : Value) :
    let W' := ((W.setCell ⟨b, 0, none⟩ v0).setCell ⟨b + 1, 0, none⟩ v1).setCell ⟨b + 2, 0, none⟩ v2
    Boxed W' b t0 v0 ∧ Boxed W' (b + 1) t1 v1 ∧ Boxed W' (b + 2) t2 v2 ∧ KeepsOthers W W' ∧ Below b W W' := by
  refine ⟨?_, ?_, ?_, ?_, ?_⟩
  · exact boxed_set (boxed_set (h0.set v0) v1 (by omega)) v2 (by omega)
  · exact boxed_set ((boxed_set h1 v0 (by omega)).set v1) v2 (by omega)
  · exact (boxed_set (boxed_set h2 v0 (by omega)) v1 (by omega)).set v2
  · exact ((KeepsOthers.setCell _ _ _).trans (KeepsOthers.setCell _ _ _)).trans (KeepsOthers.setCell _ _ _)
  · exact ((((Below.refl b W).setCell (p := ⟨b, 0, none⟩) (Nat.le_refl _) v0)).setCell (p := ⟨b + 1, 0, none⟩) (by simp) v1).setCell (p := ⟨b + 2, 0, none⟩) (by simp) v2
end Go.Proofs.YtohicccbaenegaaDoor

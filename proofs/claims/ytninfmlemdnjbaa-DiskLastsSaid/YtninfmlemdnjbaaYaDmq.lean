/-
  Mathematics of layer 15's laws: what is found behind each act that was done; reads by their result.
-/
import Derived.Test.YtninfmlemdnjbaaQa4
set_option linter.unusedVariables false
namespace Go.Proofs.Ytninfmlemdnjbaa
open Go.RowKit
def readL (l : List Dfl) (t : Txt) : Txt × Bool := match getF l t with
  | none => ([], false)
  | some f => (seenF f, true)
theorem readD_L (d : Dsk) (t : Txt) : readD d t = readL d.fs t := rfl
theorem readL_some {l : List Dfl} {t : Txt} {f : Dfl} (h : getF l t = some f) : readL l t = (seenF f, true) := by unfold readL; rw [h]
theorem readL_none {l : List Dfl} {t : Txt} (h : getF l t = none) : readL l t = ([], false) := by unfold readL; rw [h]
theorem readL_same {l l' : List Dfl} {t t' : Txt} (h : getF l t = getF l' t') : readL l t = readL l' t' := by unfold readL; rw [h]
theorem readL_seen {l l' : List Dfl} {t t' : Txt} (h : (getF l t).map seenF = (getF l' t').map seenF) : readL l t = readL l' t' := by
  unfold readL
  cases h1 : getF l t with
  | none =>
    cases h2 : getF l' t' with
    | none => rfl
    | some g => rw [h1, h2] at h; cases h
  | some f =>
    cases h2 : getF l' t' with
    | none => rw [h1, h2] at h; cases h
    | some g => rw [h1, h2] at h; simp at h; simp [h]
theorem pRead_as (d : Dsk) (v : Value) (s : ByteArray) (w : World) (h : IsDfs w v d.fs) (hf : FitD nameB d) {t : Txt} {b : Bool} (hr : readL d.fs s.data.toList = (t, b)) :
    Calls Try.prog 15 #[dskV v d, .string s] w fun e w' => e = .returned (.tuple #[.string (strT t), .bool b]) ∧ Below w.heap.size w w' := by
  have C := pRead_fit d v s w h hf
  rw [readD_L, hr] at C
  exact C
theorem rRead_as (d : Dsk) (v : Value) (s : ByteArray) (w : World) (h : IsDfs w v d.fs) (hf : FitD nameB d) {t : Txt} {b : Bool} (hr : readL d.fs s.data.toList = (t, b)) :
    Calls Try.prog 16 #[dskV v d, .string s] w fun e w' => e = .returned (.tuple #[.string (strT t), .bool b]) ∧ Below w.heap.size w w' := by
  have C := rReadD_any d v s w h hf.all
  rw [readD_L, hr] at C
  exact C
theorem thenD_fs {d : Dsk} {fs : List Dfl} (h : (thenD d fs).2 = 0) : (thenD d fs).1.fs = fs := by
  by_cases hp : (powD d).2 = 0
  · rw [thenD_ok hp]
  · rw [thenD_bad hp] at h; exact absurd h hp
theorem rename_okD {d : Dsk} {n m : ByteArray} (he : (renameD nameB d n m).2 = 0) : ∃ f, getF d.fs n.data.toList = some f ∧ (renameD nameB d n m).1.fs = withF (lessF d.fs n.data.toList) ⟨m, f.d, f.ops⟩ := by
  unfold renameD at he ⊢
  by_cases h1 : d.off = true
  · rw [if_pos h1] at he; cases he
  by_cases h2 : nameB m.data.toList = false
  · rw [if_neg h1, if_pos h2] at he; cases he
  rw [if_neg h1, if_neg h2] at he ⊢
  cases hg : getF d.fs n.data.toList with
  | none => rw [hg] at he; cases he
  | some f => rw [hg] at he; exact ⟨f, rfl, thenD_fs he⟩
theorem remove_okD {d : Dsk} {n : ByteArray} (he : (removeD d n).2 = 0) : ∃ f, getF d.fs n.data.toList = some f ∧ (removeD d n).1.fs = lessF d.fs n.data.toList := by
  unfold removeD at he ⊢
  by_cases h1 : d.off = true
  · rw [if_pos h1] at he; cases he
  rw [if_neg h1] at he ⊢
  cases hg : getF d.fs n.data.toList with
  | none => rw [hg] at he; cases he
  | some f => rw [hg] at he; exact ⟨f, rfl, thenD_fs he⟩
theorem sync_okD {d : Dsk} {n : ByteArray} (he : (syncD d n).2 = 0) : ∃ f, getF d.fs n.data.toList = some f ∧ (syncD d n).1.fs = withF d.fs ⟨n, strT (seenF f), []⟩ := by
  unfold syncD at he ⊢
  by_cases h1 : d.off = true
  · rw [if_pos h1] at he; cases he
  rw [if_neg h1] at he ⊢
  cases hg : getF d.fs n.data.toList with
  | none => rw [hg] at he; cases he
  | some f => rw [hg] at he; exact ⟨f, rfl, thenD_fs he⟩
theorem renamed_get {l : List Dfl} (h : l.Pairwise fun x y => x.t < y.t) (n m : ByteArray) (a : ByteArray) (P : List Dop) (t : Txt) :
    getF (withF (lessF l n.data.toList) ⟨m, a, P⟩) t = if t = m.data.toList then some ⟨m, a, P⟩ else if t = n.data.toList then none else getF l t := by
  rw [withF_get (lessF_rise h), lessF_get h]; rfl
end Go.Proofs.Ytninfmlemdnjbaa

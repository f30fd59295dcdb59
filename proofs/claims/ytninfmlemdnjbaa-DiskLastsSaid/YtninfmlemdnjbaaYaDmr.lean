/-
  Slices of bools that are the call's own.
-/
import Derived.Test.YtninfmlemdnjbaaYaDmq
set_option linter.unusedVariables false
namespace Go.Proofs.Ytninfmlemdnjbaa
open Go.RowKit
theorem infoBool15 : (Try.prog.info? 4).map (fun i => (i.zero, i.size, i.bytes)) = some (some (.bool false), 1, 1) := by kernel_rfl
def blCells (L : List Bool) : List Value := L.map Value.bool
theorem blCells_get {L : List Bool} {i : Nat} (h : i < L.length) : (blCells L)[i]? = some (.bool L[i]) := by unfold blCells; simp [h]
def OwnL15 (B : Nat) (w : World) (v : Value) (L : List Bool) : Prop := w.ownsRow B 4 1 v L.length (blCells L)
theorem ownL15_nil (B : Nat) (w : World) : OwnL15 B w (.slice none 0 0) [] := World.ownsRow_nil _ _ _ _
theorem OwnL15.is {B : Nat} {w : World} {v : Value} {L : List Bool} (h : OwnL15 B w v L) : IsBls w v L := by
  have hlt := h.lt
  have hc := fun g hg => h.cells (g := g) hg
  rcases h.2 with ⟨rfl, h0⟩ | ⟨g, cap, cur, rfl, hb, hg, hle, hm, _⟩
  · obtain rfl := List.length_eq_zero_iff.1 h0
    exact bls_nil w
  · refine ⟨Nat.le_trans hle hm, some ⟨g, 0, none⟩, cap, rfl, ⟨fun h => (by cases h), hle⟩, fun _ => ⟨g, 0, rfl, (hlt g rfl).2, fun i hi => ?_⟩⟩
    have := hc g rfl i _ (blCells_get hi)
    rw [add_plain'] at this; exact this
theorem wpList_append_bool {ops : Array Oper} {rest : List Oper} {o : Oper} {a : Act} {B : Nat} {w0 : World} {Q : Exit → Act → World → Prop} (hgd : o.guard = none) (s x : Operand)
    (ho : o.op = .call { callee := .builtin .append, args := #[s, x], argTypes := #[40, 40] })
    {v : Value} {M : List Bool} {y : Bool} (hown : OwnL15 B w0 v M) (hBs : B ≤ w0.heap.size) (hs : a.eval s = v)
    (hx : a.eval x = .slice (some ⟨w0.heap.size, 0, none⟩) 1 1) (hlen : M.length ≤ 1000000)
    (h : ∀ v' w', OwnL15 B w' v' (M ++ [y]) → Below B w0 w' → wpList Try.prog ops Q rest (a.put o.dst v') w') :
    wpList Try.prog ops Q (o :: rest) a (w0.alloc (.cells #[.bool y] 4)) := by
  obtain ⟨i0, hi, hz0, hz1, hz2⟩ := info_parts infoBool15
  refine wpList_append_own _ hgd s x 40 ho B 4 i0 (.bool false) 1 1 Try.underlying40 hi hz0 hz1 hz2 rfl (by decide) v M.length (blCells M) hs (World.ownsRow.alloc hown _) ⟨w0.heap.size, 0, none⟩ 1 1 [.bool y] hx rfl ?_ ?_ ?_ ?_ ?_ ?_
  · intro j u hj
    match j, hj with
    | 0, hj => simp at hj; subst hj; simp [Addr.add]
  · intro u hu; simp at hu; subst hu; rfl
  · unfold maxLen; omega
  · omega
  · simp; omega
  · intro v' w' hown' hg _
    refine h v' w' ?_ (((Below.refl B w0).alloc hBs _).grown hg (by simp; omega) (fun j hj => (World.ownsRow.lt hown j hj).1))
    unfold OwnL15
    have : blCells (M ++ [y]) = blCells M ++ [.bool y] := by unfold blCells; rw [List.map_append]; rfl
    rw [List.length_append, this]; exact hown'
end Go.Proofs.Ytninfmlemdnjbaa

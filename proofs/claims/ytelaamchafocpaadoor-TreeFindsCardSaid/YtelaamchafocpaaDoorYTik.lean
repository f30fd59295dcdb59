/-
  Contracts over this translation: slices.Insert of one item.
-/
import Derived.Test.YtelaamchafocpaaDoorQ1
import Derived.Lib.AppendZerosOnto
import Derived.Lib.Overlaps
import Derived.Laws.CopyRow
import Derived.Laws.NewBlocks
import Derived.Deep.RegionLaw
import Derived.IntWalk
import Derived.StillTailTactics
set_option linter.unusedVariables false
namespace Go.Proofs.YtelaamchafocpaaDoor
open Go.RowKit
attribute [local go_sem] Oper.semAt_some

/-! ## copies within rows of items -/
theorem run_copy_rowK {P : Program} (w : World) (dT sT ty elem : TypeId) (g off dLen dCap : Nat) (ad : Addr) (sLen sCap : Nat) (cur : Array Value) (t : TypeId) (cs : List Value) (k : Nat)
    (hu : P.underlying dT = some (.slice elem)) (hsz : (P.info? elem).map (·.size) = some k) (hg : w.heap[g]? = some (.cells cur t (0, 0))) (hn : cs.length = Nat.min sLen dLen * k)
    (hsrc : ∀ j v, cs[j]? = some v → w.cell? (ad.add j) = some v) (hfit : off + cs.length ≤ cur.size) (h1 : ∀ v ∈ cs, v.oneCell' = true) :
    (Builtin.copy_ #[dT, sT] ty #[.slice (some ⟨g, off, none⟩) dLen dCap, .slice (some ad) sLen sCap]).run P w =
      .ok (goInt (Nat.min sLen dLen)) (w.setRow g (cur.toList.take off ++ cs ++ cur.toList.drop (off + cs.length)).toArray) := by
  cases hq : P.info? elem with
  | none => simp [hq] at hsz
  | some i =>
    have hi : i.size = k := by simpa [hq] using hsz
    have hf := run_firstCells_some (P := P) w i.size (Nat.min sLen dLen) ad sLen sCap cs (by rw [hi]; exact hn) hsrc
    have hst := run_storeCells_at P g off t cs 0 cur w hg (by simpa using hfit) h1
    simp only [Nat.add_zero] at hst
    rw [hi] at hf
    simp [Builtin.copy_, run_underlying hu, Builtin.lenOf, sizeOf, typeInfo, hq, hi, hf, hst]
theorem wp_copy_run {P : Program} (w : World) {o : Oper} {a : Act} {K : Act → World → Prop} {Q : Exit → Act → World → Prop} (d s : Operand) (t t' : TypeId)
    (ho : o.op = .call { callee := .builtin .copy, args := #[d, s], argTypes := #[t, t'] }) (v u : Value) (hd : a.eval d = v) (hs : a.eval s = u) {v' : Value} {w' : World}
    (hr : (Builtin.copy_ #[t, t'] o.type #[v, u]).run P w = .ok v' w') (h : K (a.put o.dst v') w') : o.wp P a w K Q := by
  unfold Oper.wp execOp
  simp only [ho, resolve, invoke, builtin, Sem.run_bind, Sem.run_pure, Result.andThen_ok, List.map_toArray, List.map_cons, List.map_nil, hd, hs, hr]
  exact h
theorem wpList_copy_run {P : Program} (w : World) {ops : Array Oper} {rest : List Oper} {o : Oper} {a : Act} {Q : Exit → Act → World → Prop} (hgd : o.guard = none) (d s : Operand) (t t' : TypeId)
    (ho : o.op = .call { callee := .builtin .copy, args := #[d, s], argTypes := #[t, t'] }) (v u : Value) (hd : a.eval d = v) (hs : a.eval s = u) {v' : Value} {w' : World}
    (hr : (Builtin.copy_ #[t, t'] o.type #[v, u]).run P w = .ok v' w') (h : wpList P ops Q rest (a.put o.dst v') w') : wpList P ops Q (o :: rest) a w :=
  wpList_plain hgd fun _ hK => wp_copy_run w d s t t' ho v u hd hs hr (hK _ _ h)

/-! ## the row behind -/
/-- Items laid out from cell to cell: what stands behind a place, moved up by one; then one put in its place. -/
theorem row_shift {C : List Value} {L : List It} {i : Nat} (hi : i ≤ L.length) {cap : Nat} (hC : C.length = cap * 4) (hcap : L.length + 1 ≤ cap) (ht : C.take (L.length * 4) = itCells L) (x : It) :
    (((C.take ((i + 1) * 4) ++ itCells (L.drop i) ++ C.drop ((i + 1) * 4 + (itCells (L.drop i)).length)).take (i * 4) ++ itC x ++ (C.take ((i + 1) * 4) ++ itCells (L.drop i) ++ C.drop ((i + 1) * 4 + (itCells (L.drop i)).length)).drop (i * 4 + (itC x).length))).take ((L.length + 1) * 4) = itCells (L.take i ++ x :: L.drop i) := by
  have e1 : (itC x).length = 4 := rfl
  have e2 : (itCells (L.drop i)).length = (L.length - i) * 4 := by rw [itCells_len, List.length_drop]
  have hA : itCells L = itCells (L.take i) ++ itCells (L.drop i) := by rw [← itCells_app, List.take_append_drop]
  have hAl : (itCells (L.take i)).length = i * 4 := by rw [itCells_len, List.length_take]; congr 1; omega
  have hti : C.take (i * 4) = itCells (L.take i) := by
    have : C.take (i * 4) = (C.take (L.length * 4)).take (i * 4) := by rw [List.take_take]; congr 1; omega
    rw [this, ht, hA, List.take_left' hAl]
  have hl1 : (C.take ((i + 1) * 4)).length = (i + 1) * 4 := by rw [List.length_take]; omega
  rw [e1, e2]
  have h1 : (C.take ((i + 1) * 4) ++ itCells (L.drop i) ++ C.drop ((i + 1) * 4 + (L.length - i) * 4)).take (i * 4) = itCells (L.take i) := by
    rw [List.append_assoc, List.take_append_of_le_length (by rw [hl1]; omega), List.take_take, show min (i * 4) ((i + 1) * 4) = i * 4 by omega, hti]
  have h2 : (C.take ((i + 1) * 4) ++ itCells (L.drop i) ++ C.drop ((i + 1) * 4 + (L.length - i) * 4)).drop (i * 4 + 4) = itCells (L.drop i) ++ C.drop ((i + 1) * 4 + (L.length - i) * 4) := by
    rw [List.append_assoc, List.drop_append, hl1, show i * 4 + 4 - (i + 1) * 4 = 0 by omega, List.drop_of_length_le (by rw [hl1]; omega)]; rfl
  rw [h1, h2]
  have e3 : itCells (L.take i ++ x :: L.drop i) = itCells (L.take i) ++ itC x ++ itCells (L.drop i) := by
    rw [itCells_app, List.append_assoc]; rfl
  rw [e3, ← List.append_assoc]
  refine List.take_left' ?_
  rw [List.length_append, List.length_append, hAl, e1, e2]; omega
theorem row_grown {L : List It} {i : Nat} (hi : i ≤ L.length) (Z : List Value) (hZ : (L.length + 1 - i) * 4 ≤ Z.length) (x : It) :
    let C := (itCells L).take (i * 4) ++ Z
    let D := C.take (i * 4) ++ itC x ++ C.drop (i * 4 + (itC x).length)
    (D.take ((i + 1) * 4) ++ itCells (L.drop i) ++ D.drop ((i + 1) * 4 + (itCells (L.drop i)).length)).take ((L.length + 1) * 4) = itCells (L.take i ++ x :: L.drop i) := by
  intro C D
  have e1 : (itC x).length = 4 := rfl
  have e2 : (itCells (L.drop i)).length = (L.length - i) * 4 := by rw [itCells_len, List.length_drop]
  have hA : itCells L = itCells (L.take i) ++ itCells (L.drop i) := by rw [← itCells_app, List.take_append_drop]
  have hAl : (itCells (L.take i)).length = i * 4 := by rw [itCells_len, List.length_take]; congr 1; omega
  have hti : (itCells L).take (i * 4) = itCells (L.take i) := by rw [hA, List.take_left' hAl]
  have hC : C.take (i * 4) = itCells (L.take i) := by
    show (_ ++ Z).take _ = _
    rw [hti, List.take_left' hAl]
  have hD : D.take ((i + 1) * 4) = itCells (L.take i) ++ itC x := by
    show (C.take (i * 4) ++ itC x ++ _).take _ = _
    rw [hC]
    exact List.take_left' (by rw [List.length_append, hAl, e1]; omega)
  rw [hD]
  have e3 : itCells (L.take i ++ x :: L.drop i) = itCells (L.take i) ++ itC x ++ itCells (L.drop i) := by
    rw [itCells_app, List.append_assoc]; rfl
  rw [e3]
  refine List.take_left' ?_
  rw [List.length_append, List.length_append, hAl, e1, e2]; omega
end Go.Proofs.YtelaamchafocpaaDoor

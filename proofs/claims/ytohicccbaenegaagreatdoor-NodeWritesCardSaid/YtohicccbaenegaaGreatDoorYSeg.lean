/-
  Parts of a row: an array within a struct in memory is read and stored; a string is copied into one. Of no program.
-/
import Derived.Test.YtohicccbaenegaaGreatDoorQ1
import Derived.Deep.MidRow
import Derived.Laws.CopyRow
import Derived.Lib.BufferWrite
import Derived.Lib.SlBuf
set_option linter.unusedVariables false
namespace Go.Proofs.YtohicccbaenegaaGreatDoor
open Go.RowKit

/-- A row of which a part is laid anew. -/
def setSeg : Array Value → Nat → List Value → Array Value
  | xs, _, [] => xs
  | xs, o, v :: r => setSeg (xs.setIfInBounds o v) (o + 1) r
theorem setSeg_eq : ∀ (vs : List Value) (A M B : List Value), M.length = vs.length → setSeg (A ++ M ++ B).toArray A.length vs = (A ++ vs ++ B).toArray
  | [], A, M, B, h => by
    have : M = [] := List.length_eq_zero_iff.1 h
    subst this; rfl
  | v :: r, A, [], B, h => by simp at h
  | v :: r, A, m :: M, B, h => by
    have := setSeg_eq r (A ++ [v]) M B (by simpa using h)
    rw [setSeg, show (A ++ m :: M ++ B).toArray.setIfInBounds A.length v = (A ++ [v] ++ M ++ B).toArray by simp]
    simp only [List.length_append, List.length_singleton] at this
    rw [this]; simp
theorem Row.setCells {W : World} {B : Nat} {T : TypeId} : ∀ (vs : List Value) {xs : Array Value} {W : World} (h : Row W B xs T) (o : Nat), Row (W.setCells B o vs) B (setSeg xs o vs) T
  | [], _, _, h, _ => h
  | v :: r, _, _, h, o => Row.setCells (W := W) r (h.set o v) (o + 1)
theorem Row.setCells_other {B g : Nat} {xs : Array Value} {T : TypeId} : ∀ (vs : List Value) {W : World} (h : Row W B xs T) (o : Nat) (hne : B ≠ g), Row (W.setCells g o vs) B xs T
  | [], _, h, _, _ => h
  | v :: r, _, h, o, hne => Row.setCells_other r (h.other _ _ hne) (o + 1) hne
theorem below_setCells {b g : Nat} {w : World} : ∀ (vs : List Value) {W : World} (h : Below b w W) (o : Nat) (hg : b ≤ g), Below b w (W.setCells g o vs)
  | [], _, h, _, _ => h
  | v :: r, _, h, o, hg => below_setCells r (h.setCell hg v) (o + 1) hg
/-- A part of a row, as the load's law asks for it. -/
theorem Row.range {W : World} {B : Nat} {T : TypeId} {A M C : List Value} (h : Row W B (A ++ M ++ C).toArray T) : W.rangeAt B A.length M := fun j v hv => by
  rw [h.cell]
  have hj : j < M.length := (List.getElem?_eq_some_iff.1 hv).1
  simp only [List.getElem?_toArray]
  rw [List.append_assoc, List.getElem?_append_right (by omega), List.getElem?_append_left (by omega), show A.length + j - A.length = j by omega, hv]
theorem Row.there {W : World} {B : Nat} {T : TypeId} {xs : Array Value} (h : Row W B xs T) (o n : Nat) (hn : o + n ≤ xs.size) : W.there B o n := fun j hj => by
  refine ⟨?_, h.free _⟩
  rw [h.cell, Array.getElem?_eq_getElem (by omega)]
  rfl

/-- A string is copied into a part of a row, as much of it as has room. -/
theorem run_copy_part {P : Program} (w : World) (dT sT ty elem : TypeId) (g dLen dCap : Nat) (s : ByteArray) (A M C : List Value) (t : TypeId)
    (hu : P.underlying dT = some (.slice elem)) (hs : (P.info? elem).map (·.size) = some 1) (hg : Row w g (A ++ M ++ C).toArray t) (n : Nat) (hn : Nat.min s.size dLen = n) (hM : M.length = n) :
    (Builtin.copy_ #[dT, sT] ty #[.slice (some ⟨g, A.length, none⟩) dLen dCap, .string s]).run P w =
      .ok (goInt n) (w.setRow g (A ++ Lib.byteCells (s.data.toList.take n) ++ C).toArray) := by
  have hle : n ≤ s.size := by rw [← hn]; exact Nat.min_le_left _ _
  have hl : (Lib.byteCells (s.data.toList.take n)).length = n := by rw [Lib.byteCells_length, List.length_take, ← Lib.size_eq]; omega
  have hst := run_storeCells_at P g A.length t (Lib.byteCells (s.data.toList.take n)) 0 (A ++ M ++ C).toArray w hg (by rw [hl]; simp; omega) (Lib.byteCells_one _)
  rw [hl] at hst
  simp only [Nat.add_zero] at hst
  rw [show ((A ++ M ++ C).toArray.toList.take A.length ++ Lib.byteCells (s.data.toList.take n) ++ (A ++ M ++ C).toArray.toList.drop (A.length + n)) = A ++ Lib.byteCells (s.data.toList.take n) ++ C by
    simp [← hM, List.append_assoc, ← List.drop_drop]] at hst
  have hx : List.take n (List.map (fun b : UInt8 => Value.int IntKind.u8 (b.toNat : Int)) s.data.toList) = Lib.byteCells (s.data.toList.take n) := by
    rw [← List.map_take]; rfl
  cases hq : P.info? elem with
  | none => simp [hq] at hs
  | some i =>
    simp [Builtin.copy_, run_underlying hu, Builtin.lenOf, Builtin.firstCells, sizeOf, typeInfo, hq, hn]
    rw [hx, hst]
    simp [Result.andThen]

/-- A part of a row is read, in a region that draws its order. -/
theorem wpStill_load_part {P : Program} {ops : Array Oper} {w : World} {Q : Act → Prop} {a : Act} {op : Oper} {rest : List Oper} (hgd : op.guard = none) (ty : TypeId) (x : Operand) (ho : op.op = .load ty x)
    (b o : Nat) (hx : a.eval x = .pointer (some ⟨b, o, none⟩)) (cells : Array Value) (d : TypeDesc) (hc : w.rangeAt b o cells.toList) (hu : P.underlying ty = some d) (hd : d.isRow = true) (hi : (P.info? ty).map (·.size) = some cells.size)
    (h : wpStill P ops w Q rest (a.put op.dst (.agg cells))) : wpStill P ops w Q (op :: rest) a := by
  refine wpStill_step fun K hK => ?_
  have hw : Region.wanted op (yielded ops a.tmps) = true := by unfold Region.wanted; rw [hgd]
  rw [if_pos hw]
  unfold Oper.still execOp
  simp only [ho, hx, Instr.loadAt, Instr.sureAddr, Sem.run_bind, Sem.run_pure, Result.andThen_ok, run_loadVar_mid w b o ty cells.toList d hc hu hd (by rw [Array.length_toList]; exact hi), Array.toArray_toList]
  exact ⟨rfl, hK _ h⟩
theorem Row.rangeA {W : World} {B : Nat} {T : TypeId} {A C : List Value} {M : Array Value} (h : Row W B (A ++ M.toList ++ C).toArray T) (n : Nat) (hn : A.length = n) : W.rangeAt B n M.toList := by subst hn; exact h.range
end Go.Proofs.YtohicccbaenegaaGreatDoor

/-
  Arrays by value and in memory, of any program: a zero laid, a number taken out by a place, rows that stand.
-/
import Derived.WalkKit
import Derived.ProofKit
import Derived.Below
import Derived.Deep.QuietTactic
import Derived.BigQuiet
import Derived.Laws.Rows
import Derived.Laws.CopyOwn
namespace Go.Proofs.YtohicccbaenegaaDoor
open Go.RowKit

/-- A new variable, its zero's cells said by the caller. -/
theorem wpList_alloc_zero {P : Program} {ops : Array Oper} {rest : List Oper} {o : Oper} {a : Act} {w : World} {Q : Exit → Act → World → Prop} (hg : o.guard = none) (t : TypeId) (ho : o.op = .alloc t)
    (cells : Array Value) (hz : (P.info? t).bind (fun i => i.zero.map (·.cells)) = some cells)
    (h : wpList P ops Q rest (a.put o.dst (.pointer (some ⟨w.heap.size, 0, none⟩))) (w.alloc (.cells cells t))) : wpList P ops Q (o :: rest) a w := by
  cases hi : P.info? t with
  | none => simp [hi] at hz
  | some i =>
    cases hz0 : i.zero with
    | none => simp [hi, hz0] at hz
    | some z =>
      simp only [hi, hz0, Option.bind_some, Option.map_some, Option.some.injEq] at hz
      subst hz
      refine wpList_plain hg fun K hK => ?_
      unfold Oper.wp execOp
      simp [ho, Instr.alloc, zeroValue, typeInfo, hi, hz0, newVar, newRow, go_sem]
      exact hK _ _ h

/-- An array's number, by a place. -/
theorem wpList_index_arr {P : Program} {ops : Array Oper} {rest : List Oper} {o : Oper} {a : Act} {w : World} {Q : Exit → Act → World → Prop} (hg : o.guard = none) (t : TypeId) (x y : Operand) (ho : o.op = .index t x y)
    (n : Nat) (e : TypeId) (k : IntKind) (i : Nat) (cs : Array Value) (v : Value) (hx : a.eval x = .agg cs) (hy : a.eval y = .int k i) (hu : P.underlying t = some (.array n e)) (hin : i < n)
    (hs : (P.info? e).map (·.size) = some 1) (ha : ∀ w, (isAgg e).run P w = .ok false w) (hv : cs[i]? = some v)
    (h : wpList P ops Q rest (a.put o.dst v) w) : wpList P ops Q (o :: rest) a w := by
  cases hi : P.info? e with
  | none => simp [hi] at hs
  | some ie =>
    simp only [hi, Option.map_some, Option.some.injEq] at hs
    refine wpList_plain hg fun K hK => ?_
    unfold Oper.wp execOp
    have h1 : (0 : Int) ≤ (i : Int) ∧ (i : Int) < (n : Int) := ⟨Int.natCast_nonneg i, by omega⟩
    simp only [ho, hx, hy]
    simp [Instr.index, asIntOf, run_underlying hu, hin, sizeOf, typeInfo, hi, hs, part, ha, hv, Sem.run_bind, go_sem]
    exact hK _ _ h

/-- A row of memory that nothing has frozen. -/
def Row (W : World) (B : Nat) (xs : Array Value) (T : TypeId) : Prop := W.heap[B]? = some (.cells xs T (0, 0))
theorem Row.cell {W : World} {B : Nat} {xs : Array Value} {T : TypeId} (h : Row W B xs T) (i : Nat) : W.cell? ⟨B, i, none⟩ = xs[i]? := cell_of_row W B i _ _ _ h
theorem Row.free {W : World} {B : Nat} {xs : Array Value} {T : TypeId} (h : Row W B xs T) (i : Nat) : W.frozen? ⟨B, i, none⟩ = false := frozen_of_row W B i _ _ h
theorem Row.lt {W : World} {B : Nat} {xs : Array Value} {T : TypeId} (h : Row W B xs T) : B < W.heap.size := (Array.getElem?_eq_some_iff.1 h).1
theorem Row.set {W : World} {B : Nat} {xs : Array Value} {T : TypeId} (h : Row W B xs T) (i : Nat) (v : Value) : Row (W.setCell ⟨B, i, none⟩ v) B (xs.setIfInBounds i v) T := heap_setCell_same W B i _ _ _ h
theorem Row.other {W : World} {B : Nat} {xs : Array Value} {T : TypeId} (h : Row W B xs T) (a : Addr) (v : Value) (hne : B ≠ a.block) : Row (W.setCell a v) B xs T := by
  unfold Row; rw [heap_setCell_other _ _ _ _ hne]; exact h
theorem Row.setRow {W : World} {B : Nat} {xs : Array Value} {T : TypeId} (h : Row W B xs T) (ys : Array Value) : Row (W.setRow B ys) B ys T := setRow_heap _ _ _ _ _ _ h
theorem Row.setRow_other {W : World} {B : Nat} {xs : Array Value} {T : TypeId} (h : Row W B xs T) (g : Nat) (ys : Array Value) (hne : B ≠ g) : Row (W.setRow g ys) B xs T := by
  unfold Row; rw [Go.setRow_other _ _ _ _ hne]; exact h
theorem Row.alloc {W : World} {B : Nat} {xs : Array Value} {T : TypeId} (h : Row W B xs T) (o : Obj) : Row (W.alloc o) B xs T := by
  show (W.heap.push o)[B]? = _; rw [Array.getElem?_push, if_neg (Nat.ne_of_lt h.lt)]; exact h
theorem Row.made (W : World) (xs : Array Value) (T : TypeId) : Row (W.alloc (.cells xs T)) W.heap.size xs T := heap_alloc_new _ _
theorem Row.below {W W' : World} {B b : Nat} {xs : Array Value} {T : TypeId} (h : Row W B xs T) (hb : Below b W W') (hlt : B < b) : Row W' B xs T := by
  unfold Row; rw [hb.block B hlt]; exact h
theorem Row.step {W W' : World} {B : Nat} {xs : Array Value} {T : TypeId} (h : Row W B xs T) (hb : Below W.heap.size W W') : Row W' B xs T := h.below hb h.lt
theorem Row.drew {W : World} {B : Nat} {xs : Array Value} {T : TypeId} (h : Row W B xs T) : Row W.drew B xs T := h
theorem Row.drewN {W : World} {B : Nat} {xs : Array Value} {T : TypeId} (h : Row W B xs T) (n : Nat) : Row (W.drewN n) B xs T := h

def numV (l : List Nat) : Array Value := (l.map fun n : Nat => Value.int .u32 (n : Int)).toArray
def bytV (l : List UInt8) : Array Value := (l.map fun n : UInt8 => Value.int .u8 (n.toNat : Int)).toArray
def zrow (n : Nat) : Array Value := numV (List.replicate n 0)
theorem zrow_size (n : Nat) : (zrow n).size = n := by simp [zrow, numV]
def zbyt (n : Nat) : Array Value := bytV (List.replicate n 0)
theorem zbyt_size (n : Nat) : (zbyt n).size = n := by simp [zbyt, bytV]
theorem numV_size (l : List Nat) : (numV l).size = l.length := by simp [numV]
theorem bytV_size (l : List UInt8) : (bytV l).size = l.length := by simp [bytV]
theorem numV_get (l : List Nat) (i : Nat) (h : i < l.length) : (numV l)[i]? = some (.int .u32 (l.getD i 0 : Nat)) := by simp [numV, h]
theorem bytV_get (l : List UInt8) (i : Nat) (h : i < l.length) : (bytV l)[i]? = some (.int .u8 ((l.getD i 0).toNat : Nat)) := by simp [bytV, h]
theorem numV_set (l : List Nat) (i n : Nat) : (numV l).setIfInBounds i (.int .u32 (n : Int)) = numV (l.set i n) := by
  simp [numV, List.map_set]
theorem bytV_set (l : List UInt8) (i : Nat) (n : UInt8) : (bytV l).setIfInBounds i (.int .u8 (n.toNat : Int)) = bytV (l.set i n) := by
  simp [bytV, List.map_set]
theorem numV_one (l : List Nat) : (numV l).all (·.oneCell') = true := by
  simp [numV, Value.oneCell']
theorem bytV_one (l : List UInt8) : (bytV l).all (·.oneCell') = true := by
  simp [bytV, Value.oneCell']
end Go.Proofs.YtohicccbaenegaaDoor

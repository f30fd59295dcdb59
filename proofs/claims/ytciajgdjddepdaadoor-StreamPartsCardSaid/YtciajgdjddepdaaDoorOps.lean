/-
  Small laws on operations, of no program: a rest whose value is told.
-/
import Derived.WalkKit
namespace Go.Proofs.YtciajgdjddepdaaDoor
open Go.RowKit

theorem wpList_rem {P : Program} {ops : Array Oper} {rest : List Oper} {o : Oper} {a : Act} {w : World} {Q : Exit → Act → World → Prop} (hgd : o.guard = none) (t t' : TypeId) (x y : Operand) (ho : o.op = .binOp .rem t x y t')
    (k : IntKind) (m n r : Int) (hx : a.eval x = .int k m) (hy : a.eval y = .int k n) (hn : n ≠ 0) (hr : m.tmod n = r) (h : wpList P ops Q rest (a.put o.dst (.int k r)) w) : wpList P ops Q (o :: rest) a w :=
  wpList_plain hgd fun _ hK => by
    unfold Oper.wp execOp
    simp only [ho, hx, hy]
    simp [binOp_rem, Op.intDiv, hn, hr, go_sem]
    exact hK _ _ h
end Go.Proofs.YtciajgdjddepdaaDoor

/-
  Small laws on operations, of no program: a slice of bytes becomes a string.
-/
import Derived.WalkKit
import Derived.Laws.BytesArg
import Derived.Laws.Rows
import Derived.Deep.WholeRow
namespace Go.Proofs.YtohicccbaenegaaDoor
open Go.RowKit

section
variable {P : Program}
theorem wpList_convert {ops : Array Oper} {rest : List Oper} {o : Oper} {a : Act} {w : World} {Q : Exit → Act → World → Prop} (hgd : o.guard = none) (t t' : TypeId) (x : Operand) (ho : o.op = .convert t t' x)
    (y v : Value) (w' : World) (hx : a.eval x = y) (hrun : (convert t t' y).run P w = .ok v w') (h : wpList P ops Q rest (a.put o.dst v) w') : wpList P ops Q (o :: rest) a w :=
  wpList_plain hgd fun _ hK => by
    unfold Oper.wp execOp
    simp only [ho, hx, Sem.run_bind, hrun, Result.andThen_ok, Sem.run_pure]
    exact hK _ _ h
/-- A whole block of bytes as a string. -/
theorem conv_row (src e dst : TypeId) (hs : P.underlying src = some (.slice e)) (he : P.underlying e = some (.int .u8)) (hd : P.underlying dst = some .string) (w : World) (B : Nat) (t : TypeId) (fr : Nat × Nat) (xs : List Int)
    (hg : w.heap[B]? = some (.cells (xs.map (Value.int .u8)).toArray t fr)) (n cap : Nat) (hn : xs.length = n) :
    (convert src dst (.slice (some ⟨B, 0, none⟩) n cap)).run P w = .ok (.string (strOfNums xs)) w :=
  run_convert_bytes_arg (P := P) w src e hs he B 0 n cap xs hn (fun i hi => by
    rw [Nat.zero_add, cell_of_row w B i _ _ _ hg]
    have hi' : i < xs.length := by omega
    simp [List.getD, List.getElem?_eq_getElem hi']) dst hd
end
theorem byte_mod (n : Nat) : UInt8.ofNat (n % 256) = UInt8.ofNat n := by
  apply UInt8.toNat_inj.1; simp
end Go.Proofs.YtohicccbaenegaaDoor

/-
  Contracts over this translation: the document's Read.
-/
import Derived.Test.YtlccihidedfemaaGreatDoorQb4
import Derived.Test.YtlccihidedfemaaGreatDoorYbNdd
import Derived.Test.YtlccihidedfemaaGreatDoorQb3
import Derived.StillTailTactics
import Derived.Test.YtlccihidedfemaaGreatDoorQb5
set_option linter.unusedVariables false
namespace Go.Proofs.YtlccihidedfemaaGreatDoor
open Go.RowKit
attribute [local go_sem] Oper.semAt_some
theorem row_grownE {w w' : World} {base B : Nat} {v : Value} {M : List En} {xs : Array Value} {T : TypeId} (h : Row w B xs T) (ho : OwnE base w v M) (hg : w.grownBy w' v.ownBlock) (hlt : B < base) : Row w' B xs T := by
 unfold Row; rw [hg.block B h.lt (fun e => by have := (ho.lt B e.symm).1; omega)]; exact h
theorem OwnP.setNe {B b i : Nat} {w : World} {v : Value} {L : List Pt} (h : OwnP B w v L) (ha : ∀ g, v.ownBlock = some g → g < b) (u : Value) : OwnP B (w.setCell ⟨b, i, none⟩ u) v L :=
 World.ownsRow.kept h (grownBy_set w b i u) (by
  cases hv : v.ownBlock with
  | none => exact .inl rfl
  | some k =>
   refine .inr fun e => ?_
   have := ha k hv
   cases e; omega)
theorem OwnE.setNe {B b i : Nat} {w : World} {v : Value} {L : List En} (h : OwnE B w v L) (ha : ∀ g, v.ownBlock = some g → g < b) (u : Value) : OwnE B (w.setCell ⟨b, i, none⟩ u) v L :=
 World.ownsRow.kept h (grownBy_set w b i u) (by
  cases hv : v.ownBlock with
  | none => exact .inl rfl
  | some k =>
   refine .inr fun e => ?_
   have := ha k hv
   cases e; omega)
theorem wpList_append_entries2 {ops : Array Oper} {rest : List Oper} {o : Oper} {a : Act} {B z : Nat} {w0 : World} {Q : Exit → Act → World → Prop} (hgd : o.guard = none) (s x : Operand)
  (ho : o.op = .call { callee := .builtin .append, args := #[s, x], argTypes := #[42, 42] })
  {v : Value} {M : List En} {y : En} (hown : OwnE B w0 v M) (hBs : B ≤ w0.heap.size) (hz : z = w0.heap.size) (hs : a.eval s = v)
  (hx : a.eval x = .slice (some ⟨z, 0, none⟩) 1 1) (hlen : M.length ≤ 1000000)
  (h : ∀ v' w', OwnE B w' v' (M ++ [y]) → w0.grownBy w' v.ownBlock → wpList Tryz.prog ops Q rest (a.put o.dst v') w') :
  wpList Tryz.prog ops Q (o :: rest) a (w0.alloc (.cells #[.string y.m, .int .i64 y.kd, .bool y.x, .string y.k] 78)) := by
 subst hz
 exact wpList_append_entries hgd s x ho hown hBs hs hx hlen h
end Go.Proofs.YtlccihidedfemaaGreatDoor

/-
  Regions that draw their order, of no program: what one operation does, and all others; a call met by its contract.
-/
import Derived.Test.YtohicccbaenegaaDoorReg
set_option linter.unusedVariables false
namespace Go.Proofs.YtohicccbaenegaaDoor
open Go.RowKit

/-- What one operation does (number j), and all others. -/
def appT (j : Nat) (R : World → World → Prop) (i : Nat) (w w' : World) : Prop := if i = j then R w w' else Below w.heap.size w w'
theorem appT_at {j : Nat} {R : World → World → Prop} {w w' : World} (h : R w w') : appT j R j w w' := by unfold appT; rw [if_pos rfl]; exact h
theorem appT_in {j : Nat} {R : World → World → Prop} {w w' : World} (h : appT j R j w w') : R w w' := by unfold appT at h; rw [if_pos rfl] at h; exact h
theorem appT_other {j i : Nat} {R : World → World → Prop} {w w' : World} (hi : i ≠ j) (h : Below w.heap.size w w') : appT j R i w w' := by unfold appT; rw [if_neg hi]; exact h
theorem appT_out {j i : Nat} {R : World → World → Prop} {w w' : World} (hi : i ≠ j) (h : appT j R i w w') : Below w.heap.size w w' := by unfold appT at h; rw [if_neg hi] at h; exact h
def allT (_ : Nat) (w w' : World) : Prop := Below w.heap.size w w'
theorem calls_val {P : Program} {f : FuncId} {xs : Array Value} {w : World} {v : Value} {R : World → Prop} (h : Calls P f xs w fun e w' => e = .returned v ∧ R w') : Calls P f xs w fun e w' => ∃ u, e = .returned u ∧ (u = v ∧ R w') :=
  h.mono fun _ _ ⟨a, b⟩ => ⟨_, a, rfl, b⟩
theorem yields_slice {P : Program} {ρ : Operand → Value} {o : Oper} {t : TypeId} {x : Operand} {lo hi : Option Operand} {vx v : Value} {l h : Option Value} {W : World} (hu : P.underlying t = some .string) (ho : o.op = .slice t x lo hi none) (hx : ρ x = vx) (hl : lo.map ρ = l) (hh : hi.map ρ = h) (hr : (Instr.slice t vx l h none).run P W = .ok v W) : (execOp ρ o).run P W = .ok (.value v) W := by
  subst hx hl hh
  unfold execOp
  rw [ho]
  simp [run_sliceAt_string W t (ρ x) (lo.map ρ) (hi.map ρ) none hu, hr]
theorem wp_callx {P : Program} {o : Oper} {a : Act} {w : World} {K : Act → World → Prop} {Q : Exit → Act → World → Prop} (f : FuncId) (args : Array Operand) (tys : Array TypeId) (ho : o.op = .call { callee := .value (.func f), args := args, argTypes := tys })
    (hen : ∀ xs w, (callFunc f xs).run P w = .ok (.enter f xs) w) (xs : Array Value) (hxs : args.map a.eval = xs) {R : Value → World → Prop} (h : Calls P f xs w fun e w' => ∃ v, e = .returned v ∧ R v w') (hk : ∀ v w', R v w' → K (a.put o.dst v) w') : o.wp P a w K Q := by
  unfold Oper.wp execOp
  simp only [ho]
  simp [hxs, go_sem, hen]
  refine h.mono ?_
  rintro e w' ⟨v, rfl, hr⟩
  exact hk v w' hr
/-- What some operations do (R says of each), and all others. -/
def appTs (l : List Nat) (R : Nat → World → World → Prop) (i : Nat) (w w' : World) : Prop := if i ∈ l then R i w w' else Below w.heap.size w w'
theorem appTs_at {l : List Nat} {R : Nat → World → World → Prop} {i : Nat} {w w' : World} (hi : i ∈ l) (h : R i w w') : appTs l R i w w' := by unfold appTs; rw [if_pos hi]; exact h
theorem appTs_in {l : List Nat} {R : Nat → World → World → Prop} {i : Nat} {w w' : World} (hi : i ∈ l) (h : appTs l R i w w') : R i w w' := by unfold appTs at h; rw [if_pos hi] at h; exact h
theorem appTs_other {l : List Nat} {R : Nat → World → World → Prop} {i : Nat} {w w' : World} (hi : i ∉ l) (h : Below w.heap.size w w') : appTs l R i w w' := by unfold appTs; rw [if_neg hi]; exact h
theorem appTs_out {l : List Nat} {R : Nat → World → World → Prop} {i : Nat} {w w' : World} (hi : i ∉ l) (h : appTs l R i w w') : Below w.heap.size w w' := by unfold appTs at h; rw [if_neg hi] at h; exact h
end Go.Proofs.YtohicccbaenegaaDoor

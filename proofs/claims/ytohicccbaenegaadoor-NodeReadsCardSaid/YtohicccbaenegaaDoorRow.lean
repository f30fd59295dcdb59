/-
  Operations by themselves, for regions by rely: a call by its contract, a zero laid, a row read, a row stored. Of no program.
-/
import Derived.Test.YtohicccbaenegaaDoorArr
import Derived.Test.YtohicccbaenegaaDoorRel
import Derived.Shelf.Abstract
set_option linter.unusedVariables false
namespace Go.Proofs.YtohicccbaenegaaDoor
open Go.RowKit

theorem wp_callf {P : Program} {o : Oper} {a : Act} {w : World} {K : Act → World → Prop} {Q : Exit → Act → World → Prop} (f : FuncId) (args : Array Operand) (tys : Array TypeId) (ho : o.op = .call { callee := .value (.func f), args := args, argTypes := tys })
    (hen : ∀ xs w, (callFunc f xs).run P w = .ok (.enter f xs) w) (xs : Array Value) (hxs : args.map a.eval = xs) (v : Value) {R : World → Prop} (h : Calls P f xs w fun e w' => e = .returned v ∧ R w') (hk : ∀ w', R w' → K (a.put o.dst v) w') : o.wp P a w K Q := by
  unfold Oper.wp execOp
  simp only [ho]
  simp [hxs, go_sem, hen]
  refine h.mono ?_
  rintro e w' ⟨rfl, hr⟩
  exact hk w' hr

theorem wp_alloc_zero {P : Program} {o : Oper} {a : Act} {w : World} {K : Act → World → Prop} {Q : Exit → Act → World → Prop} (t : TypeId) (ho : o.op = .alloc t)
    (cells : Array Value) (hz : (P.info? t).bind (fun i => i.zero.map (·.cells)) = some cells)
    (h : K (a.put o.dst (.pointer (some ⟨w.heap.size, 0, none⟩))) (w.alloc (.cells cells t))) : o.wp P a w K Q := by
  cases hi : P.info? t with
  | none => simp [hi] at hz
  | some i =>
    cases hz0 : i.zero with
    | none => simp [hi, hz0] at hz
    | some z =>
      simp only [hi, hz0, Option.bind_some, Option.map_some, Option.some.injEq] at hz
      subst hz
      unfold Oper.wp execOp
      simp [ho, Instr.alloc, zeroValue, typeInfo, hi, hz0, newVar, newRow, go_sem]
      exact h
theorem alloc3 (w : World) (A B C : Array Value) (ta tb tc : TypeId) :
    Row (((w.alloc (.cells A ta)).alloc (.cells B tb)).alloc (.cells C tc)) w.heap.size A ta ∧ Row (((w.alloc (.cells A ta)).alloc (.cells B tb)).alloc (.cells C tc)) (w.heap.size + 1) B tb ∧
      Row (((w.alloc (.cells A ta)).alloc (.cells B tb)).alloc (.cells C tc)) (w.heap.size + 1 + 1) C tc ∧ Below w.heap.size w (((w.alloc (.cells A ta)).alloc (.cells B tb)).alloc (.cells C tc)) ∧
      (((w.alloc (.cells A ta)).alloc (.cells B tb)).alloc (.cells C tc)).heap.size = w.heap.size + 3 := by
  refine ⟨((Row.made _ _ _).alloc _).alloc _, ?_, ?_, (((Below.refl _ _).alloc (Nat.le_refl _) _).alloc (by simp) _).alloc (by simp; omega) _, by simp⟩
  · have := (Row.made (w.alloc (.cells A ta)) B tb).alloc (.cells C tc)
    simpa using this
  · have := Row.made ((w.alloc (.cells A ta)).alloc (.cells B tb)) C tc
    simpa using this
theorem slotE {a : Act} {t : Tmp} {v : Value} (h : slot a t = v) : a.eval (.tmp t) = v := h
end Go.Proofs.YtohicccbaenegaaDoor

/-
  Over this translation: what regions do with items: a new one, one stored; what a region holds.
-/
import Derived.Test.YtelaamchafocpaaDoorYTii
import Derived.Test.YtelaamchafocpaaDoorQ1
set_option linter.unusedVariables false
namespace Go.Proofs.YtelaamchafocpaaDoor
open Go.RowKit

/-- What lies below stays. -/
structure HeldI (W0 : World) (w : World) : Prop where
  below : Below W0.heap.size W0 w
theorem HeldI.on {W0 w w' : World} (h : HeldI W0 w) (hb : Below w.heap.size w w') : HeldI W0 w' := ⟨below_step h.below hb⟩
theorem HeldI.onB {W0 w w' : World} (h : HeldI W0 w) (hb : Below W0.heap.size w w') : HeldI W0 w' := ⟨h.below.trans hb⟩
theorem HeldI.drew (w : World) : HeldI w { w with drawn := w.drawn + 1 } := ⟨(Below.refl _ _).drew⟩
/-- A new item, from block B on; an item in a box from block B on. -/
def FreshI (B : Nat) (w : World) (v : Value) : Prop := ∃ A, v = .pointer (some ⟨A, 0, none⟩) ∧ B ≤ A ∧ InBox w A zeroIt ∧ ∀ j, w.frozen? ⟨A, j, none⟩ = false
def BoxI (B : Nat) (w : World) (v : Value) (x : It) : Prop := ∃ A, v = .pointer (some ⟨A, 0, none⟩) ∧ B ≤ A ∧ InBox w A x
theorem FreshI.stays {B : Nat} {w w' : World} {v : Value} (h : FreshI B w v) (hb : Below w.heap.size w w') : FreshI B w' v := by
  obtain ⟨A, h1, h2, h3, h4⟩ := h
  exact ⟨A, h1, h2, h3.stays hb, fun j => ((bcell hb).2 _ j h3.2).trans (h4 j)⟩
theorem BoxI.stays {B : Nat} {w w' : World} {v : Value} {x : It} (h : BoxI B w v x) (hb : Below w.heap.size w w') : BoxI B w' v x := by
  obtain ⟨A, h1, h2, h3⟩ := h
  exact ⟨A, h1, h2, h3.stays hb⟩
theorem wp_alloc_item {o : Oper} {a : Act} {w : World} {K : Act → World → Prop} {Q : Exit → Act → World → Prop} (ho : o.op = .alloc 27)
    (h : K (a.put o.dst (.pointer (some ⟨w.heap.size, 0, none⟩))) (w.alloc (.cells #[.string ⟨#[]⟩, .bool false, .bool false, .string ⟨#[]⟩] 27))) : o.wp Tryd.prog a w K Q :=
  wp_alloc_zero 27 ho _ (by kernel_rfl) h
theorem freshI_new (w : World) (B : Nat) (hB : B ≤ w.heap.size) : FreshI B (w.alloc (.cells #[.string ⟨#[]⟩, .bool false, .bool false, .string ⟨#[]⟩] 27)) (.pointer (some ⟨w.heap.size, 0, none⟩)) :=
  ⟨_, rfl, hB, inBox_new w zeroIt _, fun j => World.frozen?_alloc_at (w := w) _ _ w.heap.size j rfl⟩
theorem wp_store_item {o : Oper} {a : Act} {w : World} {K : Act → World → Prop} {Q : Exit → Act → World → Prop} (p x : Operand) (ho : o.op = .store 27 p x)
    {B : Nat} {y : It} (hp : FreshI B w (a.eval p)) (hx : a.eval x = itV y)
    (h : ∀ w', Below B w w' → BoxI B w' (a.eval p) y → K (a.put o.dst undef) w') : o.wp Tryd.prog a w K Q := by
  obtain ⟨A, h1, h2, h3, h4⟩ := hp
  obtain ⟨c0, c1, c2, c3⟩ := h3.cells
  refine wp_skip (w' := (((w.setCell ⟨A, 0, none⟩ (.string y.p)).setCell ⟨A, 1, none⟩ (.bool y.d)).setCell ⟨A, 2, none⟩ (.bool y.e)).setCell ⟨A, 3, none⟩ (.string y.c)) ?_ (h _ (below_set (Below.refl _ _) h2 y) ⟨A, h1, h2, cells_set h3 y⟩)
  unfold execOp
  rw [ho]
  simp only [h1, hx]
  go_simp
end Go.Proofs.YtelaamchafocpaaDoor

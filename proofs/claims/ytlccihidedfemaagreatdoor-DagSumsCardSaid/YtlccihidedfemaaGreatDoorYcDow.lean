/-
  Contracts over this translation: the document's file (a file's objects are added).
-/
import Derived.Test.YtlccihidedfemaaGreatDoorQc5
import Derived.Test.YtlccihidedfemaaGreatDoorQc1
import Derived.Test.YtlccihidedfemaaGreatDoorYcCrf
import Derived.Test.YtlccihidedfemaaGreatDoorYcNdf
set_option linter.unusedVariables false
namespace Go.Proofs.YtlccihidedfemaaGreatDoor
open Go.RowKit
attribute [local go_sem] Oper.semAt_some
structure HeldM (W0 : World) (n : Nat) (w : World) : Prop where
 below : Below W0.heap.size W0 w
 size : n ≤ w.heap.size
theorem HeldM.on {W0 w w' : World} {n : Nat} (h : HeldM W0 n w) (hb : Below w.heap.size w w') : HeldM W0 n w' := ⟨below_step h.below hb, Nat.le_trans h.size hb.size⟩
def OnePt (w : World) (v : Value) (x : Pt) : Prop := ∃ A, v = .slice (some ⟨A, 0, none⟩) 1 1 ∧ w.heap[A]? = some (.cells #[.string x.k, .int .i64 x.n] 74 (0, 0))
theorem OnePt.stays {w w' : World} {v : Value} {x : Pt} (h : OnePt w v x) (hb : Below w.heap.size w w') : OnePt w' v x := by
 obtain ⟨A, h1, h2⟩ := h
 exact ⟨A, h1, (hb.block A (Array.getElem?_eq_some_iff.1 h2).1).trans h2⟩
theorem onePt_new (w : World) (x : Pt) : OnePt (w.alloc (.cells #[.string x.k, .int .i64 x.n] 74)) (.slice (some ⟨w.heap.size, 0, none⟩) 1 1) x := ⟨_, rfl, heap_alloc_new w _⟩
theorem wp_build_part {o : Oper} {a : Act} {K : Act → World → Prop} {Q : Exit → Act → World → Prop} {w : World} (p : Nat) (ho : o.op = .buildSlice 41 1 #[(0, .tmp p)]) {x : Pt}
  (hx : slot a p = .agg #[.string x.k, .int .i64 x.n]) (hk : K (a.put o.dst (.slice (some ⟨w.heap.size, 0, none⟩) 1 1)) (w.alloc (.cells #[.string x.k, .int .i64 x.n] 74))) : o.wp Tryz.prog a w K Q := by
 refine wp_value (v := .slice (some ⟨w.heap.size, 0, none⟩) 1 1) (w' := w.alloc (.cells #[.string x.k, .int .i64 x.n] 74)) ?_ hk
 have f := slot_at hx
 unfold execOp
 rw [ho]
 go_simp
theorem wp_append_one_part {o : Oper} {a : Act} {B : Nat} {w : World} {K : Act → World → Prop} {Q : Exit → Act → World → Prop} (s x : Nat)
  (ho : o.op = .call { callee := .builtin .append, args := #[.tmp s, .tmp x], argTypes := #[41, 41] })
  {v : Value} {M : List Pt} {y : Pt} (hown : OwnP B w v M) (hBs : B ≤ w.heap.size) (hs : a.eval (.tmp s) = v) (hx : OnePt w (slot a x) y) (hlen : M.length ≤ 1000000)
  (h : ∀ v' w', OwnP B w' v' (M ++ [y]) → w.grownBy w' v.ownBlock → K (a.put o.dst v') w') : o.wp Tryz.prog a w K Q := by
 obtain ⟨i0, hi, hz0, hz1, hz2⟩ := info_parts infoPart
 obtain ⟨A, hx1, hx2⟩ := hx
 have hr : Row w A #[.string y.k, .int .i64 y.n] 74 := hx2
 refine wp_append_own w (.tmp s) (.tmp x) 41 ho B 74 i0 (ptV zeroPt) 2 24 Tryz.underlying41 hi hz0 hz1 hz2 rfl (by decide) v M.length (ptCells M) hs hown ⟨A, 0, none⟩ 1 1 (ptC y) (slotE hx1) rfl ?_ ?_ ?_ ?_ hBs ?_
 ·intro j u hj
  have := hr.cell j
  rw [add_plain', Nat.zero_add, this]
  simpa using hj
 ·intro u hu; simp at hu; rcases hu with rfl | rfl <;> rfl
 ·unfold maxLen; omega
 ·omega
 ·intro v' w' hown' hg _
  refine h v' w' ?_ hg
  unfold OwnP
  rw [List.length_append, ptCells_app]
  have : ptCells [y] = ptC y := List.append_nil _
  rw [this]; exact hown'
def TxtC (w : World) (tb to : Nat) (Ps : List (List UInt8)) : Prop := ∀ i (h : i < Ps.length), w.cell? ⟨tb, to + i, none⟩ = some (.string ⟨Ps[i].toArray⟩)
theorem TxtC.stays {w w' : World} {tb to : Nat} {Ps : List (List UInt8)} (h : TxtC w tb to Ps) (hl : tb < w.heap.size) (hb : Below w.heap.size w w') : TxtC w' tb to Ps := fun i hi => (hb.cell (p := ⟨tb, to + i, none⟩) hl).trans (h i hi)
theorem TxtC.grown {w w' : World} {tb to : Nat} {Ps : List (List UInt8)} {row : Option Nat} (h : TxtC w tb to Ps) (hl : tb < w.heap.size) (hg : w.grownBy w' row) (hr : row ≠ some tb) : TxtC w' tb to Ps := fun i hi => by
 rw [World.cell?_of_block (hg.block tb hl (fun e => hr e.symm))]; exact h i hi
theorem TxtC.set {w : World} {tb to bn : Nat} {Ps : List (List UInt8)} (h : TxtC w tb to Ps) {a : Option Addr} {n c : Nat} (hc : w.cell? ⟨bn, 2, none⟩ = some (.slice a n c)) (u : Value) : TxtC (w.setCell ⟨bn, 2, none⟩ u) tb to Ps := fun i hi => by
 rw [World.cell?_setCell_other _ _ _ _ (fun e => by
  have := h i hi
  first
   | (rw [e, hc] at this; cases this)
   | (rw [← e, hc] at this; cases this))]
 exact h i hi
end Go.Proofs.YtlccihidedfemaaGreatDoor

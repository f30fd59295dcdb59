/-
  What stands while the document's rawDir runs.
-/
import Derived.Test.YtlccihidedfemaaGreatDoorYbDok
import Derived.Test.YtlccihidedfemaaGreatDoorYbDox
set_option linter.unusedVariables false
namespace Go.Proofs.YtlccihidedfemaaGreatDoor
open Go.RowKit
def RetRaw (W0 : World) (M : List (List UInt8)) (w : World) (e : Ending) (w' : World) : Prop := ∃ v', e = .returned v' ∧ OwnTxt W0 w' v' M ∧ Kept W0.heap.size w w'
def RawAt (mn av b mx : Nat) (I : List It) (k : Nat) : Prop := ∀ (dp : Nat), dp + k = 9 → ∀ (W0 : World) (v iv : Value) (M : List (List UInt8)) (d : ByteArray) (w : World), Below W0.heap.size W0 w → OwnTxt W0 w v M → IsItems W0 iv I → M.length + (seqD (cutN mn b mx) I k d.data.toList).length ≤ 700000 →
 Calls Tryz.prog 46 #[pV mn av mx, iv, v, .string d, .int .i64 dp] w (RetRaw W0 (M ++ (seqD (cutN mn b mx) I k d.data.toList).map wrN) w)
structure RawIn (w W0 : World) (P : Array Value) (bn Bs : Nat) (wr : World) (lv : Value) (MM : List (List UInt8)) (vp : Value) (es : List En) : Prop where
 txt : OwnTxt W0 wr lv MM
 node : Row wr bn #[.int .i64 3, .string ⟨#[]⟩, .slice none 0 0, vp] 44
 own : OwnE Bs wr vp es
 params : Row wr w.heap.size P 23
 kept : Kept W0.heap.size w wr
 size : Bs ≤ wr.heap.size
 below : Below W0.heap.size W0 wr
theorem RawIn.stays {w W0 : World} {P : Array Value} {bn Bs : Nat} {wr : World} {lv : Value} {MM : List (List UInt8)} {vp : Value} {es : List En} (h : RawIn w W0 P bn Bs wr lv MM vp es) {w' : World} (hb : Below wr.heap.size wr w') : RawIn w W0 P bn Bs w' lv MM vp es :=
 ⟨h.txt.stays hb, h.node.step hb, h.own.stays hb, h.params.step hb, h.kept.step hb, Nat.le_trans h.size hb.size, below_step h.below hb⟩
theorem RawIn.call {w W0 : World} {P : Array Value} {bn Bs : Nat} {wr : World} {lv : Value} {MM : List (List UInt8)} {vp : Value} {es : List En} (h : RawIn w W0 P bn Bs wr lv MM vp es) {w' : World} (hk : Kept W0.heap.size wr w') {lv' : Value} {MM' : List (List UInt8)} (ho : OwnTxt W0 w' lv' MM') : RawIn w W0 P bn Bs w' lv' MM' vp es :=
 ⟨ho, row_kept h.node (by decide) hk, h.own.kept hk, row_kept h.params (by decide) hk, h.kept.trans hk, Nat.le_trans h.size hk.size, hk.below h.below h.below.size⟩
theorem RawIn.text {w W0 : World} {P : Array Value} {bn Bs : Nat} {wr : World} {lv : Value} {MM : List (List UInt8)} {vp : Value} {es : List En} (h : RawIn w W0 P bn Bs wr lv MM vp es) {w' : World} (hg : wr.grownBy w' lv.ownBlock) {lv' : Value} {MM' : List (List UInt8)} (ho : OwnTxt W0 w' lv' MM') : RawIn w W0 P bn Bs w' lv' MM' vp es :=
 h.call (Kept.grown hg fun g e => h.txt.row e) ho
theorem RawIn.other {w W0 : World} {P : Array Value} {bn Bs : Nat} {wr : World} {lv : Value} {MM : List (List UInt8)} {vp : Value} {es : List En} (h : RawIn w W0 P bn Bs wr lv MM vp es) {w' : World} {row : Option Nat} (hg : wr.grownBy w' row) (hw : W0.heap.size ≤ w.heap.size)
  (hr : ∀ g, row = some g → w.heap.size < g ∧ bn ≠ g ∧ vp.ownBlock ≠ some g ∧ ∃ xs T, Row wr g xs T ∧ T ≠ 9) : RawIn w W0 P bn Bs w' lv MM vp es := by
 refine ⟨?_, ?_, ?_, ?_, h.kept.later hg (fun g e => Nat.le_of_lt (hr g e).1), Nat.le_trans h.size hg.size, h.below.grown hg h.below.size (fun g e => by have := (hr g e).1; omega)⟩
 ·cases row with
  | none => exact World.ownsRow.kept h.txt hg (by
    cases hv : lv.ownBlock with
    | none => exact .inl rfl
    | some k => exact .inr (fun e => by cases e))
  | some g =>
   obtain ⟨_, _, _, xs, T, h4, h5⟩ := hr g rfl
   exact h.txt.turn h4 h5 hg
 ·exact (hg.block bn h.node.lt (fun e => (hr bn e.symm).2.1 rfl)).trans h.node
 ·exact World.ownsRow.kept h.own hg (by
   cases hv : vp.ownBlock with
   | none => exact .inl rfl
   | some k => exact .inr (fun e => (hr k e.symm).2.2.1 hv))
 ·exact (hg.block w.heap.size h.params.lt (fun e => by have := (hr _ e.symm).1; omega)).trans h.params
theorem RawIn.added {w W0 : World} {P : Array Value} {bn Bs : Nat} {wr w' : World} {lv : Value} {MM : List (List UInt8)} {vp v' : Value} {es es' : List En} (h : RawIn w W0 P bn Bs wr lv MM vp es) (hg : wr.grownBy w' vp.ownBlock) (ho : OwnE Bs w' v' es') (hbn : bn < Bs) (hw : w.heap.size < bn) (hW : W0.heap.size ≤ w.heap.size) :
  RawIn w W0 P bn Bs (w'.setCell ⟨bn, 3, none⟩ v') lv MM v' es' := by
 have hlt := fun g (e : vp.ownBlock = some g) => (World.ownsRow.lt h.own g e).1
 have hn := row_grownE h.node h.own hg hbn
 have ht : OwnTxt W0 w' lv MM := by
  cases hv : vp.ownBlock with
  | none =>
   rw [hv] at hg
   exact World.ownsRow.kept h.txt hg (by
    cases hv2 : lv.ownBlock with
    | none => exact .inl rfl
    | some k => exact .inr (fun e => by cases e))
  | some g =>
   rw [hv] at hg
   obtain ⟨xs, hx⟩ := h.own.row hv
   exact h.txt.turn hx (by decide) hg
 refine ⟨ht.turn hn (by decide) (grownBy_set w' bn 3 v'), by simpa using hn.set 3 v', ho.setBelow (a := ⟨bn, 3, none⟩) hbn v', ?_, ?_, ?_, ?_⟩
 ·exact (row_grownE h.params h.own hg (by omega)).other ⟨bn, 3, none⟩ v' (show w.heap.size ≠ bn by omega)
 ·exact (h.kept.later hg (fun g e => by have := hlt g e; omega)).later (grownBy_set w' bn 3 v') (fun g e => by cases e; omega)
 ·have := h.size; have := hg.size; simp [World.setCell]; omega
 ·exact (h.below.grown hg h.below.size (fun g e => by have := hlt g e; omega)).setCell (p := ⟨bn, 3, none⟩) (show W0.heap.size ≤ bn by omega) v'
end Go.Proofs.YtlccihidedfemaaGreatDoor

/-
  Over this translation: what stands while dag's dir runs.
-/
import Derived.Test.YtlccihidedfemaaGreatDoorYaDtu
import Derived.Test.YtlccihidedfemaaGreatDoorQa2
set_option linter.unusedVariables false
namespace Go.Proofs.YtlccihidedfemaaGreatDoor
open Go Go.RowKit
attribute [local go_sem] Oper.semAt_some
theorem loop_ne {X : World} {l b : Nat} {o : Loop} {xs : Array Value} {T : TypeId} (h : X.heap[l]? = some (.loop o)) (hr : Row X b xs T) : b ≠ l := fun e => by
  subst e
  have := h.symm.trans (show X.heap[b]? = _ from hr)
  cases this
theorem row_putL {X : World} {l b : Nat} {o o' : Loop} {xs : Array Value} {T : TypeId} (h : X.heap[l]? = some (.loop o)) (hr : Row X b xs T) : Row (X.putObj l (.loop o')) b xs T := (World.putObj_heap_other (loop_ne h hr)).trans hr
theorem owns_putL {X : World} {l B k : Nat} {o o' : Loop} {T : TypeId} {v : Value} {n : Nat} {cs : List Value} (h : X.heap[l]? = some (.loop o)) (hw : X.ownsRow B T k v n cs) : (X.putObj l (.loop o')).ownsRow B T k v n cs :=
  World.ownsRow.kept hw (grownBy_putObj' X l (.loop o')) (by
    rcases hw.2 with ⟨rfl, _⟩ | ⟨g, cap, cur, rfl, _, h5, _⟩
    · exact .inl rfl
    · exact .inr fun e => by
        have e' : l = g := by cases e; rfl
        subst e'
        have := h.symm.trans h5
        cases this)
theorem Bld.putL {W0 : World} {Bb : Nat} {p : Nat × Nat × Nat} {X : World} {R : List It} {M : List Ob} {vR vB : Value} {l : Nat} {o o' : Loop} (h : Bld W0 Bb p X R M vR vB) (hl : X.heap[l]? = some (.loop o)) (hw : W0.heap.size ≤ l) : Bld W0 Bb p (X.putObj l (.loop o')) R M vR vB :=
  ⟨row_putL hl h.row, h.rest, owns_putL hl h.built, h.from_, h.below.grown (grownBy_putObj' X l (.loop o')) h.below.size (fun g e => by cases e; exact hw)⟩
theorem Bld.pop {W0 : World} {Bb : Nat} {p : Nat × Nat × Nat} {X : World} {R R' : List It} {M : List Ob} {vR vB v : Value} (h : Bld W0 Bb p X R M vR vB) (hv : IsItems W0 v R') : Bld W0 Bb p (X.setCell ⟨Bb, 0, none⟩ v) R' M v vB :=
  ⟨h.row.set 0 v, hv, World.ownsRow.kept h.built (grownBy_set X Bb 0 v) (by
    cases hb : vB.ownBlock with
    | none => exact .inl rfl
    | some k => exact .inr fun e => h.ne (by rw [hb, e])), h.from_, h.below.setCell (p := ⟨Bb, 0, none⟩) h.from_ v⟩
structure DirF (W0 : World) (Bb nb bb it : Nat) (d : ByteArray) (w X : World) : Prop where
  bk : Bk W0.heap.size Bb w X
  box : Row X bb #[.pointer (some ⟨Bb, 0, none⟩)] 55
  rt : Row X it #[.pointer (some ⟨Bb, 0, none⟩)] 126
  rd : Row X (it + 1) #[.string d] 9
  fr : W0.heap.size ≤ w.heap.size ∧ Bb < w.heap.size ∧ w.heap.size ≤ bb ∧ bb < it ∧ w.heap.size ≤ nb ∧ nb < it
theorem DirF.stays {W0 : World} {Bb nb bb it : Nat} {d : ByteArray} {w X Y : World} (h : DirF W0 Bb nb bb it d w X) (hb : Below X.heap.size X Y) : DirF W0 Bb nb bb it d w Y := ⟨h.bk.step hb, h.box.step hb, h.rt.step hb, h.rd.step hb, h.fr⟩
theorem DirF.putL {W0 : World} {Bb nb bb it : Nat} {d : ByteArray} {w X : World} {l : Nat} {o o' : Loop} (h : DirF W0 Bb nb bb it d w X) (hl : X.heap[l]? = some (.loop o)) (hw : w.heap.size ≤ l) : DirF W0 Bb nb bb it d w (X.putObj l (.loop o')) :=
  ⟨h.bk.later (grownBy_putObj' X l (.loop o')) (fun g e => by cases e; exact hw), row_putL hl h.box, row_putL hl h.rt, row_putL hl h.rd, h.fr⟩
theorem DirF.pop {W0 : World} {Bb nb bb it : Nat} {d : ByteArray} {w X : World} (h : DirF W0 Bb nb bb it d w X) (v : Value) : DirF W0 Bb nb bb it d w (X.setCell ⟨Bb, 0, none⟩ v) := by
  obtain ⟨h1, h2, h3, h4, h5, h6⟩ := h.fr
  exact ⟨h.bk.trans (Bk.set v), h.box.other ⟨Bb, 0, none⟩ v (show bb ≠ Bb by omega), h.rt.other ⟨Bb, 0, none⟩ v (show it ≠ Bb by omega), h.rd.other ⟨Bb, 0, none⟩ v (show it + 1 ≠ Bb by omega), h.fr⟩
def DirN (nb it : Nat) (es : List En) (X : World) : Prop := ∃ ve, Row X nb #[.int .i64 3, .string ⟨#[]⟩, .slice none 0 0, ve] 44 ∧ OwnE (it + 2) X ve es
theorem DirN.stays {nb it : Nat} {es : List En} {X Y : World} (h : DirN nb it es X) (hb : Below X.heap.size X Y) : DirN nb it es Y := by
  obtain ⟨ve, h1, h2⟩ := h
  exact ⟨ve, h1.step hb, h2.stays hb⟩
theorem DirN.putL {nb it : Nat} {es : List En} {X : World} {l : Nat} {o o' : Loop} (h : DirN nb it es X) (hl : X.heap[l]? = some (.loop o)) : DirN nb it es (X.putObj l (.loop o')) := by
  obtain ⟨ve, h1, h2⟩ := h
  exact ⟨ve, row_putL hl h1, owns_putL hl h2⟩
theorem DirN.bk {nb it B Bb : Nat} {es : List En} {X Y : World} (h : DirN nb it es X) (hk : Bk B Bb X Y) (hn : nb ≠ Bb) (hi : Bb < it) : DirN nb it es Y := by
  obtain ⟨ve, h1, h2⟩ := h
  exact ⟨ve, hk.row h1 (by decide) hn, h2.bk hk (fun e => by have := (World.ownsRow.lt h2 Bb e).1; omega)⟩
theorem DirN.pop {nb it Bb : Nat} {es : List En} {X : World} (h : DirN nb it es X) (hn : nb ≠ Bb) (hi : Bb < it) (v : Value) : DirN nb it es (X.setCell ⟨Bb, 0, none⟩ v) := h.bk (B := 0) (Bb := Bb) (Bk.set v) hn hi
def DirI (W0 : World) (Bb mn av mx : Nat) (c : List UInt8 → Nat) (I : List It) (k nb bb it : Nat) (d : ByteArray) (Post : List It) (M : List Ob) (w : World) (R : List It) (X : World) : Prop :=
  DirF W0 Bb nb bb it d w X ∧ ∃ C D : List It, inD I d.data.toList = C ++ D ∧ R = (D.flatMap fun y => y :: blkT I y.t) ++ Post ∧
    (∃ vR vB, Bld W0 Bb (mn, av, mx) X R (M ++ (C.flatMap (subS c I k)).map obN) vR vB) ∧ DirN nb it (C.map fun x => entE x (keyN (subN c I k x))) X
def DirX (W0 : World) (Bb mn av mx : Nat) (c : List UInt8 → Nat) (I : List It) (k nb bb it : Nat) (d : ByteArray) (Post : List It) (M : List Ob) (w : World) (x : It) (R : List It) (X : World) : Prop :=
  DirF W0 Bb nb bb it d w X ∧ (dirS x.t = d.data.toList → ∃ C D : List It, inD I d.data.toList = C ++ x :: D ∧ R = blkT I x.t ++ ((D.flatMap fun y => y :: blkT I y.t) ++ Post) ∧
    (∃ vR vB, Bld W0 Bb (mn, av, mx) X R (M ++ (C.flatMap (subS c I k)).map obN) vR vB) ∧ DirN nb it (C.map fun x => entE x (keyN (subN c I k x))) X)
section
variable {W0 : World} {Bb mn av mx : Nat} {c : List UInt8 → Nat} {I : List It} {k nb bb it : Nat} {d : ByteArray} {Post : List It} {M : List Ob} {w : World}
theorem dirI_stays {R : List It} {X Y : World} (h : DirI W0 Bb mn av mx c I k nb bb it d Post M w R X) (hb : Below X.heap.size X Y) : DirI W0 Bb mn av mx c I k nb bb it d Post M w R Y := by
  obtain ⟨h1, C, D, h2, h3, ⟨vR, vB, h4⟩, h5⟩ := h
  exact ⟨h1.stays hb, C, D, h2, h3, ⟨vR, vB, h4.stays hb⟩, h5.stays hb⟩
theorem dirX_stays {x : It} {R : List It} {X Y : World} (h : DirX W0 Bb mn av mx c I k nb bb it d Post M w x R X) (hb : Below X.heap.size X Y) : DirX W0 Bb mn av mx c I k nb bb it d Post M w x R Y := by
  obtain ⟨h1, hh⟩ := h
  refine ⟨h1.stays hb, fun hd => ?_⟩
  obtain ⟨C, D, h2, h3, ⟨vR, vB, h4⟩, h5⟩ := hh hd
  exact ⟨C, D, h2, h3, ⟨vR, vB, h4.stays hb⟩, h5.stays hb⟩
theorem dirI_put {R : List It} {X : World} {l : Nat} {o o' : Loop} (h : DirI W0 Bb mn av mx c I k nb bb it d Post M w R X) (hw : w.heap.size ≤ l) (hl : X.heap[l]? = some (.loop o)) : DirI W0 Bb mn av mx c I k nb bb it d Post M w R (X.putObj l (.loop o')) := by
  obtain ⟨h1, C, D, h2, h3, ⟨vR, vB, h4⟩, h5⟩ := h
  exact ⟨h1.putL hl hw, C, D, h2, h3, ⟨vR, vB, h4.putL hl (Nat.le_trans h1.fr.1 hw)⟩, h5.putL hl⟩
theorem dirX_put {x : It} {R : List It} {X : World} {l : Nat} {o o' : Loop} (h : DirX W0 Bb mn av mx c I k nb bb it d Post M w x R X) (hw : w.heap.size ≤ l) (hl : X.heap[l]? = some (.loop o)) : DirX W0 Bb mn av mx c I k nb bb it d Post M w x R (X.putObj l (.loop o')) := by
  obtain ⟨h1, hh⟩ := h
  refine ⟨h1.putL hl hw, fun hd => ?_⟩
  obtain ⟨C, D, h2, h3, ⟨vR, vB, h4⟩, h5⟩ := hh hd
  exact ⟨C, D, h2, h3, ⟨vR, vB, h4.putL hl (Nat.le_trans h1.fr.1 hw)⟩, h5.putL hl⟩
theorem dirI_pop (F : TFit I) (hP : ∀ y ∈ Post, y ∈ I) (ho : OffT d.data.toList Post) {x : It} {R : List It} {X : World} {v : Value} (h : DirI W0 Bb mn av mx c I k nb bb it d Post M w (x :: R) X) (hv : IsItems W0 v R) : DirX W0 Bb mn av mx c I k nb bb it d Post M w x R (X.setCell ⟨Bb, 0, none⟩ v) := by
  obtain ⟨h1, C, D, h2, h3, ⟨vR, vB, h4⟩, h5⟩ := h
  obtain ⟨f1, f2, f3, f4, f5, f6⟩ := h1.fr
  refine ⟨h1.pop v, fun hd => ?_⟩
  cases D with
  | nil =>
    have h3' : x :: R = Post := h3
    exact absurd hd (off_dir F ho (y := x) (by rw [← h3']; rfl) (hP x (by rw [← h3']; simp)))
  | cons y D =>
    simp only [List.flatMap_cons, List.cons_append, List.append_assoc] at h3
    obtain ⟨rfl, h3⟩ := List.cons.inj h3
    exact ⟨C, D, h2, h3, ⟨_, vB, h4.pop hv⟩, h5.pop (by omega) (by omega) v⟩
theorem dirI_good (hfew : ∀ x ∈ I, x.p.size ≤ 400) (hP : ∀ y ∈ Post, y ∈ I) {R : List It} {X : World} (h : DirI W0 Bb mn av mx c I k nb bb it d Post M w R X) : TakeOk W0 Bb it (it + 1) d R X := by
  obtain ⟨h1, C, D, h2, h3, ⟨vR, vB, h4⟩, h5⟩ := h
  refine ⟨⟨vR, h4.cells.1, h4.rest⟩, h4.below, h4.row.free 0, h1.rt.cell 0, h1.rd.cell 0, fun x hx => hfew x ?_⟩
  rw [h3] at hx
  rcases List.mem_append.1 hx with hx | hx
  · obtain ⟨y, hy, hxy⟩ := List.mem_flatMap.1 hx
    rcases List.mem_cons.1 hxy with e | hxy
    · subst e
      have : x ∈ inD I d.data.toList := by rw [h2]; exact List.mem_append_right _ hy
      exact (mem_inD.1 this).1
    · exact (mem_blk.1 hxy).1
  · exact hP x hx
end
end Go.Proofs.YtlccihidedfemaaGreatDoor

/-
  Contracts over this translation: dag's dir.
-/
import Derived.Test.YtlccihidedfemaaGreatDoorQa6
set_option linter.unusedVariables false
namespace Go.Proofs.YtlccihidedfemaaGreatDoor
open Go Go.RowKit
attribute [local go_sem] Oper.semAt_some
def OneEn (w : World) (v : Value) (x : En) : Prop := ∃ A, v = .slice (some ⟨A, 0, none⟩) 1 1 ∧ w.heap[A]? = some (.cells #[.string x.m, .int .i64 x.kd, .bool x.x, .string x.k] 78 (0, 0))
theorem OneEn.stays {w w' : World} {v : Value} {x : En} (h : OneEn w v x) (hb : Below w.heap.size w w') : OneEn w' v x := by
  obtain ⟨A, h1, h2⟩ := h
  exact ⟨A, h1, (hb.block A (Array.getElem?_eq_some_iff.1 h2).1).trans h2⟩
theorem oneEn_new (w : World) (x : En) : OneEn (w.alloc (.cells #[.string x.m, .int .i64 x.kd, .bool x.x, .string x.k] 78)) (.slice (some ⟨w.heap.size, 0, none⟩) 1 1) x := ⟨_, rfl, heap_alloc_new w _⟩
theorem wp_build_en {o : Oper} {a : Act} {K : Act → World → Prop} {Q : Exit → Act → World → Prop} {w : World} (p : Nat) (ho : o.op = .buildSlice 42 1 #[(0, .tmp p)]) {x : En}
    (hx : slot a p = .agg #[.string x.m, .int .i64 x.kd, .bool x.x, .string x.k]) (hk : K (a.put o.dst (.slice (some ⟨w.heap.size, 0, none⟩) 1 1)) (w.alloc (.cells #[.string x.m, .int .i64 x.kd, .bool x.x, .string x.k] 78))) : o.wp Tryz.prog a w K Q := by
  refine wp_value (v := .slice (some ⟨w.heap.size, 0, none⟩) 1 1) (w' := w.alloc (.cells #[.string x.m, .int .i64 x.kd, .bool x.x, .string x.k] 78)) ?_ hk
  have f := slot_at hx
  unfold execOp
  rw [ho]
  go_simp
theorem wp_append_one_en {o : Oper} {a : Act} {B : Nat} {w : World} {K : Act → World → Prop} {Q : Exit → Act → World → Prop} (s x : Nat)
    (ho : o.op = .call { callee := .builtin .append, args := #[.tmp s, .tmp x], argTypes := #[42, 42] })
    {v : Value} {M : List En} {y : En} (hown : OwnE B w v M) (hBs : B ≤ w.heap.size) (hs : a.eval (.tmp s) = v) (hx : OneEn w (slot a x) y) (hlen : M.length ≤ 1000000)
    (h : ∀ v' w', OwnE B w' v' (M ++ [y]) → w.grownBy w' v.ownBlock → K (a.put o.dst v') w') : o.wp Tryz.prog a w K Q := by
  obtain ⟨i0, hi, hz0, hz1, hz2⟩ := info_parts infoEntry
  obtain ⟨A, hx1, hx2⟩ := hx
  have hr : Row w A #[.string y.m, .int .i64 y.kd, .bool y.x, .string y.k] 78 := hx2
  refine wp_append_own w (.tmp s) (.tmp x) 42 ho B 78 i0 (enV zeroEn) 4 48 Tryz.underlying42 hi hz0 hz1 hz2 rfl (by decide) v M.length (enCells M) hs hown ⟨A, 0, none⟩ 1 1 (enC y) (slotE hx1) rfl ?_ ?_ ?_ ?_ hBs ?_
  · intro j u hj
    have := hr.cell j
    rw [add_plain', Nat.zero_add, this]
    simpa using hj
  · intro u hu; simp at hu; rcases hu with rfl | rfl | rfl | rfl <;> rfl
  · unfold maxLen; omega
  · omega
  · intro v' w' hown' hg _
    refine h v' w' ?_ hg
    unfold OwnE
    rw [List.length_append, enCells_app]
    have : enCells [y] = enC y := List.append_nil _
    rw [this]; exact hown'
theorem calls_built {f : FuncId} {args : Array Value} {W0 : World} {Bb : Nat} {p : Nat × Nat × Nat} {R : List It} {S : List Ob} {v : Value} {w : World} (h : Calls Tryz.prog f args w (Built W0 Bb p R S v w)) : Calls Tryz.prog f args w fun e w' => ∃ u, e = .returned u ∧ (u = v ∧ ∃ vR vB, Bld W0 Bb p w' R S vR vB ∧ Bk W0.heap.size Bb w w') :=
  h.mono fun e w' hh => by obtain ⟨h1, vR, vB, h2, h3⟩ := hh; exact ⟨v, h1, rfl, vR, vB, h2, h3⟩
theorem keeps_bk {B Bb : Nat} {w w' : World} {xs : Array Value} {T : TypeId} (h : Bk B Bb w w') (hr : Row w Bb xs T) : KeepsOthers w w' :=
  ⟨h.size, fun k o hk ho => h.obj hk (fun ys t z e => by subst e; cases ho) (fun e => by subst e; have := (show w.heap[k]? = _ from hr).symm.trans hk; cases this; cases ho)⟩
theorem keeps_app {B : Nat} {w w' : World} {v : Value} {es : List En} (hg : w.grownBy w' v.ownBlock) (ho : OwnE B w v es) : KeepsOthers w w' :=
  KeepsOthers.of_grownBy hg fun j o e hj => by
    obtain ⟨xs, hx⟩ := ho.row e
    have := (show w.heap[j]? = _ from hx).symm.trans hj
    cases this; rfl
def diR (W0 w0 : World) (Bb nb it : Nat) (ve : Value) (i : Nat) (w w' : World) : Prop :=
  (W0.heap.size ≤ nb ∧ nb < it ∧ Bb < it) ∧ if i = 4 then Bk W0.heap.size Bb w w'
  else if i = 6 then w.grownBy w' ve.ownBlock ∧ ∀ g, ve.ownBlock = some g → it + 2 ≤ g ∧ ∃ xs, Row w g xs 78
  else ∃ u xs, Row w nb xs 44 ∧ w' = w.setCell ⟨nb, 3, none⟩ u
section
variable {W0 w0 : World} {Bb nb it : Nat} {ve : Value} {w w' : World}
theorem diR_call (h : diR W0 w0 Bb nb it ve 4 w w') : Bk W0.heap.size Bb w w' := by have h := h.2; rwa [if_pos rfl] at h
theorem diR_call' (hf : W0.heap.size ≤ nb ∧ nb < it ∧ Bb < it) (h : Bk W0.heap.size Bb w w') : diR W0 w0 Bb nb it ve 4 w w' := ⟨hf, by rwa [if_pos rfl]⟩
theorem diR_app (h : diR W0 w0 Bb nb it ve 6 w w') : w.grownBy w' ve.ownBlock ∧ ∀ g, ve.ownBlock = some g → it + 2 ≤ g ∧ ∃ xs, Row w g xs 78 := by have h := h.2; rwa [if_neg (by decide), if_pos rfl] at h
theorem diR_app' {es : List En} (hf : W0.heap.size ≤ nb ∧ nb < it ∧ Bb < it) (h : w.grownBy w' ve.ownBlock) (ho : OwnE (it + 2) w ve es) : diR W0 w0 Bb nb it ve 6 w w' := by
  refine ⟨hf, ?_⟩; rw [if_neg (by decide), if_pos rfl]; exact ⟨h, fun g hg => ⟨(World.ownsRow.lt ho g hg).1, ho.row hg⟩⟩
theorem diR_set (h : diR W0 w0 Bb nb it ve 8 w w') : ∃ u xs, Row w nb xs 44 ∧ w' = w.setCell ⟨nb, 3, none⟩ u := by have h := h.2; rwa [if_neg (by decide), if_neg (by decide)] at h
theorem diR_set' {xs : Array Value} (hf : W0.heap.size ≤ nb ∧ nb < it ∧ Bb < it) (hr : Row w nb xs 44) (u : Value) : diR W0 w0 Bb nb it ve 8 w (w.setCell ⟨nb, 3, none⟩ u) := by
  refine ⟨hf, ?_⟩; rw [if_neg (by decide), if_neg (by decide)]; exact ⟨u, xs, hr, rfl⟩
theorem diR_own {B : Nat} {v : Value} {es : List En} (h : diR W0 w0 Bb nb it ve 8 w w') (hU : OwnE B w v es) (hb : nb < B) : OwnE B w' v es := by
  obtain ⟨u, xs, _, rfl⟩ := diR_set h
  exact hU.setBelow (a := ⟨nb, 3, none⟩) hb u
end
theorem DirF.bkk {W0 w0 w w' : World} {Bb nb bb it : Nat} {d : ByteArray} (h : DirF W0 Bb nb bb it d w0 w) (hk : Bk W0.heap.size Bb w w') : DirF W0 Bb nb bb it d w0 w' := by
  obtain ⟨f1, f2, f3, f4, f5, f6⟩ := h.fr
  exact ⟨h.bk.trans hk, hk.row h.box (by decide) (by omega), hk.row h.rt (by decide) (by omega), hk.row h.rd (by decide) (by omega), h.fr⟩
theorem DirF.app {W0 w0 w w' : World} {Bb nb bb it : Nat} {d : ByteArray} {r : Option Nat} (h : DirF W0 Bb nb bb it d w0 w) (hg : w.grownBy w' r ∧ ∀ g, r = some g → it + 2 ≤ g ∧ ∃ xs, Row w g xs 78) : DirF W0 Bb nb bb it d w0 w' := by
  obtain ⟨f1, f2, f3, f4, f5, f6⟩ := h.fr
  obtain ⟨hg, hr⟩ := hg
  exact ⟨h.bk.later hg (fun g e => by have := (hr g e).1; omega), (hg.block bb h.box.lt (fun e => by have := (hr bb e.symm).1; omega)).trans h.box, (hg.block it h.rt.lt (fun e => by have := (hr it e.symm).1; omega)).trans h.rt, (hg.block (it + 1) h.rd.lt (fun e => by have := (hr (it + 1) e.symm).1; omega)).trans h.rd, h.fr⟩
theorem row_kinds {w : World} {a b : Nat} {xs ys : Array Value} {T U : TypeId} (h1 : Row w a xs T) (h2 : Row w b ys U) (hT : T ≠ U) : a ≠ b := fun e => by
  subst e
  have := (show w.heap[a]? = _ from h1).symm.trans (show w.heap[a]? = _ from h2)
  cases this; exact hT rfl
theorem diR_F {W0 w0 w w' : World} {Bb nb bb it : Nat} {d : ByteArray} {ve : Value} (hR : diR W0 w0 Bb nb it ve 8 w w') (h : DirF W0 Bb nb bb it d w0 w) : DirF W0 Bb nb bb it d w0 w' := by
  obtain ⟨f1, f2, f3, f4, f5, f6⟩ := h.fr
  obtain ⟨u, xs, hr, rfl⟩ := diR_set hR
  exact ⟨h.bk.later (grownBy_set w nb 3 u) (fun g e => by cases e; exact f5), h.box.other ⟨nb, 3, none⟩ u (row_kinds h.box hr (by decide)), h.rt.other ⟨nb, 3, none⟩ u (show it ≠ nb by omega), h.rd.other ⟨nb, 3, none⟩ u (show it + 1 ≠ nb by omega), h.fr⟩
theorem diR_bld {W0 w0 w w' : World} {Bb nb it : Nat} {ve : Value} {p : Nat × Nat × Nat} {R : List It} {M : List Ob} (hR : diR W0 w0 Bb nb it ve 6 w w') (h : ∃ vR vB, Bld W0 Bb p w R M vR vB) : ∃ vR vB, Bld W0 Bb p w' R M vR vB := by
  obtain ⟨vR, vB, h⟩ := h
  obtain ⟨hg, hr⟩ := diR_app hR
  exact ⟨vR, vB, h.turn hg (fun g e => by
    obtain ⟨h1, xs, h2⟩ := hr g e
    obtain ⟨f1, f2, f3⟩ := hR.1
    exact ⟨by omega, by omega, xs, _, h2, by decide⟩)⟩
theorem diR_bld2 {W0 w0 w w' : World} {Bb nb it : Nat} {ve : Value} {p : Nat × Nat × Nat} {R : List It} {M : List Ob} (hR : diR W0 w0 Bb nb it ve 8 w w') (h : ∃ vR vB, Bld W0 Bb p w R M vR vB) : ∃ vR vB, Bld W0 Bb p w' R M vR vB := by
  obtain ⟨vR, vB, h⟩ := h
  have hf := hR.1.1
  obtain ⟨u, xs, hr, rfl⟩ := diR_set hR
  exact ⟨vR, vB, h.turn (grownBy_set w nb 3 u) (fun g e => by cases e; exact ⟨hf, row_kinds hr h.row (by decide), xs, _, hr, by decide⟩)⟩
theorem bld_putD {W0 : World} {Bb : Nat} {p : Nat × Nat × Nat} {X : World} {R : List It} {M : List Ob} {vR vB : Value} {l : Nat} {q q' : Option (List Deferred)} (h : Bld W0 Bb p X R M vR vB) (hl : X.heap[l]? = some (.deferred q)) (hw : W0.heap.size ≤ l) : Bld W0 Bb p (X.putObj l (.deferred q')) R M vR vB :=
  ⟨(World.putObj_heap_other (fun e => by
      have := h.row
      rw [show Row X Bb _ _ = (X.heap[Bb]? = some _) from rfl, e, hl] at this
      cases this)).trans h.row, h.rest, World.ownsRow.kept h.built (grownBy_putObj' X l (.deferred q')) (by
    rcases h.built.2 with ⟨rfl, _⟩ | ⟨g, cap, cur, rfl, _, h5, _⟩
    · exact .inl rfl
    · exact .inr fun e => by
        have e' : l = g := by cases e; rfl
        subst e'
        have := hl.symm.trans h5
        cases this), h.from_, h.below.grown (grownBy_putObj' X l (.deferred q')) h.below.size (fun g e => by cases e; exact hw)⟩
def ddiU (W0 w0 : World) (Bb nb bb it bx : Nat) (p : Nat × Nat × Nat) (d : ByteArray) (ve : Value) (x : It) (en : En) (es : List En) (R1 R2 : List It) (M1 M2 : List Ob) : Nat → Value → Value → World → Prop
  | 0 => fun v _ _ => v = .pointer (some ⟨nb, 3, none⟩)
  | 1 => fun v _ _ => v = ve
  | 2 => fun v _ _ => v = .pointer (some ⟨Bb, 0, none⟩)
  | 3 => fun v _ _ => v = itV x
  | 4 => fun v _ w => v = enV en ∧ ∃ vR vB, Bld W0 Bb p w R2 M2 vR vB
  | 5 => fun v _ w => OneEn w v en
  | 6 => fun v _ w => OwnE (it + 2) w v (es ++ [en]) ∧ nb < it + 2
  | 7 => fun v _ _ => v = .pointer (some ⟨nb, 3, none⟩)
  | 8 => fun _ e w => Row w nb #[.int .i64 3, .string ⟨#[]⟩, .slice none 0 0, e] 44
  | 9 => fun _ _ w => Row w nb #[.int .i64 3, .string ⟨#[]⟩, .slice none 0 0, ve] 44 ∧ ve.ownBlock ≠ some nb ∧ nb ≠ Bb
  | 10 => fun _ _ w => OwnE (it + 2) w ve es ∧ Bb < it
  | 11 => fun _ _ w => ∃ vR vB, Bld W0 Bb p w R1 M1 vR vB
  | 12 => fun _ _ w => Row w bx #[.string x.p, .bool x.d, .bool x.e, .string x.c] 51 ∧ bx ≠ Bb
  | 13 => fun _ _ w => DirF W0 Bb nb bb it d w0 w
  | _ => fun _ _ _ => True
def ddiN : List (List Nat) := [[], [0, 9], [13], [12], [2, 3, 11], [4], [1, 5, 10], [], [7, 6, 9]]
def ddiE : Nat → Option Tmp
  | 8 => some 20
  | _ => none
def ddiB : List (Nat × Nat) := [(4, 5), (4, 6), (4, 8), (4, 11), (6, 5), (6, 8), (6, 10), (6, 11), (6, 12), (8, 5), (8, 9), (8, 10), (8, 11), (8, 12)]
theorem ddi_T (W0 w0 : World) (Bb nb bb it bx : Nat) (p : Nat × Nat × Nat) (d : ByteArray) (ve : Value) (x : It) (en : En) (es : List En) (R1 R2 : List It) (M1 M2 : List Ob) (ix kx : Nat) (v e : Value) (w w' : World) (hk : kx < 14) (hne : kx ≠ ix) (hbd : (ix, kx) ∉ ddiB) (hU : (ddiU W0 w0 Bb nb bb it bx p d ve x en es R1 R2 M1 M2) kx v e w) (hT : (appTs [4, 6, 8] (diR W0 w0 Bb nb it ve)) ix w w') : (ddiU W0 w0 Bb nb bb it bx p d ve x en es R1 R2 M1 M2) kx v e w' := by
  by_cases hi4 : ix = 4
  · subst hi4
    have hR := appTs_in (by decide) hT
    rcases (show kx = 0 ∨ kx = 1 ∨ kx = 2 ∨ kx = 3 ∨ kx = 4 ∨ kx = 5 ∨ kx = 6 ∨ kx = 7 ∨ kx = 8 ∨ kx = 9 ∨ kx = 10 ∨ kx = 11 ∨ kx = 12 ∨ kx = 13 by omega) with rfl | rfl | rfl | rfl | rfl | rfl | rfl | rfl | rfl | rfl | rfl | rfl | rfl | rfl
    iterate 4 exact hU
    · exact absurd rfl hne
    · exact absurd (by decide) hbd
    · exact absurd (by decide) hbd
    · exact hU
    · exact absurd (by decide) hbd
    · exact ⟨(diR_call hR).row hU.1 (by decide) hU.2.2, hU.2⟩
    · exact ⟨hU.1.bk (diR_call hR) (fun e => by have := (World.ownsRow.lt hU.1 _ e).1; have := hU.2; omega), hU.2⟩
    · exact absurd (by decide) hbd
    · exact ⟨(diR_call hR).row hU.1 (by decide) hU.2, hU.2⟩
    · exact DirF.bkk hU (diR_call hR)
  by_cases hi6 : ix = 6
  · subst hi6
    have hR := appTs_in (by decide) hT
    rcases (show kx = 0 ∨ kx = 1 ∨ kx = 2 ∨ kx = 3 ∨ kx = 4 ∨ kx = 5 ∨ kx = 6 ∨ kx = 7 ∨ kx = 8 ∨ kx = 9 ∨ kx = 10 ∨ kx = 11 ∨ kx = 12 ∨ kx = 13 by omega) with rfl | rfl | rfl | rfl | rfl | rfl | rfl | rfl | rfl | rfl | rfl | rfl | rfl | rfl
    iterate 4 exact hU
    · exact ⟨hU.1, diR_bld hR hU.2⟩
    · exact absurd (by decide) hbd
    · exact absurd rfl hne
    · exact hU
    · exact absurd (by decide) hbd
    · exact ⟨((diR_app hR).1.block nb hU.1.lt (fun e => hU.2.1 e.symm)).trans hU.1, hU.2⟩
    · exact absurd (by decide) hbd
    · exact absurd (by decide) hbd
    · exact absurd (by decide) hbd
    · exact DirF.app hU (diR_app hR)
  by_cases hi8 : ix = 8
  · subst hi8
    have hR := appTs_in (by decide) hT
    rcases (show kx = 0 ∨ kx = 1 ∨ kx = 2 ∨ kx = 3 ∨ kx = 4 ∨ kx = 5 ∨ kx = 6 ∨ kx = 7 ∨ kx = 8 ∨ kx = 9 ∨ kx = 10 ∨ kx = 11 ∨ kx = 12 ∨ kx = 13 by omega) with rfl | rfl | rfl | rfl | rfl | rfl | rfl | rfl | rfl | rfl | rfl | rfl | rfl | rfl
    iterate 4 exact hU
    · exact ⟨hU.1, diR_bld2 hR hU.2⟩
    · exact absurd (by decide) hbd
    · exact ⟨diR_own hR hU.1 hU.2, hU.2⟩
    · exact hU
    · exact absurd rfl hne
    · exact absurd (by decide) hbd
    · exact absurd (by decide) hbd
    · exact absurd (by decide) hbd
    · exact absurd (by decide) hbd
    · exact diR_F hR hU
  have hi : ix ∉ [4, 6, 8] := by simp [hi4, hi6, hi8]
  have hb : Below w.heap.size w w' := appTs_out hi hT
  rcases (show kx = 0 ∨ kx = 1 ∨ kx = 2 ∨ kx = 3 ∨ kx = 4 ∨ kx = 5 ∨ kx = 6 ∨ kx = 7 ∨ kx = 8 ∨ kx = 9 ∨ kx = 10 ∨ kx = 11 ∨ kx = 12 ∨ kx = 13 by omega) with rfl | rfl | rfl | rfl | rfl | rfl | rfl | rfl | rfl | rfl | rfl | rfl | rfl | rfl
  iterate 4 exact hU
  · exact ⟨hU.1, by obtain ⟨vR, vB, h⟩ := hU.2; exact ⟨vR, vB, h.stays hb⟩⟩
  · exact OneEn.stays hU hb
  · exact ⟨OwnE.stays hU.1 hb, hU.2⟩
  · exact hU
  · exact Row.step hU hb
  · exact ⟨Row.step hU.1 hb, hU.2⟩
  · exact ⟨OwnE.stays hU.1 hb, hU.2⟩
  · exact by obtain ⟨vR, vB, h⟩ := hU; exact ⟨vR, vB, h.stays hb⟩
  · exact ⟨Row.step hU.1 hb, hU.2⟩
  · exact DirF.stays hU hb
set_option maxRecDepth 100000 in
set_option maxHeartbeats 16000000 in
theorem dir_one (W0 : World) (Bb mn av b mx : Nat) (hF : FitAt mn av mx b) (hT : Tabs W0) (I : List It) (F : TFit I) (hfew : ∀ x ∈ I, x.p.size ≤ 400) (k : Nat) (d : ByteArray) (IH : (∃ x, x ∈ inD I d.data.toList) → BldAt W0 Bb mn av mx (cutN mn b mx) I k)
    (Post : List It) (M : List Ob) (vR vB : Value) (w : World) (hd : d.size ≤ 400) (hP : ∀ y ∈ Post, y ∈ I) (ho : OffT d.data.toList Post) (hk : ∀ x ∈ I, (cs x.t).length ≤ (cs d.data.toList).length + (k + 1)) (h : Bld W0 Bb (mn, av, mx) w (blkT I d.data.toList ++ Post) M vR vB) (hl : M.length + (seqD (cutN mn b mx) I (k + 1) d.data.toList).length ≤ 700000) :
    Calls Tryz.prog 31 #[.pointer (some ⟨Bb, 0, none⟩), .string d] w (Built W0 Bb (mn, av, mx) Post (M ++ (seqD (cutN mn b mx) I (k + 1) d.data.toList).map obN) (keyV (keyN (dirN (cutN mn b mx) I (k + 1) d.data.toList))) w) := by
  have hro : Fence.wide.round = none := rfl
  have CI := Lib.hid (inside_any Bb d)
  have CE0 := Lib.hid (fun (hne : ∃ x, x ∈ inD I d.data.toList) (x : It) (hx : x ∈ I) (Post : List It) (M : List Ob) (vR vB : Value) (w : World) hP ho hk h hl hl2 => bEntry_any W0 Bb mn av b mx hF hT I F hfew k (IH hne) x hx Post M vR vB w hP ho hk h hl hl2)
  obtain ⟨c, hc⟩ : ∃ c, c = cutN mn b mx := ⟨_, rfl⟩
  rw [← hc] at CE0 hl ⊢
  have hbw : Bb < w.heap.size := h.row.lt
  have hw0 : W0.heap.size ≤ w.heap.size := h.below.size
  obtain ⟨V, hV⟩ : ∃ V, V = insW Bb d ((w.alloc (.cells #[.pointer (some ⟨Bb, 0, none⟩)] 55)).alloc (.cells #[.int .i64 3, .string ⟨#[]⟩, .slice none 0 0, .slice none 0 0] 44)) := ⟨_, rfl⟩
  have hbV : Below w.heap.size w V := by rw [hV]; unfold insW; exact ((((Below.refl _ _).alloc (Nat.le_refl _) _).alloc (by simp) _).alloc (by simp; omega) _).alloc (by simp; omega) _
  have hrB : Row V w.heap.size #[.pointer (some ⟨Bb, 0, none⟩)] 55 := by rw [hV]; unfold insW; exact (((Row.made _ _ _).alloc _).alloc _).alloc _
  have hrN : Row V (w.heap.size + 1) #[.int .i64 3, .string ⟨#[]⟩, .slice none 0 0, .slice none 0 0] 44 := by
    rw [hV]; unfold insW
    have := ((Row.made (w.alloc (.cells #[.pointer (some ⟨Bb, 0, none⟩)] 55)) #[.int .i64 3, .string ⟨#[]⟩, .slice none 0 0, .slice none 0 0] 44).alloc (.cells #[.pointer (some ⟨Bb, 0, none⟩)] 126)).alloc (.cells #[.string d] 9)
    simpa using this
  have hrT : Row V (w.heap.size + 2) #[.pointer (some ⟨Bb, 0, none⟩)] 126 := by
    rw [hV]; unfold insW
    have := (Row.made ((w.alloc (.cells #[.pointer (some ⟨Bb, 0, none⟩)] 55)).alloc (.cells #[.int .i64 3, .string ⟨#[]⟩, .slice none 0 0, .slice none 0 0] 44)) #[.pointer (some ⟨Bb, 0, none⟩)] 126).alloc (.cells #[.string d] 9)
    simpa using this
  have hrD : Row V (w.heap.size + 2 + 1) #[.string d] 9 := by
    rw [hV]; unfold insW
    have := Row.made (((w.alloc (.cells #[.pointer (some ⟨Bb, 0, none⟩)] 55)).alloc (.cells #[.int .i64 3, .string ⟨#[]⟩, .slice none 0 0, .slice none 0 0] 44)).alloc (.cells #[.pointer (some ⟨Bb, 0, none⟩)] 126)) #[.string d] 9
    simpa using this
  have hVs : V.heap.size = w.heap.size + 4 := by rw [hV]; unfold insW; simp
  have HI0 : Hid (DirI W0 Bb mn av mx c I k (w.heap.size + 1) w.heap.size (w.heap.size + 2) d Post M w (blkT I d.data.toList ++ Post) V) := Lib.hid
    ⟨⟨Bk.of_below hbV, hrB, hrT, hrD, hw0, hbw, Nat.le_refl _, by omega, by omega, by omega⟩, [], inD I d.data.toList, rfl, by rw [blk_eq F], ⟨vR, vB, by simpa using h.stays hbV⟩, ⟨_, hrN, entries_own_nil _ _⟩⟩
  have HV := Lib.hid hV; have HVS := Lib.hid hVs; have HL0 := Lib.hid hl
  clear hbV hrB hrN hrT hrD hV hc h hVs hl IH hF hT
  refine (callsIn_wide (n := 9)).1 ?_
  refine callsIn_of_wp_marks Tryz.func31 rfl trivial ?_ hro
  simp only [Tryz.ntmps31, List.size_toArray, List.length_cons, List.length_nil, Nat.reduceAdd, Nat.reduceSub, Array.replicate_succ, Array.replicate_zero, List.push_toArray, List.append_toArray, List.nil_append, List.cons_append]
  refine wpIn_wide.2 ?_
  go_wp2_with fail
  refine (CI.out _).mono ?_
  rintro e V1 ⟨rfl, rfl⟩
  rw [← HV.out]
  go_wp2_with fail
  refine (wpIn_wide (n := 9)).1 ?_
  refine wpIn_rangeFunc_take hro (by decide) (gf := 85) (lb := #[.pointer (some ⟨w.heap.size + 2, 0, none⟩), .pointer (some ⟨w.heap.size + 2 + 1, 0, none⟩)]) (by simp [Act.eval]) trivial (enters_of Tryz.func85 (by kernel_rfl) rfl)
    (inside_take 8 (by decide) W0 Bb (w.heap.size + 2) (w.heap.size + 2 + 1) d V) (Below.refl _ _) rfl
    (DirI W0 Bb mn av mx c I k (w.heap.size + 1) w.heap.size (w.heap.size + 2) d Post M w) (DirX W0 Bb mn av mx c I k (w.heap.size + 1) w.heap.size (w.heap.size + 2) d Post M w)
    (fun R X hh => dirI_good hfew hP hh) (fun R X Y hh hb => dirI_stays hh hb) (fun x R X Y hh hb => dirX_stays hh hb)
    (fun R X l o o' hh hl hr => dirI_put hh (by have := HVS.out; omega) hr) (fun x R X l o o' hh hl hr => dirX_put hh (by have := HVS.out; omega) hr)
    (fun x R X v hh hv => dirI_pop F hP ho hh hv) (blkT I d.data.toList ++ Post) HI0.out
    (fun x bx => { tmps := #[.pointer (some ⟨Bb, 0, none⟩), .string d, .pointer (some ⟨w.heap.size, 0, none⟩), undef, .string ⟨#[]⟩, .pointer (some ⟨w.heap.size + 1, 0, none⟩), .pointer (some ⟨bx, 0, none⟩), .agg #[.int .i64 3, .string ⟨#[]⟩, .slice none 0 0, .slice none 0 0], .pointer (some ⟨Bb, 0, none⟩), .pointer (some ⟨Bb, 0, none⟩), .pointer (some ⟨Bb, 0, none⟩), .string d, insV (w.heap.size + 2), itV x, undef, undef, undef, undef, undef, undef, undef, undef, undef, undef, undef, undef, undef], defers := [] })
    ?assign ?body ?done
  case assign =>
    intro l' x W' K hK
    gi_wp2
    exact hK
  case body =>
    intro l' x R W bx hdx hDX hrow hbx
    obtain ⟨hF0, hh⟩ := hDX
    obtain ⟨C, D, h2, h3, ⟨vR9, vB9, h4⟩, ve, hn, hes⟩ := hh hdx
    have hxin : x ∈ inD I d.data.toList := by rw [h2]; exact List.mem_append_right _ (by simp)
    have hDin : ∀ y ∈ D, y ∈ inD I d.data.toList := fun y hy => by rw [h2]; exact List.mem_append_right _ (List.mem_cons_of_mem _ hy)
    have hxI := (mem_inD.1 hxin).1
    have hcs := in_cs F hxin
    have hoff := off_next F ho hxin hDin
    have hP' : ∀ y ∈ (D.flatMap fun y => y :: blkT I y.t) ++ Post, y ∈ I := fun y hy => by
      rcases List.mem_append.1 hy with hy | hy
      · obtain ⟨z, hz, hyz⟩ := List.mem_flatMap.1 hy
        rcases List.mem_cons.1 hyz with e | hyz
        · subst e; exact (mem_inD.1 (hDin _ hz)).1
        · exact (mem_blk.1 hyz).1
      · exact hP y hy
    have hdep : ∀ y ∈ I, (cs y.t).length ≤ (cs x.t).length + k := fun y hy => by rw [hcs, List.length_append]; have := hk y hy; simp; omega
    have hseq : seqD c I (k + 1) d.data.toList = C.flatMap (subS c I k) ++ (subS c I k x ++ (D.flatMap (subS c I k) ++ [dirN c I (k + 1) d.data.toList])) := by
      show ((inD I d.data.toList).flatMap (subS c I k)) ++ _ = _
      rw [h2]; simp
    have hlen := HL0.out
    rw [hseq] at hlen
    simp only [List.length_append] at hlen
    have hfd := F.data x hxI
    have hCl : C.length ≤ 60 := by
      have h1 : (inD I d.data.toList).length ≤ I.length := List.length_filter_le _ _
      rw [h2, List.length_append] at h1
      have := F.len; omega
    obtain ⟨R2, hR2⟩ : ∃ R2, R2 = (D.flatMap fun y => y :: blkT I y.t) ++ Post := ⟨_, rfl⟩
    obtain ⟨M1, hM1⟩ : ∃ M1, M1 = M ++ (C.flatMap (subS c I k)).map obN := ⟨_, rfl⟩
    obtain ⟨es, hese⟩ : ∃ es, es = C.map fun x => entE x (keyN (subN c I k x)) := ⟨_, rfl⟩
    obtain ⟨en, hene⟩ : ∃ en, en = entE x (keyN (subN c I k x)) := ⟨_, rfl⟩
    obtain ⟨M2, hM2⟩ : ∃ M2, M2 = M1 ++ (subS c I k x).map obN := ⟨_, rfl⟩
    have hM1l : M1.length + (subS c I k x).length ≤ 700000 := by rw [hM1, List.length_append, List.length_map]; omega
    rw [← hR2] at h3 hoff hP'
    rw [← hM1] at h4
    rw [← hese] at hes
    have CE : Hid (∀ (W : World) (vR vB : Value), Bld W0 Bb (mn, av, mx) W R M1 vR vB → Calls Tryz.prog 53 #[.pointer (some ⟨Bb, 0, none⟩), itV x] W (Built W0 Bb (mn, av, mx) R2 M2 (enV en) W)) := Lib.hid (fun W vR vB hb => by
      rw [hM2, hene]
      rw [h3] at hb
      exact CE0.out ⟨x, hxin⟩ x hxI R2 M1 vR vB W hP' hoff hdep hb hM1l (fun _ => by omega))
    obtain ⟨it, hit⟩ : ∃ it, w.heap.size + 2 = it := ⟨_, rfl⟩
    obtain ⟨nb, hnb⟩ : ∃ nb, w.heap.size + 1 = nb := ⟨_, rfl⟩
    obtain ⟨bb, hbb⟩ : ∃ bb, w.heap.size = bb := ⟨_, rfl⟩
    rw [hit, hnb, hbb] at hF0
    rw [hit] at hes
    rw [hnb] at hn
    rw [hit, hnb, hbb]
    have FIN : Hid (∀ (w5 : World) (v : Value), (∃ vR vB, Bld W0 Bb (mn, av, mx) w5 R2 M2 vR vB) → OwnE (it + 2) w5 v (es ++ [en]) → Row w5 nb #[.int .i64 3, .string ⟨#[]⟩, .slice none 0 0, v] 44 → DirF W0 Bb nb bb it d w w5 → KeepsOthers W w5 →
        KeepsOthers W w5 ∧ ∃ R', R'.length ≤ R.length ∧ DirI W0 Bb mn av mx c I k nb bb it d Post M w R' w5) := Lib.hid (fun w5 v hb he hr hf hk => ⟨hk, R2, by rw [h3]; simp, hf, C ++ [x], D, by rw [h2]; simp, hR2, by
        rw [hM2, hM1] at hb
        simpa [List.flatMap_append] using hb, v, hr, by rw [hese, hene] at he; simpa using he⟩)
    obtain ⟨_, va, vc, hve, _, _⟩ := hes.is
    subst hve
    obtain ⟨f1, f2, f3, f4, f5, f6⟩ := hF0.fr
    have hlt := fun g hg => (World.ownsRow.lt hes g hg).1
    have HN : Hid (Row W nb #[.int .i64 3, .string ⟨#[]⟩, .slice none 0 0, .slice va es.length vc] 44 ∧ OwnE (it + 2) W (.slice va es.length vc) es) := Lib.hid ⟨hn, hes⟩
    have HNE : Hid ((Value.slice va es.length vc).ownBlock ≠ some nb ∧ nb ≠ Bb) := Lib.hid ⟨fun e => by have := hlt _ e; omega, by omega⟩
    have HBI : Hid (Bb < it) := Lib.hid (by omega)
    have HL := Lib.hid h4
    have HX : Hid (Row W bx #[.string x.p, .bool x.d, .bool x.e, .string x.c] 51 ∧ bx ≠ Bb) := Lib.hid ⟨hrow, by have := HVS.out; omega⟩
    have HF0 := Lib.hid hF0
    have HG0 : Hid (KeepsOthers W { W with drawn := W.drawn + 1 }) := Lib.hid (KeepsOthers.drew W)
    have HES : Hid (es.length ≤ 1000000) := Lib.hid (by rw [hese, List.length_map]; omega)
    have HSZ : Hid (it + 2 ≤ W.heap.size) := Lib.hid (by have := hF0.rd.lt; omega)
    have HNI : Hid (nb < it + 2) := Lib.hid (by omega)
    have HFR : Hid (W0.heap.size ≤ nb ∧ nb < it ∧ Bb < it) := Lib.hid ⟨by omega, by omega, by omega⟩
    clear hF0 hh h2 h3 h4 hn hes hxin hDin hxI hcs hoff hP' hdep hseq hlen hfd hCl hR2 hM1 hese hene hM2 hM1l hit hnb hbb hrow hlt hdx hbx
    gi_wp2_with fail
    refine wpIn_region_round (by kernel_rfl) (by kernel_rfl) ?hq ?_
    case hq =>
      rintro ⟨a, w', h⟩
      exact absurd h.1 (by simp)
    refine wp_any_wordsG (by kernel_rfl) (appTs [4, 6, 8] (diR W0 w Bb nb it (.slice va es.length vc))) (KeepsOthers W) ddiE (ddiU W0 w Bb nb bb it bx (mn, av, mx) d (.slice va es.length vc) x en es R R2 M1 M2) 14 ddiN [4, 6, 8, 13] (by kernel_rfl) (by kernel_rfl) (by kernel_rfl)
      ddiB (by kernel_rfl) (fun ix kx v e w w' hi hk hne hb hU hT => ddi_T _ _ _ _ _ _ _ _ _ _ _ _ _ _ _ _ _  ix kx v e w w' hk hne hb hU hT) (by decide) (HG0.out) (fun kx hk hge => ?hv0)
      [14, 15, 16, 17, 18, 19, 20, 21] (by kernel_rfl) (forall_ops ?steps) ?behind
    case hv0 =>
      have hge' : 9 ≤ kx := hge
      rcases (show kx = 9 ∨ kx = 10 ∨ kx = 11 ∨ kx = 12 ∨ kx = 13 by omega) with rfl | rfl | rfl | rfl | rfl
      · exact ⟨HN.out.1.drew, HNE.out⟩
      · exact ⟨HN.out.2.stays ((Below.refl _ _).drew), HBI.out⟩
      · exact ⟨_, _, HL.out.stays ((Below.refl _ _).drew)⟩
      · exact ⟨HX.out.1.drew, HX.out.2⟩
      · exact HF0.out.stays ((Below.refl _ _).drew)
    case steps =>
      refine ⟨?_, ?_, ?_, ?_, ?_, ?_, ?_, ?_, ?_, trivial⟩
      · refine stepG_of rfl ?_
        exact stepR_value (t := 14) (.pointer (some ⟨nb, 3, none⟩)) rfl (fun _ => appTs_other (by decide) (Below.refl _ _)) (fun ac w hG hN hO => by
          have e5 : slot ac 5 = .pointer (some ⟨nb, 0, none⟩) := hO 5 (by kernel_rfl)
          have f5 := slot_at e5
          unfold execOp; go_simp) (fun ac w hG hN => rfl)
      · refine stepG_of rfl ?_
        exact stepR_value (t := 15) (.slice va es.length vc) rfl (fun _ => appTs_other (by decide) (Below.refl _ _)) (fun ac w9 hG hN hO => by
          have e14 : slot ac 14 = .pointer (some ⟨nb, 3, none⟩) := hN 0 (by decide)
          have hx : Row w9 nb #[.int .i64 3, .string ⟨#[]⟩, .slice none 0 0, (.slice va es.length vc)] 44 ∧ _ := hN 9 (by decide)
          have c3 : w9.cell? ⟨nb, 3, none⟩ = some (.slice va es.length vc) := hx.1.cell 3
          have f := slot_at e14
          unfold execOp; go_simp) (fun ac w9 hG hN => rfl)
      · refine stepG_of rfl ?_
        exact stepR_value (t := 16) (.pointer (some ⟨Bb, 0, none⟩)) rfl (fun _ => appTs_other (by decide) (Below.refl _ _)) (fun ac w9 hG hN hO => by
          have e2 : slot ac 2 = .pointer (some ⟨bb, 0, none⟩) := hO 2 (by kernel_rfl)
          have hx : DirF W0 Bb nb bb it d w w9 := hN 13 (by decide)
          have c0 : w9.cell? ⟨bb, 0, none⟩ = some (.pointer (some ⟨Bb, 0, none⟩)) := hx.box.cell 0
          have f := slot_at e2
          unfold execOp; go_simp) (fun ac w9 hG hN => rfl)
      · refine stepG_of rfl ?_
        exact stepR_value (t := 17) (itV x) rfl (fun _ => appTs_other (by decide) (Below.refl _ _)) (fun ac w9 hG hN hO => by
          have e6 : slot ac 6 = .pointer (some ⟨bx, 0, none⟩) := hO 6 (by kernel_rfl)
          have hx : Row w9 bx #[.string x.p, .bool x.d, .bool x.e, .string x.c] 51 ∧ _ := hN 12 (by decide)
          have c0 : w9.cell? ⟨bx, 0, none⟩ = some (.string x.p) := hx.1.cell 0
          have c1 : w9.cell? ⟨bx, 1, none⟩ = some (.bool x.d) := hx.1.cell 1
          have c2 : w9.cell? ⟨bx, 2, none⟩ = some (.bool x.e) := hx.1.cell 2
          have c3 : w9.cell? ⟨bx, 3, none⟩ = some (.string x.c) := hx.1.cell 3
          have f := slot_at e6
          unfold execOp; go_simp) (fun ac w9 hG hN => rfl)
      · refine stepG_of rfl ?_
        intro ac w9 hG hN hO
        have e16 : slot ac 16 = .pointer (some ⟨Bb, 0, none⟩) := hN 2 (by decide)
        have e17 : slot ac 17 = itV x := hN 3 (by decide)
        obtain ⟨vR9, vB9, hb9⟩ : ∃ vR vB, Bld W0 Bb (mn, av, mx) w9 R M1 vR vB := hN 11 (by decide)
        refine wp_callx 53 _ _ rfl (enters_of Tryz.func53 (by kernel_rfl) rfl) #[.pointer (some ⟨Bb, 0, none⟩), itV x] (by simp [eval_slot, e16, e17]) (calls_built (CE.out w9 vR9 vB9 hb9)) ?_
        rintro v w'' ⟨hv, vR, vB, hb, hk⟩
        exact ⟨v, rfl, appTs_at (by decide) (diR_call' HFR.out hk), hG.trans (keeps_bk hk hb9.row), hv, vR, vB, hb⟩
      · refine stepG_of rfl ?_
        intro ac w9 hG hN hO
        have e18 : slot ac 18 = enV en ∧ _ := hN 4 (by decide)
        refine wp_build_en 18 rfl (x := en) e18.1 ?_
        exact ⟨_, rfl, appTs_other (by decide) ((Below.refl _ _).alloc (Nat.le_refl _) _), hG.trans (KeepsOthers.alloc _ _), oneEn_new w9 en⟩
      · refine stepG_of rfl ?_
        intro ac w9 hG hN hO
        have e15 : slot ac 15 = (.slice va es.length vc) := hN 1 (by decide)
        have e19 : OneEn w9 (slot ac 19) en := hN 5 (by decide)
        have hown : OwnE (it + 2) w9 (.slice va es.length vc) es ∧ _ := hN 10 (by decide)
        have hes := HES.out
        refine wp_append_one_en 15 19 rfl hown.1 (Nat.le_trans HSZ.out hG.size) (slotE e15) e19 (by omega) ?_
        intro v' w' hown' hg
        exact ⟨v', rfl, appTs_at (by decide) (diR_app' HFR.out hg hown.1), hG.trans (keeps_app hg hown.1), hown', HNI.out⟩
      · refine stepG_of rfl ?_
        exact stepR_value (t := 21) (.pointer (some ⟨nb, 3, none⟩)) rfl (fun _ => appTs_other (by decide) (Below.refl _ _)) (fun ac w hG hN hO => by
          have e5 : slot ac 5 = .pointer (some ⟨nb, 0, none⟩) := hO 5 (by kernel_rfl)
          have f5 := slot_at e5
          unfold execOp; go_simp) (fun ac w hG hN => rfl)
      · refine stepG_of rfl ?_
        intro ac w9 hG hN hO
        have e21 : slot ac 21 = .pointer (some ⟨nb, 3, none⟩) := hN 7 (by decide)
        have hrow : Row w9 nb #[.int .i64 3, .string ⟨#[]⟩, .slice none 0 0, (.slice va es.length vc)] 44 ∧ _ := hN 9 (by decide)
        have hc : w9.cell? ⟨nb, 3, none⟩ = some (.slice va es.length vc) := hrow.1.cell 3
        have hf := hrow.1.free 3
        have f1 := slot_at e21
        obtain ⟨u, hu⟩ : ∃ u, u = slot ac 20 := ⟨_, rfl⟩
        have f2 := slot_at hu.symm
        have hown : OwnE (it + 2) w9 (slot ac 20) (es ++ [en]) ∧ _ := hN 6 (by decide)
        rw [← hu] at hown
        obtain ⟨_, ua, uc, hue, _, _⟩ := hown.1.is
        subst hue
        have hs := hrow.1.set 3 (.slice ua (es ++ [en]).length uc)
        exact wp_skip (w' := w9.setCell ⟨nb, 3, none⟩ (.slice ua (es ++ [en]).length uc)) (by unfold execOp; go_simp) ⟨undef, rfl, appTs_at (by decide) (diR_set' HFR.out hrow.1 _), hG.trans (KeepsOthers.setCell _ _ _), by
          show Row _ nb #[.int .i64 3, .string ⟨#[]⟩, .slice none 0 0, exV _ 8 ac] _
          rw [show exV ddiE 8 ac = slot ac 20 from rfl, ← hu]
          exact hs⟩
    case behind =>
      intro ac w5 hG hV hS ha
      have h4 : (slot ac 18) = enV en ∧ ∃ vR vB, Bld W0 Bb (mn, av, mx) w5 R2 M2 vR vB := hV 4 (by decide) (by decide)
      have h6 : OwnE (it + 2) w5 (slot ac 20) (es ++ [en]) ∧ nb < it + 2 := hV 6 (by decide) (by decide)
      have h8 : Row w5 nb #[.int .i64 3, .string ⟨#[]⟩, .slice none 0 0, (slot ac 20)] 44 := hV 8 (by decide) (by decide)
      have h13 : DirF W0 Bb nb bb it d w w5 := hV 13 (by decide) (by decide)
      generalize slot ac = sl at ha h8 h4 h6
      subst ha
      simp only [patchL, List.contains_cons, List.contains_nil, Nat.reduceBEq, Bool.or_false, Bool.or_true, if_true, Bool.false_eq_true, if_false, Nat.reduceAdd]
      generalize sl 14 = s14
      generalize sl 15 = s15
      generalize sl 16 = s16
      generalize sl 17 = s17
      generalize sl 18 = s18 at h4 ⊢
      generalize sl 19 = s19
      generalize sl 20 = s20 at h8 h6 ⊢
      generalize sl 21 = s21
      clear hV hS
      exact ⟨rfl, FIN.out w5 _ h4.2 h6.1 h8 h13 hG⟩
  case done =>
    intro Dd R W9 hD hDI hh hdef
    obtain ⟨hF0, C, D, h2, h3, ⟨vR9, vB9, h4⟩, ve, hn, hes⟩ := hDI
    have hDn : D = [] := by
      cases D with
      | nil => rfl
      | cons y D =>
        exfalso
        refine hh y (by rw [h3]; rfl) ?_
        have : y ∈ inD I d.data.toList := by rw [h2]; exact List.mem_append_right _ (by simp)
        exact (mem_inD.1 this).2
    subst hDn
    rw [List.append_nil] at h2
    have hR : R = Post := h3
    rw [hR] at h4
    obtain ⟨es, hese⟩ : ∃ es, es = C.map fun x => entE x (keyN (subN c I k x)) := ⟨_, rfl⟩
    rw [← hese] at hes
    have hdn : dirN c I (k + 1) d.data.toList = ⟨3, ⟨#[]⟩, [], es⟩ := by
      show (⟨3, ⟨#[]⟩, [], (inD I d.data.toList).map fun x => entE x (keyN (subN c I k x))⟩ : Nd) = _
      rw [h2, hese]
    have hseq : (seqD c I (k + 1) d.data.toList).map obN = (C.flatMap (subS c I k)).map obN ++ [obN (dirN c I (k + 1) d.data.toList)] := by
      show (((inD I d.data.toList).flatMap (subS c I k)) ++ _).map obN = _
      rw [h2, List.map_append]; rfl
    have hlen := HL0.out
    rw [← List.length_map (f := obN), hseq, List.length_append, List.length_map] at hlen
    obtain ⟨_, va, vc, hve, _, _⟩ := hes.is
    subst hve
    have hbd : Below W9.heap.size W9 W9.drew := (Below.refl _ _).drew
    obtain ⟨nd, hnd⟩ : ∃ nd, nd = dirN c I (k + 1) d.data.toList := ⟨_, rfl⟩
    have CA2 : Hid (Calls Tryz.prog 54 #[.pointer (some ⟨Bb, 1, none⟩), .agg #[.int .i64 3, .string ⟨#[]⟩, .slice none 0 0, .slice va es.length vc]] W9.drew (Added W0 Bb (mn, av, mx) Post vR9 ((M ++ (C.flatMap (subS c I k)).map obN) ++ [obN nd]) (keyN nd) W9.drew)) := Lib.hid (by
      have := pAdd_any W0 Bb (mn, av, mx) ⟨3, ⟨#[]⟩, [], es⟩ (.slice none 0 0) (.slice va es.length vc) W9.drew Post _ vR9 vB9 (h4.stays hbd) (parts_nil _) (hes.is.stays hbd) (Nat.zero_le _) (by rw [List.length_append, List.length_map]; omega)
      rw [hnd, hdn]; exact this)
    have HE := Lib.hid hseq
    rw [← hnd] at HE
    have HND := Lib.hid hnd
    have y0 := hn.cell 0; have y1 := hn.cell 1; have y2 := hn.cell 2; have y3 := hn.cell 3
    have yb := hF0.box.cell 0
    simp only [List.getElem?_toArray, List.getElem?_cons_zero, List.getElem?_cons_succ] at y0 y1 y2 y3 yb
    have HK9 := Lib.hid (hF0.bk.step hbd)
    have HDF : Hid (W9.drew.heap[Dd]? = some (.deferred (some []))) := Lib.hid hdef
    have hDd : w.heap.size ≤ Dd := by have := HVS.out; omega
    have hDB : Dd ≠ Bb := by omega
    rw [← hnd]
    clear hF0 h2 h3 h4 hn hes hese hdn hseq hlen hbd hh hdef hnd hR
    go_wp2_with fail
    go_still_tail 4, (by kernel_rfl)
    change wpList _ _ _ _ _ W9.drew
    go_wp2_with fail
    with_reducible refine CA2.out.mono ?_
    rintro e W2 ⟨rfl, vB2, hH2, hK2⟩
    have HK2 := Lib.hid (hK2.obj HDF.out (fun xs t z e => by cases e) hDB)
    have hg := grownBy_putObj' W2 Dd (.deferred none)
    have HB2 := Lib.hid (bld_putD (q' := none) hH2 HK2.out (by omega))
    have HKF := Lib.hid ((HK9.out.trans hK2).later hg (fun g e => by cases e; exact hDd))
    clear hH2 hK2 hg y0 y1 y2 y3 yb
    go_wp2_with fail
    refine ⟨by simp, .inl ⟨_, _, rfl, run_takeDeferred HK2.out, ?_⟩⟩
    exact ⟨_, results_tmp rfl _ _ _, by rw [← HND.out]; rfl, _, _, by rw [HE.out, ← List.append_assoc]; exact HB2.out, HKF.out⟩
theorem dir_all (W0 : World) (Bb mn av b mx : Nat) (hF : FitAt mn av mx b) (hT : Tabs W0) (I : List It) (F : TFit I) (hfew : ∀ x ∈ I, x.p.size ≤ 400) : ∀ k, BldAt W0 Bb mn av mx (cutN mn b mx) I k
  | 0 => fun d Post M vR vB w hd hP ho hk h hl => by
    have e1 := seqD_more F (cutN mn b mx) 0 d.data.toList hk
    have e2 := dirN_more F (cutN mn b mx) 0 d.data.toList hk
    have := dir_one W0 Bb mn av b mx hF hT I F hfew 0 d (fun ⟨x, hx⟩ => by rw [inD_none F hk] at hx; cases hx) Post M vR vB w hd hP ho (fun x hx => by have := hk x hx; omega) h (by rw [e1]; exact hl)
    rwa [e1, e2] at this
  | k + 1 => fun d Post M vR vB w hd hP ho hk h hl => dir_one W0 Bb mn av b mx hF hT I F hfew k d (fun _ => dir_all W0 Bb mn av b mx hF hT I F hfew k) Post M vR vB w hd hP ho hk h hl
end Go.Proofs.YtlccihidedfemaaGreatDoor

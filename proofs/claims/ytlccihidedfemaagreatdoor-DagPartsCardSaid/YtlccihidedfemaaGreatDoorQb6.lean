/-
  Texts put together: contracts and laws that this seat's proofs share.
-/
import Derived.Test.YtlccihidedfemaaGreatDoorYbDth
import Derived.Test.YtlccihidedfemaaGreatDoorQb1
import Derived.RangeFuncFrom
import Derived.RangeFuncBox
import Derived.Test.YtlccihidedfemaaGreatDoorQb2
import Derived.Test.YtlccihidedfemaaGreatDoorYbPay
import Derived.Shelf.Strings.SplitCore
import Derived.Shelf.Strings.Count
import Derived.Lib.SplitLaws
import Derived.WalkKit
import Derived.LoopTactic
import Derived.Outline
import Derived.Laws.BitsAllLaws
import Derived.Lib.Hide
import Derived.Below
import Derived.Laws.Rows
import Derived.Laws.CopyOwn
import Derived.Test.YtlccihidedfemaaGreatDoorProg
import Derived.Test.YtlccihidedfemaaGreatDoorQb0
import Derived.Test.YtlccihidedfemaaGreatDoorYbShf
import Derived.Test.YtlccihidedfemaaGreatDoorQb4
import Derived.Great.BuildSlice
import Derived.BigRegion
import Derived.Deep.QuietTactic
import Derived.BigQuiet
import Derived.StillTailTactics
import Derived.IntWalk
import Derived.WalkSmall
import Derived.RegionTactic
set_option linter.unusedVariables false
namespace Go.Proofs.YtlccihidedfemaaGreatDoor
open Go.RowKit
attribute [local go_sem] Oper.semAt_some
structure Bk (B Bb : Nat) (w w' : World) : Prop where
 os : w'.os = w.os
 tape : w'.tape = w.tape
 output : w'.output = w.output
 size : w.heap.size ≤ w'.heap.size
 block : ∀ b, b < w.heap.size → b ≠ Bb → (b < B ∨ ∀ xs, ¬ Row w b xs 33) → w'.heap[b]? = w.heap[b]?
theorem Bk.of_below {B Bb : Nat} {w w' : World} (h : Below w.heap.size w w') : Bk B Bb w w' := ⟨h.os, h.tape, h.output, h.size, fun b hb _ _ => h.block b hb⟩
theorem Bk.refl (B Bb : Nat) (w : World) : Bk B Bb w w := ⟨rfl, rfl, rfl, Nat.le_refl _, fun _ _ _ _ => rfl⟩
theorem Bk.trans {B Bb : Nat} {a b c : World} (h : Bk B Bb a b) (k : Bk B Bb b c) : Bk B Bb a c :=
 ⟨k.os.trans h.os, k.tape.trans h.tape, k.output.trans h.output, Nat.le_trans h.size k.size, fun i hi hn hp => by
  have e := h.block i hi hn hp
  refine (k.block i (Nat.lt_of_lt_of_le hi h.size) hn ?_).trans e
  rcases hp with hp | hp
  ·exact .inl hp
  ·exact .inr fun xs hr => hp xs (e.symm.trans (show b.heap[i]? = _ from hr))⟩
theorem Bk.step {B Bb : Nat} {a b c : World} (h : Bk B Bb a b) (k : Below b.heap.size b c) : Bk B Bb a c := h.trans (Bk.of_below k)
theorem Bk.row {B Bb b : Nat} {w w' : World} {xs : Array Value} {T : TypeId} (h : Bk B Bb w w') (hr : Row w b xs T) (hT : T ≠ 33) (hn : b ≠ Bb) : Row w' b xs T :=
 (h.block b hr.lt hn (.inr fun ys hy => by have e := (show w.heap[b]? = _ from hr).symm.trans (show w.heap[b]? = _ from hy); cases e; exact hT rfl)).trans hr
theorem Bk.obj {B Bb b : Nat} {w w' : World} {o : Obj} (h : Bk B Bb w w') (hr : w.heap[b]? = some o) (ho : ∀ xs t z, o ≠ .cells xs t z) (hn : b ≠ Bb) : w'.heap[b]? = some o :=
 (h.block b (Array.getElem?_eq_some_iff.1 hr).1 hn (.inr fun ys hy => by have e := hr.symm.trans (show w.heap[b]? = _ from hy); exact ho _ _ _ (Option.some.inj e))).trans hr
theorem Bk.turn {B Bb : Nat} {w w' : World} {r : Option Nat} (hg : w.grownBy w' r) (hr : ∀ g, r = some g → B ≤ g ∧ ∃ xs, Row w g xs 33) : Bk B Bb w w' :=
 ⟨hg.os, hg.tape, hg.output, hg.size, fun b hb hn hp => hg.block b hb (fun e => by
  obtain ⟨h1, xs, h2⟩ := hr b e.symm
  rcases hp with hp | hp
  ·omega
  ·exact hp xs h2)⟩
theorem Bk.set {B Bb i : Nat} {w : World} (u : Value) : Bk B Bb w (w.setCell ⟨Bb, i, none⟩ u) :=
 ⟨rfl, rfl, rfl, by simp [World.setCell], fun b hb hn _ => heap_setCell_other _ _ _ _ hn⟩
theorem Bk.below {B Bb : Nat} {a w w' : World} (h : Bk B Bb w w') (hb : Below B a w) (hs : B ≤ w.heap.size) (hB : B ≤ Bb) : Below B a w' :=
 hb.trans ⟨h.os, h.tape, h.output, h.size, fun k hk => h.block k (Nat.lt_of_lt_of_le hk hs) (by omega) (.inl hk)⟩
theorem OwnE.bk {B Bb C : Nat} {w w' : World} {v : Value} {L : List En} (h : OwnE C w v L) (hk : Bk B Bb w w') (hn : v.ownBlock ≠ some Bb) : OwnE C w' v L := by
 refine ⟨h.1, ?_⟩
 rcases h.2 with h2 | ⟨g, cap, cur, h3, h4, h5, h6⟩
 ·exact .inl h2
 ·exact .inr ⟨g, cap, cur, h3, h4, hk.row (xs := cur) (T := 78) h5 (by decide) (fun e => hn (by rw [h3, e]; rfl)), h6⟩
theorem OwnP.bk {B Bb C : Nat} {w w' : World} {v : Value} {L : List Pt} (h : OwnP C w v L) (hk : Bk B Bb w w') (hn : v.ownBlock ≠ some Bb) : OwnP C w' v L := by
 refine ⟨h.1, ?_⟩
 rcases h.2 with h2 | ⟨g, cap, cur, h3, h4, h5, h6⟩
 ·exact .inl h2
 ·exact .inr ⟨g, cap, cur, h3, h4, hk.row (xs := cur) (T := 74) h5 (by decide) (fun e => hn (by rw [h3, e]; rfl)), h6⟩
theorem OwnO.row {B : Nat} {w : World} {v : Value} {L : List Ob} (h : OwnO B w v L) {g : Nat} (hg : v.ownBlock = some g) : B ≤ g ∧ ∃ xs, Row w g xs 33 := by
 rcases h.2 with ⟨rfl, _⟩ | ⟨g', cap, cur, rfl, h4, h5, _⟩
 ·cases hg
 ·cases hg; exact ⟨h4, _, h5⟩
structure Bld (W0 : World) (Bb : Nat) (p : Nat × Nat × Nat) (w : World) (R : List It) (M : List Ob) (vR vB : Value) : Prop where
 row : Row w Bb #[vR, vB, .int .i64 p.1, .int .i64 p.2.1, .int .i64 p.2.2] 61
 rest : IsItems W0 vR R
 built : OwnO W0.heap.size w vB M
 from_ : W0.heap.size ≤ Bb
 below : Below W0.heap.size W0 w
theorem Bld.stays {W0 : World} {Bb : Nat} {p : Nat × Nat × Nat} {w w' : World} {R : List It} {M : List Ob} {vR vB : Value} (h : Bld W0 Bb p w R M vR vB) (hb : Below w.heap.size w w') : Bld W0 Bb p w' R M vR vB :=
 ⟨h.row.step hb, h.rest, h.built.stays hb, h.from_, below_step h.below hb⟩
theorem Bld.ne {W0 : World} {Bb : Nat} {p : Nat × Nat × Nat} {w : World} {R : List It} {M : List Ob} {vR vB : Value} (h : Bld W0 Bb p w R M vR vB) : vB.ownBlock ≠ some Bb := h.built.apart h.row (by decide)
theorem Bld.turn {W0 : World} {Bb : Nat} {p : Nat × Nat × Nat} {w w' : World} {R : List It} {M : List Ob} {vR vB : Value} {row : Option Nat} (h : Bld W0 Bb p w R M vR vB) (hg : w.grownBy w' row) (hr : ∀ g, row = some g → W0.heap.size ≤ g ∧ g ≠ Bb ∧ ∃ xs T, Row w g xs T ∧ T ≠ 33) : Bld W0 Bb p w' R M vR vB :=
 ⟨(hg.block Bb h.row.lt (fun e => (hr Bb e.symm).2.1 rfl)).trans h.row, h.rest, World.ownsRow.kept h.built hg (by
  cases hv : vB.ownBlock with
  | none => exact .inl rfl
  | some k =>
   refine .inr fun e => ?_
   obtain ⟨_, _, xs, T, h3, h4⟩ := hr k e.symm
   exact OwnO.apart h.built h3 h4 hv), h.from_, h.below.grown hg h.below.size (fun g e => (hr g e).1)⟩
theorem Bld.cells {W0 : World} {Bb : Nat} {p : Nat × Nat × Nat} {w : World} {R : List It} {M : List Ob} {vR vB : Value} (h : Bld W0 Bb p w R M vR vB) :
  w.cell? ⟨Bb, 0, none⟩ = some vR ∧ w.cell? ⟨Bb, 1, none⟩ = some vB ∧ w.cell? ⟨Bb, 2, none⟩ = some (.int .i64 p.1) ∧ w.cell? ⟨Bb, 3, none⟩ = some (.int .i64 p.2.1) ∧ w.cell? ⟨Bb, 4, none⟩ = some (.int .i64 p.2.2) :=
 ⟨h.row.cell 0, h.row.cell 1, h.row.cell 2, h.row.cell 3, h.row.cell 4⟩
def KeyedO (M : List Ob) (w : World) (e : Ending) (w' : World) : Prop := ∃ v' S, e = .returned v' ∧ Stab M S ∧ SortO S ∧ OwnO w.heap.size w' v' (compO S) ∧ Below w.heap.size w w'
theorem byKey_any (W0 : World) (Bb : Nat) (p : Nat × Nat × Nat) (w : World) (R : List It) (M : List Ob) (vR vB : Value) (h : Bld W0 Bb p w R M vR vB) (h0 : 0 < M.length) (hM : M.length ≤ 1000000) :
  Calls Tryz.prog 32 #[.pointer (some ⟨Bb, 1, none⟩)] w (KeyedO M w) := by
 have CC := Lib.hid (oClone_any vB M w h.built.is hM)
 have c1 := h.cells.2.1
 have HH := Lib.hid h
 clear h
 go_enter Tryz.func32, Tryz.ntmps32
 go_wp2_with fail
 with_reducible refine CC.out.mono ?_
 rintro e w1 ⟨v1, rfl, ho1, hb1⟩
 obtain ⟨g, cap, rfl⟩ : ∃ g cap, v1 = .slice (some ⟨g, 0, none⟩) M.length cap := by
  rcases ho1.2 with ⟨_, h2⟩ | ⟨g, cap, cur, rfl, _⟩
  ·omega
  ·exact ⟨g, cap, rfl⟩
 obtain ⟨_, hg, hr1⟩ := ho1.rowO
 have CS := Lib.hid (sortStable_any g cap M.length M w1 hr1 rfl hM)
 have HB1 := Lib.hid hb1
 clear ho1 hb1 hr1 c1
 go_wp2_with fail
 with_reducible refine CS.out.mono ?_
 rintro e w2 ⟨rfl, S, hr2, hl2, hs2, ho2, ht2⟩
 have hb2 := HB1.out.grown ht2 HB1.out.size (fun j hj => by cases hj; exact hg)
 have CF := Lib.hid (oCompact_any w.heap.size g cap M.length S w2 hr2 hg hl2.symm hM)
 have HB2 := Lib.hid hb2; have HS2 := Lib.hid hs2; have HO2 := Lib.hid ho2
 clear hr2 hl2 hs2 ho2 ht2 hb2
 go_wp2_with fail
 with_reducible refine CF.out.mono ?_
 rintro e w3 ⟨v3, rfl, ho3, ht3⟩
 have hb3 := HB2.out.grown ht3 HB2.out.size (fun j hj => by cases hj; exact hg)
 have HO3 := Lib.hid ho3; have HB3 := Lib.hid hb3
 clear ho3 ht3 hb3
 go_wp2
 go_ret
 exact ⟨_, S, rfl, HS2.out, HO2.out, HO3.out, HB3.out⟩
end Go.Proofs.YtlccihidedfemaaGreatDoor
set_option linter.unusedVariables false
namespace Go.Proofs.YtlccihidedfemaaGreatDoor
open Go Go.RowKit
def SeqTake (F : Fence) (n : Nat) (g : Nat) (lb : Array Value) (W0 : World) (Bb : Nat) (d : List UInt8) (Good : List It → World → Prop) (w : World) : Prop :=
 ∀ (l : Nat) (J : List It → World → Prop) (J' : It → List It → World → Prop) (W : World), Below w.heap.size w W →
  (∀ R X, J R X → Good R X) → (∀ R X Y, J R X → Below X.heap.size X Y → J R Y) →
  (∀ x R X v, J (x :: R) X → IsItems W0 v R → J' x R (X.setCell ⟨Bb, 0, none⟩ v)) → (∀ x R X Y, J' x R X → Below X.heap.size X Y → J' x R Y) →
  (∀ x R X, dirS x.t = d → J' x R X → YieldAt F (n - 1) Tryz.prog l #[itV x] X fun e Y => e = .returned (.bool true) ∧ ∃ R', R'.length ≤ R.length ∧ J R' Y) →
  ∀ R0, J R0 W → CallsIn F n Tryz.prog g (#[.func (.yield l) #[] #[]] ++ lb) W fun e Y => (∃ v, e = .returned v) ∧ ∃ R, J R Y ∧ ∀ y ∈ R.head?, dirS y.t ≠ d
def KeptL (D L : Nat) (r : Loop) (W : World) : Prop := W.heap[D]? = some (.deferred (some [])) ∧ W.heap[L]? = some (.loop r)
theorem KeptL.put {D L : Nat} {r r' : Loop} {W : World} (h : KeptL D L r W) (hne : D ≠ L) : KeptL D L r' (W.putObj L (.loop r')) :=
 ⟨(World.putObj_heap_other hne).trans h.1, World.putObj_heap_same (Array.getElem?_eq_some_iff.1 h.2).1⟩
theorem KeptL.others {D L : Nat} {r : Loop} {W W' : World} (h : KeptL D L r W) (hk : KeepsOthers W W') : KeptL D L r W' := ⟨hk.same _ _ h.1 rfl, hk.same _ _ h.2 rfl⟩
theorem KeptL.below {D L : Nat} {r : Loop} {W W' : World} (h : KeptL D L r W) (hb : Below W.heap.size W W') : KeptL D L r W' :=
 ⟨(hb.block D (Array.getElem?_eq_some_iff.1 h.1).1).trans h.1, (hb.block L (Array.getElem?_eq_some_iff.1 h.2).1).trans h.2⟩
variable {F : Fence} {n : Nat}
theorem wpIn_rangeFunc_take {g : Operand} {ps : Array Tmp} {assign body : Code} {Q : Exit → Act → World → Prop} {a : Act} {w : World}
  (hro : F.round = none) (h1 : 1 ≤ n) {gf : Nat} {lb : Array Value} (hg : a.eval g = .func (.func gf) #[] lb) (hF : F.fn gf) (eg : ∀ args w, (callFunc gf args).run Tryz.prog w = .ok (.enter gf args) w)
  {W0 : World} {Bb : Nat} {d : List UInt8} {Good : List It → World → Prop} {w0 : World} (hseq : SeqTake F (n - 1) gf lb W0 Bb d Good w0) (hb0 : Below w0.heap.size w0 w) (hps : ps.size = 1)
  (I : List It → World → Prop) (I' : It → List It → World → Prop) (hgood : ∀ R X, I R X → Good R X)
  (hI : ∀ R X Y, I R X → Below X.heap.size X Y → I R Y) (hI' : ∀ x R X Y, I' x R X → Below X.heap.size X Y → I' x R Y)
  (hIo : ∀ R X l o o', I R X → w.heap.size ≤ l → X.heap[l]? = some (.loop o) → I R (X.putObj l (.loop o'))) (hIo' : ∀ x R X l o o', I' x R X → w.heap.size ≤ l → X.heap[l]? = some (.loop o) → I' x R (X.putObj l (.loop o')))
  (hpop : ∀ x R X v, I (x :: R) X → IsItems W0 v R → I' x R (X.setCell ⟨Bb, 0, none⟩ v))
  (R0 : List It) (h0 : I R0 w) (a₁ : It → Nat → Act)
  (hassign : ∀ (l : Nat) (x : It) (W : World) (K : Act → World → Prop), K (a₁ x W.heap.size) (W.alloc (.cells #[.string x.p, .bool x.d, .bool x.e, .string x.c] 51)) →
   assign.wpIn (F.inRound l) (n - 1 - 1) Tryz.prog (Exit.then K (fun _ _ _ => False)) { tmps := (ps.zip #[itV x]).foldl (fun t (p, v) => t.setIfInBounds p v) a.tmps, defers := [] } W)
  (hbody : ∀ (l : Nat) (x : It) (R : List It) (W : World) (bx : Nat), dirS x.t = d → I' x R W → Row W bx #[.string x.p, .bool x.d, .bool x.e, .string x.c] 51 → w.heap.size ≤ bx → body.wpIn (F.inRound l) (n - 1 - 1) Tryz.prog (fun e _ Y => e = .normal ∧ KeepsOthers W Y ∧ ∃ R', R'.length ≤ R.length ∧ I R' Y) (a₁ x bx) W)
  (hdone : ∀ (D : Nat) (R : List It) (W : World), w.heap.size ≤ D → I R W → (∀ y ∈ R.head?, dirS y.t ≠ d) → W.heap[D]? = some (.deferred (some [])) → Q .normal { a with defers := { target := .collected D, args := #[] } :: a.defers } W) :
  (Code.rangeFunc g ps assign body).wpIn F n Tryz.prog Q a w := by
 refine wpIn_rangeFunc fun fn hfn => ?_
 rw [hro]
 let D := w.heap.size
 let L := w.heap.size + 1
 let r0 : Loop := { state := .ready, pending := none, fn, tmps := a.tmps, params := ps, assign, body, defers := D }
 let W1 := (w.alloc (.deferred (some []))).alloc (.loop r0)
 have hDL : D ≠ L := by show w.heap.size ≠ w.heap.size + 1; omega
 have hD0 : w.heap.size ≤ D := Nat.le_refl _
 have hL0 : w.heap.size ≤ L := Nat.le_succ _
 have hb1 : Below w.heap.size w W1 := ((Below.refl _ w).alloc (Nat.le_refl _) _).alloc (by simp) _
 have hk1 : KeptL D L r0 W1 := by
  refine ⟨(Below.heap_alloc _ _ _ (by show D < _; simp [D])).trans (World.alloc_heap_new w _), ?_⟩
  have := World.alloc_heap_new (w.alloc (.deferred (some []))) (.loop r0)
  rwa [World.size_alloc] at this
 have hI1 : I R0 W1 := hI _ _ _ h0 hb1
 have hset : ∀ {W : World} {r : Loop} (v : Value), KeptL D L r W → KeptL D L r (W.setCell ⟨Bb, 0, none⟩ v) := fun v h => h.others (KeepsOthers.setCell _ _ _)
 refine ⟨L, [{ target := .collected D, args := #[] }], W1, { target := .fn (.func gf) lb, args := #[.func (.yield L) #[] #[]] }, W1, gf, #[.func (.yield L) #[] #[]] ++ lb, W1,
  run_enterLoop_outer fn a.tmps ps assign body, ?_, ?_, by simp [invoke, go_sem, eg], fun _ => h1, ?_⟩
 ·simp only [resolve, hg]; simp [go_sem]
 ·intro f' hf'; simp [Target.leads] at hf'; subst hf'; exact hF
 ·refine (hseq L (fun R W => I R W ∧ KeptL D L r0 W) (fun x R W => I' x R W ∧ KeptL D L r0 W) W1 (below_step hb0 hb1) (fun R X h => hgood R X h.1) (fun R X Y h hb => ⟨hI R X Y h.1 hb, h.2.below hb⟩)
   (fun x R X v h hv => ⟨hpop x R X v h.1 hv, hset v h.2⟩) (fun x R X Y h hb => ⟨hI' x R X Y h.1 hb, h.2.below hb⟩) ?_ R0 ⟨hI1, hk1⟩).mono ?_
  ·rintro x R W hd ⟨hi, hk⟩
   have hLW : L < W.heap.size := (Array.getElem?_eq_some_iff.1 hk.2).1
   have hbA : Below W.heap.size W (W.alloc (.cells #[.string x.p, .bool x.d, .bool x.e, .string x.c] 51)) := (Below.refl _ _).alloc (Nat.le_refl _) _
   have hkA := hk.below hbA
   refine ⟨fn, _, assign, body, run_yield hk.2 (by rw [hps]; rfl), roundIn_of_wpIn hfn (hassign L x W _ ⟨_, run_beginRound hkA.2 rfl, ?_⟩)⟩
   have hk2 : KeptL D L { r0 with state := .busy } ((W.alloc (.cells #[.string x.p, .bool x.d, .bool x.e, .string x.c] 51)).putObj L (.loop { r0 with state := .busy })) := hkA.put hDL
   have hrow : Row ((W.alloc (.cells #[.string x.p, .bool x.d, .bool x.e, .string x.c] 51)).putObj L (.loop { r0 with state := .busy })) W.heap.size #[.string x.p, .bool x.d, .bool x.e, .string x.c] 51 := (World.putObj_heap_other (by omega)).trans (Row.made W _ _)
   refine wpIn_mono (hbody L x R _ W.heap.size hd (hIo' _ _ _ _ _ _ (hI' _ _ _ _ hi hbA) hL0 hkA.2) hrow (by omega)) ?_
   rintro e a3 W3 ⟨rfl, hko, R', hl, hi3⟩
   have hk3 := hk2.others hko
   exact ⟨_, _, run_endRound none hk3.2, rfl, R', hl, hIo _ _ _ _ _ hi3 hL0 hk3.2, hk3.put hDL⟩
  ·rintro e W2 ⟨⟨v, rfl⟩, R, ⟨hi, hk⟩, hh⟩
   refine ⟨none, _, run_endLoop hk.2 (by simp [r0]), ?_⟩
   exact hdone D R _ hD0 (hIo _ _ _ _ _ hi hL0 hk.2) hh ((World.putObj_heap_other hDL).trans hk.1)
end Go.Proofs.YtlccihidedfemaaGreatDoor
set_option linter.unusedVariables false
namespace Go.Proofs.YtlccihidedfemaaGreatDoor
open Go.RowKit Go.Shelf
attribute [local go_sem] Oper.semAt_some
set_option maxRecDepth 100000 in
set_option maxHeartbeats 2000000 in
theorem Dir_any (s : ByteArray) (hs : s.size ≤ 100000) (w : World) :
  Calls Tryz.prog 86 #[.string s] w fun e w' => e = .returned (.string ⟨(dirS s.data.toList).toArray⟩) ∧ Below w.heap.size w w' := by
 have C := Lib.hid (Split_any s hs)
 have J := Lib.hid Join_any
 obtain ⟨l, hl⟩ : ∃ l, l = s.data.toList := ⟨_, rfl⟩
 rw [← hl] at C ⊢
 clear hl hs
 go_enter Tryz.func86, Tryz.ntmps86
 go_wp2_with fail
 refine (C.out _).mono ?_
 rintro e w1 ⟨v, rfl, hv, hb1⟩
 have HV := Lib.hid hv
 obtain ⟨hm, a, cap, rfl, ⟨_, hcap⟩, hc⟩ := hv
 have HLEN := Lib.hid (strsOf_len (splitS l))
 have HT := Lib.hid (txts_strsOf (splitS l))
 obtain ⟨L, hL⟩ : ∃ L, L = strsOf (splitS l) := ⟨_, rfl⟩
 rw [← hL] at HV HLEN HT hm hcap hc ⊢
 clear hL
 have hmm : L.length ≤ 9223372036854775807 := by unfold maxLen at hm; omega
 by_cases h2 : L.length = 0
 ·have e2 : ((L.length : Int) == 0) = true := beq_iff_eq.2 (by omega)
  have HN : Hid (dirS l = []) := splitS_short (by rw [← HLEN.out]; omega)
  clear hc hm hcap
  have HH := Lib.hid h2
  clear h2
  go_wp2
  go_ret
  exact ⟨by rw [HN.out]; rfl, hb1⟩
 ·have e2 : ((L.length : Int) == 0) = false := beq_eq_false_iff_ne.2 (by omega)
  obtain ⟨b, off, rfl, hlt, hcell⟩ := hc (by omega)
  have h1 : 1 ≤ L.length := by omega
  have hV2 : IsStrs w1 (.slice (some ⟨b, off, none⟩) (L.length - 1) cap) L.dropLast := by
   refine ⟨by rw [List.length_dropLast]; omega, some ⟨b, off, none⟩, cap, by rw [List.length_dropLast], ⟨fun h => (by cases h), by rw [List.length_dropLast]; omega⟩, fun _ => ⟨b, off, rfl, hlt, fun i hi => ?_⟩⟩
   rw [List.length_dropLast] at hi
   rw [hcell i (by omega), List.getElem_dropLast]
  have HV2 := Lib.hid hV2
  have J2 := Lib.hid (fun hv => J.out (.slice (some ⟨b, off, none⟩) (L.length - 1) cap) L.dropLast w1 hv)
  have HD : Hid (joinN (txts L.dropLast) = dirS l) := by
   show _ = _
   rw [show txts L.dropLast = (txts L).dropLast by simp [txts], HT.out]; rfl
  clear hc hcell hV2 J h2
  go_wp2_with fail
  refine (J2.out HV2.out).mono ?_
  rintro e w2 ⟨rfl, hb2⟩
  have hB := below_step hb1 hb2
  go_wp2
  go_ret
  exact ⟨by rw [HD.out]; rfl, hB⟩
end Go.Proofs.YtlccihidedfemaaGreatDoor
set_option linter.unusedVariables false
set_option pp.maxSteps 200000
namespace Go.Proofs.YtlccihidedfemaaGreatDoor
open Go.RowKit
set_option maxRecDepth 100000 in
set_option maxHeartbeats 1000000 in
theorem be8_take (n k : Nat) (hk : k < 8) : (be8 n).take (k + 1) = (be8 n).take k ++ [UInt8.ofNat (n / 2 ^ (8 * (7 - k)))] := by
 rw [List.take_succ_eq_append_getElem (by rw [be8_len]; exact hk)]
 simp [be8]
set_option maxRecDepth 100000 in
set_option maxHeartbeats 4000000 in
theorem closing_any (n : Nat) (hn : n ≤ 1152921504606846976) (w : World) : Calls Tryz.prog 142 #[.int .u64 n] w fun e w' => e = .returned (.string ⟨(closing n).toArray⟩) ∧ Below w.heap.size w w' := by
 obtain ⟨z, hz⟩ : ∃ z, z = zerosN_Shn n := ⟨_, rfl⟩
 have hz64 : z < 64 := by rw [hz]; unfold zerosN_Shn; omega
 have e0 : (n : Int) % 64 = ((n % 64 : Nat) : Int) := by omega
 have e1 : (128 - (((n % 64 : Nat) : Int) + 1 + 8)) % 64 = (z : Int) := by rw [hz]; unfold zerosN_Shn; omega
 have hr : n % 64 < 64 := Nat.mod_lt _ (by decide)
 obtain ⟨r, hre⟩ : ∃ r, r = n % 64 := ⟨_, rfl⟩
 rw [← hre] at e0 e1 hr
 have HZ := Lib.hid hz
 clear hz hre
 have q0 : Lib.IsBuilderF 154 5 w.heap.size w.heap.size [] (w.alloc (.cells #[.pointer none, .slice none 0 0] 154)) := Lib.IsBuilderF.of (Lib.fresh_isBuilder 154 5 w)
 have b0 : Below w.heap.size w (w.alloc (.cells #[.pointer none, .slice none 0 0] 154)) := (Below.refl _ _).alloc (Nat.le_refl _) _
 have Q0 := Lib.hid q0
 clear q0
 go_enter Tryz.func142, Tryz.ntmps142
 go_wp2_with fail
 refine (WriteByte_k w.heap.size w.heap.size [] 128 _ Q0.out (by decide) b0.size).mono ?_
 rintro e w1 ⟨rfl, h1, hb1, _⟩
 have q1 : Lib.IsBuilderF 154 5 w.heap.size w.heap.size (Lib.byteCells [128]) w1 := .inr h1
 have b1 := b0.trans hb1
 have Q1 := Lib.hid q1
 clear h1 hb1 b0 Q0 q1
 go_wp2_with fail
 refine (Repeat_zero z (by omega) _).mono ?_
 rintro e w2 ⟨rfl, hb2⟩
 have q2 := builder_step Q1.out hb2
 have b2 := b1.trans (hb2.mono b1.size)
 have Q2 := Lib.hid q2
 clear Q1 q2 hb2 b1
 go_wp2_with fail
 refine (WriteString_k_Bus w.heap.size w.heap.size _ (zeros z) _ Q2.out (by rw [Lib.byteCells_length, List.length_singleton, zeros, size_mk, List.length_replicate]; omega) b2.size).mono ?_
 rintro e w3 ⟨rfl, h3, hb3, _⟩
 have q3 : Lib.IsBuilderF 154 5 w.heap.size w.heap.size (Lib.byteCells (128 :: (List.replicate z 0 ++ (be8 (n * 8)).take 0))) w3 := .inr (by
  have e : Lib.byteCells [128] ++ Lib.strCells (zeros z) = Lib.byteCells (128 :: (List.replicate z 0 ++ (be8 (n * 8)).take 0)) := by
   rw [Lib.strCells_eq, ← Lib.byteCells_append]; simp [zeros]
  rwa [e] at h3)
 have b3 := b2.trans hb3
 have Q3 := Lib.hid q3
 clear h3 hb3 b2 Q2 q3
 go_wp2_with fail
 go_loopw [19, 6] (fun i _ wr => ∃ k : Nat, k ≤ 8 ∧ i = .int .i64 k ∧ Lib.IsBuilderF 154 5 w.heap.size w.heap.size (Lib.byteCells (128 :: (List.replicate z 0 ++ (be8 (n * 8)).take k))) wr ∧ Below w.heap.size w wr) (fun i _ _ => 8 - (intOf i).toNat)
 case atStart => exact ⟨0, by omega, rfl, Q3.out, b3⟩
 case round =>
  clear Q3 b3
  obtain ⟨k, hk, rfl, hB, hb⟩ := hrel
  have hlen : (Lib.byteCells (128 :: (List.replicate z 0 ++ (be8 (n * 8)).take k))).length ≤ 100 := by
   rw [Lib.byteCells_length]; simp [be8_len]; omega
  by_cases hlt : k < 8
  ·have hbk : decide ((k : Int) < 8) = true := by simpa using (show (k : Int) < 8 by omega)
   obtain ⟨c, hc⟩ : ∃ c, c = 8 * (7 - k) := ⟨_, rfl⟩
   have e3 : (8 : Int) * (7 - (k : Int)) = (c : Int) := by omega
   have bc : c ≤ 56 := by omega
   have HB := Lib.hid hB
   have HT := Lib.hid (be8_take (n * 8) k hlt)
   rw [← hc] at HT
   clear hB hc
   have hu : IntKind.u64.wrap ((n : Int) * 8) = (n : Int) * 8 := by show (n : Int) * 8 % 18446744073709551616 = _; omega
   go_wp2_with fail
   have h8 : ((n : Int) * 8 / 2 ^ c % 256) = ((UInt8.ofNat (n * 8 / 2 ^ c)).toNat : Int) := by
    rw [UInt8.toNat_ofNat', Int.natCast_emod, Int.natCast_ediv, Int.natCast_mul, Int.natCast_pow]; rfl
   rw [h8]
   refine (WriteByte_k w.heap.size w.heap.size _ _ _ HB.out (by omega) hb.size).mono ?_
   rintro e w4 ⟨rfl, h4, hb4, _⟩
   go_wp2_with fail
   refine ⟨⟨k + 1, by omega, by go_num, ?_, hb.trans hb4⟩, by simp [intOf]; omega⟩
   have e : Lib.byteCells (128 :: (List.replicate z 0 ++ (be8 (n * 8)).take k)) ++ [Value.int .u8 ((UInt8.ofNat (n * 8 / 2 ^ c)).toNat : Int)] = Lib.byteCells (128 :: (List.replicate z 0 ++ (be8 (n * 8)).take (k + 1))) := by
    rw [HT.out]; simp [Lib.byteCells]
   rw [e] at h4
   exact .inr h4
  ·have hk8 : k = 8 := by omega
   have hbk : decide ((k : Int) < 8) = false := by rw [hk8]; rfl
   have hB' : Lib.IsBuilderF 154 5 w.heap.size w.heap.size (Lib.byteCells (closing n)) wr := by
    rw [hk8, List.take_of_length_le (by rw [be8_len]; exact Nat.le_refl _), HZ.out] at hB
    exact hB
   have HB := Lib.hid hB'
   clear hB hB' hk8 hk hlt hlen
   go_wp2_with fail
   refine (String_full_k w.heap.size w.heap.size (closing n) wr HB.out (by simp [closing])).mono ?_
   rintro e w4 ⟨rfl, h4, hb4, _⟩
   go_wp2_with fail
   go_ret
   exact ⟨rfl, hb.trans hb4⟩
theorem closing_size (n : Nat) : (⟨(closing n).toArray⟩ : ByteArray).size ≤ 100 := by
 rw [size_mk, closing_len]; unfold zerosN_Shn; omega
set_option maxRecDepth 100000 in
set_option maxHeartbeats 4000000 in
theorem sum_any (B : Nat) (l : List UInt8) (n : Nat) (hn : n ≤ 1152921504606846976) (hl : l.length = n) (w : World) (hF : FedTo B w (absorb first l).1 (absorb first l).2 n) :
  Calls Tryz.prog 122 #[.pointer (some ⟨B, 0, none⟩)] w fun e w' => e = .returned (.string ⟨(shaSum l).toArray⟩) ∧ Below B w w' := by
 obtain ⟨rest, hr, hp, hpl, q⟩ := hF
 have c73 : w.cell? ⟨B, 73, none⟩ = some (.int .u64 n) := by rw [q.cell]; simp only [List.getElem?_toArray]; exact rcl_size _ _ _ _ hr
 have hlt := q.lt
 have hF : FedTo B w (absorb first l).1 (absorb first l).2 n := ⟨rest, hr, hp, hpl, q⟩
 have HF := Lib.hid hF
 have HE := Lib.hid (absorb_append l (closing n) first)
 have hfin : (absorb first (l ++ closing n)).2 = [] := by have := closed_rest l first; rwa [hl] at this
 have hok := absorb_ok (l ++ closing n) first_ok
 have hsum : shaSum l = (absorb first (l ++ closing n)).1.bytes := by unfold shaSum; rw [hl]
 obtain ⟨s1, hs1⟩ : ∃ s1, s1 = (absorb first (l ++ closing n)).1 := ⟨_, rfl⟩
 rw [← hs1] at hok hsum
 have HS := Lib.hid hs1; have HFIN := Lib.hid hfin; have HSUM := Lib.hid hsum
 have hok0 := absorb_ok l first_ok
 clear hF q hp hs1 hfin hsum
 go_enter Tryz.func122, Tryz.ntmps122
 go_wp2_with fail
 refine (closing_any n hn _).mono ?_
 rintro e w1 ⟨rfl, hb1⟩
 have hF1 : FedTo B w1 (absorb first l).1 (absorb first l).2 n := by
  obtain ⟨rest, a, b, c, q⟩ := HF.out
  exact ⟨rest, a, b, c, q.step hb1⟩
 have HF1 := Lib.hid hF1
 clear hF1
 go_wp2_with fail
 refine (feed_any B _ hok0 _ n ⟨(closing n).toArray⟩ _ HF1.out (by have := closing_size n; unfold maxLen; omega) (by omega)).mono ?_
 rintro e w2 ⟨rfl, hF2, hb2⟩
 rw [show ((⟨(closing n).toArray⟩ : ByteArray).data.toList) = closing n from rfl, HE.out, ← HS.out, HFIN.out] at hF2
 obtain ⟨rest2, hr2, _, _, q2⟩ := hF2
 have rh : w2.rangeAt B 0 (numV s1.list).toList := Row.rangeA (A := []) (M := numV s1.list) (C := rest2.map (fun n : UInt8 => Value.int .u8 (n.toNat : Int)) ++ [.int .i64 ((0 : Nat) : Int), .int .u64 ((n + (⟨(closing n).toArray⟩ : ByteArray).size : Nat) : Int)]) (by simpa [rcl, numV] using q2) 0 rfl
 have RH := Lib.hid rh
 clear rh q2
 go_wp2_with (refine wpList_load_mid rfl 166 _ rfl B 0 rfl (numV s1.list).toList _ RH.out Tryz.underlying166 rfl (by rw [Array.length_toList, numV_size]; exact size53) ?_)
 rw [Array.toArray_toList]
 refine (bytes_any s1 hok _).mono ?_
 rintro e w3 ⟨rfl, hb3⟩
 go_wp2_with fail
 go_ret
 refine ⟨by rw [HSUM.out]; rfl, ?_⟩
 have h1 : Below B w w1 := hb1.mono (Nat.le_of_lt hlt)
 have h2 := h1.trans hb2
 exact h2.trans (hb3.mono (Nat.le_trans (Nat.le_of_lt hlt) h2.size))
set_option maxRecDepth 100000 in
set_option maxHeartbeats 4000000 in
theorem Sum_any (s : ByteArray) (hs : s.size ≤ 1152921504606846976) (w : World) :
  Calls Tryz.prog 102 #[.string s] w fun e w' => e = .returned (.string ⟨(shaSum s.data.toList).toArray⟩) ∧ Below w.heap.size w w' := by
 have hl := (Lib.size_eq s).symm
 have HL := Lib.hid hl; clear hl
 have hs2 : s.size ≤ maxLen := by unfold maxLen; omega
 go_enter Tryz.func102, Tryz.ntmps102
 go_wp2_with fail
 refine (newReader_any _).mono ?_
 rintro e w1 ⟨B, hB, rfl, hF1, hb1⟩
 have HF1 := Lib.hid hF1
 clear hF1
 go_wp2_with fail
 refine (feed_any B first first_ok [] 0 s _ HF1.out hs2 (by decide)).mono ?_
 rintro e w2 ⟨rfl, hF2, hb2⟩
 rw [List.nil_append, Nat.zero_add] at hF2
 have HF2 := Lib.hid hF2
 clear hF2
 go_wp2_with fail
 refine (sum_any B s.data.toList s.size hs HL.out _ HF2.out).mono ?_
 rintro e w3 ⟨rfl, hb3⟩
 go_wp2_with fail
 go_ret
 exact ⟨rfl, hb1.trans ((hb2.trans hb3).mono hB)⟩
end Go.Proofs.YtlccihidedfemaaGreatDoor

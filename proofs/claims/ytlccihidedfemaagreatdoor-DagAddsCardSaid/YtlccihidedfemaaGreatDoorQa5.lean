/-
  Texts put together: contracts and laws that this seat's proofs share.
-/
import Derived.Test.YtlccihidedfemaaGreatDoorYaDth
import Derived.Test.YtlccihidedfemaaGreatDoorQa1
import Derived.RangeFuncFrom
import Derived.RangeFuncBox
import Derived.Test.YtlccihidedfemaaGreatDoorYaPay
import Derived.Shelf.Strings.SplitCore
import Derived.Shelf.Strings.Count
import Derived.Lib.SplitLaws
import Derived.WalkKit
import Derived.LoopTactic
import Derived.Outline
import Derived.Laws.BitsAllLaws
import Derived.Lib.Hide
import Derived.Below
import Derived.Laws.Rows
import Derived.Laws.CopyOwn
import Derived.Test.YtlccihidedfemaaGreatDoorProg
import Derived.Test.YtlccihidedfemaaGreatDoorQa0
import Derived.Test.YtlccihidedfemaaGreatDoorYaShf
import Derived.Test.YtlccihidedfemaaGreatDoorQa3
import Derived.Great.BuildSlice
import Derived.BigRegion
import Derived.Deep.QuietTactic
import Derived.BigQuiet
import Derived.StillTailTactics
import Derived.IntWalk
import Derived.WalkSmall
import Derived.RegionTactic
import Derived.Test.YtlccihidedfemaaGreatDoorYaNdd
import Derived.Laws.AppendOwn
import Derived.Laws.IdiomStrings
import Derived.OwnWalk
import Derived.Deep.RegionHeldLaw
import Derived.Deep.AppendLies
import Derived.Test.YtlccihidedfemaaGreatDoorYaNdi
import Derived.Test.YtlccihidedfemaaGreatDoorQa2
import Derived.Test.YtlccihidedfemaaGreatDoorYaCrf
import Derived.Test.YtlccihidedfemaaGreatDoorQa4
import Derived.Lib.QuietBelow
import Derived.Test.YtlccihidedfemaaGreatDoorYaDtj
import Derived.Deep.RegionWith
set_option linter.unusedVariables false
namespace Go.Proofs.YtlccihidedfemaaGreatDoor
open Go.RowKit
attribute [local go_sem] Oper.semAt_some
structure Bk (B Bb : Nat) (w w' : World) : Prop where
  os : w'.os = w.os
  tape : w'.tape = w.tape
  output : w'.output = w.output
  size : w.heap.size ≤ w'.heap.size
  block : ∀ b, b < w.heap.size → b ≠ Bb → (b < B ∨ ∀ xs, ¬ Row w b xs 33) → w'.heap[b]? = w.heap[b]?
theorem Bk.of_below {B Bb : Nat} {w w' : World} (h : Below w.heap.size w w') : Bk B Bb w w' := ⟨h.os, h.tape, h.output, h.size, fun b hb _ _ => h.block b hb⟩
theorem Bk.refl (B Bb : Nat) (w : World) : Bk B Bb w w := ⟨rfl, rfl, rfl, Nat.le_refl _, fun _ _ _ _ => rfl⟩
theorem Bk.trans {B Bb : Nat} {a b c : World} (h : Bk B Bb a b) (k : Bk B Bb b c) : Bk B Bb a c :=
  ⟨k.os.trans h.os, k.tape.trans h.tape, k.output.trans h.output, Nat.le_trans h.size k.size, fun i hi hn hp => by
    have e := h.block i hi hn hp
    refine (k.block i (Nat.lt_of_lt_of_le hi h.size) hn ?_).trans e
    rcases hp with hp | hp
    · exact .inl hp
    · exact .inr fun xs hr => hp xs (e.symm.trans (show b.heap[i]? = _ from hr))⟩
theorem Bk.step {B Bb : Nat} {a b c : World} (h : Bk B Bb a b) (k : Below b.heap.size b c) : Bk B Bb a c := h.trans (Bk.of_below k)
theorem Bk.row {B Bb b : Nat} {w w' : World} {xs : Array Value} {T : TypeId} (h : Bk B Bb w w') (hr : Row w b xs T) (hT : T ≠ 33) (hn : b ≠ Bb) : Row w' b xs T :=
  (h.block b hr.lt hn (.inr fun ys hy => by have e := (show w.heap[b]? = _ from hr).symm.trans (show w.heap[b]? = _ from hy); cases e; exact hT rfl)).trans hr
theorem Bk.obj {B Bb b : Nat} {w w' : World} {o : Obj} (h : Bk B Bb w w') (hr : w.heap[b]? = some o) (ho : ∀ xs t z, o ≠ .cells xs t z) (hn : b ≠ Bb) : w'.heap[b]? = some o :=
  (h.block b (Array.getElem?_eq_some_iff.1 hr).1 hn (.inr fun ys hy => by have e := hr.symm.trans (show w.heap[b]? = _ from hy); exact ho _ _ _ (Option.some.inj e))).trans hr
theorem Bk.turn {B Bb : Nat} {w w' : World} {r : Option Nat} (hg : w.grownBy w' r) (hr : ∀ g, r = some g → B ≤ g ∧ ∃ xs, Row w g xs 33) : Bk B Bb w w' :=
  ⟨hg.os, hg.tape, hg.output, hg.size, fun b hb hn hp => hg.block b hb (fun e => by
    obtain ⟨h1, xs, h2⟩ := hr b e.symm
    rcases hp with hp | hp
    · omega
    · exact hp xs h2)⟩
theorem Bk.set {B Bb i : Nat} {w : World} (u : Value) : Bk B Bb w (w.setCell ⟨Bb, i, none⟩ u) :=
  ⟨rfl, rfl, rfl, by simp [World.setCell], fun b hb hn _ => heap_setCell_other _ _ _ _ hn⟩
theorem Bk.below {B Bb : Nat} {a w w' : World} (h : Bk B Bb w w') (hb : Below B a w) (hs : B ≤ w.heap.size) (hB : B ≤ Bb) : Below B a w' :=
  hb.trans ⟨h.os, h.tape, h.output, h.size, fun k hk => h.block k (Nat.lt_of_lt_of_le hk hs) (by omega) (.inl hk)⟩
theorem OwnE.bk {B Bb C : Nat} {w w' : World} {v : Value} {L : List En} (h : OwnE C w v L) (hk : Bk B Bb w w') (hn : v.ownBlock ≠ some Bb) : OwnE C w' v L := by
  refine ⟨h.1, ?_⟩
  rcases h.2 with h2 | ⟨g, cap, cur, h3, h4, h5, h6⟩
  · exact .inl h2
  · exact .inr ⟨g, cap, cur, h3, h4, hk.row (xs := cur) (T := 78) h5 (by decide) (fun e => hn (by rw [h3, e]; rfl)), h6⟩
theorem OwnP.bk {B Bb C : Nat} {w w' : World} {v : Value} {L : List Pt} (h : OwnP C w v L) (hk : Bk B Bb w w') (hn : v.ownBlock ≠ some Bb) : OwnP C w' v L := by
  refine ⟨h.1, ?_⟩
  rcases h.2 with h2 | ⟨g, cap, cur, h3, h4, h5, h6⟩
  · exact .inl h2
  · exact .inr ⟨g, cap, cur, h3, h4, hk.row (xs := cur) (T := 74) h5 (by decide) (fun e => hn (by rw [h3, e]; rfl)), h6⟩
theorem OwnO.row {B : Nat} {w : World} {v : Value} {L : List Ob} (h : OwnO B w v L) {g : Nat} (hg : v.ownBlock = some g) : B ≤ g ∧ ∃ xs, Row w g xs 33 := by
  rcases h.2 with ⟨rfl, _⟩ | ⟨g', cap, cur, rfl, h4, h5, _⟩
  · cases hg
  · cases hg; exact ⟨h4, _, h5⟩
structure Bld (W0 : World) (Bb : Nat) (p : Nat × Nat × Nat) (w : World) (R : List It) (M : List Ob) (vR vB : Value) : Prop where
  row : Row w Bb #[vR, vB, .int .i64 p.1, .int .i64 p.2.1, .int .i64 p.2.2] 61
  rest : IsItems W0 vR R
  built : OwnO W0.heap.size w vB M
  from_ : W0.heap.size ≤ Bb
  below : Below W0.heap.size W0 w
theorem Bld.stays {W0 : World} {Bb : Nat} {p : Nat × Nat × Nat} {w w' : World} {R : List It} {M : List Ob} {vR vB : Value} (h : Bld W0 Bb p w R M vR vB) (hb : Below w.heap.size w w') : Bld W0 Bb p w' R M vR vB :=
  ⟨h.row.step hb, h.rest, h.built.stays hb, h.from_, below_step h.below hb⟩
theorem Bld.ne {W0 : World} {Bb : Nat} {p : Nat × Nat × Nat} {w : World} {R : List It} {M : List Ob} {vR vB : Value} (h : Bld W0 Bb p w R M vR vB) : vB.ownBlock ≠ some Bb := h.built.apart h.row (by decide)
theorem Bld.turn {W0 : World} {Bb : Nat} {p : Nat × Nat × Nat} {w w' : World} {R : List It} {M : List Ob} {vR vB : Value} {row : Option Nat} (h : Bld W0 Bb p w R M vR vB) (hg : w.grownBy w' row) (hr : ∀ g, row = some g → W0.heap.size ≤ g ∧ g ≠ Bb ∧ ∃ xs T, Row w g xs T ∧ T ≠ 33) : Bld W0 Bb p w' R M vR vB :=
  ⟨(hg.block Bb h.row.lt (fun e => (hr Bb e.symm).2.1 rfl)).trans h.row, h.rest, World.ownsRow.kept h.built hg (by
    cases hv : vB.ownBlock with
    | none => exact .inl rfl
    | some k =>
      refine .inr fun e => ?_
      obtain ⟨_, _, xs, T, h3, h4⟩ := hr k e.symm
      exact OwnO.apart h.built h3 h4 hv), h.from_, h.below.grown hg h.below.size (fun g e => (hr g e).1)⟩
theorem Bld.cells {W0 : World} {Bb : Nat} {p : Nat × Nat × Nat} {w : World} {R : List It} {M : List Ob} {vR vB : Value} (h : Bld W0 Bb p w R M vR vB) :
    w.cell? ⟨Bb, 0, none⟩ = some vR ∧ w.cell? ⟨Bb, 1, none⟩ = some vB ∧ w.cell? ⟨Bb, 2, none⟩ = some (.int .i64 p.1) ∧ w.cell? ⟨Bb, 3, none⟩ = some (.int .i64 p.2.1) ∧ w.cell? ⟨Bb, 4, none⟩ = some (.int .i64 p.2.2) :=
  ⟨h.row.cell 0, h.row.cell 1, h.row.cell 2, h.row.cell 3, h.row.cell 4⟩
def KeyedO (M : List Ob) (w : World) (e : Ending) (w' : World) : Prop := ∃ v' S, e = .returned v' ∧ Stab M S ∧ SortO S ∧ OwnO w.heap.size w' v' (compO S) ∧ Below w.heap.size w w'
theorem byKey_any (W0 : World) (Bb : Nat) (p : Nat × Nat × Nat) (w : World) (R : List It) (M : List Ob) (vR vB : Value) (h : Bld W0 Bb p w R M vR vB) (h0 : 0 < M.length) (hM : M.length ≤ 1000000) :
    Calls Tryz.prog 32 #[.pointer (some ⟨Bb, 1, none⟩)] w (KeyedO M w) := by
  have CC := Lib.hid (oClone_any vB M w h.built.is hM)
  have c1 := h.cells.2.1
  have HH := Lib.hid h
  clear h
  go_enter Tryz.func32, Tryz.ntmps32
  go_wp2_with fail
  with_reducible refine CC.out.mono ?_
  rintro e w1 ⟨v1, rfl, ho1, hb1⟩
  obtain ⟨g, cap, rfl⟩ : ∃ g cap, v1 = .slice (some ⟨g, 0, none⟩) M.length cap := by
    rcases ho1.2 with ⟨_, h2⟩ | ⟨g, cap, cur, rfl, _⟩
    · omega
    · exact ⟨g, cap, rfl⟩
  obtain ⟨_, hg, hr1⟩ := ho1.rowO
  have CS := Lib.hid (sortStable_any g cap M.length M w1 hr1 rfl hM)
  have HB1 := Lib.hid hb1
  clear ho1 hb1 hr1 c1
  go_wp2_with fail
  with_reducible refine CS.out.mono ?_
  rintro e w2 ⟨rfl, S, hr2, hl2, hs2, ho2, ht2⟩
  have hb2 := HB1.out.grown ht2 HB1.out.size (fun j hj => by cases hj; exact hg)
  have CF := Lib.hid (oCompact_any w.heap.size g cap M.length S w2 hr2 hg hl2.symm hM)
  have HB2 := Lib.hid hb2; have HS2 := Lib.hid hs2; have HO2 := Lib.hid ho2
  clear hr2 hl2 hs2 ho2 ht2 hb2
  go_wp2_with fail
  with_reducible refine CF.out.mono ?_
  rintro e w3 ⟨v3, rfl, ho3, ht3⟩
  have hb3 := HB2.out.grown ht3 HB2.out.size (fun j hj => by cases hj; exact hg)
  have HO3 := Lib.hid ho3; have HB3 := Lib.hid hb3
  clear ho3 ht3 hb3
  go_wp2
  go_ret
  exact ⟨_, S, rfl, HS2.out, HO2.out, HO3.out, HB3.out⟩
end Go.Proofs.YtlccihidedfemaaGreatDoor
set_option linter.unusedVariables false
namespace Go.Proofs.YtlccihidedfemaaGreatDoor
open Go Go.RowKit
def SeqTake (F : Fence) (n : Nat) (g : Nat) (lb : Array Value) (W0 : World) (Bb : Nat) (d : List UInt8) (Good : List It → World → Prop) (w : World) : Prop :=
  ∀ (l : Nat) (J : List It → World → Prop) (J' : It → List It → World → Prop) (W : World), Below w.heap.size w W →
    (∀ R X, J R X → Good R X) → (∀ R X Y, J R X → Below X.heap.size X Y → J R Y) →
    (∀ x R X v, J (x :: R) X → IsItems W0 v R → J' x R (X.setCell ⟨Bb, 0, none⟩ v)) → (∀ x R X Y, J' x R X → Below X.heap.size X Y → J' x R Y) →
    (∀ x R X, dirS x.t = d → J' x R X → YieldAt F (n - 1) Tryz.prog l #[itV x] X fun e Y => e = .returned (.bool true) ∧ ∃ R', R'.length ≤ R.length ∧ J R' Y) →
    ∀ R0, J R0 W → CallsIn F n Tryz.prog g (#[.func (.yield l) #[] #[]] ++ lb) W fun e Y => (∃ v, e = .returned v) ∧ ∃ R, J R Y ∧ ∀ y ∈ R.head?, dirS y.t ≠ d
def KeptL (D L : Nat) (r : Loop) (W : World) : Prop := W.heap[D]? = some (.deferred (some [])) ∧ W.heap[L]? = some (.loop r)
theorem KeptL.put {D L : Nat} {r r' : Loop} {W : World} (h : KeptL D L r W) (hne : D ≠ L) : KeptL D L r' (W.putObj L (.loop r')) :=
  ⟨(World.putObj_heap_other hne).trans h.1, World.putObj_heap_same (Array.getElem?_eq_some_iff.1 h.2).1⟩
theorem KeptL.others {D L : Nat} {r : Loop} {W W' : World} (h : KeptL D L r W) (hk : KeepsOthers W W') : KeptL D L r W' := ⟨hk.same _ _ h.1 rfl, hk.same _ _ h.2 rfl⟩
theorem KeptL.below {D L : Nat} {r : Loop} {W W' : World} (h : KeptL D L r W) (hb : Below W.heap.size W W') : KeptL D L r W' :=
  ⟨(hb.block D (Array.getElem?_eq_some_iff.1 h.1).1).trans h.1, (hb.block L (Array.getElem?_eq_some_iff.1 h.2).1).trans h.2⟩
variable {F : Fence} {n : Nat}
theorem wpIn_rangeFunc_take {g : Operand} {ps : Array Tmp} {assign body : Code} {Q : Exit → Act → World → Prop} {a : Act} {w : World}
    (hro : F.round = none) (h1 : 1 ≤ n) {gf : Nat} {lb : Array Value} (hg : a.eval g = .func (.func gf) #[] lb) (hF : F.fn gf) (eg : ∀ args w, (callFunc gf args).run Tryz.prog w = .ok (.enter gf args) w)
    {W0 : World} {Bb : Nat} {d : List UInt8} {Good : List It → World → Prop} {w0 : World} (hseq : SeqTake F (n - 1) gf lb W0 Bb d Good w0) (hb0 : Below w0.heap.size w0 w) (hps : ps.size = 1)
    (I : List It → World → Prop) (I' : It → List It → World → Prop) (hgood : ∀ R X, I R X → Good R X)
    (hI : ∀ R X Y, I R X → Below X.heap.size X Y → I R Y) (hI' : ∀ x R X Y, I' x R X → Below X.heap.size X Y → I' x R Y)
    (hIo : ∀ R X l o o', I R X → w.heap.size ≤ l → X.heap[l]? = some (.loop o) → I R (X.putObj l (.loop o'))) (hIo' : ∀ x R X l o o', I' x R X → w.heap.size ≤ l → X.heap[l]? = some (.loop o) → I' x R (X.putObj l (.loop o')))
    (hpop : ∀ x R X v, I (x :: R) X → IsItems W0 v R → I' x R (X.setCell ⟨Bb, 0, none⟩ v))
    (R0 : List It) (h0 : I R0 w) (a₁ : It → Nat → Act)
    (hassign : ∀ (l : Nat) (x : It) (W : World) (K : Act → World → Prop), K (a₁ x W.heap.size) (W.alloc (.cells #[.string x.p, .bool x.d, .bool x.e, .string x.c] 51)) →
      assign.wpIn (F.inRound l) (n - 1 - 1) Tryz.prog (Exit.then K (fun _ _ _ => False)) { tmps := (ps.zip #[itV x]).foldl (fun t (p, v) => t.setIfInBounds p v) a.tmps, defers := [] } W)
    (hbody : ∀ (l : Nat) (x : It) (R : List It) (W : World) (bx : Nat), dirS x.t = d → I' x R W → Row W bx #[.string x.p, .bool x.d, .bool x.e, .string x.c] 51 → w.heap.size ≤ bx → body.wpIn (F.inRound l) (n - 1 - 1) Tryz.prog (fun e _ Y => e = .normal ∧ KeepsOthers W Y ∧ ∃ R', R'.length ≤ R.length ∧ I R' Y) (a₁ x bx) W)
    (hdone : ∀ (D : Nat) (R : List It) (W : World), w.heap.size ≤ D → I R W → (∀ y ∈ R.head?, dirS y.t ≠ d) → W.heap[D]? = some (.deferred (some [])) → Q .normal { a with defers := { target := .collected D, args := #[] } :: a.defers } W) :
    (Code.rangeFunc g ps assign body).wpIn F n Tryz.prog Q a w := by
  refine wpIn_rangeFunc fun fn hfn => ?_
  rw [hro]
  let D := w.heap.size
  let L := w.heap.size + 1
  let r0 : Loop := { state := .ready, pending := none, fn, tmps := a.tmps, params := ps, assign, body, defers := D }
  let W1 := (w.alloc (.deferred (some []))).alloc (.loop r0)
  have hDL : D ≠ L := by show w.heap.size ≠ w.heap.size + 1; omega
  have hD0 : w.heap.size ≤ D := Nat.le_refl _
  have hL0 : w.heap.size ≤ L := Nat.le_succ _
  have hb1 : Below w.heap.size w W1 := ((Below.refl _ w).alloc (Nat.le_refl _) _).alloc (by simp) _
  have hk1 : KeptL D L r0 W1 := by
    refine ⟨(Below.heap_alloc _ _ _ (by show D < _; simp [D])).trans (World.alloc_heap_new w _), ?_⟩
    have := World.alloc_heap_new (w.alloc (.deferred (some []))) (.loop r0)
    rwa [World.size_alloc] at this
  have hI1 : I R0 W1 := hI _ _ _ h0 hb1
  have hset : ∀ {W : World} {r : Loop} (v : Value), KeptL D L r W → KeptL D L r (W.setCell ⟨Bb, 0, none⟩ v) := fun v h => h.others (KeepsOthers.setCell _ _ _)
  refine ⟨L, [{ target := .collected D, args := #[] }], W1, { target := .fn (.func gf) lb, args := #[.func (.yield L) #[] #[]] }, W1, gf, #[.func (.yield L) #[] #[]] ++ lb, W1,
    run_enterLoop_outer fn a.tmps ps assign body, ?_, ?_, by simp [invoke, go_sem, eg], fun _ => h1, ?_⟩
  · simp only [resolve, hg]; simp [go_sem]
  · intro f' hf'; simp [Target.leads] at hf'; subst hf'; exact hF
  · refine (hseq L (fun R W => I R W ∧ KeptL D L r0 W) (fun x R W => I' x R W ∧ KeptL D L r0 W) W1 (below_step hb0 hb1) (fun R X h => hgood R X h.1) (fun R X Y h hb => ⟨hI R X Y h.1 hb, h.2.below hb⟩)
      (fun x R X v h hv => ⟨hpop x R X v h.1 hv, hset v h.2⟩) (fun x R X Y h hb => ⟨hI' x R X Y h.1 hb, h.2.below hb⟩) ?_ R0 ⟨hI1, hk1⟩).mono ?_
    · rintro x R W hd ⟨hi, hk⟩
      have hLW : L < W.heap.size := (Array.getElem?_eq_some_iff.1 hk.2).1
      have hbA : Below W.heap.size W (W.alloc (.cells #[.string x.p, .bool x.d, .bool x.e, .string x.c] 51)) := (Below.refl _ _).alloc (Nat.le_refl _) _
      have hkA := hk.below hbA
      refine ⟨fn, _, assign, body, run_yield hk.2 (by rw [hps]; rfl), roundIn_of_wpIn hfn (hassign L x W _ ⟨_, run_beginRound hkA.2 rfl, ?_⟩)⟩
      have hk2 : KeptL D L { r0 with state := .busy } ((W.alloc (.cells #[.string x.p, .bool x.d, .bool x.e, .string x.c] 51)).putObj L (.loop { r0 with state := .busy })) := hkA.put hDL
      have hrow : Row ((W.alloc (.cells #[.string x.p, .bool x.d, .bool x.e, .string x.c] 51)).putObj L (.loop { r0 with state := .busy })) W.heap.size #[.string x.p, .bool x.d, .bool x.e, .string x.c] 51 := (World.putObj_heap_other (by omega)).trans (Row.made W _ _)
      refine wpIn_mono (hbody L x R _ W.heap.size hd (hIo' _ _ _ _ _ _ (hI' _ _ _ _ hi hbA) hL0 hkA.2) hrow (by omega)) ?_
      rintro e a3 W3 ⟨rfl, hko, R', hl, hi3⟩
      have hk3 := hk2.others hko
      exact ⟨_, _, run_endRound none hk3.2, rfl, R', hl, hIo _ _ _ _ _ hi3 hL0 hk3.2, hk3.put hDL⟩
    · rintro e W2 ⟨⟨v, rfl⟩, R, ⟨hi, hk⟩, hh⟩
      refine ⟨none, _, run_endLoop hk.2 (by simp [r0]), ?_⟩
      exact hdone D R _ hD0 (hIo _ _ _ _ _ hi hL0 hk.2) hh ((World.putObj_heap_other hDL).trans hk.1)
end Go.Proofs.YtlccihidedfemaaGreatDoor
set_option linter.unusedVariables false
namespace Go.Proofs.YtlccihidedfemaaGreatDoor
open Go.RowKit Go.Shelf
attribute [local go_sem] Oper.semAt_some
set_option maxRecDepth 100000 in
set_option maxHeartbeats 2000000 in
theorem Dir_any (s : ByteArray) (hs : s.size ≤ 100000) (w : World) :
    Calls Tryz.prog 86 #[.string s] w fun e w' => e = .returned (.string ⟨(dirS s.data.toList).toArray⟩) ∧ Below w.heap.size w w' := by
  have C := Lib.hid (Split_any s hs)
  have J := Lib.hid Join_any
  obtain ⟨l, hl⟩ : ∃ l, l = s.data.toList := ⟨_, rfl⟩
  rw [← hl] at C ⊢
  clear hl hs
  go_enter Tryz.func86, Tryz.ntmps86
  go_wp2_with fail
  refine (C.out _).mono ?_
  rintro e w1 ⟨v, rfl, hv, hb1⟩
  have HV := Lib.hid hv
  obtain ⟨hm, a, cap, rfl, ⟨_, hcap⟩, hc⟩ := hv
  have HLEN := Lib.hid (strsOf_len (splitS l))
  have HT := Lib.hid (txts_strsOf (splitS l))
  obtain ⟨L, hL⟩ : ∃ L, L = strsOf (splitS l) := ⟨_, rfl⟩
  rw [← hL] at HV HLEN HT hm hcap hc ⊢
  clear hL
  have hmm : L.length ≤ 9223372036854775807 := by unfold maxLen at hm; omega
  by_cases h2 : L.length = 0
  · have e2 : ((L.length : Int) == 0) = true := beq_iff_eq.2 (by omega)
    have HN : Hid (dirS l = []) := splitS_short (by rw [← HLEN.out]; omega)
    clear hc hm hcap
    have HH := Lib.hid h2
    clear h2
    go_wp2
    go_ret
    exact ⟨by rw [HN.out]; rfl, hb1⟩
  · have e2 : ((L.length : Int) == 0) = false := beq_eq_false_iff_ne.2 (by omega)
    obtain ⟨b, off, rfl, hlt, hcell⟩ := hc (by omega)
    have h1 : 1 ≤ L.length := by omega
    have hV2 : IsStrs w1 (.slice (some ⟨b, off, none⟩) (L.length - 1) cap) L.dropLast := by
      refine ⟨by rw [List.length_dropLast]; omega, some ⟨b, off, none⟩, cap, by rw [List.length_dropLast], ⟨fun h => (by cases h), by rw [List.length_dropLast]; omega⟩, fun _ => ⟨b, off, rfl, hlt, fun i hi => ?_⟩⟩
      rw [List.length_dropLast] at hi
      rw [hcell i (by omega), List.getElem_dropLast]
    have HV2 := Lib.hid hV2
    have J2 := Lib.hid (fun hv => J.out (.slice (some ⟨b, off, none⟩) (L.length - 1) cap) L.dropLast w1 hv)
    have HD : Hid (joinN (txts L.dropLast) = dirS l) := by
      show _ = _
      rw [show txts L.dropLast = (txts L).dropLast by simp [txts], HT.out]; rfl
    clear hc hcell hV2 J h2
    go_wp2_with fail
    refine (J2.out HV2.out).mono ?_
    rintro e w2 ⟨rfl, hb2⟩
    have hB := below_step hb1 hb2
    go_wp2
    go_ret
    exact ⟨by rw [HD.out]; rfl, hB⟩
end Go.Proofs.YtlccihidedfemaaGreatDoor
set_option linter.unusedVariables false
set_option pp.maxSteps 200000
namespace Go.Proofs.YtlccihidedfemaaGreatDoor
open Go.RowKit
set_option maxRecDepth 100000 in
set_option maxHeartbeats 1000000 in
theorem be8_take (n k : Nat) (hk : k < 8) : (be8 n).take (k + 1) = (be8 n).take k ++ [UInt8.ofNat (n / 2 ^ (8 * (7 - k)))] := by
  rw [List.take_succ_eq_append_getElem (by rw [be8_len]; exact hk)]
  simp [be8]
set_option maxRecDepth 100000 in
set_option maxHeartbeats 4000000 in
theorem closing_any (n : Nat) (hn : n ≤ 1152921504606846976) (w : World) : Calls Tryz.prog 142 #[.int .u64 n] w fun e w' => e = .returned (.string ⟨(closing n).toArray⟩) ∧ Below w.heap.size w w' := by
  obtain ⟨z, hz⟩ : ∃ z, z = zerosN_Shn n := ⟨_, rfl⟩
  have hz64 : z < 64 := by rw [hz]; unfold zerosN_Shn; omega
  have e0 : (n : Int) % 64 = ((n % 64 : Nat) : Int) := by omega
  have e1 : (128 - (((n % 64 : Nat) : Int) + 1 + 8)) % 64 = (z : Int) := by rw [hz]; unfold zerosN_Shn; omega
  have hr : n % 64 < 64 := Nat.mod_lt _ (by decide)
  obtain ⟨r, hre⟩ : ∃ r, r = n % 64 := ⟨_, rfl⟩
  rw [← hre] at e0 e1 hr
  have HZ := Lib.hid hz
  clear hz hre
  have q0 : Lib.IsBuilderF 154 5 w.heap.size w.heap.size [] (w.alloc (.cells #[.pointer none, .slice none 0 0] 154)) := Lib.IsBuilderF.of (Lib.fresh_isBuilder 154 5 w)
  have b0 : Below w.heap.size w (w.alloc (.cells #[.pointer none, .slice none 0 0] 154)) := (Below.refl _ _).alloc (Nat.le_refl _) _
  have Q0 := Lib.hid q0
  clear q0
  go_enter Tryz.func142, Tryz.ntmps142
  go_wp2_with fail
  refine (WriteByte_k w.heap.size w.heap.size [] 128 _ Q0.out (by decide) b0.size).mono ?_
  rintro e w1 ⟨rfl, h1, hb1, _⟩
  have q1 : Lib.IsBuilderF 154 5 w.heap.size w.heap.size (Lib.byteCells [128]) w1 := .inr h1
  have b1 := b0.trans hb1
  have Q1 := Lib.hid q1
  clear h1 hb1 b0 Q0 q1
  go_wp2_with fail
  refine (Repeat_zero z (by omega) _).mono ?_
  rintro e w2 ⟨rfl, hb2⟩
  have q2 := builder_step Q1.out hb2
  have b2 := b1.trans (hb2.mono b1.size)
  have Q2 := Lib.hid q2
  clear Q1 q2 hb2 b1
  go_wp2_with fail
  refine (WriteString_k_Bus w.heap.size w.heap.size _ (zeros z) _ Q2.out (by rw [Lib.byteCells_length, List.length_singleton, zeros, size_mk, List.length_replicate]; omega) b2.size).mono ?_
  rintro e w3 ⟨rfl, h3, hb3, _⟩
  have q3 : Lib.IsBuilderF 154 5 w.heap.size w.heap.size (Lib.byteCells (128 :: (List.replicate z 0 ++ (be8 (n * 8)).take 0))) w3 := .inr (by
    have e : Lib.byteCells [128] ++ Lib.strCells (zeros z) = Lib.byteCells (128 :: (List.replicate z 0 ++ (be8 (n * 8)).take 0)) := by
      rw [Lib.strCells_eq, ← Lib.byteCells_append]; simp [zeros]
    rwa [e] at h3)
  have b3 := b2.trans hb3
  have Q3 := Lib.hid q3
  clear h3 hb3 b2 Q2 q3
  go_wp2_with fail
  go_loopw [19, 6] (fun i _ wr => ∃ k : Nat, k ≤ 8 ∧ i = .int .i64 k ∧ Lib.IsBuilderF 154 5 w.heap.size w.heap.size (Lib.byteCells (128 :: (List.replicate z 0 ++ (be8 (n * 8)).take k))) wr ∧ Below w.heap.size w wr) (fun i _ _ => 8 - (intOf i).toNat)
  case atStart => exact ⟨0, by omega, rfl, Q3.out, b3⟩
  case round =>
    clear Q3 b3
    obtain ⟨k, hk, rfl, hB, hb⟩ := hrel
    have hlen : (Lib.byteCells (128 :: (List.replicate z 0 ++ (be8 (n * 8)).take k))).length ≤ 100 := by
      rw [Lib.byteCells_length]; simp [be8_len]; omega
    by_cases hlt : k < 8
    · have hbk : decide ((k : Int) < 8) = true := by simpa using (show (k : Int) < 8 by omega)
      obtain ⟨c, hc⟩ : ∃ c, c = 8 * (7 - k) := ⟨_, rfl⟩
      have e3 : (8 : Int) * (7 - (k : Int)) = (c : Int) := by omega
      have bc : c ≤ 56 := by omega
      have HB := Lib.hid hB
      have HT := Lib.hid (be8_take (n * 8) k hlt)
      rw [← hc] at HT
      clear hB hc
      have hu : IntKind.u64.wrap ((n : Int) * 8) = (n : Int) * 8 := by show (n : Int) * 8 % 18446744073709551616 = _; omega
      go_wp2_with fail
      have h8 : ((n : Int) * 8 / 2 ^ c % 256) = ((UInt8.ofNat (n * 8 / 2 ^ c)).toNat : Int) := by
        rw [UInt8.toNat_ofNat', Int.natCast_emod, Int.natCast_ediv, Int.natCast_mul, Int.natCast_pow]; rfl
      rw [h8]
      refine (WriteByte_k w.heap.size w.heap.size _ _ _ HB.out (by omega) hb.size).mono ?_
      rintro e w4 ⟨rfl, h4, hb4, _⟩
      go_wp2_with fail
      refine ⟨⟨k + 1, by omega, by go_num, ?_, hb.trans hb4⟩, by simp [intOf]; omega⟩
      have e : Lib.byteCells (128 :: (List.replicate z 0 ++ (be8 (n * 8)).take k)) ++ [Value.int .u8 ((UInt8.ofNat (n * 8 / 2 ^ c)).toNat : Int)] = Lib.byteCells (128 :: (List.replicate z 0 ++ (be8 (n * 8)).take (k + 1))) := by
        rw [HT.out]; simp [Lib.byteCells]
      rw [e] at h4
      exact .inr h4
    · have hk8 : k = 8 := by omega
      have hbk : decide ((k : Int) < 8) = false := by rw [hk8]; rfl
      have hB' : Lib.IsBuilderF 154 5 w.heap.size w.heap.size (Lib.byteCells (closing n)) wr := by
        rw [hk8, List.take_of_length_le (by rw [be8_len]; exact Nat.le_refl _), HZ.out] at hB
        exact hB
      have HB := Lib.hid hB'
      clear hB hB' hk8 hk hlt hlen
      go_wp2_with fail
      refine (String_full_k w.heap.size w.heap.size (closing n) wr HB.out (by simp [closing])).mono ?_
      rintro e w4 ⟨rfl, h4, hb4, _⟩
      go_wp2_with fail
      go_ret
      exact ⟨rfl, hb.trans hb4⟩
theorem closing_size (n : Nat) : (⟨(closing n).toArray⟩ : ByteArray).size ≤ 100 := by
  rw [size_mk, closing_len]; unfold zerosN_Shn; omega
set_option maxRecDepth 100000 in
set_option maxHeartbeats 4000000 in
theorem sum_any (B : Nat) (l : List UInt8) (n : Nat) (hn : n ≤ 1152921504606846976) (hl : l.length = n) (w : World) (hF : FedTo B w (absorb first l).1 (absorb first l).2 n) :
    Calls Tryz.prog 122 #[.pointer (some ⟨B, 0, none⟩)] w fun e w' => e = .returned (.string ⟨(shaSum l).toArray⟩) ∧ Below B w w' := by
  obtain ⟨rest, hr, hp, hpl, q⟩ := hF
  have c73 : w.cell? ⟨B, 73, none⟩ = some (.int .u64 n) := by rw [q.cell]; simp only [List.getElem?_toArray]; exact rcl_size _ _ _ _ hr
  have hlt := q.lt
  have hF : FedTo B w (absorb first l).1 (absorb first l).2 n := ⟨rest, hr, hp, hpl, q⟩
  have HF := Lib.hid hF
  have HE := Lib.hid (absorb_append l (closing n) first)
  have hfin : (absorb first (l ++ closing n)).2 = [] := by have := closed_rest l first; rwa [hl] at this
  have hok := absorb_ok (l ++ closing n) first_ok
  have hsum : shaSum l = (absorb first (l ++ closing n)).1.bytes := by unfold shaSum; rw [hl]
  obtain ⟨s1, hs1⟩ : ∃ s1, s1 = (absorb first (l ++ closing n)).1 := ⟨_, rfl⟩
  rw [← hs1] at hok hsum
  have HS := Lib.hid hs1; have HFIN := Lib.hid hfin; have HSUM := Lib.hid hsum
  have hok0 := absorb_ok l first_ok
  clear hF q hp hs1 hfin hsum
  go_enter Tryz.func122, Tryz.ntmps122
  go_wp2_with fail
  refine (closing_any n hn _).mono ?_
  rintro e w1 ⟨rfl, hb1⟩
  have hF1 : FedTo B w1 (absorb first l).1 (absorb first l).2 n := by
    obtain ⟨rest, a, b, c, q⟩ := HF.out
    exact ⟨rest, a, b, c, q.step hb1⟩
  have HF1 := Lib.hid hF1
  clear hF1
  go_wp2_with fail
  refine (feed_any B _ hok0 _ n ⟨(closing n).toArray⟩ _ HF1.out (by have := closing_size n; unfold maxLen; omega) (by omega)).mono ?_
  rintro e w2 ⟨rfl, hF2, hb2⟩
  rw [show ((⟨(closing n).toArray⟩ : ByteArray).data.toList) = closing n from rfl, HE.out, ← HS.out, HFIN.out] at hF2
  obtain ⟨rest2, hr2, _, _, q2⟩ := hF2
  have rh : w2.rangeAt B 0 (numV s1.list).toList := Row.rangeA (A := []) (M := numV s1.list) (C := rest2.map (fun n : UInt8 => Value.int .u8 (n.toNat : Int)) ++ [.int .i64 ((0 : Nat) : Int), .int .u64 ((n + (⟨(closing n).toArray⟩ : ByteArray).size : Nat) : Int)]) (by simpa [rcl, numV] using q2) 0 rfl
  have RH := Lib.hid rh
  clear rh q2
  go_wp2_with (refine wpList_load_mid rfl 166 _ rfl B 0 rfl (numV s1.list).toList _ RH.out Tryz.underlying166 rfl (by rw [Array.length_toList, numV_size]; exact size53) ?_)
  rw [Array.toArray_toList]
  refine (bytes_any s1 hok _).mono ?_
  rintro e w3 ⟨rfl, hb3⟩
  go_wp2_with fail
  go_ret
  refine ⟨by rw [HSUM.out]; rfl, ?_⟩
  have h1 : Below B w w1 := hb1.mono (Nat.le_of_lt hlt)
  have h2 := h1.trans hb2
  exact h2.trans (hb3.mono (Nat.le_trans (Nat.le_of_lt hlt) h2.size))
set_option maxRecDepth 100000 in
set_option maxHeartbeats 4000000 in
theorem Sum_any (s : ByteArray) (hs : s.size ≤ 1152921504606846976) (w : World) :
    Calls Tryz.prog 102 #[.string s] w fun e w' => e = .returned (.string ⟨(shaSum s.data.toList).toArray⟩) ∧ Below w.heap.size w w' := by
  have hl := (Lib.size_eq s).symm
  have HL := Lib.hid hl; clear hl
  have hs2 : s.size ≤ maxLen := by unfold maxLen; omega
  go_enter Tryz.func102, Tryz.ntmps102
  go_wp2_with fail
  refine (newReader_any _).mono ?_
  rintro e w1 ⟨B, hB, rfl, hF1, hb1⟩
  have HF1 := Lib.hid hF1
  clear hF1
  go_wp2_with fail
  refine (feed_any B first first_ok [] 0 s _ HF1.out hs2 (by decide)).mono ?_
  rintro e w2 ⟨rfl, hF2, hb2⟩
  rw [List.nil_append, Nat.zero_add] at hF2
  have HF2 := Lib.hid hF2
  clear hF2
  go_wp2_with fail
  refine (sum_any B s.data.toList s.size hs HL.out _ HF2.out).mono ?_
  rintro e w3 ⟨rfl, hb3⟩
  go_wp2_with fail
  go_ret
  exact ⟨rfl, hb1.trans ((hb2.trans hb3).mono hB)⟩
end Go.Proofs.YtlccihidedfemaaGreatDoor
set_option linter.unusedVariables false
namespace Go.Proofs.YtlccihidedfemaaGreatDoor
open Go.RowKit
attribute [local go_sem] Oper.semAt_some
set_option maxRecDepth 100000 in
set_option maxHeartbeats 1000000 in
theorem pKey_any (n : Nd) (pv ev : Value) (w : World) (hp : IsParts w pv n.ps) (he : IsEntries w ev n.es) (hd : n.d.size ≤ 1000000000) :
    Calls Tryz.prog 89 #[ndV n pv ev] w fun e w' => e = .returned (.string ⟨(keyN n).toArray⟩) ∧ Below w.heap.size w w' := by
  have HP := Lib.hid hp; have HE := Lib.hid he
  obtain ⟨_, a1, cap1, hv1, _, _⟩ := hp
  obtain ⟨_, a2, cap2, hv2, _, _⟩ := he
  subst hv1 hv2
  have hb0 := (Below.refl w.heap.size w).alloc (Nat.le_refl _) (.cells #[.int .i64 n.kd, .string n.d, .slice a1 n.ps.length cap1, .slice a2 n.es.length cap2] 44)
  have WA := Lib.hid (pWrite_any n _ _ _ (HP.out.stays hb0) (HE.out.stays hb0) hd)
  obtain ⟨Y, hY1, hY2⟩ := ex_str (wrN n)
  rw [← hY1] at WA
  rcases hf : fitN n with _ | _
  · have q : Y.toList.isEmpty = true := by rw [Lib.toList_data, hY2, wrN_un hf]; rfl
    have HK := Lib.hid (keyN_un hf)
    clear hf hY1 hY2
    go_enter Tryz.func89, Tryz.ntmps89
    go_wp2_with fail
    with_reducible refine WA.out.mono ?_
    rintro e w1 ⟨rfl, hb1⟩
    go_wp2
    go_ret
    exact ⟨by rw [HK.out]; rfl, below_step hb0 hb1⟩
  · have hl := wrL_len hf
    have hY3 : Y.data.toList = wrL n := by rw [hY2, wrN_fit hf]
    have q : Y.toList.isEmpty = false := by
      rw [Lib.toList_data, hY3]
      cases hw : wrL n with
      | nil => rw [hw] at hl; exact absurd hl.1 (by decide)
      | cons => rfl
    have SA := Lib.hid (fun w => Sum_any Y (by rw [Lib.size_eq, hY3]; omega) w)
    rw [hY3] at SA
    have HK := Lib.hid (keyN_fit hf)
    clear hf hY1 hY2 hY3 hl
    go_enter Tryz.func89, Tryz.ntmps89
    go_wp2_with fail
    with_reducible refine WA.out.mono ?_
    rintro e w1 ⟨rfl, hb1⟩
    go_wp2_with fail
    with_reducible refine (SA.out _).mono ?_
    rintro e w2 ⟨rfl, hb2⟩
    go_wp2
    go_ret
    exact ⟨by rw [HK.out]; rfl, below_step (below_step hb0 hb1) hb2⟩
def AddOn (L : List Ob) (x : Ob) (k : Nat) (d : Bool) (out : List Ob) : Prop := out.length = k + (if d then 1 else 0) ∧ out ++ (if d then L.drop k else insO (L.drop k) x) = insO L x
theorem addOn_zero (L : List Ob) (x : Ob) : AddOn L x 0 false [] := ⟨by simp, by simp⟩
theorem addOn_len {L : List Ob} {x : Ob} {k : Nat} {d : Bool} {out : List Ob} (h : AddOn L x k d out) : out.length ≤ k + 1 := by have := h.1; split at this <;> omega
theorem addOn_done {L : List Ob} {x : Ob} {k : Nat} {out : List Ob} (h : AddOn L x k true out) (hk : k < L.length) : AddOn L x (k + 1) true (out ++ [L[k]]) :=
  ⟨by have := h.1; simp at this ⊢; omega, by have := h.2; rw [if_pos rfl, List.drop_eq_getElem_cons hk] at this; rw [if_pos rfl, ← this]; simp⟩
theorem addOn_here {L : List Ob} {x : Ob} {k : Nat} {out : List Ob} (h : AddOn L x k false out) (hk : k < L.length) (hx : x.t < L[k].t) : AddOn L x (k + 1) true ((out ++ [x]) ++ [L[k]]) :=
  ⟨by have := h.1; simp at this ⊢; omega, by
    have := h.2
    rw [if_neg (by decide), List.drop_eq_getElem_cons hk, insO_cons, if_pos hx] at this
    rw [if_pos rfl, ← this]; simp⟩
theorem addOn_past {L : List Ob} {x : Ob} {k : Nat} {out : List Ob} (h : AddOn L x k false out) (hk : k < L.length) (hx : ¬ x.t < L[k].t) : AddOn L x (k + 1) false (out ++ [L[k]]) :=
  ⟨by have := h.1; simp at this ⊢; omega, by
    have := h.2
    rw [if_neg (by decide), List.drop_eq_getElem_cons hk, insO_cons, if_neg hx] at this
    rw [if_neg (by decide), ← this]; simp⟩
theorem addOn_end {L : List Ob} {x : Ob} {k : Nat} {d : Bool} {out : List Ob} (h : AddOn L x k d out) (hk : L.length ≤ k) : out ++ (if d then [] else [x]) = insO L x := by
  have := h.2
  rw [List.drop_of_length_le hk] at this
  cases d
  · exact this
  · exact this
theorem wpList_append_ob {ops : Array Oper} {rest : List Oper} {o : Oper} {a : Act} {W w0 : World} {z : Nat} {Q : Exit → Act → World → Prop} (hgd : o.guard = none) (s x : Operand)
    (ho : o.op = .call { callee := .builtin .append, args := #[s, x], argTypes := #[27, 27] })
    {v : Value} {M : List Ob} {y : Ob} (hown : OwnO W.heap.size w0 v M) (hb : Below W.heap.size W w0) (hz : z = w0.heap.size) (hs : a.eval s = v)
    (hx : a.eval x = .slice (some ⟨z, 0, none⟩) 1 1) (hlen : M.length ≤ 1000000)
    (h : ∀ v' w', OwnO W.heap.size w' v' (M ++ [y]) → Below W.heap.size W w' → wpList Tryz.prog ops Q rest (a.put o.dst v') w') :
    wpList Tryz.prog ops Q (o :: rest) a (w0.alloc (.cells #[.string y.k, .string y.r] 33)) := by
  subst hz
  refine wpList_append_obs hgd s x ho hown hb.size hs hx hlen ?_
  intro v' w' h1 h2
  exact h v' w' h1 (hb.grown h2 hb.size (fun j hj => (hown.lt j hj).1))
set_option maxRecDepth 100000 in
set_option maxHeartbeats 8000000 in
theorem rAdd_any (v : Value) (L : List Ob) (x : Ob) (w : World) (h : IsObs w v L) (hL : L.length ≤ 900000) :
    Calls Tryz.prog 21 #[v, obV x] w fun e w' => ∃ v', e = .returned v' ∧ IsObs w' v' (addO L x) ∧ Below w.heap.size w w' ∧ (v' = v ∧ addO L x = L ∨ OwnO w.heap.size w' v' (addO L x)) := by
  obtain ⟨V, hV⟩ : ∃ V, V = w.alloc (.cells #[.string x.k, .string x.r] 33) := ⟨_, rfl⟩
  have hbV : Below w.heap.size w V := by rw [hV]; exact (Below.refl _ _).alloc (Nat.le_refl _) _
  have HX : Hid (ObBox V w.heap.size x) := Lib.hid (by rw [hV]; exact obBox_new w x _)
  have HI := Lib.hid (h.stays hbV)
  have HV := Lib.hid hV; have HB0 := Lib.hid hbV
  have G := Lib.hid (rGet_any v L x.k V HI.out)
  obtain ⟨_, a, cap, rfl, _, _⟩ := h
  clear hV hbV
  obtain ⟨d0, d1⟩ := HX.out.cells
  by_cases hin : (getO L x.t).isSome = true ∨ x.t.length ≠ 32
  · have HR := Lib.hid (addO_there hin)
    rcases hg : (getO L x.t).isSome with _ | _
    · have h32 : (((x.k.size : Nat) : Int) != 32) = true := by
        have := hin.resolve_left (by rw [hg]; decide)
        rw [Ob.t, ← Lib.size_eq] at this
        simp; omega
      rw [show getO L x.k.data.toList = getO L x.t from rfl, hg] at G
      clear hg hin
      go_enter Tryz.func21, Tryz.ntmps21
      go_wp2_with fail
      rw [← HV.out]
      go_wp2_with fail
      with_reducible refine G.out.mono ?_
      rintro e w1 ⟨rfl, hb⟩
      obtain ⟨e0, e1⟩ := (HX.out.stays hb).cells
      clear d0 d1
      go_wp2
      go_ret
      exact ⟨.slice a L.length cap, rfl, by rw [HR.out]; exact HI.out.stays hb, below_step HB0.out hb, .inl ⟨rfl, HR.out⟩⟩
    · rw [show getO L x.k.data.toList = getO L x.t from rfl, hg] at G
      clear hg hin
      go_enter Tryz.func21, Tryz.ntmps21
      go_wp2_with fail
      rw [← HV.out]
      go_wp2_with fail
      with_reducible refine G.out.mono ?_
      rintro e w1 ⟨rfl, hb⟩
      clear d0 d1
      go_wp2
      go_ret
      exact ⟨.slice a L.length cap, rfl, by rw [HR.out]; exact HI.out.stays hb, below_step HB0.out hb, .inl ⟨rfl, HR.out⟩⟩
  · have HR : Hid (addO L x = insO L x) := Lib.hid (if_neg hin)
    rw [not_or] at hin
    have h32 : (((x.k.size : Nat) : Int) != 32) = false := by
      have := Decidable.not_not.1 hin.2
      rw [Ob.t, ← Lib.size_eq] at this
      rw [this]; rfl
    rw [show (getO L x.k.data.toList).isSome = false by simpa [Ob.t] using hin.1] at G
    clear hin
    go_enter Tryz.func21, Tryz.ntmps21
    go_wp2_with fail
    rw [← HV.out]
    go_wp2_with fail
    with_reducible refine G.out.mono ?_
    rintro e w1 ⟨rfl, hb⟩
    have HX1 := Lib.hid (HX.out.stays hb)
    have HI1 := Lib.hid (HI.out.stays hb)
    have HB1 := Lib.hid (below_step HB0.out hb)
    clear d0 d1 hb HX HI HB0 HV
    obtain ⟨d0, d1⟩ := HX1.out.cells
    go_wp2
    obtain ⟨B, hB⟩ : ∃ B, B = w.heap.size := ⟨_, rfl⟩
    rw [← hB] at HX1 d0 d1 ⊢
    have HBE := Lib.hid hB; clear hB
    go_loopw [7, 8, 9] (fun o d i wr => ∃ (k : Nat) (db : Bool) (out : List Ob), k ≤ L.length ∧ i = .int .i64 k ∧ d = .bool db ∧ AddOn L x k db out ∧ OwnO w1.heap.size wr o out ∧ Below w1.heap.size w1 wr) (fun _ _ i _ => L.length - (intOf i).toNat)
    case atStart => exact ⟨0, false, [], Nat.zero_le _, rfl, rfl, addOn_zero _ _, obs_own_nil _ _, Below.refl _ _⟩
    case round =>
      clear d0 d1
      obtain ⟨k, db, out, hk, rfl, rfl, hA, hO, hB⟩ := hrel
      have hlen := addOn_len hA
      have hol : out.length ≤ 1000000 := by omega
      have HA := Lib.hid hA; have HO := Lib.hid hO
      have HX2 := Lib.hid (HX1.out.stays hB)
      obtain ⟨d0, d1⟩ := HX2.out.cells
      clear hA hO hlen
      by_cases hlt : k < L.length
      · obtain ⟨_, _, _, e, _, hc⟩ := HI1.out
        cases e
        obtain ⟨b, off, rfl, hbl, g⟩ := hc (by omega)
        obtain ⟨c0, c1⟩ := (g k hlt).stays hbl hB
        have HG := Lib.hid (g k hlt)
        clear g hc
        have hbk : decide ((k : Int) < (L.length : Int)) = true := by simpa using (show (k : Int) < L.length by omega)
        cases db with
        | true =>
          have HS := Lib.hid (addOn_done HA.out hlt)
          obtain ⟨y, hy⟩ : ∃ y, y = L[k] := ⟨_, rfl⟩
          rw [← hy] at c0 c1 HG HS
          clear hy
          go_wp2_with fail
          go_quiet (fail)
          have hbq : Below wr.heap.size wr (wr.drewN nq) := below_drewN (Below.refl _ _) _
          have HO2 := Lib.hid (HO.out.stays hbq)
          have hB2 := below_step hB hbq
          obtain ⟨e0, e1⟩ := HG.out.stays hbl hB2
          clear c0 c1 d0 d1 hB
          generalize wr.drewN nq = wq at HO2 hB2 e0 e1 hbq ⊢
          go_wp2_with (at_builtin; refine wpList_append_ob rfl _ _ rfl HO2.out hB2 rfl rfl rfl hol ?_)
          intro v' w2 hown' hb2
          have HO3 := Lib.hid hown'; clear hown'
          go_wp2
          go_roundw
          case rel => exact ⟨k + 1, true, _, by omega, by go_num, rfl, HS.out, HO3.out, hb2⟩
          case measure => simp [intOf]; omega
        | false =>
          by_cases hlx : x.t < L[k].t
          · have HS := Lib.hid (addOn_here HA.out hlt hlx)
            obtain ⟨y, hy⟩ : ∃ y, y = L[k] := ⟨_, rfl⟩
            rw [← hy] at c0 c1 HG HS hlx
            clear hy
            have l1 : Op.bytesLess y.k.toList x.k.toList = false := by rw [less_eq]; exact decide_eq_false (t_asymm hlx)
            have l2 : (y.k.toList == x.k.toList) = false := beq_false (fun e => t_irrefl _ (show x.t < x.t by
              have : y.t = x.t := by unfold Ob.t; rw [e]
              rw [this] at hlx; exact hlx))
            clear hlx
            have hol2 : (out ++ [x]).length ≤ 1000000 := by have := HA.out.1; simp at this; rw [List.length_append, List.length_singleton]; omega
            go_wp2_with fail
            go_quiet (fail)
            have hbq : Below wr.heap.size wr (wr.drewN nq) := below_drewN (Below.refl _ _) _
            have HO2 := Lib.hid (HO.out.stays hbq)
            have hB2 := below_step hB hbq
            clear c0 c1 d0 d1 hB
            generalize wr.drewN nq = wq at HO2 hB2 hbq ⊢
            obtain ⟨d0, d1⟩ := (HX1.out.stays hB2).cells
            go_wp2_with (at_builtin; refine wpList_append_ob rfl _ _ rfl HO2.out hB2 rfl rfl rfl hol ?_)
            intro v1 w2 hown1 hb1
            have HO3 := Lib.hid hown1; clear hown1
            clear d0 d1
            obtain ⟨e0, e1⟩ := HG.out.stays hbl hb1
            go_wp2_with (at_builtin; refine wpList_append_ob rfl _ _ rfl HO3.out hb1 rfl rfl rfl hol2 ?_)
            intro v' w3 hown' hb2
            have HO4 := Lib.hid hown'; clear hown'
            go_wp2
            go_roundw
            case rel => exact ⟨k + 1, true, _, by omega, by go_num, rfl, HS.out, by simpa using HO4.out, hb2⟩
            case measure => simp [intOf]; omega
          · have HS := Lib.hid (addOn_past HA.out hlt hlx)
            obtain ⟨y, hy⟩ : ∃ y, y = L[k] := ⟨_, rfl⟩
            rw [← hy] at c0 c1 HG HS hlx
            clear hy
            have l0 : (Op.bytesLess y.k.toList x.k.toList || (y.k.toList == x.k.toList)) = true := by
              rw [less_eq]
              by_cases e : y.k = x.k
              · rw [beq_true e, Bool.or_true]
              · rw [decide_eq_true (Classical.byContradiction fun c => e (str_eq' (t_tri _ _ c hlx))), Bool.true_or]
            clear hlx
            go_wp2_with fail
            go_quiet (fail)
            have hbq : Below wr.heap.size wr (wr.drewN nq) := below_drewN (Below.refl _ _) _
            have HO2 := Lib.hid (HO.out.stays hbq)
            have hB2 := below_step hB hbq
            obtain ⟨e0, e1⟩ := HG.out.stays hbl hB2
            clear c0 c1 d0 d1 hB
            generalize wr.drewN nq = wq at HO2 hB2 e0 e1 hbq ⊢
            go_wp2_with (at_builtin; refine wpList_append_ob rfl _ _ rfl HO2.out hB2 rfl rfl rfl hol ?_)
            intro v' w2 hown' hb2
            have HO3 := Lib.hid hown'; clear hown'
            go_wp2
            go_roundw
            case rel => exact ⟨k + 1, false, _, by omega, by go_num, rfl, HS.out, HO3.out, hb2⟩
            case measure => simp [intOf]; omega
      · have HE := Lib.hid (addOn_end HA.out (by omega))
        have hge : decide ((k : Int) < (L.length : Int)) = false := by simp; omega
        cases db with
        | true =>
          go_wp2
          go_ret
          exact ⟨u7, rfl, by have h := HO.out.is; rw [HR.out, ← HE.out]; simpa using h, below_step HB1.out (hB.mono (Nat.le_refl _)), .inr (by have h := HO.out.low HB1.out.size; rw [HR.out, ← HE.out]; simpa [HBE.out] using h)⟩
        | false =>
          go_wp2_with (at_builtin; refine wpList_append_ob rfl _ _ rfl HO.out hB rfl rfl rfl hol ?_)
          intro v' w2 hown' hb2
          have HO3 := Lib.hid hown'; clear hown'
          go_wp2
          go_ret
          exact ⟨v', rfl, by have h := HO3.out.is; rw [HR.out, ← HE.out]; simpa using h, below_step HB1.out hb2, .inr (by have h := HO3.out.low HB1.out.size; rw [HR.out, ← HE.out]; simpa using h)⟩
def RetKO (k : List UInt8) (L : List Ob) (w : World) (e : Ending) (w' : World) : Prop := ∃ v', e = .returned (.tuple #[.string ⟨k.toArray⟩, v']) ∧ IsObs w' v' L ∧ Below w.heap.size w w'
theorem ins_fore {w w1 w2 : World} {vc : Value} {L : List Ob} {n : Nat} {x : Ob} (h1 : Below w.heap.size w w1) (hb2 : Below w1.heap.size w1.drew w2) (ho : OwnO w1.heap.size w2 vc L) (hcl : n ≤ L.length) (hL : L.length ≤ 1000) :
    Calls Tryz.prog 38 #[vc, .int .i64 n, .slice (some ⟨w2.heap.size, 0, none⟩) 1 1] (w2.alloc (.cells #[.string x.k, .string x.r] 33)) fun e w3 => ∃ v3, e = .returned v3 ∧ OwnO w.heap.size w3 v3 (L.take n ++ x :: L.drop n) ∧ Below w.heap.size w w3 := by
  have hW2 : Below w.heap.size w w2 := below_step h1.drew hb2
  have hW := hW2.alloc hW2.size (.cells #[.string x.k, .string x.r] 33)
  have ho2 : OwnO w.heap.size (w2.alloc (.cells #[.string x.k, .string x.r] 33)) vc L := (ho.low h1.size).stays ((Below.refl _ _).alloc (Nat.le_refl _) _)
  refine (oInsert_any w.heap.size vc L n w2.heap.size x _ ho2 hcl hL hW.size (heap_alloc_new w2 _) (fun e => by have := (World.ownsRow.lt ho _ e).2; omega)).mono ?_
  rintro e w3 ⟨v3, rfl, ho3, hg3⟩
  exact ⟨v3, rfl, ho3, hW.grown hg3 hW.size (fun j hj => (World.ownsRow.lt ho2 j hj).1)⟩
theorem ins_back {w w1 w2 : World} {vc : Value} {L : List Ob} {n : Nat} {x : Ob} (h1 : Below w.heap.size w w1) (hb2 : Below (w1.drew.alloc (.cells #[.string x.k, .string x.r] 33)).heap.size (w1.drew.alloc (.cells #[.string x.k, .string x.r] 33)) w2) (ho : OwnO (w1.drew.alloc (.cells #[.string x.k, .string x.r] 33)).heap.size w2 vc L) (hcl : n ≤ L.length) (hL : L.length ≤ 1000) :
    Calls Tryz.prog 38 #[vc, .int .i64 n, .slice (some ⟨w1.heap.size, 0, none⟩) 1 1] w2 fun e w3 => ∃ v3, e = .returned v3 ∧ OwnO w.heap.size w3 v3 (L.take n ++ x :: L.drop n) ∧ Below w.heap.size w w3 := by
  have h2 := h1.drew.alloc h1.drew.size (.cells #[.string x.k, .string x.r] 33)
  have hW := below_step h2 hb2
  have ho2 : OwnO w.heap.size w2 vc L := ho.low h2.size
  have hs : (w1.drew.alloc (.cells #[.string x.k, .string x.r] 33)).heap.size = w1.heap.size + 1 := Array.size_push ..
  refine (oInsert_any w.heap.size vc L n w1.heap.size x _ ho2 hcl hL hW.size ?_ (fun e => by have := (World.ownsRow.lt ho _ e).1; omega)).mono ?_
  · exact (hb2.block w1.heap.size (by omega)).trans (heap_alloc_new w1.drew _)
  rintro e w3 ⟨v3, rfl, ho3, hg3⟩
  exact ⟨v3, rfl, ho3, hW.grown hg3 hW.size (fun j hj => (World.ownsRow.lt ho2 j hj).1)⟩
def AddsO (L : List Ob) (w : World) (e : Ending) (w' : World) : Prop := ∃ v', e = .returned v' ∧ OwnO w.heap.size w' v' L ∧ Below w.heap.size w w'
set_option maxRecDepth 100000 in
set_option maxHeartbeats 4000000 in
theorem pAddO_any (v : Value) (L : List Ob) (x : Ob) (w : World) (h : IsObs w v L) (hr : RiseO L) (hL : L.length ≤ 1000) :
    Calls Tryz.prog 20 #[v, obV x] w (AddsO (addO L x) w) := by
  have hb0 := (Below.refl w.heap.size w).alloc (Nat.le_refl _) (.cells #[.string x.k, .string x.r] 33)
  have HI0 := Lib.hid (h.stays hb0)
  have HX0 : Hid (ObBox (w.alloc (.cells #[.string x.k, .string x.r] 33)) w.heap.size x) := Lib.hid (obBox_new w x _)
  have CP := Lib.hid (oPlace_any v L x.k _ HI0.out hr (by omega))
  rw [show x.k.data.toList = x.t from rfl] at CP
  have CK := Lib.hid (isKeyD_any x.k)
  have CC := Lib.hid (fun (W : World) (hI : IsObs W v L) => oClone_any v L W hI (by omega))
  have hcl := cntO_le L x.t
  have hins : getO L x.t = none → insO L x = L.take (cntO L x.t) ++ x :: L.drop (cntO L x.t) := insO_cnt
  have HB0 := Lib.hid hb0
  obtain ⟨n, hn⟩ : ∃ n, n = cntO L x.t := ⟨_, rfl⟩
  rw [← hn] at CP hcl hins
  have HINS := Lib.hid hins
  have HSZ : Hid ((x.k.size : Int) = 32 ↔ x.t.length = 32) := Lib.hid (by rw [show x.t.length = x.k.size from (Lib.size_eq _).symm]; omega)
  obtain ⟨V, hV⟩ : ∃ V, V = w.alloc (.cells #[.string x.k, .string x.r] 33) := ⟨_, rfl⟩
  rw [← hV] at HI0 HX0 CP HB0
  have HV := Lib.hid hV
  obtain ⟨_, a, cap, rfl, _, _⟩ := h
  clear hb0 hn hins hV hr
  obtain ⟨c0, c1⟩ := HX0.out.cells
  go_enter Tryz.func20, Tryz.ntmps20
  go_wp2_with fail
  rw [← HV.out]
  go_wp2_with fail
  refine CP.out.mono ?_
  rintro e w1 ⟨rfl, hb1⟩
  have HI1 := Lib.hid (HI0.out.stays hb1)
  have HX1 := Lib.hid (HX0.out.stays hb1)
  have HB1 := Lib.hid (below_step HB0.out hb1)
  clear hb1 c0 c1 CP HI0 HX0
  obtain ⟨c0, c1⟩ := HX1.out.cells
  cases hg : (getO L x.t).isSome with
  | true =>
    have HG := Lib.hid (addO_there (L := L) (x := x) (.inl hg))
    go_wp2_with fail
    refine (CC.out _ HI1.out).mono ?_
    rintro e w2 ⟨vc, rfl, ho, hb2⟩
    have HO := Lib.hid (ho.low HB1.out.size); have HB2 := Lib.hid (below_step HB1.out hb2)
    clear ho hb2
    go_wp2
    go_ret
    exact ⟨_, rfl, by rw [HG.out]; exact HO.out, HB2.out⟩
  | false =>
    by_cases h32 : (x.k.size : Int) = 32
    · have CK1 : Hid (∀ w, Calls Tryz.prog 34 #[.string x.k] w fun e w' => e = .returned (.bool true) ∧ w = w') := Lib.hid (fun w => by
        have := CK.out w; rwa [h32] at this)
      have hnone : getO L x.t = none := by simpa using hg
      have HG : Hid (addO L x = L.take n ++ x :: L.drop n) := Lib.hid (by
        unfold addO
        rw [if_neg (by rw [hg]; simp [HSZ.out.1 h32]), HINS.out hnone])
      clear h32 hnone HINS HSZ
      go_wp2_with fail
      refine (CK1.out _).mono ?_
      rintro e w2 ⟨rfl, rfl⟩
      go_wp2_with fail
      have hbw : w.heap.size < w1.heap.size := HX1.out.2
      go_region_with (first
        | (go_at_call 37; refine (CC.out _ ?_).mono ?_; (first | exact HI1.out.stays (Below.refl _ _).drew | exact HI1.out.stays ((Below.refl _ _).drew.alloc (Nat.le_refl _) _)); rintro e w2 ⟨vc, rfl, ho, hb2⟩; have d0 := (hb2.cell (p := ⟨w.heap.size, 0, none⟩) (by simp; omega)); have d1 := (hb2.cell (p := ⟨w.heap.size, 1, none⟩) (by simp; omega)))
        | (go_at_call 38; (first | refine (ins_fore HB1.out hb2 ho hcl hL).mono ?_ | refine (ins_back HB1.out hb2 ho hcl hL).mono ?_); rintro e w3 ⟨v3, rfl, ho3, hb3⟩))
      all_goals
        go_wp2
        go_ret
        exact ⟨_, rfl, by rw [HG.out]; exact ho3, hb3⟩
    · have CK1 : Hid (∀ w, Calls Tryz.prog 34 #[.string x.k] w fun e w' => e = .returned (.bool false) ∧ w = w') := Lib.hid (fun w => by
        have := CK.out w; rwa [show ((x.k.size : Int) == 32) = false from beq_eq_false_iff_ne.2 h32] at this)
      have HG := Lib.hid (addO_there (L := L) (x := x) (.inr (fun e => h32 (HSZ.out.2 e))))
      clear h32
      go_wp2_with fail
      refine (CK1.out _).mono ?_
      rintro e w2 ⟨rfl, rfl⟩
      go_wp2_with fail
      refine (CC.out _ HI1.out).mono ?_
      rintro e w2 ⟨vc, rfl, ho, hb2⟩
      have HO := Lib.hid (ho.low HB1.out.size); have HB2 := Lib.hid (below_step HB1.out hb2)
      clear ho hb2
      go_wp2
      go_ret
      exact ⟨_, rfl, by rw [HG.out]; exact HO.out, HB2.out⟩
end Go.Proofs.YtlccihidedfemaaGreatDoor

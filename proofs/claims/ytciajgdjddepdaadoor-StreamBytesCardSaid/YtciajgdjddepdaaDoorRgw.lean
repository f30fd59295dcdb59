/-
  A range over a function whose iterator writes one block of the caller's between two rounds, and whose rounds all go on. Of no program.
-/
import Derived.RangeFuncFrom
import Derived.RangeFuncBox
set_option linter.unusedVariables false
namespace Go.Proofs.YtciajgdjddepdaaDoor
open Go Go.RowKit

/-- What the iterator gives: it may write block B; what it says of the world behind it ('S') is its own. -/
def SeqAll {α : Type} (F : Fence) (n : Nat) (P : Program) (g : Nat) (lb : Array Value) (encs : α → Array Value) (B : Nat) (Kp : World → World → Prop) (S : List α → World → Prop) (N : Nat) (w : World) : Prop :=
  ∀ (l : Nat) (J : List α → World → Prop) (W : World), Below w.heap.size w W → (∀ s X Y, J s X → X.grownBy Y (some B) → J s Y) →
    (∀ pre x X, J pre X → pre.length < N → YieldAt F (n - 1) P l (encs x) X fun e Y => e = .returned (.bool true) ∧ J (pre ++ [x]) Y ∧ Kp X Y) → J [] W →
      CallsIn F n P g (#[.func (.yield l) #[] #[]] ++ lb) W fun e Y => (∃ v, e = .returned v) ∧ ∃ xs, S xs Y ∧ J xs Y

/-- The law's own two objects. -/
def Kept (D L : Nat) (r : Loop) (W : World) : Prop := W.heap[D]? = some (.deferred (some [])) ∧ W.heap[L]? = some (.loop r)
theorem Kept.put {D L : Nat} {r r' : Loop} {W : World} (h : Kept D L r W) (hne : D ≠ L) : Kept D L r' (W.putObj L (.loop r')) :=
  ⟨(World.putObj_heap_other hne).trans h.1, World.putObj_heap_same (Array.getElem?_eq_some_iff.1 h.2).1⟩
theorem Kept.others {D L : Nat} {r : Loop} {W W' : World} (h : Kept D L r W) (hk : KeepsOthers W W') : Kept D L r W' := ⟨hk.same _ _ h.1 rfl, hk.same _ _ h.2 rfl⟩
theorem Kept.write {D L B : Nat} {r : Loop} {W W' : World} (h : Kept D L r W) (hg : W.grownBy W' (some B)) (hD : B < D) (hL : B < L) : Kept D L r W' :=
  ⟨(hg.block D (Array.getElem?_eq_some_iff.1 h.1).1 (fun e => by cases e; omega)).trans h.1, (hg.block L (Array.getElem?_eq_some_iff.1 h.2).1 (fun e => by cases e; omega)).trans h.2⟩

variable {F : Fence} {n : Nat} {P : Program}
theorem wpIn_rangeFunc_all {α : Type} {g : Operand} {ps : Array Tmp} {assign body : Code} {Q : Exit → Act → World → Prop} {a : Act} {w : World}
    (hro : F.round = none) (h1 : 1 ≤ n) {gf : Nat} {lb : Array Value} (hg : a.eval g = .func (.func gf) #[] lb) (hF : F.fn gf) (eg : ∀ args w, (callFunc gf args).run P w = .ok (.enter gf args) w)
    {encs : α → Array Value} {B : Nat} {Kp : World → World → Prop} {S : List α → World → Prop} {N : Nat} {w0 : World} (hseq : SeqAll F (n - 1) P gf lb encs B Kp S N w0)
    (hKt : ∀ {X Y Z : World}, Kp X Y → Kp Y Z → Kp X Z) (hKb : ∀ (W : World) (l : Nat) (o o' : Obj), w.heap.size ≤ l → W.heap[l]? = some o → o.isCells = false → Kp W (W.putObj l o'))
    (hb0 : Below w0.heap.size w0 w) (hB : B < w.heap.size) (hps : ∀ x, (encs x).size = ps.size)
    (hS : ∀ (xs : List α) (W : World) (l : Nat) (o' : Obj), w.heap.size ≤ l → S xs W → S xs (W.putObj l o'))
    (I : List α → World → Prop) (hI : OwnFrom w.heap.size I) (hIB : ∀ s X Y, I s X → X.grownBy Y (some B) → I s Y) (h0 : I [] w) (a₁ : α → Act)
    (hassign : ∀ (l : Nat) (x : α) (W : World) (K : Act → World → Prop), K (a₁ x) W →
      assign.wpIn (F.inRound l) (n - 1 - 1) P (Exit.then K (fun _ _ _ => False)) { tmps := (ps.zip (encs x)).foldl (fun t (p, v) => t.setIfInBounds p v) a.tmps, defers := [] } W)
    (hbody : ∀ (l : Nat) (pre : List α) (x : α) (W : World), I pre W → pre.length < N → body.wpIn (F.inRound l) (n - 1 - 1) P (fun e _ Y => e = .normal ∧ KeepsOthers W Y ∧ Kp W Y ∧ I (pre ++ [x]) Y) (a₁ x) W)
    (hdone : ∀ (D : Nat) (xs : List α) (W : World), w.heap.size ≤ D → S xs W → I xs W → W.heap[D]? = some (.deferred (some [])) → Q .normal { a with defers := { target := .collected D, args := #[] } :: a.defers } W) :
    (Code.rangeFunc g ps assign body).wpIn F n P Q a w := by
  refine wpIn_rangeFunc fun fn hfn => ?_
  rw [hro]
  let D := w.heap.size
  let L := w.heap.size + 1
  let r0 : Loop := { state := .ready, pending := none, fn, tmps := a.tmps, params := ps, assign, body, defers := D }
  let W1 := (w.alloc (.deferred (some []))).alloc (.loop r0)
  have hDL : D ≠ L := by show w.heap.size ≠ w.heap.size + 1; omega
  have hD0 : w.heap.size ≤ D := Nat.le_refl _
  have hL0 : w.heap.size ≤ L := Nat.le_succ _
  have hk1 : Kept D L r0 W1 := by
    refine ⟨(Below.heap_alloc _ _ _ (by show D < _; simp [D])).trans (World.alloc_heap_new w _), ?_⟩
    have := World.alloc_heap_new (w.alloc (.deferred (some []))) (.loop r0)
    rwa [World.size_alloc] at this
  have hI1 : I [] W1 := hI.alloc _ (hI.alloc _ h0)
  have hb1 : Below w0.heap.size w0 W1 := hb0.trans ((((Below.refl _ w).alloc (Nat.le_refl _) _).alloc (by simp) _).mono hb0.size)
  refine ⟨L, [{ target := .collected D, args := #[] }], W1, { target := .fn (.func gf) lb, args := #[.func (.yield L) #[] #[]] }, W1, gf, #[.func (.yield L) #[] #[]] ++ lb, W1,
    run_enterLoop_outer fn a.tmps ps assign body, ?_, ?_, by simp [invoke, go_sem, eg], fun _ => h1, ?_⟩
  · simp only [resolve, hg]; simp [go_sem]
  · intro f' hf'; simp [Target.leads] at hf'; subst hf'; exact hF
  · refine (hseq L (fun pre W => I pre W ∧ Kept D L r0 W) W1 hb1 (fun s X Y h hgr => ⟨hIB s X Y h.1 hgr, h.2.write hgr hB (by show B < w.heap.size + 1; omega)⟩) ?_ ⟨hI1, hk1⟩).mono ?_
    · rintro pre x W ⟨hi, hk⟩ hlen
      refine ⟨fn, _, assign, body, run_yield hk.2 (hps x), roundIn_of_wpIn hfn (hassign L x W _ ⟨_, run_beginRound hk.2 rfl, ?_⟩)⟩
      have hk2 : Kept D L { r0 with state := .busy } (W.putObj L (.loop { r0 with state := .busy })) := hk.put hDL
      refine wpIn_mono (hbody L pre x _ (hI.putObj _ hi hL0 hk.2 rfl) hlen) ?_
      rintro e a3 W3 ⟨rfl, hko, hkp, hi3⟩
      have hk3 := hk2.others hko
      exact ⟨_, _, run_endRound none hk3.2, rfl, ⟨hI.putObj _ hi3 hL0 hk3.2 rfl, hk3.put hDL⟩, hKt (hKt (hKb _ _ _ _ hL0 hk.2 rfl) hkp) (hKb _ _ _ _ hL0 hk3.2 rfl)⟩
    · rintro e W2 ⟨⟨v, rfl⟩, xs, hs, hi, hk⟩
      refine ⟨none, _, run_endLoop hk.2 (by simp [r0]), ?_⟩
      exact hdone D xs _ hD0 (hS xs _ L _ hL0 hs) (hI.putObj _ hi hL0 hk.2 rfl) ((World.putObj_heap_other hDL).trans hk.1)
end Go.Proofs.YtciajgdjddepdaaDoor

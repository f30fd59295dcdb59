/-
  A range over a function whose iterator has blocks of its own (some lie ahead of the loop, or it makes them: 'A n b': block b is its own if it begins in a world of n blocks), and which may be left by a jump. Of no program.
-/
import Derived.RangeFuncFrom
import Derived.RangeFuncBox
set_option linter.unusedVariables false
namespace Go.Proofs.YtkodbobjaejgjaaDoor
open Go Go.RowKit

/-- Some blocks lie as they lay. -/
def KeepsAt (A : Nat → Prop) (X Y : World) : Prop := ∀ k, A k → Y.heap[k]? = X.heap[k]?
theorem KeepsAt.trans {A : Nat → Prop} {X Y Z : World} (h : KeepsAt A X Y) (h' : KeepsAt A Y Z) : KeepsAt A X Z := fun k hk => (h' k hk).trans (h k hk)
theorem KeepsAt.mono {A A' : Nat → Prop} {X Y : World} (h : KeepsAt A X Y) (hA : ∀ k, A' k → A k) : KeepsAt A' X Y := fun k hk => h k (hA k hk)
theorem KeepsAt.put {A : Nat → Prop} {W : World} {l : Nat} {o : Obj} (h : ¬ A l) : KeepsAt A W (W.putObj l o) := fun k hk => World.putObj_heap_other (fun e => h (e ▸ hk))
theorem KeepsAt.below {A : Nat → Prop} {X Y : World} (h : Below X.heap.size X Y) (hA : ∀ k, A k → k < X.heap.size) : KeepsAt A X Y := fun k hk => h.block k (hA k hk)
theorem KeepsAt.refl {A : Nat → Prop} (X : World) : KeepsAt A X X := fun _ _ => rfl
/-- A round: what is the iterator's own lies as it lay, and the loop's own two objects. -/
def winPost {α : Type} (A : Nat → Prop) (D : Nat) (I : List α → World → Prop) (Ix : Code → List α → World → Prop) (pre : List α) (W : World) : Exit → Act → World → Prop
  | .normal, _, Y => KeepsAt (fun k => A k ∨ k = D ∨ k = D + 1) W Y ∧ I pre Y
  | .ret, _, Y => KeepsAt (fun k => k = D ∨ k = D + 1) W Y ∧ Ix .ret pre Y
  | .exit id, _, Y => KeepsAt (fun k => k = D ∨ k = D + 1) W Y ∧ Ix (.exit id) pre Y
  | .goto t, _, Y => KeepsAt (fun k => k = D ∨ k = D + 1) W Y ∧ Ix (.goto t) pre Y
  | _, _, _ => False

/-- What the iterator gives: it may write the blocks of its own between two rounds; a round leaves them be. 'stops': may a round say 'no more'? -/
def SeqOwn {α : Type} (F : Fence) (n : Nat) (P : Program) (g : Nat) (lb : Array Value) (encs : α → Array Value) (A : Nat → Nat → Prop) (K : Nat) (stops : Prop) (S Sp : List α → Prop) (N : Nat) (w : World) : Prop :=
  ∀ (l : Nat) (J Jx : List α → World → Prop) (W : World), Below w.heap.size w W → (∀ s X, Jx s X → stops) →
    (∀ s b X Y, A W.heap.size b → J s X → X.grownBy Y (some b) → J s Y) → (∀ s b X Y, A W.heap.size b → Jx s X → X.grownBy Y (some b) → Jx s Y) →
    (∀ pre x X, J pre X → pre.length < N → (0 < K → W.heap.size + K ≤ X.heap.size) → YieldAt F (n - 1) P l (encs x) X fun e Y =>
      (e = .returned (.bool true) ∧ J (pre ++ [x]) Y ∧ KeepsAt (A W.heap.size) X Y) ∨ (e = .returned (.bool false) ∧ Jx (pre ++ [x]) Y)) → J [] W →
      CallsIn F n P g (#[.func (.yield l) #[] #[]] ++ lb) W fun e Y => (∃ v, e = .returned v) ∧ ((∃ xs, S xs ∧ J xs Y) ∨ (∃ pre, Sp pre ∧ Jx pre Y))

variable {F : Fence} {n : Nat} {P : Program}
theorem wpIn_rangeFunc_win {α : Type} {g : Operand} {ps : Array Tmp} {assign body : Code} {Q : Exit → Act → World → Prop} {a : Act} {w : World}
    (hro : F.round = none) (h1 : 1 ≤ n) {gf : Nat} {lb : Array Value} (hg : a.eval g = .func (.func gf) #[] lb) (hF : F.fn gf) (eg : ∀ args w, (callFunc gf args).run P w = .ok (.enter gf args) w)
    {encs : α → Array Value} {A : Nat → Nat → Prop} {K : Nat} {stops : Prop} {S Sp : List α → Prop} {N : Nat} {w0 : World} (hseq : SeqOwn F (n - 1) P gf lb encs A K stops S Sp N w0)
    (hb0 : Below w0.heap.size w0 w) (hps : ∀ x, (encs x).size = ps.size)
    (hA : ∀ b, A (w.heap.size + 2) b → b ≠ w.heap.size ∧ b ≠ w.heap.size + 1)
    (I : List α → World → Prop) (Ix : Code → List α → World → Prop)
    (hI : ∀ s b X Y, (A (w.heap.size + 2) b ∨ b = w.heap.size ∨ b = w.heap.size + 1) → I s X → X.grownBy Y (some b) → I s Y)
    (hIx : ∀ c s b X Y, (A (w.heap.size + 2) b ∨ b = w.heap.size ∨ b = w.heap.size + 1) → Ix c s X → X.grownBy Y (some b) → Ix c s Y)
    (hst : ∀ c s X, Ix c s X → stops)
    (hI0 : ∀ o, I [] ((w.alloc (.deferred (some []))).alloc (.loop o)))
    (a₁ : α → Act)
    (hassign : ∀ (l : Nat) (x : α) (W : World) (K : Act → World → Prop), K (a₁ x) W →
      assign.wpIn (F.inRound l) (n - 1 - 1) P (Exit.then K (fun _ _ _ => False)) { tmps := (ps.zip (encs x)).foldl (fun t (p, v) => t.setIfInBounds p v) a.tmps, defers := [] } W)
    (hbody : ∀ (l : Nat) (pre : List α) (x : α) (W : World), I pre W → pre.length < N → (0 < K → w.heap.size + 2 + K ≤ W.heap.size) → body.wpIn (F.inRound l) (n - 1 - 1) P (winPost (A (w.heap.size + 2)) w.heap.size I Ix (pre ++ [x]) W) (a₁ x) W)
    (hdone : ∀ (xs : List α) (W : World), S xs → I xs W → W.heap[w.heap.size]? = some (.deferred (some [])) → Q .normal { a with defers := { target := .collected w.heap.size, args := #[] } :: a.defers } W)
    (hstop : ∀ (c : Code) (pre : List α) (W : World), Sp pre → Ix c pre W → W.heap[w.heap.size]? = some (.deferred (some [])) → c.wpIn F n P Q { a with defers := { target := .collected w.heap.size, args := #[] } :: a.defers } W) :
    (Code.rangeFunc g ps assign body).wpIn F n P Q a w := by
  refine wpIn_rangeFunc fun fn hfn => ?_
  rw [hro]
  obtain ⟨rec, hrec⟩ : ∃ rec : LoopState → Option Code → Loop, rec = fun st pe => { state := st, pending := pe, fn, tmps := a.tmps, params := ps, assign, body, defers := w.heap.size } := ⟨_, rfl⟩
  obtain ⟨W1, hW1⟩ : ∃ W1, (w.alloc (.deferred (some []))).alloc (.loop (rec .ready none)) = W1 := ⟨_, rfl⟩
  have hL1 : W1.heap[w.heap.size + 1]? = some (.loop (rec .ready none)) := by
    rw [← hW1]; have := World.alloc_heap_new (w.alloc (.deferred (some []))) (.loop (rec .ready none)); rwa [World.size_alloc] at this
  have hK1 : W1.heap[w.heap.size]? = some (.deferred (some [])) := by
    rw [← hW1]; exact (Below.heap_alloc _ _ _ (by simp)).trans (World.alloc_heap_new w _)
  have hs1 : W1.heap.size = w.heap.size + 2 := by rw [← hW1]; simp
  have hI1 : I [] W1 := by rw [← hW1]; exact hI0 _
  have hb1 : Below w0.heap.size w0 W1 := by
    rw [← hW1]; exact hb0.trans ((((Below.refl _ w).alloc (Nat.le_refl _) _).alloc (by simp) _).mono hb0.size)
  refine ⟨w.heap.size + 1, [{ target := .collected w.heap.size, args := #[] }], W1, { target := .fn (.func gf) lb, args := #[.func (.yield (w.heap.size + 1)) #[] #[]] }, W1, gf,
    #[.func (.yield (w.heap.size + 1)) #[] #[]] ++ lb, W1, ?_, ?_, ?_, ?_, fun _ => h1, ?_⟩
  · rw [← hW1, hrec]; exact run_enterLoop_outer _ _ _ _ _
  · simp only [resolve, hg]
    simp [go_sem]
  · intro f' hf'; simp [Target.leads] at hf'; subst hf'; exact hF
  · simp [invoke, go_sem, eg]
  · have keep : ∀ {X Y : World} {b k : Nat} {o : Obj}, X.heap[k]? = some o → X.grownBy Y (some b) → b ≠ k → Y.heap[k]? = some o :=
      fun hx hg hne => (hg.block _ (Array.getElem?_eq_some_iff.1 hx).1 (fun e => hne (by cases e; rfl))).trans hx
    refine (hseq (w.heap.size + 1)
      (fun pre W => I pre W ∧ W.heap[w.heap.size + 1]? = some (.loop (rec .ready none)) ∧ W.heap[w.heap.size]? = some (.deferred (some [])))
      (fun pre W => ∃ c, Ix c pre W ∧ W.heap[w.heap.size + 1]? = some (.loop (rec .done (some c))) ∧ W.heap[w.heap.size]? = some (.deferred (some [])))
      W1 hb1 (fun s X h => by obtain ⟨c, hc, _⟩ := h; exact hst c s X hc)
      (fun s b X Y hb hs hg' => by
        rw [hs1] at hb
        exact ⟨hI s b X Y (.inl hb) hs.1 hg', keep hs.2.1 hg' (hA b hb).2, keep hs.2.2 hg' (hA b hb).1⟩)
      (fun s b X Y hb hs hg' => by
        rw [hs1] at hb
        obtain ⟨c, hc, hl, hk⟩ := hs
        exact ⟨c, hIx c s b X Y (.inl hb) hc hg', keep hl hg' (hA b hb).2, keep hk hg' (hA b hb).1⟩)
      ?_ ⟨hI1, hL1, hK1⟩).mono ?_
    · rintro pre x W ⟨hi, hl, hk⟩ hlen hsz
      rw [hs1] at hsz ⊢
      have hlt : w.heap.size + 1 < W.heap.size := (Array.getElem?_eq_some_iff.1 hl).1
      have hy := run_yield (P := P) (args := encs x) hl (by rw [hrec]; exact hps x)
      rw [hrec] at hy
      refine ⟨fn, _, assign, body, hy, roundIn_of_wpIn hfn (hassign _ x W _ ⟨_, run_beginRound hl (by rw [hrec]), ?_⟩)⟩
      have hl2 : (W.putObj (w.heap.size + 1) (.loop { rec .ready none with state := .busy })).heap[w.heap.size + 1]? = some (.loop { rec .ready none with state := .busy }) := World.putObj_heap_same hlt
      have hk2 : (W.putObj (w.heap.size + 1) (.loop { rec .ready none with state := .busy })).heap[w.heap.size]? = some (.deferred (some [])) := (World.putObj_heap_other (by omega)).trans hk
      have hkA : ∀ (W : World) (o : Obj), KeepsAt (A (w.heap.size + 2)) W (W.putObj (w.heap.size + 1) o) := fun W o => KeepsAt.put (fun h => (hA _ h).2 rfl)
      refine wpIn_mono (hbody _ pre x _ (hI _ _ _ _ (.inr (.inr rfl)) hi (grownBy_putObj' _ _ _)) hlen (fun hK => Nat.le_trans (hsz hK) (grownBy_putObj' W _ _).size)) ?_
      have fin : ∀ (jump : Option Code) (W3 : World), W3.heap[w.heap.size + 1]? = some (.loop { rec .ready none with state := .busy }) → W3.heap[w.heap.size]? = some (.deferred (some [])) →
          (Instr.endRound (w.heap.size + 1) jump).run P W3 = .ok (.bool jump.isNone) (W3.putObj (w.heap.size + 1) (.loop (rec (if jump.isNone then .ready else .done) jump))) ∧
          (W3.putObj (w.heap.size + 1) (.loop (rec (if jump.isNone then .ready else .done) jump))).heap[w.heap.size + 1]? = some (.loop (rec (if jump.isNone then .ready else .done) jump)) ∧
          (W3.putObj (w.heap.size + 1) (.loop (rec (if jump.isNone then .ready else .done) jump))).heap[w.heap.size]? = some (.deferred (some [])) := fun jump W3 hl3 hk3 => by
        have := run_endRound (P := P) jump hl3
        rw [hrec] at this ⊢
        exact ⟨this, World.putObj_heap_same (Array.getElem?_eq_some_iff.1 hl3).1, (World.putObj_heap_other (by omega)).trans hk3⟩
      rintro e a3 W3 hp
      have hL3 : ∀ {B : Nat → Prop}, KeepsAt B (W.putObj (w.heap.size + 1) (.loop { rec .ready none with state := .busy })) W3 → B (w.heap.size + 1) → W3.heap[w.heap.size + 1]? = some (.loop { rec .ready none with state := .busy }) := fun h hB => (h _ hB).trans hl2
      have hD3 : ∀ {B : Nat → Prop}, KeepsAt B (W.putObj (w.heap.size + 1) (.loop { rec .ready none with state := .busy })) W3 → B w.heap.size → W3.heap[w.heap.size]? = some (.deferred (some [])) := fun h hB => (h _ hB).trans hk2
      cases e with
      | normal =>
        obtain ⟨hk3, hi3⟩ := hp
        obtain ⟨hr, hl4, hk4⟩ := fin none W3 (hL3 hk3 (.inr (.inr rfl))) (hD3 hk3 (.inr (.inl rfl)))
        exact ⟨_, _, hr, .inl ⟨rfl, ⟨hI _ _ _ _ (.inr (.inr rfl)) hi3 (grownBy_putObj' _ _ _), hl4, hk4⟩, ((hkA W _).trans (hk3.mono (fun k h => .inl h))).trans (hkA W3 _)⟩⟩
      | ret =>
        obtain ⟨hk3, hi3⟩ := hp
        obtain ⟨hr, hl4, hk4⟩ := fin (some .ret) W3 (hL3 hk3 (.inr rfl)) (hD3 hk3 (.inl rfl))
        exact ⟨_, _, hr, .inr ⟨rfl, .ret, hIx _ _ _ _ _ (.inr (.inr rfl)) hi3 (grownBy_putObj' _ _ _), hl4, hk4⟩⟩
      | exit id =>
        obtain ⟨hk3, hi3⟩ := hp
        obtain ⟨hr, hl4, hk4⟩ := fin (some (.exit id)) W3 (hL3 hk3 (.inr rfl)) (hD3 hk3 (.inl rfl))
        exact ⟨_, _, hr, .inr ⟨rfl, .exit id, hIx _ _ _ _ _ (.inr (.inr rfl)) hi3 (grownBy_putObj' _ _ _), hl4, hk4⟩⟩
      | goto t =>
        obtain ⟨hk3, hi3⟩ := hp
        obtain ⟨hr, hl4, hk4⟩ := fin (some (.goto t)) W3 (hL3 hk3 (.inr rfl)) (hD3 hk3 (.inl rfl))
        exact ⟨_, _, hr, .inr ⟨rfl, .goto t, hIx _ _ _ _ _ (.inr (.inr rfl)) hi3 (grownBy_putObj' _ _ _), hl4, hk4⟩⟩
      | panic ch => exact hp.elim
      | outgrown => exact hp.elim
    · rintro e W2 ⟨⟨v, rfl⟩, (⟨xs, hS, hi, hl, hk⟩ | ⟨pre, hSp, c, hi, hl, hk⟩)⟩
      · exact ⟨none, _, by have := run_endLoop (P := P) hl (by rw [hrec]; simp); rw [hrec] at this; exact this, hdone xs _ hS (hI _ _ _ _ (.inr (.inr rfl)) hi (grownBy_putObj' _ _ _)) ((World.putObj_heap_other (by omega)).trans hk)⟩
      · exact ⟨some c, _, by have := run_endLoop (P := P) hl (by rw [hrec]; simp); rw [hrec] at this; exact this, hstop c pre _ hSp (hIx _ _ _ _ _ (.inr (.inr rfl)) hi (grownBy_putObj' _ _ _)) ((World.putObj_heap_other (by omega)).trans hk)⟩
end Go.Proofs.YtkodbobjaejgjaaDoor

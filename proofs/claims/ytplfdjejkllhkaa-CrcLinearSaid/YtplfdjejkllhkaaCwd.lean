/-
  Layer 2, CrcLinear: what each operation of the drawn region (four appends at once) is good for.
-/
import Derived.Test.YtplfdjejkllhkaaRel
import Derived.Test.YtplfdjejkllhkaaProg
import Derived.WalkKit
import Derived.Outline
import Derived.Below
import Derived.Lib.Hide
import Derived.Deep.AppendLies
set_option linter.unusedVariables false
namespace Go.Proofs.Ytplfdjejkllhkaa
open Go.RowKit

structure LinCtx where
  w0 : World
  bx : Nat
  va : Value
  vb : Value
  vc : Value
  vd : Value
  k : Nat
  xa : List Value
  xb : List Value
  xc : List Value
  xd : List Value
  x0 : Int
  x1 : Int
  x2 : Int
  x3 : Int

def lptr (b o : Nat) : Value := .pointer (some ⟨b, o, none⟩)
def OneSl (c : LinCtx) (x : Int) (v : Value) (w : World) : Prop := ∃ g, v = .slice (some ⟨g, 0, none⟩) 1 1 ∧ w.heap[g]? = some (.cells #[.int .u8 x] 5 (0, 0)) ∧ c.bx < g
def RowAt (c : LinCtx) (ob : Option Nat) (xs : List Value) (v : Value) (w : World) : Prop :=
  ∃ g cap, v = .slice (some ⟨g, 0, none⟩) (c.k + 1) cap ∧ w.ownsRow c.w0.heap.size 5 1 v (c.k + 1) xs ∧ (ob = some g ∨ c.bx < g)
def linV (c : LinCtx) : Nat → Act → World → Prop
  | 0 => fun a _ => slot a 19 = c.va
  | 1 => fun a _ => slot a 20 = lptr c.bx 0
  | 2 => fun a _ => slot a 21 = .int .u8 c.x0
  | 3 => fun a w => OneSl c c.x0 (slot a 22) w
  | 4 => fun a w => RowAt c c.va.ownBlock (c.xa ++ [.int .u8 c.x0]) (slot a 23) w
  | 5 => fun a _ => slot a 24 = c.vb
  | 6 => fun a _ => slot a 25 = lptr c.bx 1
  | 7 => fun a _ => slot a 26 = .int .u8 c.x1
  | 8 => fun a w => OneSl c c.x1 (slot a 27) w
  | 9 => fun a w => RowAt c c.vb.ownBlock (c.xb ++ [.int .u8 c.x1]) (slot a 28) w ∧ (slot a 28).ownBlock ≠ (slot a 23).ownBlock
  | 10 => fun a _ => slot a 29 = c.vc
  | 11 => fun a _ => slot a 30 = lptr c.bx 2
  | 12 => fun a _ => slot a 31 = .int .u8 c.x2
  | 13 => fun a w => OneSl c c.x2 (slot a 32) w
  | 14 => fun a w => RowAt c c.vc.ownBlock (c.xc ++ [.int .u8 c.x2]) (slot a 33) w ∧ (slot a 33).ownBlock ≠ (slot a 23).ownBlock ∧ (slot a 33).ownBlock ≠ (slot a 28).ownBlock
  | 15 => fun a _ => slot a 34 = c.vd
  | 16 => fun a _ => slot a 35 = lptr c.bx 0
  | 17 => fun a _ => slot a 36 = .int .u8 c.x0
  | 18 => fun a _ => slot a 37 = lptr c.bx 1
  | 19 => fun a _ => slot a 38 = .int .u8 c.x1
  | 20 => fun a _ => slot a 39 = .int .u8 (bits .xor .u8 c.x0 c.x1)
  | 21 => fun a _ => slot a 40 = lptr c.bx 2
  | 22 => fun a _ => slot a 41 = .int .u8 c.x2
  | 23 => fun a _ => slot a 42 = .int .u8 c.x3
  | 24 => fun a w => OneSl c c.x3 (slot a 43) w
  | 25 => fun a w => RowAt c c.vd.ownBlock (c.xd ++ [.int .u8 c.x3]) (slot a 44) w ∧ (slot a 44).ownBlock ≠ (slot a 23).ownBlock ∧ (slot a 44).ownBlock ≠ (slot a 28).ownBlock ∧ (slot a 44).ownBlock ≠ (slot a 33).ownBlock
  | 26 => fun a _ => slot a 3 = slot a 23
  | 27 => fun a _ => slot a 4 = slot a 28
  | 28 => fun a _ => slot a 5 = slot a 33
  | 29 => fun a _ => slot a 6 = slot a 44
  | 30 => fun _ w => w.ownsRow c.w0.heap.size 5 1 c.va c.k c.xa
  | 31 => fun _ w => w.ownsRow c.w0.heap.size 5 1 c.vb c.k c.xb
  | 32 => fun _ w => w.ownsRow c.w0.heap.size 5 1 c.vc c.k c.xc
  | 33 => fun _ w => w.ownsRow c.w0.heap.size 5 1 c.vd c.k c.xd
  | _ => fun _ _ => True
def linNeeds : Nat → List Nat
  | 2 => [1] | 3 => [2] | 4 => [0, 3, 30] | 7 => [6] | 8 => [7] | 9 => [4, 5, 8, 31] | 12 => [11] | 13 => [12] | 14 => [4, 9, 10, 13, 32]
  | 17 => [16] | 19 => [18] | 20 => [17, 19] | 22 => [21] | 23 => [20, 22] | 24 => [23] | 25 => [4, 9, 14, 15, 24, 33]
  | 26 => [4] | 27 => [9] | 28 => [14] | 29 => [25] | _ => []
def linLast : List Nat := [4, 9, 14, 25, 26, 27, 28, 29]
def linDep : Nat → List Tmp
  | 0 => [19] | 1 => [20] | 2 => [21] | 3 => [22] | 4 => [23] | 5 => [24] | 6 => [25] | 7 => [26] | 8 => [27] | 9 => [28, 23] | 10 => [29] | 11 => [30] | 12 => [31] | 13 => [32] | 14 => [33, 23, 28]
  | 15 => [34] | 16 => [35] | 17 => [36] | 18 => [37] | 19 => [38] | 20 => [39] | 21 => [40] | 22 => [41] | 23 => [42] | 24 => [43] | 25 => [44, 23, 28, 33]
  | 26 => [3, 23] | 27 => [4, 28] | 28 => [5, 33] | 29 => [6, 44] | _ => []
def linR (c : LinCtx) : Nat → Option Nat
  | 4 => c.va.ownBlock | 9 => c.vb.ownBlock | 14 => c.vc.ownBlock | 25 => c.vd.ownBlock | _ => none
def linT (c : LinCtx) (i : Nat) (w w' : World) : Prop := w.grownBy w' (linR c i)
structure linG (c : LinCtx) (w : World) : Prop where
  below : RowKit.Below c.w0.heap.size c.w0 w
  size : c.bx < w.heap.size
  box : w.heap[c.bx]? = some (.cells #[.int .u8 c.x0, .int .u8 c.x1, .int .u8 c.x2] 35 (0, 0))
structure LinOk (c : LinCtx) : Prop where
  bx : c.w0.heap.size ≤ c.bx
  pa : ∀ g, c.va.ownBlock = some g → c.w0.heap.size ≤ g ∧ g < c.bx ∧ c.vb.ownBlock ≠ some g ∧ c.vc.ownBlock ≠ some g ∧ c.vd.ownBlock ≠ some g
  pb : ∀ g, c.vb.ownBlock = some g → c.w0.heap.size ≤ g ∧ g < c.bx ∧ c.va.ownBlock ≠ some g ∧ c.vc.ownBlock ≠ some g ∧ c.vd.ownBlock ≠ some g
  pc : ∀ g, c.vc.ownBlock = some g → c.w0.heap.size ≤ g ∧ g < c.bx ∧ c.va.ownBlock ≠ some g ∧ c.vb.ownBlock ≠ some g ∧ c.vd.ownBlock ≠ some g
  pd : ∀ g, c.vd.ownBlock = some g → c.w0.heap.size ≤ g ∧ g < c.bx ∧ c.va.ownBlock ≠ some g ∧ c.vb.ownBlock ≠ some g ∧ c.vc.ownBlock ≠ some g
  x3 : bits .xor .u8 (bits .xor .u8 c.x0 c.x1) c.x2 = c.x3
  small : c.k < 1000000
theorem LinOk.r {c : LinCtx} (h : LinOk c) {i g : Nat} (hr : linR c i = some g) : c.w0.heap.size ≤ g ∧ g < c.bx := by
  unfold linR at hr
  split at hr
  · exact ⟨(h.pa g hr).1, (h.pa g hr).2.1⟩
  · exact ⟨(h.pb g hr).1, (h.pb g hr).2.1⟩
  · exact ⟨(h.pc g hr).1, (h.pc g hr).2.1⟩
  · exact ⟨(h.pd g hr).1, (h.pd g hr).2.1⟩
  · cases hr
theorem linG_T {c : LinCtx} (ok : LinOk c) {i : Nat} {w w' : World} (h : linG c w) (hT : linT c i w w') : linG c w' := by
  refine ⟨h.below.grown hT (Nat.le_trans ok.bx (Nat.le_of_lt h.size)) (fun k hk => (ok.r hk).1), Nat.lt_of_lt_of_le h.size hT.size, ?_⟩
  rw [hT.block c.bx h.size (fun e => by have := (ok.r e.symm).2; omega)]
  exact h.box
theorem oneSl_T {c : LinCtx} (ok : LinOk c) {i : Nat} {x : Int} {v : Value} {w w' : World} (h : OneSl c x v w) (hT : linT c i w w') : OneSl c x v w' := by
  obtain ⟨g, h1, h2, h3⟩ := h
  refine ⟨g, h1, ?_, h3⟩
  rw [hT.block g (Array.getElem?_eq_some_iff.1 h2).1 (fun e => by have := (ok.r e.symm).2; omega)]
  exact h2
theorem rowAt_T {c : LinCtx} (ok : LinOk c) {i : Nat} {ob : Option Nat} {xs : List Value} {v : Value} {w w' : World} (hi : ∀ g, ob = some g → linR c i ≠ some g) (h : RowAt c ob xs v w) (hT : linT c i w w') : RowAt c ob xs v w' := by
  obtain ⟨g, cap, rfl, h2, h3⟩ := h
  refine ⟨g, cap, rfl, h2.kept hT (.inr ?_), h3⟩
  intro e
  have e' : linR c i = some g := e.symm
  rcases h3 with h3 | h3
  · exact hi g h3 e'
  · have := (ok.r e').2; omega
theorem own_T {c : LinCtx} (ok : LinOk c) {i : Nat} {xs : List Value} {v : Value} {w w' : World} (hi : ∀ g, v.ownBlock = some g → linR c i ≠ some g) (h : w.ownsRow c.w0.heap.size 5 1 v c.k xs) (hT : linT c i w w') : w'.ownsRow c.w0.heap.size 5 1 v c.k xs := by
  refine h.kept hT ?_
  rcases hv : v.ownBlock with _ | g
  · exact .inl rfl
  · exact .inr fun e => hi g hv e.symm
theorem linR_ne {c : LinCtx} (ok : LinOk c) {i : Nat} :
    (i ≠ 4 → ∀ g, c.va.ownBlock = some g → linR c i ≠ some g) ∧ (i ≠ 9 → ∀ g, c.vb.ownBlock = some g → linR c i ≠ some g) ∧ (i ≠ 14 → ∀ g, c.vc.ownBlock = some g → linR c i ≠ some g) ∧ (i ≠ 25 → ∀ g, c.vd.ownBlock = some g → linR c i ≠ some g) := by
  refine ⟨fun hi g hg => ?_, fun hi g hg => ?_, fun hi g hg => ?_, fun hi g hg => ?_⟩
  all_goals
    unfold linR
    split
    all_goals first | (exact absurd rfl hi) | (intro e; cases e; done) | skip
  · exact (ok.pa g hg).2.2.1
  · exact (ok.pa g hg).2.2.2.1
  · exact (ok.pa g hg).2.2.2.2
  · exact (ok.pb g hg).2.2.1
  · exact (ok.pb g hg).2.2.2.1
  · exact (ok.pb g hg).2.2.2.2
  · exact (ok.pc g hg).2.2.1
  · exact (ok.pc g hg).2.2.2.1
  · exact (ok.pc g hg).2.2.2.2
  · exact (ok.pd g hg).2.2.1
  · exact (ok.pd g hg).2.2.2.1
  · exact (ok.pd g hg).2.2.2.2
theorem lin_T {c : LinCtx} (ok : LinOk c) (i k : Nat) (a : Act) (w w' : World) (hi : i < 30) (hk : k < 34) (hne : k ≠ i) (hke : keptB 30 linNeeds linLast i k = true) (h : linV c k a w) (hT : linT c i w w') : linV c k a w' := by
  obtain ⟨ra, rb, rc, rd⟩ := linR_ne ok (i := i)
  match k, hk with
  | 3, _ | 8, _ | 13, _ | 24, _ => exact oneSl_T ok h hT
  | 4, _ => exact rowAt_T ok (ra (fun e => hne e.symm)) h hT
  | 9, _ => exact ⟨rowAt_T ok (rb (fun e => hne e.symm)) h.1 hT, h.2⟩
  | 14, _ => exact ⟨rowAt_T ok (rc (fun e => hne e.symm)) h.1 hT, h.2⟩
  | 25, _ => exact ⟨rowAt_T ok (rd (fun e => hne e.symm)) h.1 hT, h.2⟩
  | 30, _ => exact own_T ok (ra (fun e => by subst e; revert hke; decide)) h hT
  | 31, _ => exact own_T ok (rb (fun e => by subst e; revert hke; decide)) h hT
  | 32, _ => exact own_T ok (rc (fun e => by subst e; revert hke; decide)) h hT
  | 33, _ => exact own_T ok (rd (fun e => by subst e; revert hke; decide)) h hT
  | 0, _ | 1, _ | 2, _ | 5, _ | 6, _ | 7, _ | 10, _ | 11, _ | 12, _ | 15, _ | 16, _ | 17, _ | 18, _ | 19, _ | 20, _ | 21, _ | 22, _ | 23, _ | 26, _ | 27, _ | 28, _ | 29, _ => exact h
  | n + 34, hk => exact absurd hk (by omega)
theorem lin_dep (c : LinCtx) (k : Nat) (a a' : Act) (w : World) (hk : k < 34) (h : ∀ t ∈ linDep k, slot a' t = slot a t) (hv : linV c k a w) : linV c k a' w := by
  match k, hk with
  | 0, _ | 1, _ | 2, _ | 3, _ | 4, _ | 5, _ | 6, _ | 7, _ | 8, _ | 10, _ | 11, _ | 12, _ | 13, _ | 15, _ | 16, _ | 17, _ | 18, _ | 19, _ | 20, _ | 21, _ | 22, _ | 23, _ | 24, _ =>
    simp only [linDep, List.mem_singleton, forall_eq] at h
    simp only [linV] at hv ⊢
    rw [h]; exact hv
  | 26, _ | 27, _ | 28, _ | 29, _ | 9, _ =>
    simp only [linDep, List.mem_cons, List.not_mem_nil, or_false, forall_eq_or_imp, forall_eq] at h
    obtain ⟨h1, h2⟩ := h
    simp only [linV] at hv ⊢
    rw [h1, h2]; exact hv
  | 14, _ =>
    simp only [linDep, List.mem_cons, List.not_mem_nil, or_false, forall_eq_or_imp, forall_eq] at h
    obtain ⟨h1, h2, h3⟩ := h
    simp only [linV] at hv ⊢
    rw [h1, h2, h3]; exact hv
  | 25, _ =>
    simp only [linDep, List.mem_cons, List.not_mem_nil, or_false, forall_eq_or_imp, forall_eq] at h
    obtain ⟨h1, h2, h3, h4⟩ := h
    simp only [linV] at hv ⊢
    rw [h1, h2, h3, h4]; exact hv
  | 30, _ | 31, _ | 32, _ | 33, _ => exact hv
  | n + 34, hk => exact absurd hk (by omega)
theorem lin_needs (i k : Nat) (h : k ∈ linNeeds i) : k < 34 := by
  unfold linNeeds at h
  split at h <;> simp at h <;> omega
end Go.Proofs.Ytplfdjejkllhkaa

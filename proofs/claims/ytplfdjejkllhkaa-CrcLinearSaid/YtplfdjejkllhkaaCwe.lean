/-
  Layer 2, CrcLinear: the drawn region (four appends at once), operation by operation.
-/
import Derived.Test.YtplfdjejkllhkaaCwd
set_option linter.unusedVariables false
namespace Go.Proofs.Ytplfdjejkllhkaa
open Go.RowKit
attribute [local go_sem] Oper.semAt_some

theorem T_refl (c : LinCtx) (i : Nat) (w : World) : linT c i w w := ⟨rfl, rfl, rfl, Nat.le_refl _, fun _ _ _ => rfl⟩
/-- What is asked of an operation. -/
def LinStep (c : LinCtx) (a0 : Act) (ops : Array Oper) (Q : Exit → Act → World → Prop) (i : Nat) (o : Oper) : Prop :=
  ∀ a w, linG c w → (∀ k ∈ linNeeds i, linV c k a w) → (∀ t, (∀ k, dstOf ops k = some t → i ∈ predsOf ops k) → slot a t = slot a0 t) → a.tmps.size = a0.tmps.size →
      o.wp Try.prog a w (fun a' w' => ∃ v, a' = a.put o.dst v ∧ linT c i w w' ∧ linG c w' ∧ linV c i a' w') Q
variable {c : LinCtx} {a0 : Act} {ops : Array Oper} {Q : Exit → Act → World → Prop}
theorem lin_move {i : Nat} {s d : Tmp} {v : Value} {o : Oper} (ho : o.op = .move (.tmp s) ∨ o.op = .assign (.tmp s)) (hd : o.dst = some d) (hold : oldB ops i s = true) (h0 : slot a0 s = v) (hsz : d < a0.tmps.size) (hV : ∀ a w, slot a d = v → linV c i a w) : LinStep c a0 ops Q i o := by
  intro a w hG hN hO hS
  have e : a.eval (.tmp s) = v := (hO s (old_of hold)).trans h0
  refine wp_value (v := v) (w' := w) ?_ ⟨v, rfl, T_refl c i w, hG, hV _ _ (by rw [hd]; exact slot_put_same _ _ _ (by rw [hS]; exact hsz))⟩
  rcases ho with ho | ho <;> simp [execOp, ho, e]
theorem slot_eq (a : Act) (t : Tmp) : slot a t = a.tmps[t]?.getD undef := by simp [slot]
theorem lin_ptr {i n : Nat} {s d : Tmp} {o : Oper} (ho : o.op = .indexAddr 35 (.tmp s) (.const (.int .i64 n))) (hn : n < 3) (hd : o.dst = some d) (hold : oldB ops i s = true) (h0 : slot a0 s = lptr c.bx 0) (hsz : d < a0.tmps.size) (hV : ∀ a w, slot a d = lptr c.bx n → linV c i a w) : LinStep c a0 ops Q i o := by
  intro a w hG hN hO hS
  have e : a.tmps[s]?.getD undef = .pointer (some ⟨c.bx, 0, none⟩) := (slot_eq a s).symm.trans ((hO s (old_of hold)).trans h0)
  have hn' : (n : Int) < 3 := by omega
  refine wp_value (v := lptr c.bx n) (w' := w) ?_ ⟨_, rfl, T_refl c i w, hG, hV _ _ (by rw [hd]; exact slot_put_same _ _ _ (by rw [hS]; exact hsz))⟩
  unfold execOp lptr
  simp only [ho]
  go_simp
theorem lin_load {i j n : Nat} {s d : Tmp} {x : Int} {o : Oper} (ho : o.op = .load 5 (.tmp s)) (hd : o.dst = some d) (hj : j ∈ linNeeds i) (hp : ∀ a w, linV c j a w → slot a s = lptr c.bx n) (hx : (#[.int .u8 c.x0, .int .u8 c.x1, .int .u8 c.x2] : Array Value)[n]? = some (.int .u8 x)) (hsz : d < a0.tmps.size)
    (hV : ∀ a w, slot a d = .int .u8 x → linV c i a w) : LinStep c a0 ops Q i o := by
  intro a w hG hN hO hS
  have e : a.tmps[s]?.getD undef = .pointer (some ⟨c.bx, n, none⟩) := (slot_eq a s).symm.trans (hp a w (hN j hj))
  have hc : w.cell? ⟨c.bx, n, none⟩ = some (.int .u8 x) := by rw [cell_of_row w c.bx n _ _ _ hG.box]; exact hx
  refine wp_value (v := .int .u8 x) (w' := w) ?_ ⟨_, rfl, T_refl c i w, hG, hV _ _ (by rw [hd]; exact slot_put_same _ _ _ (by rw [hS]; exact hsz))⟩
  unfold execOp
  simp only [ho]
  go_simp
theorem lin_xor {i j1 j2 : Nat} {s1 s2 d : Tmp} {x y : Int} {o : Oper} (ho : o.op = .binOp .xor 5 (.tmp s1) (.tmp s2) 5) (hd : o.dst = some d) (hj1 : j1 ∈ linNeeds i) (hj2 : j2 ∈ linNeeds i) (h1 : ∀ a w, linV c j1 a w → slot a s1 = .int .u8 x) (h2 : ∀ a w, linV c j2 a w → slot a s2 = .int .u8 y) (hsz : d < a0.tmps.size)
    (hV : ∀ a w, slot a d = .int .u8 (bits .xor .u8 x y) → linV c i a w) : LinStep c a0 ops Q i o := by
  intro a w hG hN hO hS
  have e1 : a.tmps[s1]?.getD undef = .int .u8 x := (slot_eq a s1).symm.trans (h1 a w (hN j1 hj1))
  have e2 : a.tmps[s2]?.getD undef = .int .u8 y := (slot_eq a s2).symm.trans (h2 a w (hN j2 hj2))
  refine wp_value (v := .int .u8 (bits .xor .u8 x y)) (w' := w) ?_ ⟨_, rfl, T_refl c i w, hG, hV _ _ (by rw [hd]; exact slot_put_same _ _ _ (by rw [hS]; exact hsz))⟩
  unfold execOp
  simp only [ho]
  go_simp
theorem lin_build (ok : LinOk c) {i j : Nat} {s d : Tmp} {x : Int} {o : Oper} (ho : o.op = .buildSlice 30 1 #[(0, .tmp s)]) (hd : o.dst = some d) (hj : j ∈ linNeeds i) (h1 : ∀ a w, linV c j a w → slot a s = .int .u8 x) (hsz : d < a0.tmps.size)
    (hV : ∀ a w, OneSl c x (slot a d) w → linV c i a w) : LinStep c a0 ops Q i o := by
  intro a w hG hN hO hS
  have e1 : a.tmps[s]?.getD undef = .int .u8 x := (slot_eq a s).symm.trans (h1 a w (hN j hj))
  have hT : linT c i w (w.alloc (.cells #[.int .u8 x] 5)) := World.grownBy_alloc w _ _
  refine wp_value (v := .slice (some ⟨w.heap.size, 0, none⟩) 1 1) (w' := w.alloc (.cells #[.int .u8 x] 5)) ?_ ⟨_, rfl, hT, linG_T ok hG hT, hV _ _ ⟨w.heap.size, by rw [hd]; exact slot_put_same _ _ _ (by rw [hS]; exact hsz), heap_alloc_new _ _, hG.size⟩⟩
  unfold execOp
  simp only [ho]
  go_simp
theorem lin_app (ok : LinOk c) {i jm jb : Nat} {s1 s2 d : Tmp} {x : Int} {v : Value} {xs : List Value} {o : Oper} (ho : o.op = .call { callee := .builtin .append, args := #[.tmp s1, .tmp s2], argTypes := #[30, 30] }) (hd : o.dst = some d)
    (hj1 : jm ∈ linNeeds i) (hj2 : jb ∈ linNeeds i) (h1 : ∀ a w, linV c jm a w → slot a s1 = v) (h2 : ∀ a w, linV c jb a w → OneSl c x (slot a s2) w) (hown : ∀ a w, (∀ k ∈ linNeeds i, linV c k a w) → w.ownsRow c.w0.heap.size 5 1 v c.k xs) (hR : linR c i = v.ownBlock) (hsz : d < a0.tmps.size)
    (hV : ∀ a w a' w' g cap, (∀ k ∈ linNeeds i, linV c k a w) → linG c w → (∀ t, t ≠ d → slot a' t = slot a t) → slot a' d = .slice (some ⟨g, 0, none⟩) (c.k + 1) cap → w'.ownsRow c.w0.heap.size 5 1 (slot a' d) (c.k + 1) (xs ++ [.int .u8 x]) → (v.ownBlock = some g ∨ g = w.heap.size) → linT c i w w' → linV c i a' w') : LinStep c a0 ops Q i o := by
  intro a w hG hN hO hS
  obtain ⟨gx, ex, hx, _⟩ := h2 a w (hN jb hj2)
  have h63 := ok.small
  obtain ⟨zi, hi, hz0, hz1, hz2⟩ := info_parts (P := Try.prog) (e := 5) (z := .int .u8 0) (size := 1) (bytes := 1) (by kernel_rfl)
  refine wp_append_lies (P := Try.prog) w (.tmp s1) (.tmp s2) 30 ho c.w0.heap.size 5 zi (.int .u8 0) 1 1 Try.underlying30 hi hz0 hz1 hz2 rfl (by decide) v c.k xs (h1 a w (hN jm hj1)) (hown a w hN)
    ⟨gx, 0, none⟩ 1 1 [.int .u8 x] ex rfl (World.news_of_block (cs := #[.int .u8 x]) hx) (by simp [Value.oneCell']) (by decide) (by unfold maxLen; omega) (by omega) hG.below.size w.heap.size rfl ?_
  intro g cap w' h3 h4 h5 h6
  have hT : linT c i w w' := by unfold linT; rw [hR]; exact h4
  have hs : slot (a.put o.dst (.slice (some ⟨g, 0, none⟩) (c.k + 1) cap)) d = .slice (some ⟨g, 0, none⟩) (c.k + 1) cap := by rw [hd]; exact slot_put_same _ _ _ (by rw [hS]; exact hsz)
  refine ⟨_, rfl, hT, linG_T ok hG hT, hV a w _ w' g cap hN hG (fun t ht => slot_put_other _ _ _ _ (by rw [hd]; intro e; cases e; exact ht rfl)) hs (by rw [hs]; exact h3) h5 hT⟩
end Go.Proofs.Ytplfdjejkllhkaa

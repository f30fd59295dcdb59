/-
  Worlds in which only rows of strings of the call's own were written: for the document's rawDir.
-/
import Derived.Test.YtlccihidedfemaaGreatDoorQb1
import Derived.Maps.AppendAt
set_option linter.unusedVariables false
namespace Go.Proofs.YtlccihidedfemaaGreatDoor
open Go.RowKit
structure Kept (B : Nat) (w w' : World) : Prop where
 os : w'.os = w.os
 tape : w'.tape = w.tape
 output : w'.output = w.output
 size : w.heap.size ≤ w'.heap.size
 block : ∀ b, b < w.heap.size → (b < B ∨ ∃ xs T, Row w b xs T ∧ T ≠ 9) → w'.heap[b]? = w.heap[b]?
theorem Kept.refl (B : Nat) (w : World) : Kept B w w := ⟨rfl, rfl, rfl, Nat.le_refl _, fun _ _ _ => rfl⟩
theorem Kept.of_below {B : Nat} {w w' : World} (h : Below w.heap.size w w') : Kept B w w' := ⟨h.os, h.tape, h.output, h.size, fun b hb _ => h.block b hb⟩
theorem row_kept {B b : Nat} {w w' : World} {xs : Array Value} {T : TypeId} (hr : Row w b xs T) (hT : T ≠ 9) (h : Kept B w w') : Row w' b xs T := (h.block b hr.lt (.inr ⟨xs, T, hr, hT⟩)).trans hr
theorem Kept.trans {B : Nat} {a b c : World} (h : Kept B a b) (k : Kept B b c) : Kept B a c :=
 ⟨k.os.trans h.os, k.tape.trans h.tape, k.output.trans h.output, Nat.le_trans h.size k.size, fun i hi hp => by
  refine (k.block i (Nat.lt_of_lt_of_le hi h.size) ?_).trans (h.block i hi hp)
  rcases hp with hp | ⟨xs, T, hr, hT⟩
  ·exact .inl hp
  ·exact .inr ⟨xs, T, row_kept hr hT h, hT⟩⟩
theorem Kept.step {B : Nat} {a b c : World} (h : Kept B a b) (k : Below b.heap.size b c) : Kept B a c := h.trans (Kept.of_below k)
theorem Kept.grown {B : Nat} {w w' : World} {row : Option Nat} (hg : w.grownBy w' row) (hr : ∀ g, row = some g → B ≤ g ∧ ∃ xs, Row w g xs 9) : Kept B w w' :=
 ⟨hg.os, hg.tape, hg.output, hg.size, fun b hb hp => hg.block b hb (fun e => by
  obtain ⟨h1, xs, h2⟩ := hr b e.symm
  rcases hp with hp | ⟨ys, T, h3, hT⟩
  ·omega
  ·have h4 := (show w.heap[b]? = _ from h2).symm.trans (show w.heap[b]? = _ from h3)
   cases h4; exact hT rfl)⟩
theorem Kept.later {B : Nat} {a w w' : World} {row : Option Nat} (h : Kept B a w) (hg : w.grownBy w' row) (hr : ∀ g, row = some g → a.heap.size ≤ g) : Kept B a w' :=
 ⟨hg.os.trans h.os, hg.tape.trans h.tape, hg.output.trans h.output, Nat.le_trans h.size hg.size, fun b hb hp =>
  (hg.block b (Nat.lt_of_lt_of_le hb h.size) (fun e => by have := hr b e.symm; omega)).trans (h.block b hb hp)⟩
theorem Kept.below {B : Nat} {a w w' : World} (h : Kept B w w') (hb : Below B a w) (hs : B ≤ w.heap.size) : Below B a w' :=
 hb.trans ⟨h.os, h.tape, h.output, h.size, fun k hk => h.block k (Nat.lt_of_lt_of_le hk hs) (.inl hk)⟩
theorem OwnE.kept {B C : Nat} {w w' : World} {v : Value} {L : List En} (h : OwnE C w v L) (hk : Kept B w w') : OwnE C w' v L := by
 refine ⟨h.1, ?_⟩
 rcases h.2 with h2 | ⟨g, cap, cur, h3, h4, h5, h6⟩
 ·exact .inl h2
 ·exact .inr ⟨g, cap, cur, h3, h4, row_kept (B := B) (xs := cur) (T := 78) h5 (by decide) hk, h6⟩
theorem OwnP.kept {B C : Nat} {w w' : World} {v : Value} {L : List Pt} (h : OwnP C w v L) (hk : Kept B w w') : OwnP C w' v L := by
 refine ⟨h.1, ?_⟩
 rcases h.2 with h2 | ⟨g, cap, cur, h3, h4, h5, h6⟩
 ·exact .inl h2
 ·exact .inr ⟨g, cap, cur, h3, h4, row_kept (B := B) (xs := cur) (T := 74) h5 (by decide) hk, h6⟩
theorem OwnTxt.row {W w : World} {v : Value} {M : List (List UInt8)} (h : OwnTxt W w v M) {g : Nat} (hg : v.ownBlock = some g) : W.heap.size ≤ g ∧ ∃ xs, Row w g xs 9 := by
 rcases h.2 with ⟨rfl, _⟩ | ⟨g', cap, cur, rfl, h4, h5, _⟩
 ·cases hg
 ·cases hg; exact ⟨h4, _, h5⟩
theorem OwnTxt.turn {W w w' : World} {v : Value} {M : List (List UInt8)} (h : OwnTxt W w v M) {b : Nat} {xs : Array Value} {T : TypeId} (hr : Row w b xs T) (hT : T ≠ 9) (hg : w.grownBy w' (some b)) : OwnTxt W w' v M :=
 World.ownsRow.kept h hg (by
  cases hv : v.ownBlock with
  | none => exact .inl rfl
  | some k =>
   refine .inr fun e => ?_
   cases e
   obtain ⟨_, ys, h2⟩ := h.row hv
   have h4 := (show w.heap[b]? = _ from h2).symm.trans (show w.heap[b]? = _ from hr)
   cases h4; exact hT rfl)
theorem wpList_append_txt_at {ops : Array Oper} {rest : List Oper} {o : Oper} {a : Act} {W w0 : World} {z : Nat} {Q : Exit → Act → World → Prop} (hgd : o.guard = none) (s x : Operand)
  (ho : o.op = .call { callee := .builtin .append, args := #[s, x], argTypes := #[38, 38] })
  {v : Value} {M : List (List UInt8)} {y : ByteArray} (hown : OwnTxt W w0 v M) (hbs : W.heap.size ≤ w0.heap.size) (hz : z = w0.heap.size) (hs : a.eval s = v)
  (hx : a.eval x = .slice (some ⟨z, 0, none⟩) 1 1) (hlen : M.length ≤ 1000000)
  (h : ∀ v' w', OwnTxt W w' v' (M ++ [y.data.toList]) → w0.grownBy w' v.ownBlock → (v'.ownBlock = v.ownBlock ∨ ∃ g, v'.ownBlock = some g ∧ w0.heap.size ≤ g) → wpList Tryz.prog ops Q rest (a.put o.dst v') w') :
  wpList Tryz.prog ops Q (o :: rest) a (w0.alloc (.cells #[.string y] 9)) := by
 subst hz
 obtain ⟨i0, hi, hz0, hz1, hz2⟩ := info_parts infoStr
 refine wpList_plain hgd fun K hK => ?_
 obtain ⟨v', w', hr, h2, h3, _, h5⟩ := run_append_own_at (P := Tryz.prog) (w0.alloc (.cells #[.string y] 9)) W.heap.size 38 o.type 9 i0 (.string ⟨#[]⟩) 1 16 Tryz.underlying38 hi hz0 hz1 hz2 rfl (by decide) v (strsOf M).length (strCells (strsOf M)) (World.ownsRow.alloc hown _) ⟨w0.heap.size, 0, none⟩ 1 1 [.string y] rfl cell_one
  (fun u hu => by simp at hu; subst hu; rfl) (by rw [strsOf_len]; unfold maxLen; omega) (by rw [strsOf_len]; omega) (by simp; omega)
 unfold Oper.wp execOp
 simp only [ho, resolve, invoke, builtin, Sem.run_bind, Sem.run_pure, Result.andThen_ok, List.map_toArray, List.map_cons, List.map_nil, hs, hx, hr]
 refine hK _ _ (h v' w' ?_ (grown_after (grownBy_alloc w0 _) h3) ?_)
 ·unfold OwnTxt
  rw [strsOf_snoc, txt_str, List.length_append, strCells_app]; exact h2
 ·refine h5.imp id fun e => ⟨_, e, ?_⟩
  simp
end Go.Proofs.YtlccihidedfemaaGreatDoor

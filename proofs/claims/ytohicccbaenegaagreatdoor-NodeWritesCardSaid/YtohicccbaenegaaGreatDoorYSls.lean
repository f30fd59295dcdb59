/-
  Slices of strings over this translation: lists of texts; the tail of a slice; one string appended.
-/
import Derived.Test.YtohicccbaenegaaGreatDoorQ0
import Derived.Test.YtohicccbaenegaaGreatDoorProg
import Derived.KernelRfl
import Derived.Lib.Hide
import Derived.ChangeAlike
import Derived.ChangeKeysEq
set_option linter.unusedVariables false
namespace Go.Proofs.YtohicccbaenegaaGreatDoor
open Go.RowKit

theorem infoStr : (Tryz.prog.info? 9).map (fun i => (i.zero, i.size, i.bytes)) = some (some (.string ⟨#[]⟩), 1, 16) := by kernel_rfl
/-- Lists of bytes as strings, and strings' bytes. -/
def strsOf (L : List (List UInt8)) : List ByteArray := L.map fun l => ⟨l.toArray⟩
def txts (L : List ByteArray) : List (List UInt8) := L.map (·.data.toList)
theorem strsOf_len (L : List (List UInt8)) : (strsOf L).length = L.length := List.length_map ..
theorem txts_len (L : List ByteArray) : (txts L).length = L.length := List.length_map ..
theorem strsOf_snoc (L : List (List UInt8)) (t : List UInt8) : strsOf (L ++ [t]) = strsOf L ++ [⟨t.toArray⟩] := by simp [strsOf]
theorem strsOf_app (L M : List (List UInt8)) : strsOf (L ++ M) = strsOf L ++ strsOf M := List.map_append
theorem strsOf_txts (L : List ByteArray) : strsOf (txts L) = L := by simp [strsOf, txts, Function.comp_def]
theorem txts_strsOf (L : List (List UInt8)) : txts (strsOf L) = L := by simp [strsOf, txts, Function.comp_def]
theorem txts_get {L : List ByteArray} {i : Nat} (h : i < L.length) : (txts L)[i]'(by rw [txts_len]; exact h) = L[i].data.toList := by simp [txts]
theorem strsOf_get {L : List (List UInt8)} {i : Nat} (h : i < L.length) : (strsOf L)[i]'(by rw [strsOf_len]; exact h) = ⟨L[i].toArray⟩ := by simp [strsOf]

/-- The tail of a slice of strings. -/
theorem strs_tail {w : World} {v : Value} {x : ByteArray} {L : List ByteArray} (h : IsStrs w v (x :: L)) :
    ∃ v', (∀ W, (Instr.slice 31 v (some (.int .i64 1)) none none).run Tryz.prog W = .ok v' W) ∧ IsStrs w v' L := by
  obtain ⟨hm, a, cap, rfl, ⟨_, hcap⟩, hc⟩ := h
  obtain ⟨b, off, rfl, hlt, hcell⟩ := hc (by simp)
  simp only [List.length_cons] at hm hcap hcell
  refine ⟨sliced (some ⟨b, off, none⟩) 1 (L.length + 1) cap 1, fun W => ?_, Nat.le_trans (Nat.le_succ _) hm, ?_⟩
  · have := run_slice_l (P := Tryz.prog) (w := W) 31 (some ⟨b, off, none⟩) (L.length + 1) cap (by kernel_rfl) .i64 1 (by omega) (by omega)
    rw [List.length_cons, this]
    have hs : (sizeOf (Tryz.prog.elem 31)).run Tryz.prog W = .ok 1 W := by
      have : Tryz.prog.elem 31 = 9 := by kernel_rfl
      rw [this]
      obtain ⟨i0, hi, _⟩ := info_parts infoStr
      rw [run_sizeOf _ hi]
      have h1 : Tryz.prog.cellsOf 9 = 1 := by kernel_rfl
      rw [h1]
    rw [hs]; rfl
  · by_cases hcap1 : cap = 1
    · subst hcap1
      obtain rfl : L = [] := List.length_eq_zero_iff.1 (by omega)
      exact ⟨some ⟨b, off, none⟩, 0, by simp [sliced], ⟨fun h => (by cases h), Nat.le_refl _⟩, fun h => absurd h (by simp)⟩
    · refine ⟨some ⟨b, off + 1, none⟩, cap - 1, by simp [sliced, Addr.add, hcap1], ⟨fun h => (by cases h), by omega⟩, fun h => ⟨b, off + 1, rfl, hlt, fun i hi => ?_⟩⟩
      have := hcell (i + 1) (by omega)
      rw [show off + 1 + i = off + (i + 1) by omega, this]; simp

/-- One string behind a slice of the call's own; the call began at W. -/
theorem wpList_append_one {ops : Array Oper} {rest : List Oper} {o : Oper} {a : Act} {W w0 : World} {Q : Exit → Act → World → Prop} (hgd : o.guard = none) (s x : Operand)
    (ho : o.op = .call { callee := .builtin .append, args := #[s, x], argTypes := #[31, 31] })
    {v : Value} {M : List ByteArray} {y : ByteArray} (hown : w0.ownsRow W.heap.size 9 1 v M.length (strCells M)) (hb : Below W.heap.size W w0) (hs : a.eval s = v)
    (hx : a.eval x = .slice (some ⟨w0.heap.size, 0, none⟩) 1 1) (hlen : M.length ≤ 1000000)
    (h : ∀ v' w', w'.ownsRow W.heap.size 9 1 v' (M ++ [y]).length (strCells (M ++ [y])) → Below W.heap.size W w' → wpList Tryz.prog ops Q rest (a.put o.dst v') w') :
    wpList Tryz.prog ops Q (o :: rest) a (w0.alloc (.cells #[.string y] 9)) := by
  obtain ⟨i0, hi, hz0, hz1, hz2⟩ := info_parts infoStr
  have hsz := hb.size
  refine wpList_append_own _ hgd s x 31 ho W.heap.size 9 i0 (.string ⟨#[]⟩) 1 16 Tryz.underlying31 hi hz0 hz1 hz2 rfl (by decide) v M.length (strCells M) hs (hown.alloc _) ⟨w0.heap.size, 0, none⟩ 1 1 [.string y] hx rfl cell_one ?_ ?_ ?_ ?_ ?_
  · intro u hu; simp at hu; subst hu; rfl
  · unfold maxLen; omega
  · omega
  · simp; omega
  · intro v' w' hown' hg _
    refine h v' w' ?_ ((hb.alloc hsz _).grown hg (by simp; omega) (fun j hj => (hown.lt j hj).1))
    rw [List.length_append, strCells_app]; exact hown'

/-- A slice of the call's own (which began at W) that reads as texts. -/
def OwnTxt (W wr : World) (v : Value) (M : List (List UInt8)) : Prop := wr.ownsRow W.heap.size 9 1 v (strsOf M).length (strCells (strsOf M))
theorem ownTxt_nil (W : World) : OwnTxt W W (.slice none 0 0) [] := World.ownsRow_nil _ _ _ _
theorem OwnTxt.strs {W wr : World} {v : Value} {M : List (List UInt8)} (h : OwnTxt W wr v M) : IsStrs wr v (strsOf M) := IsStrs.of_owns h
theorem OwnTxt.stays {W a b : World} {v : Value} {M : List (List UInt8)} (h : OwnTxt W a v M) (hb : Below a.heap.size a b) : OwnTxt W b v M :=
  World.ownsRow.kept h (grownBy_of_below hb) (by cases hv : v.ownBlock <;> simp)
theorem txt_str (x : ByteArray) : (⟨x.data.toList.toArray⟩ : ByteArray) = x := by simp
theorem wpList_append_txt {ops : Array Oper} {rest : List Oper} {o : Oper} {a : Act} {W w0 : World} {Q : Exit → Act → World → Prop} (hgd : o.guard = none) (s x : Operand)
    (ho : o.op = .call { callee := .builtin .append, args := #[s, x], argTypes := #[31, 31] })
    {v : Value} {M : List (List UInt8)} {y : ByteArray} (hown : OwnTxt W w0 v M) (hb : Below W.heap.size W w0) (hs : a.eval s = v)
    (hx : a.eval x = .slice (some ⟨w0.heap.size, 0, none⟩) 1 1) (hlen : M.length ≤ 1000000)
    (h : ∀ v' w', OwnTxt W w' v' (M ++ [y.data.toList]) → Below W.heap.size W w' → wpList Tryz.prog ops Q rest (a.put o.dst v') w') :
    wpList Tryz.prog ops Q (o :: rest) a (w0.alloc (.cells #[.string y] 9)) :=
  wpList_append_one hgd s x ho hown hb hs hx (by rw [strsOf_len]; exact hlen) fun v' w' h1 h2 => h v' w' (by unfold OwnTxt; rw [strsOf_snoc, txt_str]; exact h1) h2
theorem wpList_append_all {ops : Array Oper} {rest : List Oper} {o : Oper} {a : Act} {W w0 : World} {Q : Exit → Act → World → Prop} (hgd : Region.wanted o (yielded ops a.tmps) = true) (s x : Operand)
    (ho : o.op = .call { callee := .builtin .append, args := #[s, x], argTypes := #[31, 31] })
    {v : Value} {M : List (List UInt8)} {y : Value} {L : List ByteArray} (hown : OwnTxt W w0 v M) (hb : Below W.heap.size W w0) (hL : IsStrs w0 y L) (hs : a.eval s = v) (hx : a.eval x = y) (hlen : M.length + L.length ≤ 1000000)
    (h : ∀ v' w', OwnTxt W w' v' (M ++ txts L) → Below W.heap.size W w' → wpList Tryz.prog ops Q rest (a.put o.dst v') w') :
    wpList Tryz.prog ops Q (o :: rest) a w0 := by
  obtain ⟨i0, hi, hz0, hz1, hz2⟩ := info_parts infoStr
  have hsz := hb.size
  refine wpList_append_strs hgd s x 31 ho W.heap.size 9 i0 (.string ⟨#[]⟩) 16 Tryz.underlying31 hi hz0 hz1 hz2 rfl v (strsOf M) hs hown y L hx hL ?_ ?_ hsz ?_
  · rw [strsOf_len]; unfold maxLen; omega
  · rw [strsOf_len]; omega
  · intro v' w' h1 h2
    refine h v' w' ?_ (hb.grown h2 hsz (fun j hj => (hown.lt j hj).1))
    unfold OwnTxt; rw [strsOf_app, strsOf_txts]; exact h1
end Go.Proofs.YtohicccbaenegaaGreatDoor

/-
  Layer 8: what the walks of StreamBytes and StreamWhole share.
-/
import Derived.Test.YtciajgdjddepdaaDoorSya
set_option linter.unusedVariables false
namespace Go.Proofs.YtciajgdjddepdaaDoor
open Go.RowKit Go.Shelf

/-- A slice of strings of the call's own, from block B on. -/
def OwnB (B : Nat) (w : World) (v : Value) (L : List ByteArray) : Prop := w.ownsRow B 9 1 v L.length (strCells L)
theorem ownB_nil (B : Nat) (w : World) : OwnB B w (.slice none 0 0) [] := World.ownsRow_nil _ _ _ _
theorem OwnB.owns {B : Nat} {w : World} {v : Value} {L : List ByteArray} (h : OwnB B w v L) : OwnS w v L := OwnS.of h
theorem OwnB.strs {B : Nat} {w : World} {v : Value} {L : List ByteArray} (h : OwnB B w v L) : IsStrs w v L := IsStrs.of_owns h
theorem OwnB.stays {B : Nat} {w w' : World} {v : Value} {L : List ByteArray} (h : OwnB B w v L) (hb : Below w.heap.size w w') : OwnB B w' v L :=
  World.ownsRow.kept h (grownBy_of_below hb) (by cases hv : v.ownBlock <;> simp)
theorem OwnB.from {B : Nat} {w : World} {v : Value} {L : List ByteArray} (h : OwnB B w v L) : ∀ j, v.ownBlock = some j → B ≤ j := fun j hj => (World.ownsRow.lt h j hj).1
theorem OwnB.apart {B : Nat} {w : World} {v : Value} {L : List ByteArray} (h : OwnB B w v L) {A : Nat} {xs : Array Value} {T : TypeId} (hA : Row w A xs T) (hT : T ≠ 9) : v.ownBlock ≠ some A := fun e => by
  rcases h.2 with ⟨rfl, _⟩ | ⟨g, cap, cur, rfl, _, hg, _⟩
  · cases e
  · cases e
    rw [show w.heap[g]? = _ from hA] at hg
    cases hg; exact hT rfl
theorem OwnB.set {B : Nat} {w : World} {v : Value} {L : List ByteArray} (h : OwnB B w v L) {A : Nat} (hne : v.ownBlock ≠ some A) (u : Value) : OwnB B (w.setCell ⟨A, 0, none⟩ u) v L :=
  World.ownsRow.kept h (grownBy_setCell' _ _ _) (.inr hne)
theorem Held.onG {W0 : World} {L : List (Nat × Array Value × TypeId)} {w w' : World} {row : Option Nat} (h : Held W0 L w) (hg : w.grownBy w' row) (h0 : ∀ j, row = some j → W0.heap.size ≤ j) (h1 : row ≠ some 1) (hL : ∀ x ∈ L, row ≠ some x.1) : Held W0 L w' :=
  ⟨fun x hx => (hg.block x.1 (h.rows x hx).lt (fun e => hL x hx e.symm)).trans (h.rows x hx),
   fun j hj => by rw [World.cell?_of_block (hg.block 1 (World.block_lt_of_cell? _ _ (h.tabs j hj)) (fun e => h1 e.symm))]; exact h.tabs j hj,
   h.below.grown hg h.below.size h0⟩
/-- Whole lists of strings, appended to what is the call's own. -/
theorem wp_append_strs {P : Program} {w : World} {o : Oper} {a : Act} {K : Act → World → Prop} {Q : Exit → Act → World → Prop} (s x : Operand) (t : TypeId)
    (ho : o.op = .call { callee := .builtin .append, args := #[s, x], argTypes := #[t, t] })
    (base : Nat) (e : TypeId) (i : TypeInfo) (z : Value) (bytes : Nat) (ht : P.underlying t = some (.slice e)) (hi : P.info? e = some i) (hz : i.zero = some z)
    (hsize : i.size = 1) (hby : i.bytes = bytes) (hzs : z.cells.size = 1)
    (v : Value) (M : List ByteArray) (hs : a.eval s = v) (hown : w.ownsRow base e 1 v M.length (strCells M)) (y : Value) (L : List ByteArray) (hx : a.eval x = y) (hL : IsStrs w y L)
    (h63 : M.length + L.length ≤ maxLen) (hbytes : (M.length + L.length) * bytes ≤ 140737488355328) (hbase : base ≤ w.heap.size)
    (h : ∀ v' w', w'.ownsRow base e 1 v' (M ++ L).length (strCells (M ++ L)) → w.grownBy w' v.ownBlock → K (a.put o.dst v') w') : o.wp P a w K Q := by
  obtain ⟨_, ad, cap, rfl, ⟨h0, _⟩, h1⟩ := hL
  cases ad with
  | none =>
    obtain ⟨rfl, rfl⟩ := h0 rfl
    have hrun := run_append_owned_none (P := P) (w := w) base t o.type e i 1 ht hi v M.length (strCells M) hown
    unfold Oper.wp
    simp [execOp, ho, resolve, invoke, builtin, hs, hx, hrun, Result.andThen]
    exact h v w (by simpa using hown) ⟨rfl, rfl, rfl, Nat.le_refl _, fun _ _ _ => rfl⟩
  | some ad =>
    refine wp_append_own w s x t ho base e i z 1 bytes ht hi hz hsize hby hzs (by decide) v M.length (strCells M) hs hown ad L.length cap (strCells L) hx (by rw [strCells_len]; omega) ?_ ?_ h63 hbytes hbase ?_
    · intro j u hj
      have hjl : j < L.length := by
        have := (List.getElem?_eq_some_iff.1 hj).1
        rwa [strCells_len] at this
      rw [strCells_get hjl] at hj
      cases hj
      obtain ⟨b, off, e1, _, hc⟩ := h1 (by omega)
      cases e1
      rw [add_plain']; exact hc j hjl
    · intro u hu
      obtain ⟨s, _, rfl⟩ := List.mem_map.1 hu
      rfl
    · intro v' w' hown' hg _
      refine h v' w' ?_ hg
      rw [List.length_append, strCells_app]; exact hown'
/-- The stream's own place is written. -/
def setA (A : Nat) (w w' : World) : Prop := ∃ z u, Row w A #[z] 25 ∧ w' = w.setCell ⟨A, 0, none⟩ u
theorem setA_own {A : Nat} {w w' : World} (h : setA A w w') {v : Value} {L : List ByteArray} (ho : OwnS w v L) : OwnS w' v L := by
  obtain ⟨z, u, h2, rfl⟩ := h
  exact ho.set h2 (by decide) u
theorem setA_ownB {A B : Nat} {w w' : World} (h : setA A w w') {v : Value} {L : List ByteArray} (ho : OwnB B w v L) : OwnB B w' v L := by
  obtain ⟨z, u, h2, rfl⟩ := h
  exact ho.set (ho.apart h2 (by decide)) u

/-- A text byte by byte, and part by part. -/
structure Sofar (c : List UInt8 → Nat) (mx : Nat) (l : List UInt8) (M : List ByteArray) (y : ByteArray) : Prop where
  told : M = strsOf (fed c mx l)
  rest : y = ⟨(left c mx l).toArray⟩
theorem Sofar.start (c : List UInt8 → Nat) (mx : Nat) : Sofar c mx [] [] ⟨#[]⟩ := ⟨rfl, rfl⟩
theorem Sofar.step {mn mx : Nat} {c : List UInt8 → Nat} (H : CutSure mn mx c) {l : List UInt8} {M : List ByteArray} {y : ByteArray} (h : Sofar c mx l M y) (t : ByteArray) :
    Sofar c mx (l ++ t.data.toList) (M ++ strsOf (fed c mx (y ++ t).data.toList)) ⟨(left c mx (y ++ t).data.toList).toArray⟩ := by
  have e : (y ++ t).data.toList = left c mx l ++ t.data.toList := by rw [bytes_app, h.rest]
  obtain ⟨h1, h2⟩ := fed_app H l t.data.toList
  refine ⟨?_, ?_⟩
  · rw [h.told, h1, strsOf_app, e]
  · rw [h2, e]
theorem Sofar.small {mn mx : Nat} {c : List UInt8 → Nat} (H : CutSure mn mx c) {l : List UInt8} {M : List ByteArray} {y : ByteArray} (h : Sofar c mx l M y) : y.size < mx ∧ y.size ≤ l.length ∧ M.length ≤ l.length := by
  have e : y.size = (left c mx l).length := by rw [h.rest, Lib.size_eq]
  exact ⟨by rw [e]; exact left_lt H l, by rw [e]; exact left_le H l, by rw [h.told, strsOf_len]; exact fed_len H l⟩
theorem Sofar.fin {mn mx : Nat} {c : List UInt8 → Nat} (H : CutSure mn mx c) {l : List UInt8} {M : List ByteArray} {y : ByteArray} (h : Sofar c mx l M y) : M ++ strsOf (pcs c y.data.toList) = strsOf (pcs c l) := by
  have e : y.data.toList = left c mx l := by rw [h.rest]
  rw [h.told, e, ← strsOf_app, fed_pcs H]
theorem Sofar.none {mn mx : Nat} {c : List UInt8 → Nat} (H : CutSure mn mx c) {l : List UInt8} {M : List ByteArray} {y : ByteArray} (h : Sofar c mx l M y) : fed c mx (y ++ ⟨#[]⟩).data.toList = [] ∧ (⟨(left c mx (y ++ ⟨#[]⟩).data.toList).toArray⟩ : ByteArray) = y := by
  have e : (y ++ ⟨#[]⟩).data.toList = left c mx l := by rw [bytes_app, h.rest]; simp
  obtain ⟨h1, h2⟩ := fed_left H l
  rw [e, h1, h2, h.rest]; exact ⟨rfl, rfl⟩
theorem Sofar.one {mn mx : Nat} {c : List UInt8 → Nat} (H : CutSure mn mx c) {l : List UInt8} {M : List ByteArray} {y : ByteArray} (h : Sofar c mx l M y) (t : ByteArray) (ht : t.size = 1) : (strsOf (fed c mx (y ++ t).data.toList)).length ≤ 1 := by
  have hs := (h.small H).1
  rw [Lib.size_eq] at hs ht
  obtain ⟨b, hb⟩ := List.length_eq_one_iff.1 ht
  rw [strsOf_len, bytes_app, hb]
  exact fed_one H hs b
theorem take_byte (s : ByteArray) (k : Nat) (h : k < s.size) : s.data.toList.take (k + 1) = s.data.toList.take k ++ (s.extract k (k + 1)).data.toList ∧ (s.extract k (k + 1)).size = 1 := by
  refine ⟨?_, by rw [ByteArray.size_extract]; omega⟩
  rw [Lib.extract_data, show k + 1 - k = 1 by omega, List.take_add]
end Go.Proofs.YtciajgdjddepdaaDoor

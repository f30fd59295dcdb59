/-
  Slices of parts and of entries over this translation: what reads as a list; one owned; one appended.
-/
import Derived.Test.YtohicccbaenegaaGreatDoorQ0
set_option linter.unusedVariables false
namespace Go.Proofs.YtohicccbaenegaaGreatDoor
open Go.RowKit

theorem grownBy_alloc (w : World) (o : Obj) : w.grownBy (w.alloc o) none := grownBy_of_below ((Below.refl _ _).alloc (Nat.le_refl _) _)
theorem grown_after {a b c : World} {row : Option Nat} (h : a.grownBy b none) (k : b.grownBy c row) : a.grownBy c row :=
  ⟨k.os.trans h.os, k.tape.trans h.tape, k.output.trans h.output, Nat.le_trans h.size k.size, fun i hi hr => (k.block i (Nat.lt_of_lt_of_le hi h.size) hr).trans (h.block i hi (by simp))⟩

/-! ## Part -/
abbrev ptC (x : Pt) : List Value := [.string x.k, .int .i64 x.n]
abbrev ptV (x : Pt) : Value := .agg #[.string x.k, .int .i64 x.n]
def ptCells (L : List Pt) : List Value := L.flatMap ptC
/-- One lies at a place. -/
def PtAt (w : World) (b o : Nat) (x : Pt) : Prop :=
  w.cell? ⟨b, o, none⟩ = some (.string x.k) ∧ w.cell? ⟨b, o + 1, none⟩ = some (.int .i64 x.n)
/-- A slice that reads as a list. -/
def IsParts (w : World) (v : Value) (L : List Pt) : Prop :=
  L.length ≤ maxLen ∧ ∃ (a : Option Addr) (cap : Nat), v = .slice a L.length cap ∧ ((a = none → L = [] ∧ cap = 0) ∧ L.length ≤ cap) ∧ (0 < L.length → ∃ b off, a = some ⟨b, off, none⟩ ∧ b < w.heap.size ∧ ∀ i (h : i < L.length), PtAt w b (off + i * 2) L[i])
theorem infoPart : (Tryz.prog.info? 40).map (fun i => (i.zero, i.size, i.bytes)) = some (some (ptV zeroPt), 2, 24) := by kernel_rfl
theorem ptCells_len (L : List Pt) : (ptCells L).length = L.length * 2 := by
  induction L with
  | nil => rfl
  | cons x L ih => show (ptC x ++ ptCells L).length = _; rw [List.length_append, ih, List.length_cons]; simp; omega
theorem ptCells_app (L M : List Pt) : ptCells (L ++ M) = ptCells L ++ ptCells M := List.flatMap_append
theorem ptCells_get {L : List Pt} {i j : Nat} (h : i < L.length) (hj : j < 2) : (ptCells L)[i * 2 + j]? = (ptC L[i])[j]? := by
  induction L generalizing i with
  | nil => simp at h
  | cons x L ih =>
    show (ptC x ++ ptCells L)[i * 2 + j]? = _
    cases i with
    | zero => rw [List.getElem?_append_left (by simp; omega)]; simp
    | succ i =>
      rw [List.getElem?_append_right (by simp; omega), show (i + 1) * 2 + j - (ptC x).length = i * 2 + j by simp; omega, ih (by simpa using h)]
      rfl
theorem ptCells_one {u : Value} {L : List Pt} (h : u ∈ ptCells L) : u.oneCell' = true := by
  obtain ⟨x, _, hx⟩ := List.mem_flatMap.1 h
  simp at hx
  rcases hx with rfl | rfl <;> rfl
theorem parts_nil (w : World) : IsParts w (.slice none 0 0) [] := ⟨Nat.zero_le _, none, 0, rfl, ⟨fun _ => ⟨rfl, rfl⟩, Nat.le_refl _⟩, fun h => absurd h (by simp)⟩
theorem PtAt.stays {w w' : World} {b o : Nat} {x : Pt} (h : PtAt w b o x) (hlt : b < w.heap.size) (hb : Below w.heap.size w w') : PtAt w' b o x :=
  ⟨(hb.cell (p := ⟨b, _, none⟩) hlt).trans h.1, (hb.cell (p := ⟨b, _, none⟩) hlt).trans h.2⟩
theorem IsParts.stays {w w' : World} {v : Value} {L : List Pt} (h : IsParts w v L) (hb : Below w.heap.size w w') : IsParts w' v L := by
  obtain ⟨h0, a, cap, h1, h2, h3⟩ := h
  refine ⟨h0, a, cap, h1, h2, fun hL => ?_⟩
  obtain ⟨b, off, e, hlt, hc⟩ := h3 hL
  exact ⟨b, off, e, Nat.lt_of_lt_of_le hlt hb.size, fun i hi => (hc i hi).stays hlt hb⟩
/-- A slice of the call's own, from block B on. -/
def OwnP (B : Nat) (w : World) (v : Value) (L : List Pt) : Prop := w.ownsRow B 40 2 v L.length (ptCells L)
theorem parts_own_nil (B : Nat) (w : World) : OwnP B w (.slice none 0 0) [] := World.ownsRow_nil _ _ _ _
theorem OwnP.is {B : Nat} {w : World} {v : Value} {L : List Pt} (h : OwnP B w v L) : IsParts w v L := by
  have hlt := h.lt
  have hc := fun g hg => h.cells (g := g) hg
  rcases h.2 with ⟨rfl, h0⟩ | ⟨g, cap, cur, rfl, hb, hg, hle, hm, _⟩
  · obtain rfl := List.length_eq_zero_iff.1 h0
    exact parts_nil w
  · refine ⟨Nat.le_trans hle hm, some ⟨g, 0, none⟩, cap, rfl, ⟨fun h => (by cases h), hle⟩, fun _ => ⟨g, 0, rfl, (hlt g rfl).2, fun i hi => ?_⟩⟩
    have hh := fun j (hj : j < 2) u (hu : (ptC L[i])[j]? = some u) => hc g rfl (i * 2 + j) u (by rw [ptCells_get hi hj]; exact hu)
    refine ⟨?_, ?_⟩
    · have := hh 0 (by decide) _ rfl; rw [add_plain'] at this; exact this
    · have := hh 1 (by decide) _ rfl; rw [add_plain'] at this; exact this
theorem OwnP.stays {B : Nat} {w w' : World} {v : Value} {L : List Pt} (h : OwnP B w v L) (hb : Below w.heap.size w w') : OwnP B w' v L :=
  World.ownsRow.kept h (grownBy_of_below hb) (by cases hv : v.ownBlock <;> simp)
theorem OwnP.turned {B b : Nat} {w w' : World} {v : Value} {L : List Pt} (h : OwnP B w v L) (hb : w.grownBy w' (some b)) (hlt : b < B) : OwnP B w' v L :=
  World.ownsRow.kept h hb (by
    cases hv : v.ownBlock with
    | none => exact .inl rfl
    | some k =>
      refine .inr fun e => ?_
      have := (h.lt k hv).1
      cases e; omega)
theorem parts_cell {w : World} {y : Pt} {t : TypeId} : ∀ j u, (ptC y)[j]? = some u → (w.alloc (.cells #[.string y.k, .int .i64 y.n] t)).cell? ((⟨w.heap.size, 0, none⟩ : Addr).add j) = some u := by
  intro j u hj
  match j, hj with
  | 0, hj => simp at hj; subst hj; simp [Addr.add]
  | 1, hj => simp at hj; subst hj; simp [Addr.add]
theorem wpList_append_parts {ops : Array Oper} {rest : List Oper} {o : Oper} {a : Act} {B : Nat} {w0 : World} {Q : Exit → Act → World → Prop} (hgd : o.guard = none) (s x : Operand)
    (ho : o.op = .call { callee := .builtin .append, args := #[s, x], argTypes := #[22, 22] })
    {v : Value} {M : List Pt} {y : Pt} (hown : OwnP B w0 v M) (hBs : B ≤ w0.heap.size) (hs : a.eval s = v)
    (hx : a.eval x = .slice (some ⟨w0.heap.size, 0, none⟩) 1 1) (hlen : M.length ≤ 1000000)
    (h : ∀ v' w', OwnP B w' v' (M ++ [y]) → w0.grownBy w' v.ownBlock → wpList Tryz.prog ops Q rest (a.put o.dst v') w') :
    wpList Tryz.prog ops Q (o :: rest) a (w0.alloc (.cells #[.string y.k, .int .i64 y.n] 40)) := by
  obtain ⟨i0, hi, hz0, hz1, hz2⟩ := info_parts infoPart
  refine wpList_append_own _ hgd s x 22 ho B 40 i0 (ptV zeroPt) 2 24 Tryz.underlying22 hi hz0 hz1 hz2 rfl (by decide) v M.length (ptCells M) hs (World.ownsRow.alloc hown _) ⟨w0.heap.size, 0, none⟩ 1 1 (ptC y) hx rfl parts_cell ?_ ?_ ?_ ?_ ?_
  · intro u hu; simp at hu; rcases hu with rfl | rfl <;> rfl
  · unfold maxLen; omega
  · omega
  · simp; omega
  · intro v' w' hown' hg _
    refine h v' w' ?_ (grown_after (grownBy_alloc w0 _) hg)
    unfold OwnP
    rw [List.length_append, ptCells_app]
    have : ptCells [y] = ptC y := List.append_nil _
    rw [this]; exact hown'

/-! ## Entry -/
abbrev enC (x : En) : List Value := [.string x.m, .int .i64 x.kd, .bool x.x, .string x.k]
abbrev enV (x : En) : Value := .agg #[.string x.m, .int .i64 x.kd, .bool x.x, .string x.k]
def enCells (L : List En) : List Value := L.flatMap enC
/-- One lies at a place. -/
def EnAt (w : World) (b o : Nat) (x : En) : Prop :=
  w.cell? ⟨b, o, none⟩ = some (.string x.m) ∧ w.cell? ⟨b, o + 1, none⟩ = some (.int .i64 x.kd) ∧ w.cell? ⟨b, o + 2, none⟩ = some (.bool x.x) ∧ w.cell? ⟨b, o + 3, none⟩ = some (.string x.k)
/-- A slice that reads as a list. -/
def IsEntries (w : World) (v : Value) (L : List En) : Prop :=
  L.length ≤ maxLen ∧ ∃ (a : Option Addr) (cap : Nat), v = .slice a L.length cap ∧ ((a = none → L = [] ∧ cap = 0) ∧ L.length ≤ cap) ∧ (0 < L.length → ∃ b off, a = some ⟨b, off, none⟩ ∧ b < w.heap.size ∧ ∀ i (h : i < L.length), EnAt w b (off + i * 4) L[i])
theorem infoEntry : (Tryz.prog.info? 43).map (fun i => (i.zero, i.size, i.bytes)) = some (some (enV zeroEn), 4, 48) := by kernel_rfl
theorem enCells_len (L : List En) : (enCells L).length = L.length * 4 := by
  induction L with
  | nil => rfl
  | cons x L ih => show (enC x ++ enCells L).length = _; rw [List.length_append, ih, List.length_cons]; simp; omega
theorem enCells_app (L M : List En) : enCells (L ++ M) = enCells L ++ enCells M := List.flatMap_append
theorem enCells_get {L : List En} {i j : Nat} (h : i < L.length) (hj : j < 4) : (enCells L)[i * 4 + j]? = (enC L[i])[j]? := by
  induction L generalizing i with
  | nil => simp at h
  | cons x L ih =>
    show (enC x ++ enCells L)[i * 4 + j]? = _
    cases i with
    | zero => rw [List.getElem?_append_left (by simp; omega)]; simp
    | succ i =>
      rw [List.getElem?_append_right (by simp; omega), show (i + 1) * 4 + j - (enC x).length = i * 4 + j by simp; omega, ih (by simpa using h)]
      rfl
theorem enCells_one {u : Value} {L : List En} (h : u ∈ enCells L) : u.oneCell' = true := by
  obtain ⟨x, _, hx⟩ := List.mem_flatMap.1 h
  simp at hx
  rcases hx with rfl | rfl | rfl | rfl <;> rfl
theorem entries_nil (w : World) : IsEntries w (.slice none 0 0) [] := ⟨Nat.zero_le _, none, 0, rfl, ⟨fun _ => ⟨rfl, rfl⟩, Nat.le_refl _⟩, fun h => absurd h (by simp)⟩
theorem EnAt.stays {w w' : World} {b o : Nat} {x : En} (h : EnAt w b o x) (hlt : b < w.heap.size) (hb : Below w.heap.size w w') : EnAt w' b o x :=
  ⟨(hb.cell (p := ⟨b, _, none⟩) hlt).trans h.1, (hb.cell (p := ⟨b, _, none⟩) hlt).trans h.2.1, (hb.cell (p := ⟨b, _, none⟩) hlt).trans h.2.2.1, (hb.cell (p := ⟨b, _, none⟩) hlt).trans h.2.2.2⟩
theorem IsEntries.stays {w w' : World} {v : Value} {L : List En} (h : IsEntries w v L) (hb : Below w.heap.size w w') : IsEntries w' v L := by
  obtain ⟨h0, a, cap, h1, h2, h3⟩ := h
  refine ⟨h0, a, cap, h1, h2, fun hL => ?_⟩
  obtain ⟨b, off, e, hlt, hc⟩ := h3 hL
  exact ⟨b, off, e, Nat.lt_of_lt_of_le hlt hb.size, fun i hi => (hc i hi).stays hlt hb⟩
/-- A slice of the call's own, from block B on. -/
def OwnE (B : Nat) (w : World) (v : Value) (L : List En) : Prop := w.ownsRow B 43 4 v L.length (enCells L)
theorem entries_own_nil (B : Nat) (w : World) : OwnE B w (.slice none 0 0) [] := World.ownsRow_nil _ _ _ _
theorem OwnE.is {B : Nat} {w : World} {v : Value} {L : List En} (h : OwnE B w v L) : IsEntries w v L := by
  have hlt := h.lt
  have hc := fun g hg => h.cells (g := g) hg
  rcases h.2 with ⟨rfl, h0⟩ | ⟨g, cap, cur, rfl, hb, hg, hle, hm, _⟩
  · obtain rfl := List.length_eq_zero_iff.1 h0
    exact entries_nil w
  · refine ⟨Nat.le_trans hle hm, some ⟨g, 0, none⟩, cap, rfl, ⟨fun h => (by cases h), hle⟩, fun _ => ⟨g, 0, rfl, (hlt g rfl).2, fun i hi => ?_⟩⟩
    have hh := fun j (hj : j < 4) u (hu : (enC L[i])[j]? = some u) => hc g rfl (i * 4 + j) u (by rw [enCells_get hi hj]; exact hu)
    refine ⟨?_, ?_, ?_, ?_⟩
    · have := hh 0 (by decide) _ rfl; rw [add_plain'] at this; exact this
    · have := hh 1 (by decide) _ rfl; rw [add_plain'] at this; exact this
    · have := hh 2 (by decide) _ rfl; rw [add_plain'] at this; exact this
    · have := hh 3 (by decide) _ rfl; rw [add_plain'] at this; exact this
theorem OwnE.stays {B : Nat} {w w' : World} {v : Value} {L : List En} (h : OwnE B w v L) (hb : Below w.heap.size w w') : OwnE B w' v L :=
  World.ownsRow.kept h (grownBy_of_below hb) (by cases hv : v.ownBlock <;> simp)
theorem OwnE.turned {B b : Nat} {w w' : World} {v : Value} {L : List En} (h : OwnE B w v L) (hb : w.grownBy w' (some b)) (hlt : b < B) : OwnE B w' v L :=
  World.ownsRow.kept h hb (by
    cases hv : v.ownBlock with
    | none => exact .inl rfl
    | some k =>
      refine .inr fun e => ?_
      have := (h.lt k hv).1
      cases e; omega)
theorem entries_cell {w : World} {y : En} {t : TypeId} : ∀ j u, (enC y)[j]? = some u → (w.alloc (.cells #[.string y.m, .int .i64 y.kd, .bool y.x, .string y.k] t)).cell? ((⟨w.heap.size, 0, none⟩ : Addr).add j) = some u := by
  intro j u hj
  match j, hj with
  | 0, hj => simp at hj; subst hj; simp [Addr.add]
  | 1, hj => simp at hj; subst hj; simp [Addr.add]
  | 2, hj => simp at hj; subst hj; simp [Addr.add]
  | 3, hj => simp at hj; subst hj; simp [Addr.add]
theorem wpList_append_entries {ops : Array Oper} {rest : List Oper} {o : Oper} {a : Act} {B : Nat} {w0 : World} {Q : Exit → Act → World → Prop} (hgd : o.guard = none) (s x : Operand)
    (ho : o.op = .call { callee := .builtin .append, args := #[s, x], argTypes := #[23, 23] })
    {v : Value} {M : List En} {y : En} (hown : OwnE B w0 v M) (hBs : B ≤ w0.heap.size) (hs : a.eval s = v)
    (hx : a.eval x = .slice (some ⟨w0.heap.size, 0, none⟩) 1 1) (hlen : M.length ≤ 1000000)
    (h : ∀ v' w', OwnE B w' v' (M ++ [y]) → w0.grownBy w' v.ownBlock → wpList Tryz.prog ops Q rest (a.put o.dst v') w') :
    wpList Tryz.prog ops Q (o :: rest) a (w0.alloc (.cells #[.string y.m, .int .i64 y.kd, .bool y.x, .string y.k] 43)) := by
  obtain ⟨i0, hi, hz0, hz1, hz2⟩ := info_parts infoEntry
  refine wpList_append_own _ hgd s x 23 ho B 43 i0 (enV zeroEn) 4 48 Tryz.underlying23 hi hz0 hz1 hz2 rfl (by decide) v M.length (enCells M) hs (World.ownsRow.alloc hown _) ⟨w0.heap.size, 0, none⟩ 1 1 (enC y) hx rfl entries_cell ?_ ?_ ?_ ?_ ?_
  · intro u hu; simp at hu; rcases hu with rfl | rfl | rfl | rfl <;> rfl
  · unfold maxLen; omega
  · omega
  · simp; omega
  · intro v' w' hown' hg _
    refine h v' w' ?_ (grown_after (grownBy_alloc w0 _) hg)
    unfold OwnE
    rw [List.length_append, enCells_app]
    have : enCells [y] = enC y := List.append_nil _
    rw [this]; exact hown'
end Go.Proofs.YtohicccbaenegaaGreatDoor

/-
  Texts put together: contracts and laws that this seat's proofs share.
-/
import Derived.Test.YtlccihidedfemaaGreatDoorQb0
import Derived.WalkKit
import Derived.ProofKit
import Derived.OpenShut
import Derived.SizedLaws
import Derived.Lib.SmallJoins
import Derived.ChangeSame
import Derived.ChangeMaps5
import Derived.Deep.Slices
import Derived.Deep.Fields
import Derived.RegionTactic
import Derived.BigRegion
import Derived.LoopTactic
import Derived.BigRegionIn
import Derived.Sort.CutIn
import Derived.Deep.QuietTactic
import Derived.BigQuiet
import Derived.Outline
import Derived.Laws.Cover1
set_option linter.unusedVariables false
namespace Go.Proofs.YtlccihidedfemaaGreatDoor
open Go.RowKit
theorem grownBy_alloc (w : World) (o : Obj) : w.grownBy (w.alloc o) none := grownBy_of_below ((Below.refl _ _).alloc (Nat.le_refl _) _)
theorem grown_after {a b c : World} {row : Option Nat} (h : a.grownBy b none) (k : b.grownBy c row) : a.grownBy c row :=
 ⟨k.os.trans h.os, k.tape.trans h.tape, k.output.trans h.output, Nat.le_trans h.size k.size, fun i hi hr => (k.block i (Nat.lt_of_lt_of_le hi h.size) hr).trans (h.block i hi (by simp))⟩
abbrev ptC (x : Pt) : List Value := [.string x.k, .int .i64 x.n]
abbrev ptV (x : Pt) : Value := .agg #[.string x.k, .int .i64 x.n]
def ptCells (L : List Pt) : List Value := L.flatMap ptC
def PtAt (w : World) (b o : Nat) (x : Pt) : Prop :=
 w.cell? ⟨b, o, none⟩ = some (.string x.k) ∧ w.cell? ⟨b, o + 1, none⟩ = some (.int .i64 x.n)
def IsParts (w : World) (v : Value) (L : List Pt) : Prop :=
 L.length ≤ maxLen ∧ ∃ (a : Option Addr) (cap : Nat), v = .slice a L.length cap ∧ ((a = none → L = [] ∧ cap = 0) ∧ L.length ≤ cap) ∧ (0 < L.length → ∃ b off, a = some ⟨b, off, none⟩ ∧ b < w.heap.size ∧ ∀ i (h : i < L.length), PtAt w b (off + i * 2) L[i])
theorem infoPart : (Tryz.prog.info? 74).map (fun i => (i.zero, i.size, i.bytes)) = some (some (ptV zeroPt), 2, 24) := by kernel_rfl
theorem ptCells_app (L M : List Pt) : ptCells (L ++ M) = ptCells L ++ ptCells M := List.flatMap_append
theorem ptCells_get {L : List Pt} {i j : Nat} (h : i < L.length) (hj : j < 2) : (ptCells L)[i * 2 + j]? = (ptC L[i])[j]? := by
 induction L generalizing i with
 | nil => simp at h
 | cons x L ih =>
  show (ptC x ++ ptCells L)[i * 2 + j]? = _
  cases i with
  | zero => rw [List.getElem?_append_left (by simp; omega)]; simp
  | succ i =>
   rw [List.getElem?_append_right (by simp; omega), show (i + 1) * 2 + j - (ptC x).length = i * 2 + j by simp; omega, ih (by simpa using h)]
   rfl
theorem parts_nil (w : World) : IsParts w (.slice none 0 0) [] := ⟨Nat.zero_le _, none, 0, rfl, ⟨fun _ => ⟨rfl, rfl⟩, Nat.le_refl _⟩, fun h => absurd h (by simp)⟩
theorem PtAt.stays {w w' : World} {b o : Nat} {x : Pt} (h : PtAt w b o x) (hlt : b < w.heap.size) (hb : Below w.heap.size w w') : PtAt w' b o x :=
 ⟨(hb.cell (p := ⟨b, _, none⟩) hlt).trans h.1, (hb.cell (p := ⟨b, _, none⟩) hlt).trans h.2⟩
theorem IsParts.stays {w w' : World} {v : Value} {L : List Pt} (h : IsParts w v L) (hb : Below w.heap.size w w') : IsParts w' v L := by
 obtain ⟨h0, a, cap, h1, h2, h3⟩ := h
 refine ⟨h0, a, cap, h1, h2, fun hL => ?_⟩
 obtain ⟨b, off, e, hlt, hc⟩ := h3 hL
 exact ⟨b, off, e, Nat.lt_of_lt_of_le hlt hb.size, fun i hi => (hc i hi).stays hlt hb⟩
def OwnP (B : Nat) (w : World) (v : Value) (L : List Pt) : Prop := w.ownsRow B 74 2 v L.length (ptCells L)
theorem parts_own_nil (B : Nat) (w : World) : OwnP B w (.slice none 0 0) [] := World.ownsRow_nil _ _ _ _
theorem OwnP.is {B : Nat} {w : World} {v : Value} {L : List Pt} (h : OwnP B w v L) : IsParts w v L := by
 have hlt := h.lt
 have hc := fun g hg => h.cells (g := g) hg
 rcases h.2 with ⟨rfl, h0⟩ | ⟨g, cap, cur, rfl, hb, hg, hle, hm, _⟩
 ·obtain rfl := List.length_eq_zero_iff.1 h0
  exact parts_nil w
 ·refine ⟨Nat.le_trans hle hm, some ⟨g, 0, none⟩, cap, rfl, ⟨fun h => (by cases h), hle⟩, fun _ => ⟨g, 0, rfl, (hlt g rfl).2, fun i hi => ?_⟩⟩
  have hh := fun j (hj : j < 2) u (hu : (ptC L[i])[j]? = some u) => hc g rfl (i * 2 + j) u (by rw [ptCells_get hi hj]; exact hu)
  refine ⟨?_, ?_⟩
  ·have := hh 0 (by decide) _ rfl; rw [add_plain'] at this; exact this
  ·have := hh 1 (by decide) _ rfl; rw [add_plain'] at this; exact this
theorem OwnP.stays {B : Nat} {w w' : World} {v : Value} {L : List Pt} (h : OwnP B w v L) (hb : Below w.heap.size w w') : OwnP B w' v L :=
 World.ownsRow.kept h (grownBy_of_below hb) (by cases hv : v.ownBlock <;> simp)
theorem OwnP.turned {B b : Nat} {w w' : World} {v : Value} {L : List Pt} (h : OwnP B w v L) (hb : w.grownBy w' (some b)) (hlt : b < B) : OwnP B w' v L :=
 World.ownsRow.kept h hb (by
  cases hv : v.ownBlock with
  | none => exact .inl rfl
  | some k =>
   refine .inr fun e => ?_
   have := (h.lt k hv).1
   cases e; omega)
theorem parts_cell {w : World} {y : Pt} {t : TypeId} : ∀ j u, (ptC y)[j]? = some u → (w.alloc (.cells #[.string y.k, .int .i64 y.n] t)).cell? ((⟨w.heap.size, 0, none⟩ : Addr).add j) = some u := by
 intro j u hj
 match j, hj with
 | 0, hj => simp at hj; subst hj; simp [Addr.add]
 | 1, hj => simp at hj; subst hj; simp [Addr.add]
theorem wpList_append_parts {ops : Array Oper} {rest : List Oper} {o : Oper} {a : Act} {B : Nat} {w0 : World} {Q : Exit → Act → World → Prop} (hgd : o.guard = none) (s x : Operand)
  (ho : o.op = .call { callee := .builtin .append, args := #[s, x], argTypes := #[41, 41] })
  {v : Value} {M : List Pt} {y : Pt} (hown : OwnP B w0 v M) (hBs : B ≤ w0.heap.size) (hs : a.eval s = v)
  (hx : a.eval x = .slice (some ⟨w0.heap.size, 0, none⟩) 1 1) (hlen : M.length ≤ 1000000)
  (h : ∀ v' w', OwnP B w' v' (M ++ [y]) → w0.grownBy w' v.ownBlock → wpList Tryz.prog ops Q rest (a.put o.dst v') w') :
  wpList Tryz.prog ops Q (o :: rest) a (w0.alloc (.cells #[.string y.k, .int .i64 y.n] 74)) := by
 obtain ⟨i0, hi, hz0, hz1, hz2⟩ := info_parts infoPart
 refine wpList_append_own _ hgd s x 41 ho B 74 i0 (ptV zeroPt) 2 24 Tryz.underlying41 hi hz0 hz1 hz2 rfl (by decide) v M.length (ptCells M) hs (World.ownsRow.alloc hown _) ⟨w0.heap.size, 0, none⟩ 1 1 (ptC y) hx rfl parts_cell ?_ ?_ ?_ ?_ ?_
 ·intro u hu; simp at hu; rcases hu with rfl | rfl <;> rfl
 ·unfold maxLen; omega
 ·omega
 ·simp; omega
 ·intro v' w' hown' hg _
  refine h v' w' ?_ (grown_after (grownBy_alloc w0 _) hg)
  unfold OwnP
  rw [List.length_append, ptCells_app]
  have : ptCells [y] = ptC y := List.append_nil _
  rw [this]; exact hown'
abbrev enC (x : En) : List Value := [.string x.m, .int .i64 x.kd, .bool x.x, .string x.k]
abbrev enV (x : En) : Value := .agg #[.string x.m, .int .i64 x.kd, .bool x.x, .string x.k]
def enCells (L : List En) : List Value := L.flatMap enC
def EnAt (w : World) (b o : Nat) (x : En) : Prop :=
 w.cell? ⟨b, o, none⟩ = some (.string x.m) ∧ w.cell? ⟨b, o + 1, none⟩ = some (.int .i64 x.kd) ∧ w.cell? ⟨b, o + 2, none⟩ = some (.bool x.x) ∧ w.cell? ⟨b, o + 3, none⟩ = some (.string x.k)
def IsEntries (w : World) (v : Value) (L : List En) : Prop :=
 L.length ≤ maxLen ∧ ∃ (a : Option Addr) (cap : Nat), v = .slice a L.length cap ∧ ((a = none → L = [] ∧ cap = 0) ∧ L.length ≤ cap) ∧ (0 < L.length → ∃ b off, a = some ⟨b, off, none⟩ ∧ b < w.heap.size ∧ ∀ i (h : i < L.length), EnAt w b (off + i * 4) L[i])
theorem infoEntry : (Tryz.prog.info? 78).map (fun i => (i.zero, i.size, i.bytes)) = some (some (enV zeroEn), 4, 48) := by kernel_rfl
theorem enCells_app (L M : List En) : enCells (L ++ M) = enCells L ++ enCells M := List.flatMap_append
theorem enCells_get {L : List En} {i j : Nat} (h : i < L.length) (hj : j < 4) : (enCells L)[i * 4 + j]? = (enC L[i])[j]? := by
 induction L generalizing i with
 | nil => simp at h
 | cons x L ih =>
  show (enC x ++ enCells L)[i * 4 + j]? = _
  cases i with
  | zero => rw [List.getElem?_append_left (by simp; omega)]; simp
  | succ i =>
   rw [List.getElem?_append_right (by simp; omega), show (i + 1) * 4 + j - (enC x).length = i * 4 + j by simp; omega, ih (by simpa using h)]
   rfl
theorem entries_nil (w : World) : IsEntries w (.slice none 0 0) [] := ⟨Nat.zero_le _, none, 0, rfl, ⟨fun _ => ⟨rfl, rfl⟩, Nat.le_refl _⟩, fun h => absurd h (by simp)⟩
theorem EnAt.stays {w w' : World} {b o : Nat} {x : En} (h : EnAt w b o x) (hlt : b < w.heap.size) (hb : Below w.heap.size w w') : EnAt w' b o x :=
 ⟨(hb.cell (p := ⟨b, _, none⟩) hlt).trans h.1, (hb.cell (p := ⟨b, _, none⟩) hlt).trans h.2.1, (hb.cell (p := ⟨b, _, none⟩) hlt).trans h.2.2.1, (hb.cell (p := ⟨b, _, none⟩) hlt).trans h.2.2.2⟩
theorem IsEntries.stays {w w' : World} {v : Value} {L : List En} (h : IsEntries w v L) (hb : Below w.heap.size w w') : IsEntries w' v L := by
 obtain ⟨h0, a, cap, h1, h2, h3⟩ := h
 refine ⟨h0, a, cap, h1, h2, fun hL => ?_⟩
 obtain ⟨b, off, e, hlt, hc⟩ := h3 hL
 exact ⟨b, off, e, Nat.lt_of_lt_of_le hlt hb.size, fun i hi => (hc i hi).stays hlt hb⟩
def OwnE (B : Nat) (w : World) (v : Value) (L : List En) : Prop := w.ownsRow B 78 4 v L.length (enCells L)
theorem entries_own_nil (B : Nat) (w : World) : OwnE B w (.slice none 0 0) [] := World.ownsRow_nil _ _ _ _
theorem OwnE.is {B : Nat} {w : World} {v : Value} {L : List En} (h : OwnE B w v L) : IsEntries w v L := by
 have hlt := h.lt
 have hc := fun g hg => h.cells (g := g) hg
 rcases h.2 with ⟨rfl, h0⟩ | ⟨g, cap, cur, rfl, hb, hg, hle, hm, _⟩
 ·obtain rfl := List.length_eq_zero_iff.1 h0
  exact entries_nil w
 ·refine ⟨Nat.le_trans hle hm, some ⟨g, 0, none⟩, cap, rfl, ⟨fun h => (by cases h), hle⟩, fun _ => ⟨g, 0, rfl, (hlt g rfl).2, fun i hi => ?_⟩⟩
  have hh := fun j (hj : j < 4) u (hu : (enC L[i])[j]? = some u) => hc g rfl (i * 4 + j) u (by rw [enCells_get hi hj]; exact hu)
  refine ⟨?_, ?_, ?_, ?_⟩
  ·have := hh 0 (by decide) _ rfl; rw [add_plain'] at this; exact this
  ·have := hh 1 (by decide) _ rfl; rw [add_plain'] at this; exact this
  ·have := hh 2 (by decide) _ rfl; rw [add_plain'] at this; exact this
  ·have := hh 3 (by decide) _ rfl; rw [add_plain'] at this; exact this
theorem OwnE.stays {B : Nat} {w w' : World} {v : Value} {L : List En} (h : OwnE B w v L) (hb : Below w.heap.size w w') : OwnE B w' v L :=
 World.ownsRow.kept h (grownBy_of_below hb) (by cases hv : v.ownBlock <;> simp)
theorem OwnE.turned {B b : Nat} {w w' : World} {v : Value} {L : List En} (h : OwnE B w v L) (hb : w.grownBy w' (some b)) (hlt : b < B) : OwnE B w' v L :=
 World.ownsRow.kept h hb (by
  cases hv : v.ownBlock with
  | none => exact .inl rfl
  | some k =>
   refine .inr fun e => ?_
   have := (h.lt k hv).1
   cases e; omega)
theorem entries_cell {w : World} {y : En} {t : TypeId} : ∀ j u, (enC y)[j]? = some u → (w.alloc (.cells #[.string y.m, .int .i64 y.kd, .bool y.x, .string y.k] t)).cell? ((⟨w.heap.size, 0, none⟩ : Addr).add j) = some u := by
 intro j u hj
 match j, hj with
 | 0, hj => simp at hj; subst hj; simp [Addr.add]
 | 1, hj => simp at hj; subst hj; simp [Addr.add]
 | 2, hj => simp at hj; subst hj; simp [Addr.add]
 | 3, hj => simp at hj; subst hj; simp [Addr.add]
theorem wpList_append_entries {ops : Array Oper} {rest : List Oper} {o : Oper} {a : Act} {B : Nat} {w0 : World} {Q : Exit → Act → World → Prop} (hgd : o.guard = none) (s x : Operand)
  (ho : o.op = .call { callee := .builtin .append, args := #[s, x], argTypes := #[42, 42] })
  {v : Value} {M : List En} {y : En} (hown : OwnE B w0 v M) (hBs : B ≤ w0.heap.size) (hs : a.eval s = v)
  (hx : a.eval x = .slice (some ⟨w0.heap.size, 0, none⟩) 1 1) (hlen : M.length ≤ 1000000)
  (h : ∀ v' w', OwnE B w' v' (M ++ [y]) → w0.grownBy w' v.ownBlock → wpList Tryz.prog ops Q rest (a.put o.dst v') w') :
  wpList Tryz.prog ops Q (o :: rest) a (w0.alloc (.cells #[.string y.m, .int .i64 y.kd, .bool y.x, .string y.k] 78)) := by
 obtain ⟨i0, hi, hz0, hz1, hz2⟩ := info_parts infoEntry
 refine wpList_append_own _ hgd s x 42 ho B 78 i0 (enV zeroEn) 4 48 Tryz.underlying42 hi hz0 hz1 hz2 rfl (by decide) v M.length (enCells M) hs (World.ownsRow.alloc hown _) ⟨w0.heap.size, 0, none⟩ 1 1 (enC y) hx rfl entries_cell ?_ ?_ ?_ ?_ ?_
 ·intro u hu; simp at hu; rcases hu with rfl | rfl | rfl | rfl <;> rfl
 ·unfold maxLen; omega
 ·omega
 ·simp; omega
 ·intro v' w' hown' hg _
  refine h v' w' ?_ (grown_after (grownBy_alloc w0 _) hg)
  unfold OwnE
  rw [List.length_append, enCells_app]
  have : enCells [y] = enC y := List.append_nil _
  rw [this]; exact hown'
def zeroOb : Ob := ⟨⟨#[]⟩, ⟨#[]⟩⟩
abbrev obC (x : Ob) : List Value := [.string x.k, .string x.r]
abbrev obV (x : Ob) : Value := .agg #[.string x.k, .string x.r]
def obCells (L : List Ob) : List Value := L.flatMap obC
def ObAt (w : World) (b o : Nat) (x : Ob) : Prop :=
 w.cell? ⟨b, o, none⟩ = some (.string x.k) ∧ w.cell? ⟨b, o + 1, none⟩ = some (.string x.r)
def IsObs (w : World) (v : Value) (L : List Ob) : Prop :=
 L.length ≤ maxLen ∧ ∃ (a : Option Addr) (cap : Nat), v = .slice a L.length cap ∧ ((a = none → L = [] ∧ cap = 0) ∧ L.length ≤ cap) ∧ (0 < L.length → ∃ b off, a = some ⟨b, off, none⟩ ∧ b < w.heap.size ∧ ∀ i (h : i < L.length), ObAt w b (off + i * 2) L[i])
theorem infoObject : (Tryz.prog.info? 33).map (fun i => (i.zero, i.size, i.bytes)) = some (some (obV zeroOb), 2, 32) := by kernel_rfl
theorem obCells_len (L : List Ob) : (obCells L).length = L.length * 2 := by
 induction L with
 | nil => rfl
 | cons x L ih => show (obC x ++ obCells L).length = _; rw [List.length_append, ih, List.length_cons]; simp; omega
theorem obCells_app (L M : List Ob) : obCells (L ++ M) = obCells L ++ obCells M := List.flatMap_append
theorem obCells_get {L : List Ob} {i j : Nat} (h : i < L.length) (hj : j < 2) : (obCells L)[i * 2 + j]? = (obC L[i])[j]? := by
 induction L generalizing i with
 | nil => simp at h
 | cons x L ih =>
  show (obC x ++ obCells L)[i * 2 + j]? = _
  cases i with
  | zero => rw [List.getElem?_append_left (by simp; omega)]; simp
  | succ i =>
   rw [List.getElem?_append_right (by simp; omega), show (i + 1) * 2 + j - (obC x).length = i * 2 + j by simp; omega, ih (by simpa using h)]
   rfl
theorem obCells_one {u : Value} {L : List Ob} (h : u ∈ obCells L) : u.oneCell' = true := by
 obtain ⟨x, _, hx⟩ := List.mem_flatMap.1 h
 simp at hx
 rcases hx with rfl | rfl <;> rfl
theorem obs_nil (w : World) : IsObs w (.slice none 0 0) [] := ⟨Nat.zero_le _, none, 0, rfl, ⟨fun _ => ⟨rfl, rfl⟩, Nat.le_refl _⟩, fun h => absurd h (by simp)⟩
theorem ObAt.stays {w w' : World} {b o : Nat} {x : Ob} (h : ObAt w b o x) (hlt : b < w.heap.size) (hb : Below w.heap.size w w') : ObAt w' b o x :=
 ⟨(hb.cell (p := ⟨b, _, none⟩) hlt).trans h.1, (hb.cell (p := ⟨b, _, none⟩) hlt).trans h.2⟩
theorem IsObs.stays {w w' : World} {v : Value} {L : List Ob} (h : IsObs w v L) (hb : Below w.heap.size w w') : IsObs w' v L := by
 obtain ⟨h0, a, cap, h1, h2, h3⟩ := h
 refine ⟨h0, a, cap, h1, h2, fun hL => ?_⟩
 obtain ⟨b, off, e, hlt, hc⟩ := h3 hL
 exact ⟨b, off, e, Nat.lt_of_lt_of_le hlt hb.size, fun i hi => (hc i hi).stays hlt hb⟩
def OwnO (B : Nat) (w : World) (v : Value) (L : List Ob) : Prop := w.ownsRow B 33 2 v L.length (obCells L)
theorem obs_own_nil (B : Nat) (w : World) : OwnO B w (.slice none 0 0) [] := World.ownsRow_nil _ _ _ _
theorem OwnO.is {B : Nat} {w : World} {v : Value} {L : List Ob} (h : OwnO B w v L) : IsObs w v L := by
 have hlt := h.lt
 have hc := fun g hg => h.cells (g := g) hg
 rcases h.2 with ⟨rfl, h0⟩ | ⟨g, cap, cur, rfl, hb, hg, hle, hm, _⟩
 ·obtain rfl := List.length_eq_zero_iff.1 h0
  exact obs_nil w
 ·refine ⟨Nat.le_trans hle hm, some ⟨g, 0, none⟩, cap, rfl, ⟨fun h => (by cases h), hle⟩, fun _ => ⟨g, 0, rfl, (hlt g rfl).2, fun i hi => ?_⟩⟩
  have hh := fun j (hj : j < 2) u (hu : (obC L[i])[j]? = some u) => hc g rfl (i * 2 + j) u (by rw [obCells_get hi hj]; exact hu)
  refine ⟨?_, ?_⟩
  ·have := hh 0 (by decide) _ rfl; rw [add_plain'] at this; exact this
  ·have := hh 1 (by decide) _ rfl; rw [add_plain'] at this; exact this
theorem OwnO.stays {B : Nat} {w w' : World} {v : Value} {L : List Ob} (h : OwnO B w v L) (hb : Below w.heap.size w w') : OwnO B w' v L :=
 World.ownsRow.kept h (grownBy_of_below hb) (by cases hv : v.ownBlock <;> simp)
theorem OwnO.turned {B b : Nat} {w w' : World} {v : Value} {L : List Ob} (h : OwnO B w v L) (hb : w.grownBy w' (some b)) (hlt : b < B) : OwnO B w' v L :=
 World.ownsRow.kept h hb (by
  cases hv : v.ownBlock with
  | none => exact .inl rfl
  | some k =>
   refine .inr fun e => ?_
   have := (h.lt k hv).1
   cases e; omega)
theorem obs_cell {w : World} {y : Ob} {t : TypeId} : ∀ j u, (obC y)[j]? = some u → (w.alloc (.cells #[.string y.k, .string y.r] t)).cell? ((⟨w.heap.size, 0, none⟩ : Addr).add j) = some u := by
 intro j u hj
 match j, hj with
 | 0, hj => simp at hj; subst hj; simp [Addr.add]
 | 1, hj => simp at hj; subst hj; simp [Addr.add]
theorem wpList_append_obs {ops : Array Oper} {rest : List Oper} {o : Oper} {a : Act} {B : Nat} {w0 : World} {Q : Exit → Act → World → Prop} (hgd : o.guard = none) (s x : Operand)
  (ho : o.op = .call { callee := .builtin .append, args := #[s, x], argTypes := #[27, 27] })
  {v : Value} {M : List Ob} {y : Ob} (hown : OwnO B w0 v M) (hBs : B ≤ w0.heap.size) (hs : a.eval s = v)
  (hx : a.eval x = .slice (some ⟨w0.heap.size, 0, none⟩) 1 1) (hlen : M.length ≤ 1000000)
  (h : ∀ v' w', OwnO B w' v' (M ++ [y]) → w0.grownBy w' v.ownBlock → wpList Tryz.prog ops Q rest (a.put o.dst v') w') :
  wpList Tryz.prog ops Q (o :: rest) a (w0.alloc (.cells #[.string y.k, .string y.r] 33)) := by
 obtain ⟨i0, hi, hz0, hz1, hz2⟩ := info_parts infoObject
 refine wpList_append_own _ hgd s x 27 ho B 33 i0 (obV zeroOb) 2 32 Tryz.underlying27 hi hz0 hz1 hz2 rfl (by decide) v M.length (obCells M) hs (World.ownsRow.alloc hown _) ⟨w0.heap.size, 0, none⟩ 1 1 (obC y) hx rfl obs_cell ?_ ?_ ?_ ?_ ?_
 ·intro u hu; simp at hu; rcases hu with rfl | rfl <;> rfl
 ·unfold maxLen; omega
 ·omega
 ·simp; omega
 ·intro v' w' hown' hg _
  refine h v' w' ?_ (grown_after (grownBy_alloc w0 _) hg)
  unfold OwnO
  rw [List.length_append, obCells_app]
  have : obCells [y] = obC y := List.append_nil _
  rw [this]; exact hown'
def ObBox (w : World) (b : Nat) (x : Ob) : Prop := (w.cell? ⟨b, 0, none⟩ = some (.string x.k) ∧ w.cell? ⟨b, 1, none⟩ = some (.string x.r)) ∧ b < w.heap.size
theorem ObBox.cells {w : World} {b : Nat} {x : Ob} (h : ObBox w b x) : w.cell? ⟨b, 0, none⟩ = some (.string x.k) ∧ w.cell? ⟨b, 1, none⟩ = some (.string x.r) := h.1
theorem ObBox.stays {w w' : World} {b : Nat} {x : Ob} (h : ObBox w b x) (hb : Below w.heap.size w w') : ObBox w' b x :=
 ⟨⟨(hb.cell (p := ⟨b, 0, none⟩) h.2).trans h.1.1, (hb.cell (p := ⟨b, 1, none⟩) h.2).trans h.1.2⟩, Nat.lt_of_lt_of_le h.2 hb.size⟩
theorem obBox_new (w : World) (x : Ob) (t : TypeId) : ObBox (w.alloc (.cells #[.string x.k, .string x.r] t)) w.heap.size x := ⟨⟨by simp, by simp⟩, by simp⟩
theorem OwnO.low {B B' : Nat} {w : World} {v : Value} {L : List Ob} (h : OwnO B w v L) (hb : B' ≤ B) : OwnO B' w v L := by
 refine ⟨h.1, ?_⟩
 rcases h.2 with h2 | ⟨g, cap, cur, h3, h4, h5⟩
 ·exact .inl h2
 ·exact .inr ⟨g, cap, cur, h3, Nat.le_trans hb h4, h5⟩
theorem OwnO.apart {B : Nat} {w : World} {v : Value} {L : List Ob} (h : OwnO B w v L) {A : Nat} {xs : Array Value} {T : TypeId} (hA : Row w A xs T) (hT : T ≠ 33) : v.ownBlock ≠ some A := fun e => by
 rcases h.2 with ⟨rfl, _⟩ | ⟨g, cap, cur, rfl, _, hg, _⟩
 ·cases e
 ·cases e
  rw [show w.heap[g]? = _ from hA] at hg
  cases hg; exact hT rfl
theorem OwnP.row {B : Nat} {w : World} {v : Value} {L : List Pt} (h : OwnP B w v L) {g : Nat} (hg : v.ownBlock = some g) : ∃ xs, Row w g xs 74 := by
 rcases h.2 with ⟨rfl, _⟩ | ⟨g', cap, cur, rfl, _, h5, _⟩
 ·cases hg
 ·cases hg; exact ⟨_, h5⟩
theorem OwnE.row {B : Nat} {w : World} {v : Value} {L : List En} (h : OwnE B w v L) {g : Nat} (hg : v.ownBlock = some g) : ∃ xs, Row w g xs 78 := by
 rcases h.2 with ⟨rfl, _⟩ | ⟨g', cap, cur, rfl, _, h5, _⟩
 ·cases hg
 ·cases hg; exact ⟨_, h5⟩
def AnyO (W0 : World) (v0 : Value) (L0 : List Ob) (w : World) (v : Value) (L : List Ob) : Prop := Below W0.heap.size W0 w ∧ IsObs W0 v0 L0 ∧ (v = v0 ∧ L = L0 ∨ OwnO W0.heap.size w v L)
theorem AnyO.is {W0 w : World} {v0 v : Value} {L0 L : List Ob} (h : AnyO W0 v0 L0 w v L) : IsObs w v L := by
 obtain ⟨h1, h2, ⟨rfl, rfl⟩ | h3⟩ := h
 ·exact h2.stays h1
 ·exact h3.is
theorem AnyO.of {w : World} {v : Value} {L : List Ob} (h : IsObs w v L) : AnyO w v L w v L := ⟨Below.refl _ _, h, .inl ⟨rfl, rfl⟩⟩
theorem AnyO.stays {W0 w w' : World} {v0 v : Value} {L0 L : List Ob} (h : AnyO W0 v0 L0 w v L) (hb : Below w.heap.size w w') : AnyO W0 v0 L0 w' v L :=
 ⟨below_step h.1 hb, h.2.1, h.2.2.imp id fun h2 => h2.stays hb⟩
theorem AnyO.turn {W0 w w' : World} {v0 v : Value} {L0 L : List Ob} {row : Option Nat} (h : AnyO W0 v0 L0 w v L) (hg : w.grownBy w' row) (hr : ∀ g, row = some g → W0.heap.size ≤ g ∧ ∃ xs T, Row w g xs T ∧ T ≠ 33) : AnyO W0 v0 L0 w' v L :=
 ⟨h.1.grown hg h.1.size (fun g e => (hr g e).1), h.2.1, h.2.2.imp id fun (h2 : OwnO W0.heap.size w v L) => World.ownsRow.kept h2 hg (by
  cases hv : v.ownBlock with
  | none => exact .inl rfl
  | some k =>
   refine .inr fun e => ?_
   obtain ⟨_, xs, T, h3, h4⟩ := hr k e.symm
   exact OwnO.apart h2 h3 h4 hv)⟩
theorem AnyO.next {W0 w w' : World} {v0 v v' : Value} {L0 L L' : List Ob} (h : AnyO W0 v0 L0 w v L) (hb : Below w.heap.size w w') (hv : v' = v ∧ L' = L ∨ OwnO w.heap.size w' v' L') : AnyO W0 v0 L0 w' v' L' := by
 rcases hv with ⟨rfl, rfl⟩ | hv
 ·exact h.stays hb
 ·exact ⟨below_step h.1 hb, h.2.1, .inr (hv.low h.1.size)⟩
end Go.Proofs.YtlccihidedfemaaGreatDoor
namespace Go.Proofs.YtlccihidedfemaaGreatDoor
structure It where
 p : ByteArray
 d : Bool
 e : Bool
 c : ByteArray
def It.t (x : It) : List UInt8 := x.p.data.toList
def zeroIt : It := ⟨⟨#[]⟩, false, false, ⟨#[]⟩⟩
theorem ba_ext {a b : ByteArray} (h : a.data.toList = b.data.toList) : a = b := by
 cases a; cases b
 simp at h
 rw [h]
theorem it_ext {x y : It} (h1 : x.t = y.t) (h2 : x.d = y.d) (h3 : x.e = y.e) (h4 : x.c = y.c) : x = y := by
 cases x; cases y
 have := ba_ext h1
 simp_all
def Rise (L : List It) : Prop := L.Pairwise fun a b => orderS a.t b.t = -1
def findT (L : List It) (t : List UInt8) : Option It := L.find? fun x => decide (x.t = t)
def foundI (L : List It) (t : List UInt8) : It := (findT L t).getD zeroIt
def sizeT (L : List It) : Nat := (L.map fun x => x.c.size).sum
def underT (L : List It) (t : List UInt8) : Bool := decide (dirS t = []) || (foundI L (dirS t)).d
def badI (x : It) : Bool := x.d && (decide (x.c.size ≠ 0) || x.e)
def lastN (t : List UInt8) : List UInt8 := (splitS t).getLastD []
structure TFit (L : List It) : Prop where
 len : L.length ≤ 60
 rise : Rise L
 path : ∀ x ∈ L, pathB x.t = true
 form : ∀ x ∈ L, badI x = false
 data : ∀ x ∈ L, x.c.size ≤ 32768
 under : ∀ x ∈ L, underT L x.t = true
 size : sizeT L ≤ 65536
noncomputable def fitT (L : List It) : Bool := @decide (TFit L) (Classical.propDecidable _)
theorem fitT_yes {L : List It} (h : TFit L) : fitT L = true := @decide_eq_true _ (Classical.propDecidable _) h
theorem fitT_no {L : List It} (h : ¬ TFit L) : fitT L = false := @decide_eq_false _ (Classical.propDecidable _) h
theorem fitT_iff {L : List It} : fitT L = true ↔ TFit L := ⟨fun h => @of_decide_eq_true _ (Classical.propDecidable _) h, fitT_yes⟩
theorem rise_cons {x : It} {L : List It} : Rise (x :: L) ↔ (∀ y ∈ L, orderS x.t y.t = -1) ∧ Rise L := List.pairwise_cons
theorem rise_filter {L : List It} (h : Rise L) (p : It → Bool) : Rise (L.filter p) := List.Pairwise.filter p h
theorem order_ne {a b : List UInt8} (h : orderS a b = -1) : a ≠ b := fun e => by rw [(order_zero a b).2 e] at h; cases h
theorem order_self (a : List UInt8) : orderS a a = 0 := (order_zero a a).2 rfl
theorem rise_ext : ∀ {L M : List It}, Rise L → Rise M → (∀ y, y ∈ L ↔ y ∈ M) → L = M
 | [], [], _, _, _ => rfl
 | [], y :: M, _, _, h => absurd ((h y).2 (by simp)) (by simp)
 | x :: L, [], _, _, h => absurd ((h x).1 (by simp)) (by simp)
 | x :: L, y :: M, hL, hM, h => by
  obtain ⟨a1, a2⟩ := rise_cons.1 hL
  obtain ⟨b1, b2⟩ := rise_cons.1 hM
  have hxy : x = y := by
   rcases List.mem_cons.1 ((h x).1 (by simp)) with e | e
   ·exact e
   ·rcases List.mem_cons.1 ((h y).2 (by simp)) with e' | e'
    ·exact e'.symm
    ·have h1 := b1 x e
     have h2 := a1 y e'
     exact absurd rfl (order_ne (order_trans h1 h2))
  subst hxy
  congr 1
  refine rise_ext a2 b2 (fun z => ⟨fun hz => ?_, fun hz => ?_⟩)
  ·rcases List.mem_cons.1 ((h z).1 (List.mem_cons_of_mem _ hz)) with e | e
   ·exact absurd (e ▸ rfl) (order_ne (a1 z hz))
   ·exact e
  ·rcases List.mem_cons.1 ((h z).2 (List.mem_cons_of_mem _ hz)) with e | e
   ·exact absurd (e ▸ rfl) (order_ne (b1 z hz))
   ·exact e
theorem findT_mem {L : List It} {t : List UInt8} {x : It} (h : findT L t = some x) : x ∈ L ∧ x.t = t :=
 ⟨List.mem_of_find?_eq_some h, by have := List.find?_some h; simpa using this⟩
theorem foundI_some {L : List It} {t : List UInt8} {x : It} (h : findT L t = some x) : foundI L t = x := by unfold foundI; rw [h]; rfl
theorem foundI_none {L : List It} {t : List UInt8} (h : findT L t = none) : foundI L t = zeroIt := by unfold foundI; rw [h]; rfl
theorem findT_cons (x : It) (L : List It) (t : List UInt8) : findT (x :: L) t = if x.t = t then some x else findT L t := by
 unfold findT
 rw [List.find?_cons]
 by_cases h : x.t = t
 ·simp [h]
 ·simp [h]
theorem findT_app_none {A B : List It} {t : List UInt8} (h : findT A t = none) : findT (A ++ B) t = findT B t := by
 unfold findT at h ⊢; rw [List.find?_append, h]; rfl
theorem sizeT_app (A B : List It) : sizeT (A ++ B) = sizeT A + sizeT B := by simp [sizeT]
theorem sizeT_cons (x : It) (B : List It) : sizeT (x :: B) = x.c.size + sizeT B := by simp [sizeT]
end Go.Proofs.YtlccihidedfemaaGreatDoor
set_option linter.unusedVariables false
namespace Go.Proofs.YtlccihidedfemaaGreatDoor
open Go.RowKit
abbrev itC (x : It) : List Value := [.string x.p, .bool x.d, .bool x.e, .string x.c]
abbrev itV (x : It) : Value := .agg #[.string x.p, .bool x.d, .bool x.e, .string x.c]
def itCells (L : List It) : List Value := L.flatMap itC
def ItAt (w : World) (b o : Nat) (x : It) : Prop :=
 w.cell? ⟨b, o, none⟩ = some (.string x.p) ∧ w.cell? ⟨b, o + 1, none⟩ = some (.bool x.d) ∧ w.cell? ⟨b, o + 2, none⟩ = some (.bool x.e) ∧ w.cell? ⟨b, o + 3, none⟩ = some (.string x.c)
def IsItems (w : World) (v : Value) (L : List It) : Prop :=
 L.length ≤ maxLen ∧ ∃ (a : Option Addr) (cap : Nat), v = .slice a L.length cap ∧ ((a = none → L = [] ∧ cap = 0) ∧ L.length ≤ cap) ∧ (0 < L.length → ∃ b off, a = some ⟨b, off, none⟩ ∧ b < w.heap.size ∧ ∀ i (h : i < L.length), ItAt w b (off + i * 4) L[i])
theorem infoItem : (Tryz.prog.info? 51).map (fun i => (i.zero, i.size, i.bytes)) = some (some (itV zeroIt), 4, 40) := by kernel_rfl
theorem itCells_app (L M : List It) : itCells (L ++ M) = itCells L ++ itCells M := List.flatMap_append
theorem itCells_get {L : List It} {i j : Nat} (h : i < L.length) (hj : j < 4) : (itCells L)[i * 4 + j]? = (itC L[i])[j]? := by
 induction L generalizing i with
 | nil => simp at h
 | cons x L ih =>
  show (itC x ++ itCells L)[i * 4 + j]? = _
  cases i with
  | zero => rw [List.getElem?_append_left (by simp; omega)]; simp
  | succ i =>
   rw [List.getElem?_append_right (by simp; omega), show (i + 1) * 4 + j - (itC x).length = i * 4 + j by simp; omega, ih (by simpa using h)]
   rfl
theorem isItems_nil (w : World) : IsItems w (.slice none 0 0) [] := ⟨Nat.zero_le _, none, 0, rfl, ⟨fun _ => ⟨rfl, rfl⟩, Nat.le_refl _⟩, fun h => absurd h (by simp)⟩
theorem ItAt.stays {w w' : World} {b o : Nat} {x : It} (h : ItAt w b o x) (hlt : b < w.heap.size) (hb : Below w.heap.size w w') : ItAt w' b o x :=
 ⟨(hb.cell (p := ⟨b, _, none⟩) hlt).trans h.1, (hb.cell (p := ⟨b, _, none⟩) hlt).trans h.2.1, (hb.cell (p := ⟨b, _, none⟩) hlt).trans h.2.2.1, (hb.cell (p := ⟨b, _, none⟩) hlt).trans h.2.2.2⟩
theorem IsItems.stays {w w' : World} {v : Value} {L : List It} (h : IsItems w v L) (hb : Below w.heap.size w w') : IsItems w' v L := by
 obtain ⟨h0, a, cap, h1, h2, h3⟩ := h
 refine ⟨h0, a, cap, h1, h2, fun hL => ?_⟩
 obtain ⟨b, off, e, hlt, hc⟩ := h3 hL
 exact ⟨b, off, e, Nat.lt_of_lt_of_le hlt hb.size, fun i hi => (hc i hi).stays hlt hb⟩
theorem fewer_len (L : List It) (k : Nat) (h : k < L.length) : sizeT (L.take (k + 1)) = sizeT (L.take k) + L[k].c.size := by
 rw [List.take_succ_eq_append_getElem h, sizeT_app, sizeT_cons]; rfl
theorem sizeT_take (L : List It) (k : Nat) : sizeT (L.take k) ≤ sizeT L := by
 conv => rhs; rw [← List.take_append_drop k L]
 rw [sizeT_app]; omega
def InBox (w : World) (b : Nat) (x : It) : Prop := ItAt w b 0 x ∧ b < w.heap.size
theorem InBox.stays {w w' : World} {b : Nat} {x : It} (h : InBox w b x) (hb : Below w.heap.size w w') : InBox w' b x := ⟨h.1.stays h.2 hb, Nat.lt_of_lt_of_le h.2 hb.size⟩
theorem InBox.cells {w : World} {b : Nat} {x : It} (h : InBox w b x) : w.cell? ⟨b, 0, none⟩ = some (.string x.p) ∧ w.cell? ⟨b, 1, none⟩ = some (.bool x.d) ∧ w.cell? ⟨b, 2, none⟩ = some (.bool x.e) ∧ w.cell? ⟨b, 3, none⟩ = some (.string x.c) := h.1
theorem inBox_new (w : World) (x : It) (t : TypeId) : InBox (w.alloc (.cells #[.string x.p, .bool x.d, .bool x.e, .string x.c] t)) w.heap.size x :=
 ⟨⟨by simp, by simp, by simp, by simp⟩, by simp⟩
def eqI (x y : It) : Bool := x.p.toList == y.p.toList && x.d == y.d && x.e == y.e && x.c.toList == y.c.toList
theorem eqI_iff {x y : It} : eqI x y = true ↔ x = y := by
 unfold eqI
 constructor
 ·intro h
  simp only [Bool.and_eq_true, beq_iff_eq] at h
  obtain ⟨⟨⟨h1, h2⟩, h3⟩, h4⟩ := h
  rw [Lib.toList_data, Lib.toList_data] at h1 h4
  exact it_ext h1 h2 h3 (str_eq' h4)
 ·rintro rfl; simp
theorem eqItem (x y : It) (w : World) : (binOp .eql 51 (itV x) (itV y)).run Tryz.prog w = .ok (.bool (eqI x y)) w := by
 have hS : Tryz.prog.underlying 51 = some (.struct (Tryz.prog.fieldsOf 51)) := by kernel_rfl
 have hp : Tryz.prog.stoodInHeld 51 = false := by kernel_rfl
 have a9 := Tryz.isAgg9; have z9 := Tryz.sizeOf9; have a4 := Tryz.isAgg4; have z4 := Tryz.sizeOf4
 rw [run_eql_struct, show (10000 : Nat) = 9999 + 1 from rfl, run_equalIn_agg w 9999 51 _ _ hS hp]
 simp only [Program.fieldsOf, Tryz.underlying51]
 go_simp
 unfold eqI
 by_cases h1 : x.p.toList = y.p.toList <;> by_cases h2 : x.d = y.d <;> by_cases h3 : x.e = y.e <;> by_cases h4 : x.c.toList = y.c.toList <;> simp [h1, h2, h3, h4]
theorem guardItem (op : BinOp) (a b : Operand) (x y : It) (w : World) : Sem.run Tryz.prog (eqGuard op 51 a b (itV x) (itV y)) w = .ok () w :=
 run_eqGuard_agg w op _ a b _ _ (by kernel_rfl)
end Go.Proofs.YtlccihidedfemaaGreatDoor
set_option linter.unusedVariables false
namespace Go.Proofs.YtlccihidedfemaaGreatDoor
open Go.ChangeShapes Go.WideShapes Go.ChangeAt Go.RowKit Go.Joins Go.Deep
theorem all_mem {H : Type} {P : Program} {e : TypeId} : ∀ {l : List (DataW H)} {d : DataW H}, d ∈ l → ∀ n ∈ d.weights P e, n ∈ DataW.weightsAll P e l
 | x :: l, d, h, n, hn => by
  rw [DataW.weightsAll, List.mem_append]
  rcases List.mem_cons.1 h with rfl | h
  ·exact .inl hn
  ·exact .inr (all_mem h n hn)
set_option maxRecDepth 100000 in
set_option maxHeartbeats 2000000 in
theorem trod_itemZ {H : Type} {enc : TypeId × Value → H} {W : World} {base n : Nat} {spare : Nat → Bool} {held : Bool} {cs : List Value} {y : DataW H × List MemPlace}
  (hl : cs.length = 4) (h : DataW.trod enc Tryz.prog W base spare held n 51 cs = some y) : ∃ x : It, cs = itC x ∧ x.p.size ∈ y.1.weights Tryz.prog 51 ∧ x.c.size ∈ y.1.weights Tryz.prog 51 := by
 match cs, hl with
 | [c0, c1, c2, c3], _ =>
  obtain ⟨xs, m, _, hy, _, hlen, hg⟩ := DataW.trod_struct Tryz.underlying51 h
  have k9 : Tryz.prog.cellsOf 9 = 1 := by kernel_rfl
  have k4 : Tryz.prog.cellsOf 4 = 1 := by kernel_rfl
  match xs, hlen with
  | [y0, y1, y2, y3], _ =>
   have h0 : DataW.trod enc Tryz.prog W base spare held m 9 [c0] = some y0 := by simpa [k9] using hg 0 _ rfl
   have h1 : DataW.trod enc Tryz.prog W base spare held m 4 [c1] = some y1 := by simpa [k4] using hg 1 _ rfl
   have h2 : DataW.trod enc Tryz.prog W base spare held m 4 [c2] = some y2 := by simpa [k4] using hg 2 _ rfl
   have h3 : DataW.trod enc Tryz.prog W base spare held m 9 [c3] = some y3 := by simpa [k9] using hg 3 _ rfl
   obtain ⟨s0, e0, z0, _⟩ := DataW.trod_string Tryz.underlying9 h0
   obtain ⟨b1, e1, z1⟩ := DataW.trod_bool Tryz.underlying4 h1
   obtain ⟨b2, e2, z2⟩ := DataW.trod_bool Tryz.underlying4 h2
   obtain ⟨s3, e3, z3, _⟩ := DataW.trod_string Tryz.underlying9 h3
   simp at e0 e1 e2 e3
   subst e0 e1 e2 e3
   have hw : y.1.weights Tryz.prog 51 = DataW.weightsEach Tryz.prog ((Tryz.prog.fieldsOf 51).toList.map (·.type)) [y0.1, y1.1, y2.1, y3.1] := by
    rw [hy]
    simp only [DataW.weights, Tryz.underlying51, Program.fieldsOf, List.map_cons, List.map_nil]
   refine ⟨⟨s0, b1, b2, s3⟩, rfl, ?_, ?_⟩
   ·rw [hw]
    exact DataW.weights_mem_each (j := 0) (t := 9) (d := y0.1) (by kernel_rfl) rfl _ (by rw [z0, Lib.size_eq]; simp only [DataW.weights, List.mem_singleton])
   ·rw [hw]
    exact DataW.weights_mem_each (j := 3) (t := 9) (d := y3.1) (by kernel_rfl) rfl _ (by rw [z3, Lib.size_eq]; simp only [DataW.weights, List.mem_singleton])
set_option maxRecDepth 100000 in
theorem open_itemsZ {H : Type} {enc : TypeId × Value → H} {W : World} {r : Reach} {b0 : Nat} {spare : Nat → Bool} {held : Bool} {v : Value} {d : DataW H} {ps : List MemPlace}
  (hval : Value.okWide Tryz.prog W r b0 24 v) (h : DataW.Trod enc Tryz.prog W 0 spare held 24 v d ps) (hw : ∀ n ∈ d.weights Tryz.prog 24, n ≤ reachBytes) : ∃ L, IsItems W v L ∧ ∀ x ∈ L, x.p.size ≤ reachBytes ∧ x.c.size ≤ reachBytes := by
 obtain ⟨a0, len, cap, rfl⟩ := okWide_slice Tryz.underlying24 hval
 obtain ⟨fuel, hf⟩ := h
 have hC : Tryz.prog.cellsOf 51 = 4 := by kernel_rfl
 rcases open_slice Tryz.underlying24 hf with ⟨hcs, _⟩ | ⟨a, len', cap', m, n, D, Pl, hcs, _, hl, hm, hmm, hdd, hi⟩
 ·simp [Value.cells] at hcs
  obtain ⟨rfl, rfl, rfl⟩ := hcs
  exact ⟨[], isItems_nil W, fun x hx => (by cases hx)⟩
 ·simp [Value.cells] at hcs
  obtain ⟨rfl, rfl, rfl⟩ := hcs
  have hlm : len ≤ m := by rw [hmm]; split <;> omega
  have hit : ∀ i, i < len → ∃ x : It, (∀ j u, (itC x)[j]? = some u → W.cell? (a.add (i * 4 + j)) = some u) ∧ x.p.size ≤ reachBytes ∧ x.c.size ≤ reachBytes := fun i him => by
   obtain ⟨cs, hc, ht⟩ := hi i (by omega)
   rw [hC] at hc
   obtain ⟨_, hcl, hat⟩ := World.cells?_some hc
   obtain ⟨x, rfl, hz1, hz2⟩ := trod_itemZ hcl ht
   have hwd : ∀ n ∈ (D i).weights Tryz.prog 51, n ≤ reachBytes := fun n hn => hw n (by
    have hd1 : d = (.slice ((List.range len).map D) ((List.range (m - len)).map fun j => D (len + j)) : DataW H) := congrArg Prod.fst hdd
    rw [hd1]
    simp only [DataW.weights, Tryz.underlying24, List.mem_cons, List.mem_append]
    exact .inr (.inl (all_mem (List.mem_map.2 ⟨i, List.mem_range.2 him, rfl⟩) n hn)))
   refine ⟨x, fun j u hj => ?_, hwd _ hz1, hwd _ hz2⟩
   have hj4 : j < 4 := by
    have := (List.getElem?_eq_some_iff.1 hj).1
    simpa using this
   have := hat j hj4
   rw [← Go.Deep.add_add, this]; exact hj
  obtain ⟨f, hfx⟩ : ∃ f : Nat → It, ∀ i, i < len → (∀ j u, (itC (f i))[j]? = some u → W.cell? (a.add (i * 4 + j)) = some u) ∧ (f i).p.size ≤ reachBytes ∧ (f i).c.size ≤ reachBytes := by
   refine ⟨fun i => if h : i < len then Classical.choose (hit i h) else zeroIt, fun i h => ?_⟩
   simp only [h, dif_pos]
   exact Classical.choose_spec (hit i h)
  refine ⟨(List.range len).map f, ⟨by simp; omega, some a, cap, by simp, ⟨fun h => (by cases h), by simpa using hl⟩, fun h0 => ?_⟩, fun x hx => (by
   obtain ⟨i, hi2, rfl⟩ := List.mem_map.1 hx
   exact (hfx i (List.mem_range.1 hi2)).2)⟩
  have h0' : 0 < len := by simpa using h0
  have hc0 := (hfx 0 h0').1 0 _ rfl
  obtain ⟨b, off, spot⟩ := a
  have hspot : spot = none := by simpa [Addr.add] using World.cell?_spot hc0
  subst hspot
  refine ⟨b, off, rfl, ?_, fun i hi => ?_⟩
  ·have := block_lt_of_cell hc0
   simpa [Addr.add] using this
  ·have hil : i < len := by simpa using hi
   have hg : ((List.range len).map f)[i] = f i := by simp
   rw [hg]
   have hh := fun j u hu => (hfx i hil).1 j u hu
   refine ⟨?_, ?_, ?_, ?_⟩
   ·have := hh 0 _ rfl; rw [add_plain'] at this; exact this
   ·have := hh 1 _ rfl; rw [add_plain', ← Nat.add_assoc] at this; exact this
   ·have := hh 2 _ rfl; rw [add_plain', ← Nat.add_assoc] at this; exact this
   ·have := hh 3 _ rfl; rw [add_plain', ← Nat.add_assoc] at this; exact this
end Go.Proofs.YtlccihidedfemaaGreatDoor
namespace Go.Proofs.YtlccihidedfemaaGreatDoor
theorem l_le_trans {a b c : List UInt8} (h1 : ¬ b < a) (h2 : ¬ c < b) : ¬ c < a := fun h => by
 by_cases hab : a < b
 ·exact h2 (l_trans h hab)
 ·have e : a = b := l_tri _ _ hab h1
  subst e; exact h2 h
theorem l_lt_le {a b c : List UInt8} (h1 : a < b) (h2 : ¬ c < b) : a < c := by
 by_cases hac : a < c
 ·exact hac
 ·refine absurd ?_ h2
  by_cases hca : c < a
  ·exact l_trans hca h1
  ·have e : a = c := l_tri _ _ hac hca
   subst e; exact h1
theorem l_le_lt {a b c : List UInt8} (h1 : ¬ b < a) (h2 : b < c) : a < c := by
 by_cases hab : a < b
 ·exact l_trans hab h2
 ·have e : a = b := l_tri _ _ hab h1
  subst e; exact h2
theorem l_lt_ne {a b : List UInt8} (h : a < b) : a ≠ b := fun e => by subst e; exact l_irrefl _ h
theorem l_asym {a b : List UInt8} (h : a < b) : ¬ b < a := fun h2 => l_irrefl _ (l_trans h h2)
def SortO (L : List Ob) : Prop := L.Pairwise fun a b => ¬ b.t < a.t
def Stab (L M : List Ob) : Prop := ∀ t, (M.filter fun x => decide (x.t = t)) = L.filter fun x => decide (x.t = t)
theorem Stab.refl (L : List Ob) : Stab L L := fun _ => rfl
theorem Stab.trans {L M N : List Ob} (h1 : Stab L M) (h2 : Stab M N) : Stab L N := fun t => (h2 t).trans (h1 t)
theorem Stab.app {L M L' M' : List Ob} (h1 : Stab L L') (h2 : Stab M M') : Stab (L ++ M) (L' ++ M') := fun t => by rw [List.filter_append, List.filter_append, h1 t, h2 t]
theorem stab_swap {A B : List Ob} (h : ∀ x ∈ A, ∀ y ∈ B, x.t ≠ y.t) : Stab (A ++ B) (B ++ A) := fun t => by
 rw [List.filter_append, List.filter_append]
 by_cases hA : A.filter (fun x => decide (x.t = t)) = []
 ·rw [hA]; simp
 ·have hB : B.filter (fun x => decide (x.t = t)) = [] := by
   refine List.filter_eq_nil_iff.2 fun y hy hyt => hA (List.filter_eq_nil_iff.2 fun x hx hxt => ?_)
   exact h x hx y hy ((of_decide_eq_true hxt).trans (of_decide_eq_true hyt).symm)
  rw [hB]; simp
theorem Stab.mem {L M : List Ob} (h : Stab L M) {x : Ob} : x ∈ M ↔ x ∈ L := by
 have e := h x.t
 have h1 : x ∈ M ↔ x ∈ M.filter (fun y => decide (y.t = x.t)) := by simp
 have h2 : x ∈ L ↔ x ∈ L.filter (fun y => decide (y.t = x.t)) := by simp
 rw [h1, e, ← h2]
theorem sortO_app {A B : List Ob} : SortO (A ++ B) ↔ SortO A ∧ SortO B ∧ ∀ x ∈ A, ∀ y ∈ B, ¬ y.t < x.t := List.pairwise_append
theorem stab_left {x : Ob} {P Q : List Ob} (hs : SortO (P ++ Q)) (h1 : ∀ y ∈ P.getLast?, y.t < x.t) (h2 : ∀ y ∈ Q.head?, ¬ y.t < x.t) : Stab (x :: (P ++ Q)) (P ++ x :: Q) ∧ SortO (P ++ x :: Q) := by
 obtain ⟨hP, hQ, hPQ⟩ := sortO_app.1 hs
 have lo : ∀ y ∈ P, y.t < x.t := fun y hy => by
  rcases List.eq_nil_or_concat P with e | ⟨P', z, e⟩
  ·rw [e] at hy; cases hy
  ·rw [List.concat_eq_append] at e; subst e
   have hz : z.t < x.t := h1 z (by simp)
   rcases List.mem_append.1 hy with hy | hy
   ·exact l_le_lt ((sortO_app.1 hP).2.2 y hy z (by simp)) hz
   ·rw [List.mem_singleton.1 hy]; exact hz
 have hi : ∀ y ∈ Q, ¬ y.t < x.t := fun y hy => by
  cases Q with
  | nil => cases hy
  | cons z Q =>
   have hz : ¬ z.t < x.t := h2 z (by simp)
   rcases List.mem_cons.1 hy with e | hy
   ·rw [e]; exact hz
   ·exact l_le_trans hz ((List.pairwise_cons.1 hQ).1 y hy)
 refine ⟨?_, sortO_app.2 ⟨hP, List.pairwise_cons.2 ⟨hi, hQ⟩, fun y hy z hz => ?_⟩⟩
 ·have := stab_swap (A := [x]) (B := P) (fun a ha y hy => by rw [List.mem_singleton.1 ha]; exact (l_lt_ne (lo y hy)).symm)
  have := this.app (Stab.refl Q)
  simpa using this
 ·rcases List.mem_cons.1 hz with e | hz
  ·rw [e]; exact l_asym (lo y hy)
  ·exact hPQ y hy z hz
theorem stab_right {x : Ob} {P Q : List Ob} (hs : SortO (P ++ Q)) (h1 : ∀ y ∈ P.getLast?, ¬ x.t < y.t) (h2 : ∀ y ∈ Q.head?, x.t < y.t) : Stab (P ++ Q ++ [x]) (P ++ x :: Q) ∧ SortO (P ++ x :: Q) := by
 obtain ⟨hP, hQ, hPQ⟩ := sortO_app.1 hs
 have lo : ∀ y ∈ P, ¬ x.t < y.t := fun y hy => by
  rcases List.eq_nil_or_concat P with e | ⟨P', z, e⟩
  ·rw [e] at hy; cases hy
  ·rw [List.concat_eq_append] at e; subst e
   have hz : ¬ x.t < z.t := h1 z (by simp)
   rcases List.mem_append.1 hy with hy | hy
   ·exact l_le_trans ((sortO_app.1 hP).2.2 y hy z (by simp)) hz
   ·rw [List.mem_singleton.1 hy]; exact hz
 have hi : ∀ y ∈ Q, x.t < y.t := fun y hy => by
  cases Q with
  | nil => cases hy
  | cons z Q =>
   have hz : x.t < z.t := h2 z (by simp)
   rcases List.mem_cons.1 hy with e | hy
   ·rw [e]; exact hz
   ·exact l_lt_le hz ((List.pairwise_cons.1 hQ).1 y hy)
 refine ⟨?_, sortO_app.2 ⟨hP, List.pairwise_cons.2 ⟨fun y hy => l_asym (hi y hy), hQ⟩, fun y hy z hz => ?_⟩⟩
 ·have := stab_swap (A := Q) (B := [x]) (fun y hy a ha => by rw [List.mem_singleton.1 ha]; exact (l_lt_ne (hi y hy)).symm)
  have := (Stab.refl P).app this
  simpa using this
 ·rcases List.mem_cons.1 hz with e | hz
  ·rw [e]; exact lo y hy
  ·exact hPQ y hy z hz
theorem stab_turn {X1 X2 Y1 Y2 : List Ob} (hX : SortO (X1 ++ X2)) (hY : SortO (Y1 ++ Y2)) (h1 : ∀ x ∈ X1.getLast?, ∀ y ∈ Y2.head?, ¬ y.t < x.t) (h2 : ∀ x ∈ X2.head?, ∀ y ∈ Y1.getLast?, y.t < x.t) :
  Stab (X1 ++ X2 ++ (Y1 ++ Y2)) (X1 ++ Y1 ++ (X2 ++ Y2)) ∧ ∀ a ∈ X1 ++ Y1, ∀ b ∈ X2 ++ Y2, ¬ b.t < a.t := by
 obtain ⟨hX1, hX2, hXX⟩ := sortO_app.1 hX
 obtain ⟨hY1, hY2, hYY⟩ := sortO_app.1 hY
 have last : ∀ {P : List Ob}, SortO P → ∀ y ∈ P, ∃ z ∈ P.getLast?, ¬ z.t < y.t := fun {P} hP y hy => by
  rcases List.eq_nil_or_concat P with e | ⟨P', z, e⟩
  ·rw [e] at hy; cases hy
  ·rw [List.concat_eq_append] at e; subst e
   refine ⟨z, by simp, ?_⟩
   rcases List.mem_append.1 hy with hy | hy
   ·exact (sortO_app.1 hP).2.2 y hy z (by simp)
   ·rw [List.mem_singleton.1 hy]; exact l_irrefl _
 have first : ∀ {P : List Ob}, SortO P → ∀ y ∈ P, ∃ z ∈ P.head?, ¬ y.t < z.t := fun {P} hP y hy => by
  cases P with
  | nil => cases hy
  | cons z P =>
   refine ⟨z, by simp, ?_⟩
   rcases List.mem_cons.1 hy with e | hy
   ·rw [e]; exact l_irrefl _
   ·exact (List.pairwise_cons.1 hP).1 y hy
 have xy : ∀ x ∈ X1, ∀ y ∈ Y2, ¬ y.t < x.t := fun x hx y hy => by
  obtain ⟨x', hx', e1⟩ := last hX1 x hx
  obtain ⟨y', hy', e2⟩ := first hY2 y hy
  exact l_le_trans e1 (l_le_trans (h1 x' hx' y' hy') e2)
 have yx : ∀ y ∈ Y1, ∀ x ∈ X2, y.t < x.t := fun y hy x hx => by
  obtain ⟨y', hy', e1⟩ := last hY1 y hy
  obtain ⟨x', hx', e2⟩ := first hX2 x hx
  exact l_le_lt e1 (l_lt_le (h2 x' hx' y' hy') e2)
 refine ⟨?_, fun a ha b hb => ?_⟩
 ·have := ((Stab.refl X1).app (stab_swap (A := X2) (B := Y1) (fun x hx y hy => (l_lt_ne (yx y hy x hx)).symm))).app (Stab.refl Y2)
  simpa using this
 ·rcases List.mem_append.1 ha with ha | ha <;> rcases List.mem_append.1 hb with hb | hb
  ·exact hXX a ha b hb
  ·exact xy a ha b hb
  ·exact l_asym (yx a ha b hb)
  ·exact hYY a ha b hb
theorem stab_parts {L A B A' B' : List Ob} (h : Stab L (A ++ B)) (hab : ∀ a ∈ A, ∀ b ∈ B, ¬ b.t < a.t) (hA : Stab A A') (sA : SortO A') (hB : Stab B B') (sB : SortO B') : Stab L (A' ++ B') ∧ SortO (A' ++ B') :=
 ⟨h.trans (hA.app hB), sortO_app.2 ⟨sA, sB, fun a ha b hb => hab a (hA.mem.1 ha) b (hB.mem.1 hb)⟩⟩
def newO : Ob → List Ob → List Ob
 | _, [] => []
 | p, x :: L => if x.t = p.t then newO x L else x :: newO x L
def compO : List Ob → List Ob
 | [] => []
 | x :: L => x :: newO x L
theorem getO_cons_Dta (x : Ob) (L : List Ob) (t : List UInt8) : getO (x :: L) t = if x.t = t then some x else getO L t := by
 unfold getO
 rw [List.find?_cons]
 by_cases h : x.t = t
 ·simp [h]
 ·simp [h]
theorem newO_mem : ∀ {p : Ob} {L : List Ob}, SortO (p :: L) → ∀ {y : Ob}, y ∈ newO p L ↔ y.t ≠ p.t ∧ getO L y.t = some y
 | p, [], _, y => by simp [newO, getO]
 | p, x :: L, hs, y => by
  obtain ⟨h1, h2⟩ := List.pairwise_cons.1 hs
  have ih := newO_mem h2 (y := y)
  have hpx := h1 x (by simp)
  unfold newO
  rw [getO_cons_Dta]
  by_cases hx : x.t = p.t
  ·rw [if_pos hx, ih, hx]
   constructor
   ·rintro ⟨a, b⟩
    exact ⟨a, by rw [if_neg (fun e => a e.symm)]; exact b⟩
   ·rintro ⟨a, b⟩
    rw [if_neg (fun e => a e.symm)] at b
    exact ⟨a, b⟩
  ·rw [if_neg hx, List.mem_cons, ih]
   constructor
   ·rintro (rfl | ⟨a, b⟩)
    ·exact ⟨hx, if_pos rfl⟩
    ·refine ⟨fun e => ?_, by rw [if_neg (fun e => a e.symm)]; exact b⟩
     have hy := (List.pairwise_cons.1 h2).1 y (getO_mem b).1
     rw [e] at hy
     exact hx (l_tri _ _ hpx hy)
   ·rintro ⟨a, b⟩
    by_cases e : x.t = y.t
    ·rw [if_pos e] at b; exact .inl (Option.some.inj b).symm
    ·rw [if_neg e] at b; exact .inr ⟨fun h => e h.symm, b⟩
theorem newO_rise : ∀ {p : Ob} {L : List Ob}, SortO (p :: L) → RiseO (p :: newO p L)
 | p, [], _ => List.pairwise_singleton _ _
 | p, x :: L, hs => by
  obtain ⟨h1, h2⟩ := List.pairwise_cons.1 hs
  have ih := newO_rise h2
  have hm : ∀ y ∈ newO p (x :: L), p.t < y.t := fun y hy => by
   obtain ⟨a, b⟩ := (newO_mem hs).1 hy
   have := h1 y (getO_mem b).1
   by_cases hl : p.t < y.t
   ·exact hl
   ·exact absurd (l_tri _ _ hl this).symm a
  refine List.pairwise_cons.2 ⟨hm, ?_⟩
  unfold newO
  by_cases hx : x.t = p.t
  ·rw [if_pos hx]; exact (List.pairwise_cons.1 ih).2
  ·rw [if_neg hx]; exact ih
theorem compO_mem {M : List Ob} (hs : SortO M) {y : Ob} : y ∈ compO M ↔ getO M y.t = some y := by
 cases M with
 | nil => simp [compO, getO]
 | cons x L =>
  unfold compO
  rw [getO_cons_Dta, List.mem_cons, newO_mem hs]
  constructor
  ·rintro (rfl | ⟨a, b⟩)
   ·exact if_pos rfl
   ·rw [if_neg (fun e => a e.symm)]; exact b
  ·intro b
   by_cases e : x.t = y.t
   ·rw [if_pos e] at b; exact .inl (Option.some.inj b).symm
   ·rw [if_neg e] at b; exact .inr ⟨fun h => e h.symm, b⟩
theorem compO_rise {M : List Ob} (hs : SortO M) : RiseO (compO M) := by
 cases M with
 | nil => exact List.Pairwise.nil
 | cons x L => exact newO_rise hs
theorem stab_get {L M : List Ob} (h : Stab L M) (t : List UInt8) : getO M t = getO L t := by
 unfold getO
 rw [← List.head?_filter, ← List.head?_filter, h t]
theorem puts_mem : ∀ {S : List Nd}, (∀ n ∈ S, fitN n = true) → ∀ {A : List Ob}, FitO A → ∀ {y : Ob}, y ∈ putsN A S ↔ y ∈ A ∨ (getO A y.t = none ∧ getO (S.map obN) y.t = some y)
 | [], _, A, _, y => by simp [putsN, getO]
 | n :: S, hf, A, hA, y => by
  have hl : (obN n).t.length = 32 := by rw [obN_t]; exact keyN_len (hf n (by simp))
  show y ∈ putsN (addO A (obN n)) S ↔ _
  rw [puts_mem (fun m hm => hf m (List.mem_cons_of_mem _ hm)) (addO_fit hA (obN n)), List.map_cons, getO_cons_Dta, mem_addO]
  by_cases ht : (obN n).t = y.t
  ·rw [if_pos ht]
   cases hg : getO A (obN n).t with
   | some z =>
    have hz := getO_mem hg
    have hn : getO A y.t = some z := by rw [← ht]; exact hg
    rw [addO_there (.inl (by rw [hg]; rfl)), hn]
    simp
   | none =>
    have hs := getO_add_self hA hg hl
    have hn : getO A y.t = none := by rw [← ht]; exact hg
    rw [← ht, hs]
    simp only [hg, true_and]
    constructor
    ·rintro ((h | ⟨h, _⟩) | h)
     ·exact .inl h
     ·exact .inr (by rw [h])
     ·cases h.1
    ·rintro (h | h)
     ·exact .inl (.inl h)
     ·exact .inl (.inr ⟨(Option.some.inj h).symm, hl⟩)
  ·rw [if_neg ht, getO_add_other hA _ (fun e => ht e.symm)]
   constructor
   ·rintro ((h | ⟨h, _⟩) | h)
    ·exact .inl h
    ·exact absurd (by rw [h]) ht
    ·exact .inr h
   ·rintro (h | h)
    ·exact .inl (.inl h)
    ·exact .inr h
theorem comp_puts {S : List Nd} (hf : ∀ n ∈ S, fitN n = true) {M : List Ob} (h : Stab (S.map obN) M) (hs : SortO M) : compO M = putsN [] S := by
 refine riseO_ext (compO_rise hs) (putsN_fit S fitO_nil).1 (fun y => ?_)
 rw [compO_mem hs, stab_get h, puts_mem hf fitO_nil]
 simp [getO]
end Go.Proofs.YtlccihidedfemaaGreatDoor
set_option linter.unusedVariables false
namespace Go.Proofs.YtlccihidedfemaaGreatDoor
open Go.RowKit
attribute [local go_sem] Oper.semAt_some
structure RowO (w : World) (g cap : Nat) (L : List Ob) : Prop where
 row : ∃ cur, w.heap[g]? = some (.cells cur 33 (0, 0)) ∧ cur.size = cap * 2 ∧ cur.toList.take (L.length * 2) = obCells L
 le : L.length ≤ cap
 max : cap ≤ maxLen
theorem OwnO.rowO {B : Nat} {w : World} {g n cap : Nat} {L : List Ob} (h : OwnO B w (.slice (some ⟨g, 0, none⟩) n cap) L) : n = L.length ∧ B ≤ g ∧ RowO w g cap L := by
 rcases h.2 with ⟨h0, _⟩ | ⟨g', cap', cur, e, h1, h2, h3, h4, h5, h6⟩
 ·cases h0
 ·cases e; exact ⟨rfl, h1, ⟨cur, h2, h5, h6⟩, h3, h4⟩
theorem RowO.own {B : Nat} {w : World} {g cap : Nat} {L : List Ob} (h : RowO w g cap L) (hB : B ≤ g) : OwnO B w (.slice (some ⟨g, 0, none⟩) L.length cap) L := by
 obtain ⟨cur, h2, h5, h6⟩ := h.row
 exact ⟨obCells_len _, .inr ⟨g, cap, cur, rfl, hB, h2, h.le, h.max, h5, h6⟩⟩
theorem RowO.lt {w : World} {g cap : Nat} {L : List Ob} (h : RowO w g cap L) : g < w.heap.size := by
 obtain ⟨cur, h2, _, _⟩ := h.row
 exact (Array.getElem?_eq_some_iff.1 h2).1
theorem RowO.at' {w : World} {g cap : Nat} {L : List Ob} (h : RowO w g cap L) {i : Nat} (hi : i < L.length) : w.cell? ⟨g, i * 2, none⟩ = some (.string L[i].k) ∧ w.cell? ⟨g, i * 2 + 1, none⟩ = some (.string L[i].r) := by
 obtain ⟨_, _, _, e, _, hc⟩ := (h.own (Nat.le_refl _)).is
 cases e
 obtain ⟨b, off, e, _, hat⟩ := hc (by omega)
 cases e
 obtain ⟨c0, c1⟩ := hat i hi
 rw [Nat.zero_add] at c0 c1
 exact ⟨c0, c1⟩
theorem RowO.free {w : World} {g cap : Nat} {L : List Ob} (h : RowO w g cap L) (i : Nat) : w.frozen? ⟨g, i, none⟩ = false := by
 obtain ⟨cur, h2, _, _⟩ := h.row
 exact frozen_of_row w g i cur _ h2
theorem RowO.stays {w w' : World} {g cap : Nat} {L : List Ob} (h : RowO w g cap L) (hb : Below w.heap.size w w') : RowO w' g cap L := by
 obtain ⟨cur, h2, h3⟩ := h.row
 exact ⟨⟨cur, (hb.block g h.lt).trans h2, h3⟩, h.le, h.max⟩
theorem grownBy_setRow_Dtb (w : World) (g : Nat) (C : Array Value) : w.grownBy (w.setRow g C) (some g) :=
 ⟨rfl, rfl, rfl, by simp, fun k hk hne => setRow_other w g k C (fun e => hne (by rw [e]))⟩
theorem obCells_set {L : List Ob} {i : Nat} (hi : i < L.length) (x : Ob) : obCells (L.set i x) = (obCells L).take (i * 2) ++ obC x ++ (obCells L).drop (i * 2 + 2) := by
 have hL : L = L.take i ++ L[i] :: L.drop (i + 1) := by rw [← List.drop_eq_getElem_cons hi, List.take_append_drop]
 have hl : (obCells (L.take i)).length = i * 2 := by rw [obCells_len, List.length_take]; congr 1; omega
 have e : obCells L = obCells (L.take i) ++ (obC L[i] ++ obCells (L.drop (i + 1))) := by
  conv => lhs; rw [hL]
  rw [obCells_app]; rfl
 rw [List.set_eq_take_append_cons_drop, if_pos hi, obCells_app]
 have h1 : (obCells L).take (i * 2) = obCells (L.take i) := by rw [e, List.take_left' hl]
 have h2 : (obCells L).drop (i * 2 + 2) = obCells (L.drop (i + 1)) := by
  rw [e, ← List.append_assoc]
  exact List.drop_left' (by rw [List.length_append, hl]; rfl)
 rw [h1, h2, List.append_assoc]; rfl
theorem set2 (C : Array Value) (k : Nat) (a b : Value) (hk : k + 2 ≤ C.size) : ((C.setIfInBounds k a).setIfInBounds (k + 1) b).toList = C.toList.take k ++ [a, b] ++ C.toList.drop (k + 2) := by
 apply List.ext_getElem?
 intro j
 simp only [Array.toList_setIfInBounds, List.getElem?_set, List.length_set, Array.length_toList]
 rcases Nat.lt_or_ge j k with h | h
 ·rw [if_neg (by omega), if_neg (by omega), List.append_assoc, List.getElem?_append_left (by rw [List.length_take, Array.length_toList]; omega), List.getElem?_take, if_pos h]
 ·have hlt : (C.toList.take k).length = k := by rw [List.length_take, Array.length_toList]; omega
  rcases Nat.lt_or_ge j (k + 2) with h4 | h4
  ·rw [List.append_assoc, List.getElem?_append_right (by omega), hlt, List.getElem?_append_left (by simp; omega)]
   rcases (show j = k ∨ j = k + 1 by omega) with rfl | rfl
   ·rw [if_neg (by omega), if_pos rfl, if_pos (by omega)]; simp
   ·rw [if_pos rfl, if_pos (by omega)]; simp
  ·rw [if_neg (by omega), if_neg (by omega), List.getElem?_append_right (by rw [List.length_append, hlt]; simp; omega), List.length_append, hlt, List.getElem?_drop]
   congr 1; simp; omega
def set2W (w : World) (g k : Nat) (x : Ob) : World := (w.setCell ⟨g, k, none⟩ (.string x.k)).setCell ⟨g, k + 1, none⟩ (.string x.r)
theorem set2W_row {w : World} {g k : Nat} {cur : Array Value} {t : TypeId} (hg : w.heap[g]? = some (.cells cur t (0, 0))) (hk : k + 2 ≤ cur.size) (x : Ob) :
  set2W w g k x = w.setRow g (cur.toList.take k ++ obC x ++ cur.toList.drop (k + 2)).toArray := by
 unfold set2W
 rw [setCell_eq_setRow w g k cur t (0, 0) _ hg, setCell_eq_setRow _ g (k + 1) _ t (0, 0) _ (setRow_heap w g cur _ t (0, 0) hg), setRow_setRow]
 congr 1
 rw [← set2 cur k _ _ hk]
theorem RowO.set {w : World} {g cap i : Nat} {L : List Ob} (h : RowO w g cap L) (hi : i < L.length) (x : Ob) : RowO (set2W w g (i * 2) x) g cap (L.set i x) ∧ w.grownBy (set2W w g (i * 2) x) (some g) := by
 obtain ⟨cur, h2, h6, h7⟩ := h.row
 have h4 := h.le
 rw [set2W_row h2 (by omega) x]
 refine ⟨⟨⟨_, setRow_heap w g cur _ _ (0, 0) h2, ?_, ?_⟩, by rw [List.length_set]; exact h4, h.max⟩, grownBy_setRow_Dtb _ _ _⟩
 ·simp only [List.size_toArray, List.length_append, List.length_take, List.length_drop, Array.length_toList, List.length_cons, List.length_nil]; omega
 ·rw [List.length_set, obCells_set hi, ← h7]
  have hl : (cur.toList.take (i * 2)).length = i * 2 := by rw [List.length_take, Array.length_toList]; omega
  rw [List.take_take, show min (i * 2) (L.length * 2) = i * 2 by omega]
  show List.take _ (cur.toList.take (i * 2) ++ obC x ++ cur.toList.drop (i * 2 + 2)) = _
  rw [List.take_append, List.length_append, hl, List.take_of_length_le (by rw [List.length_append, hl]; simp; omega), List.drop_take]
  congr 1
abbrev Turned (W0 w : World) (g : Nat) : Prop := W0.grownBy w (some g)
theorem turned_step {a b c : World} {g : Nat} (h : Turned a b g) (hb : Below b.heap.size b c) : Turned a c g :=
 ⟨hb.os.trans h.os, hb.tape.trans h.tape, hb.output.trans h.output, Nat.le_trans h.size hb.size, fun k hk hn => (hb.block k (Nat.lt_of_lt_of_le hk h.size)).trans (h.block k hk hn)⟩
theorem turned_trans {a b c : World} {g : Nat} (h : Turned a b g) (k : Turned b c g) : Turned a c g :=
 ⟨k.os.trans h.os, k.tape.trans h.tape, k.output.trans h.output, Nat.le_trans h.size k.size, fun i hi hn => (k.block i (Nat.lt_of_lt_of_le hi h.size) hn).trans (h.block i hi hn)⟩
theorem turned_refl (w : World) (g : Nat) : Turned w w g := ⟨rfl, rfl, rfl, Nat.le_refl _, fun _ _ _ => rfl⟩
def swpO (L : List Ob) (i j : Nat) : List Ob := (L.set i (L.getD j zeroOb)).set j (L.getD i zeroOb)
theorem swpO_len (L : List Ob) (i j : Nat) : (swpO L i j).length = L.length := by unfold swpO; rw [List.length_set, List.length_set]
theorem swpO_get {L : List Ob} {i j : Nat} (hi : i < L.length) (hj : j < L.length) (k : Nat) : (swpO L i j)[k]? = if k = j then L[i]? else if k = i then L[j]? else L[k]? := by
 unfold swpO
 have ei : some (L.getD i zeroOb) = L[i]? := by rw [List.getD_eq_getElem?_getD, List.getElem?_eq_getElem hi]; rfl
 have ej : some (L.getD j zeroOb) = L[j]? := by rw [List.getD_eq_getElem?_getD, List.getElem?_eq_getElem hj]; rfl
 simp only [List.getElem?_set, List.length_set, hi, hj, if_true, ei, ej]
 repeat' split
 all_goals first | rfl | (exfalso; omega)
theorem RowO.swp {w : World} {g cap i j : Nat} {L : List Ob} (h : RowO w g cap L) (hi : i < L.length) (hj : j < L.length) :
  RowO (set2W (set2W w g (i * 2) L[j]) g (j * 2) L[i]) g cap (swpO L i j) ∧ Turned w (set2W (set2W w g (i * 2) L[j]) g (j * 2) L[i]) g := by
 obtain ⟨h1, h2⟩ := h.set hi L[j]
 obtain ⟨h3, h4⟩ := h1.set (i := j) (by rw [List.length_set]; exact hj) L[i]
 refine ⟨?_, turned_trans h2 h4⟩
 unfold swpO
 rw [List.getD_eq_getElem?_getD, List.getD_eq_getElem?_getD, List.getElem?_eq_getElem hi, List.getElem?_eq_getElem hj]
 exact h3
def swapN (L : List Ob) (a b : Nat) : Nat → List Ob
 | 0 => L
 | k + 1 => swpO (swapN L a b k) (a + k) (b + k)
theorem swapN_len (L : List Ob) (a b : Nat) : ∀ k, (swapN L a b k).length = L.length
 | 0 => rfl
 | k + 1 => by unfold swapN; rw [swpO_len, swapN_len L a b k]
theorem swapN_get {L : List Ob} {a b : Nat} : ∀ k, a + k ≤ b → b + k ≤ L.length → ∀ i, (swapN L a b k)[i]? = if a ≤ i ∧ i < a + k then L[i - a + b]? else if b ≤ i ∧ i < b + k then L[i - b + a]? else L[i]?
 | 0, _, _, i => by rw [if_neg (by omega), if_neg (by omega)]; rfl
 | k + 1, h1, h2, i => by
  unfold swapN
  have ih := swapN_get (L := L) (a := a) (b := b) k (by omega) (by omega)
  rw [swpO_get (by rw [swapN_len]; omega) (by rw [swapN_len]; omega)]
  simp only [ih]
  repeat' split
  all_goals first | rfl | (exfalso; omega) | (congr 1; omega)
theorem swapN_parts {P X M Y Q : List Ob} (h : X.length = Y.length) : swapN (P ++ (X ++ (M ++ (Y ++ Q)))) P.length (P.length + X.length + M.length) X.length = P ++ (Y ++ (M ++ (X ++ Q))) := by
 apply List.ext_getElem?
 intro i
 rw [swapN_get _ (by omega) (by simp; omega)]
 simp only [List.getElem?_append]
 repeat' split
 all_goals first | rfl | (exfalso; omega) | (congr 1; omega)
set_option maxRecDepth 100000 in
set_option maxHeartbeats 4000000 in
theorem swapRange_any (c : Value) (g cap : Nat) (L : List Ob) (a b n : Nat) (w : World) (hR : RowO w g cap L) (h1 : a + n ≤ b) (h2 : b + n ≤ L.length) (hL : L.length ≤ 1000000) :
  Calls Tryz.prog 149 #[.slice (some ⟨g, 0, none⟩) L.length cap, .int .i64 a, .int .i64 b, .int .i64 n, c] w fun e w' => e = .returned (.tuple #[]) ∧ RowO w' g cap (swapN L a b n) ∧ Turned w w' g := by
 have HR := Lib.hid hR
 clear hR
 go_enter Tryz.func149, Tryz.ntmps149
 go_wp2
 go_loopw [10] (fun i wr => ∃ k : Nat, k ≤ n ∧ i = .int .i64 k ∧ RowO wr g cap (swapN L a b k) ∧ Turned w wr g) (fun i _ => n - (intOf i).toNat)
 case atStart => exact ⟨0, Nat.zero_le _, rfl, HR.out, turned_refl _ _⟩
 case round =>
  obtain ⟨k, hk, rfl, hR, hT⟩ := hrel
  have HT := Lib.hid hT; clear hT
  by_cases hlt : k < n
  ·have hSl : (swapN L a b k).length = L.length := swapN_len _ _ _ _
   have HS : Hid (swapN L a b (k + 1) = swpO (swapN L a b k) (a + k) (b + k)) := rfl
   obtain ⟨S, hS⟩ : ∃ S, S = swapN L a b k := ⟨_, rfl⟩
   rw [← hS] at hR hSl HS
   clear hS
   have hi : a + k < S.length := by omega
   have hj : b + k < S.length := by omega
   obtain ⟨c0, c1⟩ := hR.at' hi
   obtain ⟨d0, d1⟩ := hR.at' hj
   have hf := hR.free
   have HW := Lib.hid (hR.swp hi hj)
   obtain ⟨x, hx⟩ : ∃ x, x = S[a + k] := ⟨_, rfl⟩
   obtain ⟨y, hy⟩ : ∃ y, y = S[b + k] := ⟨_, rfl⟩
   rw [← hx] at c0 c1 HW
   rw [← hy] at d0 d1 HW
   clear hx hy hR
   have s1 : (0 : Int) ≤ (a : Int) + (k : Int) := by omega
   have s2 : (0 : Int) ≤ (b : Int) + (k : Int) := by omega
   have s3 : ((a : Int) + (k : Int)).toNat = a + k := by omega
   have s4 : ((b : Int) + (k : Int)).toNat = b + k := by omega
   have s5 : (a : Int) + (k : Int) < (L.length : Int) := by omega
   have s6 : (b : Int) + (k : Int) < (L.length : Int) := by omega
   have hbk : decide ((k : Int) < (n : Int)) = true := decide_eq_true (by omega)
   have hgl : g < wr.heap.size := by
    obtain ⟨_, h3⟩ := HW.out.2; exact Nat.lt_of_lt_of_le (by
     have := HW.out.1.lt; unfold set2W at this; simpa using this) (Nat.le_refl _)
   clear hSl hi hj
   go_wp2_with fail
   go_region
   go_wp2
   have hdw : ∀ X : World, Below X.heap.size X X.drew := fun X => (Below.refl _ _).drew
   go_roundw
   case rel => exact ⟨k + 1, by omega, by go_num, by rw [HS.out]; exact HW.out.1.stays (hdw _), turned_step (turned_trans HT.out HW.out.2) (hdw _)⟩
   case measure => simp [intOf]; omega
  ·have hk' : k = n := by omega
   subst hk'
   obtain ⟨hR1, hR2⟩ : Hid (RowO wr g cap (swapN L a b k)) ∧ True := ⟨hR, trivial⟩
   clear hR
   go_wp2
   go_end0
   exact ⟨rfl, hR1.out, HT.out⟩
theorem rot_left {P X Y Q : List Ob} (h : Y.length < X.length) : swapN (P ++ (X ++ (Y ++ Q))) P.length (P.length + X.length) Y.length = (P ++ Y) ++ (X.drop Y.length ++ (X.take Y.length ++ Q)) := by
 have := swapN_parts (P := P) (X := X.take Y.length) (M := X.drop Y.length) (Y := Y) (Q := Q) (by rw [List.length_take]; omega)
 rw [List.length_take, List.length_drop, Nat.min_eq_left (Nat.le_of_lt h), show P.length + Y.length + (X.length - Y.length) = P.length + X.length by omega, ← List.append_assoc (X.take _), List.take_append_drop] at this
 rw [this, List.append_assoc]
theorem rot_right {P X Y Q : List Ob} (h : X.length < Y.length) : swapN (P ++ (X ++ (Y ++ Q))) P.length (P.length + X.length + (Y.length - X.length)) X.length = P ++ (Y.drop (Y.length - X.length) ++ (Y.take (Y.length - X.length) ++ (X ++ Q))) := by
 have := swapN_parts (P := P) (X := X) (M := Y.take (Y.length - X.length)) (Y := Y.drop (Y.length - X.length)) (Q := Q) (by rw [List.length_drop]; omega)
 rw [List.length_take, Nat.min_eq_left (by omega), ← List.append_assoc (Y.take _), List.take_append_drop] at this
 exact this
theorem rot_same {P X Y Q : List Ob} (h : X.length = Y.length) : swapN (P ++ (X ++ (Y ++ Q))) P.length (P.length + X.length) X.length = P ++ (Y ++ (X ++ Q)) :=
 swapN_parts (P := P) (X := X) (M := []) (Y := Y) (Q := Q) h
set_option maxRecDepth 100000 in
set_option maxHeartbeats 4000000 in
theorem rotate_any (c : Value) (g cap n a m b : Nat) (P X Y Q : List Ob) (w : World) (hR : RowO w g cap (P ++ (X ++ (Y ++ Q)))) (hn : n = (P ++ (X ++ (Y ++ Q))).length) (ha : a = P.length) (hm : m = P.length + X.length) (hb : b = P.length + X.length + Y.length) (hX : 0 < X.length) (hY : 0 < Y.length) (hL : n ≤ 1000000) :
  Calls Tryz.prog 130 #[.slice (some ⟨g, 0, none⟩) n cap, .int .i64 a, .int .i64 m, .int .i64 b, c] w fun e w' => e = .returned (.tuple #[]) ∧ RowO w' g cap (P ++ (Y ++ (X ++ Q))) ∧ Turned w w' g := by
 have HR := Lib.hid hR
 have C := Lib.hid (fun (L : List Ob) (a b k : Nat) (w : World) => swapRange_any c g cap L a b k w)
 have HN := Lib.hid (hn.trans (show _ = P.length + X.length + Y.length + Q.length by simp; omega))
 have HA := Lib.hid ha; have HM := Lib.hid hm; have HB := Lib.hid hb
 have hbn : b ≤ n := by have := HN.out; omega
 have ham : a ≤ m := by omega
 have hmb : m ≤ b := by omega
 clear hR hn ha hm hb
 go_enter Tryz.func130, Tryz.ntmps130
 go_wp2
 go_loopw [10, 11] (fun i j wr => ∃ P' X' Y' Q' : List Ob, i = .int .i64 X'.length ∧ j = .int .i64 Y'.length ∧ P'.length + X'.length = m ∧ 0 < X'.length ∧ 0 < Y'.length ∧ (P' ++ (X' ++ (Y' ++ Q'))).length = n ∧ RowO wr g cap (P' ++ (X' ++ (Y' ++ Q'))) ∧ P' ++ (Y' ++ (X' ++ Q')) = P ++ (Y ++ (X ++ Q)) ∧ Turned w wr g) (fun i j _ => (intOf i).toNat + (intOf j).toNat)
 case atStart => exact ⟨P, X, Y, Q, by congr 1; have := HA.out; have := HM.out; omega, by congr 1; have := HM.out; have := HB.out; omega, HM.out.symm, hX, hY, by rw [HN.out]; simp; omega, HR.out, rfl, turned_refl _ _⟩
 case round =>
  obtain ⟨P', X', Y', Q', rfl, rfl, hpm, hx, hy, hlen, hR, hE, hT⟩ := hrel
  have hl2 : P'.length + X'.length + Y'.length + Q'.length = n := by rw [← hlen]; simp; omega
  have HPM := Lib.hid hpm
  have hxm : X'.length ≤ m := by omega
  have hyn : m + Y'.length ≤ n := by omega
  have hxn : X'.length ≤ n := by omega
  have hyn2 : Y'.length ≤ n := by omega
  clear hpm hl2
  have HL := Lib.hid hlen; have HE := Lib.hid hE; have HT := Lib.hid hT
  clear hlen hE hT
  rcases Nat.lt_trichotomy X'.length Y'.length with hlt | heq | hgt
  ·have q1 : ((X'.length : Int) == (Y'.length : Int)) = false := beq_eq_false_iff_ne.2 (by omega)
   have q2 : decide ((X'.length : Int) > (Y'.length : Int)) = false := decide_eq_false (by omega)
   have q3 : ¬ ((Y'.length : Int) < (X'.length : Int)) := by omega
   have C1 := Lib.hid (C.out (P' ++ (X' ++ (Y' ++ Q'))) P'.length (P'.length + X'.length + (Y'.length - X'.length)) X'.length wr hR (by omega) (by rw [HL.out]; have := HPM.out; omega) (by rw [HL.out]; exact hL))
   rw [rot_right hlt, HL.out] at C1
   have e1 : (m : Int) - (X'.length : Int) = (P'.length : Int) := by have := HPM.out; omega
   obtain ⟨q, hq⟩ : ∃ q, q = P'.length + X'.length + (Y'.length - X'.length) := ⟨_, rfl⟩
   rw [← hq] at C1
   have e2 : (m : Int) + (Y'.length : Int) - (X'.length : Int) = (q : Int) := by have := HPM.out; omega
   clear hq
   clear hR
   go_wp2_with fail
   try simp only [e1, e2]
   with_reducible refine C1.out.mono ?_
   rintro e w1 ⟨rfl, hR1, hT1⟩
   have HR1 := Lib.hid hR1; have HT1 := Lib.hid hT1
   clear hR1 hT1
   go_wp2
   go_roundw
   case rel => exact ⟨P', Y'.drop (Y'.length - X'.length), Y'.take (Y'.length - X'.length), X' ++ Q', by rw [List.length_drop]; go_num, by rw [List.length_take]; go_num, by have := HPM.out; rw [List.length_drop]; omega, by rw [List.length_drop]; omega, by rw [List.length_take]; omega, by have := HL.out; simp at this ⊢; omega, HR1.out, by
     rw [← HE.out]
     congr 1
     rw [← List.append_assoc (Y'.take _), List.take_append_drop], turned_trans HT.out HT1.out⟩
   case measure => simp [intOf]; omega
  ·have HEQ := Lib.hid heq
   have q1 : ((X'.length : Int) == (Y'.length : Int)) = true := beq_iff_eq.2 (by omega)
   have q0 : ((X'.length : Int) != (Y'.length : Int)) = false := by simp [heq]
   clear heq
   have C1 := Lib.hid (C.out (P' ++ (X' ++ (Y' ++ Q'))) P'.length (P'.length + X'.length) X'.length wr hR (by omega) (by rw [HL.out]; have := HPM.out; have := HEQ.out; omega) (by rw [HL.out]; exact hL))
   rw [rot_same HEQ.out, HL.out] at C1
   have e1 : (m : Int) - (X'.length : Int) = (P'.length : Int) := by have := HPM.out; omega
   clear hR
   rw [HPM.out] at C1
   go_wp2_with fail
   try simp only [e1]
   with_reducible refine C1.out.mono ?_
   rintro e w1 ⟨rfl, hR1, hT1⟩
   have HR1 := Lib.hid hR1; have HT1 := Lib.hid hT1
   clear hR1 hT1
   go_wp2
   go_end0
   exact ⟨rfl, by rw [← HE.out]; exact HR1.out, turned_trans HT.out HT1.out⟩
  ·have q1 : ((X'.length : Int) == (Y'.length : Int)) = false := beq_eq_false_iff_ne.2 (by omega)
   have q2 : decide ((X'.length : Int) > (Y'.length : Int)) = true := decide_eq_true (by omega)
   have q3 : ((Y'.length : Int) < (X'.length : Int)) := by omega
   have C1 := Lib.hid (C.out (P' ++ (X' ++ (Y' ++ Q'))) P'.length (P'.length + X'.length) Y'.length wr hR (by omega) (by rw [HL.out]; have := HPM.out; omega) (by rw [HL.out]; exact hL))
   rw [rot_left hgt, HL.out] at C1
   have e1 : (m : Int) - (X'.length : Int) = (P'.length : Int) := by have := HPM.out; omega
   clear hR
   rw [HPM.out] at C1
   go_wp2_with fail
   try simp only [e1]
   with_reducible refine C1.out.mono ?_
   rintro e w1 ⟨rfl, hR1, hT1⟩
   have HR1 := Lib.hid hR1; have HT1 := Lib.hid hT1
   clear hR1 hT1
   go_wp2
   go_roundw
   case rel => exact ⟨P' ++ Y', X'.drop Y'.length, X'.take Y'.length, Q', by rw [List.length_drop]; go_num, by rw [List.length_take]; go_num, by have := HPM.out; rw [List.length_drop, List.length_append]; omega, by rw [List.length_drop]; omega, by rw [List.length_take]; omega, by have := HL.out; simp at this ⊢; omega, HR1.out, by
     rw [← HE.out, List.append_assoc, ← List.append_assoc (X'.take _), List.take_append_drop], turned_trans HT.out HT1.out⟩
   case measure => simp [intOf]; omega
def FitTo (l : List Txt) (k : Nat) : Prop := ∀ i (h : i < l.length), i < k → l[i].length = 32 ∧ (0 < i → l[i - 1]'(by omega) < l[i])
theorem fitTo_zero (l : List Txt) : FitTo l 0 := fun i _ h => absurd h (by omega)
theorem fitTo_step {l : List Txt} {k : Nat} (h : FitTo l k) (hk : k < l.length) (h32 : l[k].length = 32) (hr : 0 < k → l[k - 1]'(by omega) < l[k]) : FitTo l (k + 1) := fun i hi hik => by
 rcases Nat.lt_or_ge i k with e | e
 ·exact h i hi e
 ·obtain rfl : i = k := by omega
  exact ⟨h32, hr⟩
theorem fitB_all {l : List Txt} {k : Nat} (h : FitTo l k) (hk : l.length ≤ k) : fitB l = true := fitB_true fun i hi => h i hi (by omega)
theorem fitB_no32 {l : List Txt} {k : Nat} (hk : k < l.length) (h32 : l[k].length ≠ 32) : fitB l = false := fitB_false fun h => h32 (h k hk).1
theorem fitB_norise {l : List Txt} {k : Nat} (hk : k < l.length) (h0 : 0 < k) (hr : ¬ l[k - 1]'(by omega) < l[k]) : fitB l = false := fitB_false fun h => hr ((h k hk).2 h0)
theorem one_dot {s : ByteArray} : (s.toList == [46]) = decide (s.data.toList = [46]) := by rw [Lib.toList_data, Bool.eq_iff_iff]; simp
theorem two_dots {s : ByteArray} : (s.toList == [46, 46]) = decide (s.data.toList = [46, 46]) := by rw [Lib.toList_data, Bool.eq_iff_iff]; simp
def CleanTo (l : List UInt8) (k : Nat) : Prop := (0 : UInt8) ∉ l.take k ∧ (47 : UInt8) ∉ l.take k
theorem clean_zero (l : List UInt8) : CleanTo l 0 := ⟨by simp, by simp⟩
theorem clean_step {s : ByteArray} {k : Nat} (h : CleanTo s.data.toList k) (hk : k < s.size) (h0 : s[k] ≠ 0) (h47 : s[k] ≠ 47) : CleanTo s.data.toList (k + 1) := by
 unfold CleanTo; rw [take_on s k hk]
 exact ⟨fun hm => by rcases List.mem_append.1 hm with e | e; exact h.1 e; exact h0 (List.mem_singleton.1 e).symm, fun hm => by rcases List.mem_append.1 hm with e | e; exact h.2 e; exact h47 (List.mem_singleton.1 e).symm⟩
theorem clean_all {s : ByteArray} (h : CleanTo s.data.toList s.size) : (0 : UInt8) ∉ s.data.toList ∧ (47 : UInt8) ∉ s.data.toList := by
 unfold CleanTo at h; rwa [take_all s _ (Nat.le_refl _)] at h
theorem mem_at {s : ByteArray} {k : Nat} (hk : k < s.size) : s[k] ∈ s.data.toList := by
 show s.data[k] ∈ _
 simp
theorem byte_ne {u : UInt8} {n : Nat} (hn : n < 256) (h : u ≠ UInt8.ofNat n) : ((u.toNat : Int) == (n : Int)) = false := by
 rw [beq_eq_false_iff_ne]
 intro e
 have e2 : u.toNat = n := by exact_mod_cast e
 exact h (by rw [← e2]; simp)
set_option maxRecDepth 100000 in
set_option maxHeartbeats 1000000 in
theorem refName_any (s : ByteArray) (w : World) :
  Calls Tryz.prog 95 #[.string s] w fun e w' => e = .returned (.bool (nameB s.data.toList)) ∧ w = w' := by
 by_cases h0 : s.size = 0
 ·have e0 : s.toList.isEmpty = true := by
   rw [Lib.toList_data]; have := Lib.size_eq s; cases h : s.data.toList with
   | nil => rfl
   | cons a t => rw [h] at this; simp at this; omega
  have HN : Hid (nameB s.data.toList = false) := nameB_no (fun hh => by rw [← Lib.size_eq] at hh; omega)
  clear h0
  go_enter Tryz.func95, Tryz.ntmps95
  go_wp2
  go_ret
  exact ⟨ret_val (congrArg Value.bool HN.out.symm), rfl⟩
 ·have e0 : s.toList.isEmpty = false := by
   rw [Lib.toList_data]; have := Lib.size_eq s; cases h : s.data.toList with
   | nil => rw [h] at this; exact absurd this h0
   | cons a t => rfl
  by_cases h31 : 31 < s.size
  ·have e1 : decide ((31 : Int) < (s.size : Int)) = true := decide_eq_true (by omega)
   have HN : Hid (nameB s.data.toList = false) := nameB_no (fun hh => by rw [← Lib.size_eq] at hh; omega)
   clear h0 h31
   go_enter Tryz.func95, Tryz.ntmps95
   go_wp2
   go_ret
   exact ⟨ret_val (congrArg Value.bool HN.out.symm), rfl⟩
  ·have e1 : decide ((31 : Int) < (s.size : Int)) = false := decide_eq_false (by omega)
   by_cases hd : s.data.toList = [46]
   ·have e2 : (s.toList == [46]) = true := by rw [one_dot]; exact decide_eq_true hd
    have HN : Hid (nameB s.data.toList = false) := nameB_no (fun hh => hh.2.2.1 hd)
    clear h0 h31 hd
    go_enter Tryz.func95, Tryz.ntmps95
    go_wp2
    go_ret
    exact ⟨ret_val (congrArg Value.bool HN.out.symm), rfl⟩
   ·have e2 : (s.toList == [46]) = false := by rw [one_dot]; exact decide_eq_false hd
    by_cases hd2 : s.data.toList = [46, 46]
    ·have e3 : (s.toList == [46, 46]) = true := by rw [two_dots]; exact decide_eq_true hd2
     have HN : Hid (nameB s.data.toList = false) := nameB_no (fun hh => hh.2.2.2.1 hd2)
     clear h0 h31 hd hd2
     go_enter Tryz.func95, Tryz.ntmps95
     go_wp2
     go_ret
     exact ⟨ret_val (congrArg Value.bool HN.out.symm), rfl⟩
    ·have e3 : (s.toList == [46, 46]) = false := by rw [two_dots]; exact decide_eq_false hd2
     have HO := Lib.hid (show 1 ≤ s.data.toList.length ∧ s.data.toList.length ≤ 31 ∧ s.data.toList ≠ [46] ∧ s.data.toList ≠ [46, 46] from by rw [← Lib.size_eq]; exact ⟨by omega, by omega, hd, hd2⟩)
     clear h0 hd hd2
     go_enter Tryz.func95, Tryz.ntmps95
     go_wp2
     go_loop [3] (fun i => ∃ k : Nat, k ≤ s.size ∧ i = .int .i64 k ∧ CleanTo s.data.toList k) (fun i => s.size - (intOf i).toNat)
     case atStart => exact ⟨0, Nat.zero_le _, rfl, clean_zero _⟩
     case round =>
      obtain ⟨k, hk, rfl, hc⟩ := hrel
      have HC := Lib.hid hc; clear hc
      by_cases hlt : k < s.size
      ·by_cases b0 : s[k] = 0
       ·have c0 : ((s[k].toNat : Int) == 0) = true := by rw [b0]; rfl
        have HN : Hid (nameB s.data.toList = false) := nameB_no (fun hh => hh.2.2.2.2.1 (b0 ▸ mem_at hlt))
        clear b0
        go_wp2
        go_ret
        exact ⟨ret_val (congrArg Value.bool HN.out.symm), rfl⟩
       ·have c0 : ((s[k].toNat : Int) == 0) = false := byte_ne (n := 0) (by decide) b0
        by_cases b47 : s[k] = 47
        ·have c1 : ((s[k].toNat : Int) == 47) = true := by rw [b47]; rfl
         have HN : Hid (nameB s.data.toList = false) := nameB_no (fun hh => hh.2.2.2.2.2 (b47 ▸ mem_at hlt))
         clear b0 b47
         go_wp2
         go_ret
         exact ⟨ret_val (congrArg Value.bool HN.out.symm), rfl⟩
        ·have c1 : ((s[k].toNat : Int) == 47) = false := byte_ne (n := 47) (by decide) b47
         have HS := Lib.hid (clean_step HC.out hlt b0 b47)
         clear b0 b47
         go_wp2
         go_round
         case rel => exact ⟨k + 1, by omega, by go_num, HS.out⟩
         case measure => simp [intOf]; omega
      ·obtain rfl : k = s.size := by omega
       have HN : Hid (nameB s.data.toList = true) := nameB_mk ⟨HO.out.1, HO.out.2.1, HO.out.2.2.1, HO.out.2.2.2, clean_all HC.out⟩
       go_wp2
       go_ret
       exact ⟨ret_val (congrArg Value.bool HN.out.symm), rfl⟩
def RetL (L : List (List UInt8)) (w : World) (e : Ending) (w' : World) : Prop := ∃ v, e = .returned v ∧ IsStrs w' v (strsOf L) ∧ Below w.heap.size w w'
def OnPart (l : List UInt8) (M : List (List UInt8)) (f k : Nat) : Prop :=
 (k ≤ l.length ∧ f ≤ k ∧ pts l = M ++ pts (l.drop f) ∧ (47 : UInt8) ∉ (l.drop f).take (k - f)) ∨ (k = l.length + 1 ∧ M = pts l)
theorem onPart_start (l : List UInt8) : OnPart l [] 0 0 := .inl ⟨Nat.zero_le _, Nat.le_refl _, rfl, by simp⟩
theorem onPart_le {l : List UInt8} {M : List (List UInt8)} {f k : Nat} (h : OnPart l M f k) (hk : k ≤ l.length) : f ≤ k := by
 rcases h with h | h
 ·exact h.2.1
 ·omega
theorem onPart_cut {l : List UInt8} {M : List (List UInt8)} {f k : Nat} (h : OnPart l M f k) (hk : k < l.length) (h47 : l[k] = 47) : OnPart l (M ++ [(l.drop f).take (k - f)]) (k + 1) (k + 1) := by
 rcases h with ⟨h1, h2, h3, h4⟩ | ⟨h1, _⟩
 ·refine .inl ⟨by omega, Nat.le_refl _, ?_, by simp⟩
  have e : l.drop f = (l.drop f).take (k - f) ++ 47 :: l.drop (k + 1) := by
   conv => lhs; rw [← List.take_append_drop (k - f) (l.drop f)]
   rw [List.drop_drop, show f + (k - f) = k by omega, List.drop_eq_getElem_cons hk, h47]
  rw [h3, e, pts_app, ← e, pts_one h4]; simp
 ·omega
theorem onPart_end {l : List UInt8} {M : List (List UInt8)} {f : Nat} (h : OnPart l M f l.length) (g : Nat) : OnPart l (M ++ [(l.drop f).take (l.length - f)]) g (l.length + 1) := by
 rcases h with ⟨h1, h2, h3, h4⟩ | ⟨h1, _⟩
 ·refine .inr ⟨rfl, ?_⟩
  rw [h3, ← pts_one h4, List.take_of_length_le (by simp)]
 ·omega
theorem onPart_step {l : List UInt8} {M : List (List UInt8)} {f k : Nat} (h : OnPart l M f k) (hk : k < l.length) (h47 : l[k] ≠ 47) : OnPart l M f (k + 1) := by
 rcases h with ⟨h1, h2, h3, h4⟩ | ⟨h1, _⟩
 ·refine .inl ⟨by omega, by omega, h3, ?_⟩
  rw [show k + 1 - f = (k - f) + 1 by omega, List.take_succ_eq_append_getElem (by simp; omega)]
  intro hm
  rcases List.mem_append.1 hm with e | e
  ·exact h4 e
  ·refine h47 ?_
   have := List.mem_singleton.1 e
   rw [List.getElem_drop] at this
   rw [this]; congr 1; omega
 ·omega
theorem onPart_fin {l : List UInt8} {M : List (List UInt8)} {f : Nat} (h : OnPart l M f (l.length + 1)) : M = pts l := by
 rcases h with ⟨h1, _⟩ | ⟨_, h⟩
 ·omega
 ·exact h
theorem getE_list (s : ByteArray) (k : Nat) (h : k < s.size) : s.data.toList[k]'(by rw [← Lib.size_eq]; exact h) = s[k] := by
 show _ = s.data[k]
 simp
set_option maxRecDepth 100000 in
set_option maxHeartbeats 2000000 in
theorem parts_any (s : ByteArray) (hs : s.size ≤ 100000) (w : World) :
  Calls Tryz.prog 94 #[.string s] w (RetL (pts s.data.toList) w) := by
 have hown0 := ownTxt_nil w
 go_enter Tryz.func94, Tryz.ntmps94
 go_wp2
 go_loopw [3, 4, 5] (fun l f i wr => ∃ (M : List (List UInt8)) (a k : Nat) , k ≤ s.size + 1 ∧ f = .int .i64 a ∧ i = .int .i64 k ∧ M.length ≤ k ∧ OnPart s.data.toList M a k ∧ OwnTxt w wr l M ∧ Below w.heap.size w wr) (fun _ _ i _ => s.size + 1 - (intOf i).toNat)
 case atStart => exact ⟨[], 0, 0, Nat.zero_le _, rfl, rfl, Nat.le_refl _, onPart_start _, hown0, Below.refl _ _⟩
 case round =>
  obtain ⟨M, a, k, hk, rfl, rfl, hml, hop, hown, hB⟩ := hrel
  have HP := Lib.hid hop; have HO := Lib.hid hown
  have hol : M.length ≤ 1000000 := by omega
  clear hown0 hop hown
  by_cases hlt : k ≤ s.size
  ·have e1 : decide ((k : Int) ≤ (s.size : Int)) = true := decide_eq_true (by omega)
   have hak := onPart_le HP.out (by rw [← Lib.size_eq]; exact hlt)
   have hd := fun W => run_slice_str (P := Tryz.prog) Tryz.underlying9 s (a : Int) (k : Int) (by omega) (by omega) (by omega) W
   simp only [Int.toNat_natCast] at hd
   have hdat := Lib.extract_data s a k
   obtain ⟨t, ht⟩ : ∃ t, t = s.extract a k := ⟨_, rfl⟩
   rw [← ht] at hd hdat
   clear ht
   by_cases hend : k = s.size
   ·have e2 : ((k : Int) == (s.size : Int)) = true := beq_iff_eq.2 (by omega)
    have HN : Hid (OnPart s.data.toList (M ++ [t.data.toList]) (k + 1) (k + 1)) := by
     have := onPart_end (by have := HP.out; rwa [hend, Lib.size_eq] at this) (k + 1)
     rw [hdat, hend, Lib.size_eq]
     rw [hend, Lib.size_eq] at this
     exact this
    clear hdat hend HP
    go_wp2_with (at_builtin; refine wpList_append_txt rfl _ _ rfl HO.out hB rfl rfl hol ?_)
    intro v' w2 hown' hb2
    have HO2 := Lib.hid hown'; clear hown'
    go_wp2_with fail
    go_roundw
    case rel => exact ⟨_, k + 1, k + 1, by omega, by go_num, by go_num, by rw [List.length_append]; exact Nat.add_le_add_right hml 1, HN.out, HO2.out, hb2⟩
    case measure => simp [intOf]; omega
   ·have hlt2 : k < s.size := by omega
    have e2 : ((k : Int) == (s.size : Int)) = false := beq_eq_false_iff_ne.2 (by omega)
    have hll : k < s.data.toList.length := by rw [← Lib.size_eq]; exact hlt2
    by_cases b47 : s[k] = 47
    ·have c1 : ((s[k].toNat : Int) == 47) = true := by rw [b47]; rfl
     have HN : Hid (OnPart s.data.toList (M ++ [t.data.toList]) (k + 1) (k + 1)) := by
      rw [hdat]; exact onPart_cut HP.out hll (by rw [getE_list s k hlt2]; exact b47)
     clear hdat hend HP b47
     go_wp2_with (at_builtin; refine wpList_append_txt rfl _ _ rfl HO.out hB rfl rfl hol ?_)
     intro v' w2 hown' hb2
     have HO2 := Lib.hid hown'; clear hown'
     go_wp2_with fail
     go_roundw
     case rel => exact ⟨_, k + 1, k + 1, by omega, by go_num, by go_num, by rw [List.length_append]; exact Nat.add_le_add_right hml 1, HN.out, HO2.out, hb2⟩
     case measure => simp [intOf]; omega
    ·have c1 : ((s[k].toNat : Int) == 47) = false := byte_ne (n := 47) (by decide) b47
     have HN : Hid (OnPart s.data.toList M a (k + 1)) := onPart_step HP.out hll (by rw [getE_list s k hlt2]; exact b47)
     clear hdat hend HP b47 hd
     go_wp2_with fail
     go_roundw
     case rel => exact ⟨_, a, k + 1, by omega, rfl, by go_num, by omega, HN.out, HO.out, hB⟩
     case measure => simp [intOf]; omega
  ·obtain rfl : k = s.size + 1 := by omega
   have e1 : decide (((s.size + 1 : Nat) : Int) ≤ (s.size : Int)) = false := decide_eq_false (by omega)
   have hM : M = pts s.data.toList := onPart_fin (by have := HP.out; rwa [Lib.size_eq] at this)
   have HST := Lib.hid (by have := HO.out.strs; rw [hM] at this; exact this)
   clear hM HP HO
   go_wp2
   go_ret
   exact ⟨_, rfl, HST.out, hB⟩
def NamesTo (L : List (List UInt8)) (k : Nat) : Prop := ∀ p ∈ L.take k, nameB p = true
theorem names_zero (L : List (List UInt8)) : NamesTo L 0 := fun p hp => by simp at hp
theorem names_step {L : List (List UInt8)} {k : Nat} (h : NamesTo L k) (hk : k < L.length) (hn : nameB L[k] = true) : NamesTo L (k + 1) := fun p hp => by
 rw [List.take_succ_eq_append_getElem hk] at hp
 rcases List.mem_append.1 hp with e | e
 ·exact h p e
 ·rw [List.mem_singleton.1 e]; exact hn
theorem names_all {L : List (List UInt8)} (h : NamesTo L L.length) : L.all nameB = true := List.all_eq_true.2 fun p hp => h p (by rw [List.take_length]; exact hp)
theorem not_all {L : List (List UInt8)} {k : Nat} (hk : k < L.length) (hn : nameB L[k] = false) : ¬ L.all nameB = true := fun h => by
 have := List.all_eq_true.1 h _ (List.getElem_mem hk)
 rw [hn] at this; cases this
theorem strsOf_at (L : List (List UInt8)) (k : Nat) (hk : k < (strsOf L).length) (hk' : k < L.length) : ((strsOf L)[k]).data.toList = L[k] := by
 simp [strsOf]
set_option maxRecDepth 100000 in
set_option maxHeartbeats 2000000 in
theorem refSplit_any (s : ByteArray) (hs : s.size ≤ 100000) (w : World) :
  Calls Tryz.prog 61 #[.string s] w (RetL (splitS s.data.toList) w) := by
 have C := Lib.hid (parts_any s hs)
 obtain ⟨l, hl⟩ : ∃ l, l = s.data.toList := ⟨_, rfl⟩
 rw [← hl] at C ⊢
 clear hl hs
 go_enter Tryz.func61, Tryz.ntmps61
 go_wp2_with fail
 refine (C.out _).mono ?_
 rintro e w1 ⟨v, rfl, hv, hb1⟩
 have HV := Lib.hid hv
 obtain ⟨hm, a, cap, rfl, _, hc⟩ := hv
 have hmm : (strsOf (pts l)).length ≤ 9223372036854775807 := by unfold maxLen at hm; omega
 have HC := Lib.hid hc
 have HLEN := Lib.hid (strsOf_len (pts l))
 have HIN := Lib.hid (strsOf_at (pts l))
 clear hm hc
 obtain ⟨L, hL⟩ : ∃ L, L = strsOf (pts l) := ⟨_, rfl⟩
 rw [← hL] at HV HC HLEN HIN hmm ⊢
 have HLS := Lib.hid hL
 clear hL
 by_cases h8 : 8 < L.length
 ·have e1 : decide ((8 : Int) < (L.length : Int)) = true := decide_eq_true (by omega)
  have HN : Hid (splitS l = []) := if_neg (fun hh => by have := HLEN.out; omega)
  go_wp2
  go_ret
  exact ⟨_, rfl, by rw [HN.out]; exact isStrs_nil _, hb1⟩
 ·have e1 : decide ((8 : Int) < (L.length : Int)) = false := decide_eq_false (by omega)
  go_wp2
  go_loop [4] (fun i => ∃ k : Nat, k ≤ L.length ∧ i = .int .i64 k ∧ NamesTo (pts l) k) (fun i => L.length - (intOf i).toNat)
  case atStart => exact ⟨0, Nat.zero_le _, rfl, names_zero _⟩
  case round =>
   obtain ⟨k, hk, rfl, hn⟩ := hrel
   have HN := Lib.hid hn; clear hn
   by_cases hlt : k < L.length
   ·obtain ⟨b1, o1, rfl, _, g1⟩ := HC.out (by omega)
    have q1 := g1 k hlt
    clear g1
    have hin := HIN.out k hlt (by rw [← HLEN.out]; exact hlt)
    obtain ⟨y, hy⟩ : ∃ y, y = L[k] := ⟨_, rfl⟩
    rw [← hy] at q1 hin
    have HY := Lib.hid hin; clear hin hy
    have hbk : decide ((k : Int) < (L.length : Int)) = true := by simpa using (show (k : Int) < L.length by omega)
    have R := Lib.hid (refName_any y)
    rcases hb : nameB y.data.toList with _ | _
    ·have HS : Hid (splitS l = []) := if_neg (fun hh => not_all (by rw [← HLEN.out]; exact hlt) (by rw [← HY.out]; exact hb) hh.2)
     rw [hb] at R
     clear hb
     go_wp2_with ((with_reducible refine (R.out _).mono ?_); rintro e w2 ⟨rfl, rfl⟩)
     go_ret
     exact ⟨_, rfl, by rw [HS.out]; exact isStrs_nil _, hb1⟩
    ·have HS := Lib.hid (names_step HN.out (by rw [← HLEN.out]; exact hlt) (by rw [← HY.out]; exact hb))
     rw [hb] at R
     clear hb
     go_wp2_with ((with_reducible refine (R.out _).mono ?_); rintro e w2 ⟨rfl, rfl⟩)
     go_round
     case rel => exact ⟨k + 1, by omega, by go_num, HS.out⟩
     case measure => simp [intOf]; omega
   ·obtain rfl : k = L.length := by omega
    have HS : Hid (splitS l = pts l) := if_pos ⟨by rw [← HLEN.out]; omega, names_all (by rw [← HLEN.out]; exact HN.out)⟩
    go_wp2
    go_ret
    exact ⟨_, rfl, by rw [HS.out, ← HLS.out]; exact HV.out, hb1⟩
def isPath (l : List UInt8) : Bool := decide (0 < (splitS l).length)
set_option maxRecDepth 100000 in
theorem refFit_any (s : ByteArray) (hs : s.size ≤ 100000) (w : World) :
  Calls Tryz.prog 80 #[.string s] w fun e w' => e = .returned (.bool (isPath s.data.toList)) ∧ Below w.heap.size w w' := by
 have C := Lib.hid (refSplit_any s hs)
 go_enter Tryz.func80, Tryz.ntmps80
 go_wp2_with fail
 refine (C.out _).mono ?_
 rintro e w1 ⟨v, rfl, ⟨hm, a, cap, rfl, _, hc⟩, hb1⟩
 have HE : Hid (isPath s.data.toList = decide ((0 : Int) < ((strsOf (splitS s.data.toList)).length : Int))) := by
  unfold isPath; rw [strsOf_len]; exact decide_eq_decide.2 (by omega)
 have hmm : (strsOf (splitS s.data.toList)).length ≤ 9223372036854775807 := by unfold maxLen at hm; omega
 clear hc hm
 go_wp2
 go_ret
 exact ⟨ret_val (congrArg Value.bool (by rw [HE.out]; simp)), hb1⟩
theorem joinS_take {L : List (List UInt8)} {k : Nat} (hk : k < L.length) (h0 : 0 < k) : joinS (L.take (k + 1)) = joinS (L.take k) ++ 47 :: L[k] := by
 rw [List.take_succ_eq_append_getElem hk, joinS_snoc (by intro e; have h1 : (L.take k).length = k := by { rw [List.length_take]; omega }; rw [e] at h1; change 0 = k at h1; omega)]
theorem str_of {x : ByteArray} {l : List UInt8} (h : x.data.toList = l) : x = ⟨l.toArray⟩ := by rw [← h]
set_option maxRecDepth 100000 in
set_option maxHeartbeats 2000000 in
theorem refJoin_any (v : Value) (L : List ByteArray) (w : World) (hv : IsStrs w v L) :
  Calls Tryz.prog 93 #[v] w fun e w' => e = .returned (.string ⟨(joinN (txts L)).toArray⟩) ∧ w = w' := by
 obtain ⟨hm, a, cap, rfl, _, hc⟩ := hv
 have hmm : L.length ≤ 9223372036854775807 := by unfold maxLen at hm; omega
 have HC := Lib.hid hc
 have HLEN := Lib.hid (txts_len L)
 clear hm hc
 by_cases h8 : 8 < L.length
 ·have e1 : decide ((8 : Int) < (L.length : Int)) = true := decide_eq_true (by omega)
  have HN : Hid (joinN (txts L) = []) := joinN_long (by rw [HLEN.out]; exact h8)
  go_enter Tryz.func93, Tryz.ntmps93
  go_wp2
  go_ret
  exact ⟨by rw [HN.out]; rfl, rfl⟩
 ·have e1 : decide ((8 : Int) < (L.length : Int)) = false := decide_eq_false (by omega)
  go_enter Tryz.func93, Tryz.ntmps93
  go_wp2
  go_loop [3, 4] (fun r i => ∃ (x : ByteArray) (k : Nat), k ≤ L.length ∧ i = .int .i64 k ∧ r = .string x ∧ x.size ≤ k * 32 ∧ x.data.toList = joinS ((txts L).take k) ∧ NamesTo (txts L) k) (fun _ i => L.length - (intOf i).toNat)
  case atStart => exact ⟨⟨#[]⟩, 0, Nat.zero_le _, rfl, rfl, Nat.le_refl _, rfl, names_zero _⟩
  case round =>
   obtain ⟨x, k, hk, rfl, rfl, hxs, hx, hn⟩ := hrel
   have HN := Lib.hid hn; have HX := Lib.hid hx; clear hn hx
   by_cases hlt : k < L.length
   ·obtain ⟨b1, o1, rfl, _, g1⟩ := HC.out (by omega)
    have q1 := g1 k hlt
    clear g1
    have hlt2 : k < (txts L).length := by rw [HLEN.out]; exact hlt
    have hin : (txts L)[k] = L[k].data.toList := txts_get hlt
    obtain ⟨y, hy⟩ : ∃ y, y = L[k] := ⟨_, rfl⟩
    rw [← hy] at q1 hin
    have HY := Lib.hid hin; clear hin hy
    have hbk : decide ((k : Int) < (L.length : Int)) = true := by simpa using (show (k : Int) < L.length by omega)
    have R := Lib.hid (refName_any y)
    rcases hb : nameB y.data.toList with _ | _
    ·have HS : Hid (joinN (txts L) = []) := joinN_bad (List.getElem_mem hlt2) (by rw [HY.out]; exact hb)
     rw [hb] at R
     clear hb hxs
     go_wp2_with ((with_reducible refine (R.out _).mono ?_); rintro e w2 ⟨rfl, rfl⟩)
     go_ret
     exact ⟨by rw [HS.out]; rfl, rfl⟩
    ·have hys : y.size ≤ 31 := by have := (nameB_iff.1 hb).2.1; rw [← Lib.size_eq] at this; exact this
     have HS := Lib.hid (names_step HN.out hlt2 (by rw [HY.out]; exact hb))
     rw [hb] at R
     clear hb
     by_cases h0 : 0 < k
     ·have e0 : decide ((0 : Int) < (k : Int)) = true := decide_eq_true (by omega)
      have s1 : ¬ 9223372036854775807 < x.size + 1 := by omega
      have s1' : ¬ 9223372036854775807 < x.size + (⟨#[47]⟩ : ByteArray).size := s1
      obtain ⟨x1, hx1⟩ : ∃ x1, x1 = x ++ (⟨#[47]⟩ : ByteArray) := ⟨_, rfl⟩
      have hx1s : x1.size = x.size + 1 := by rw [hx1, size_of_app]; rfl
      have s2 : ¬ 9223372036854775807 < x1.size + y.size := by omega
      have HJ : Hid ((x1 ++ y).data.toList = joinS ((txts L).take (k + 1)) ∧ (x1 ++ y).size ≤ (k + 1) * 32) := by
       refine ⟨?_, by rw [size_of_app]; omega⟩
       rw [joinS_take hlt2 h0, bytes_app, hx1, bytes_app, HX.out, HY.out]; simp
      have HX1 := Lib.hid hx1
      clear hx1
      go_wp2_with ((with_reducible refine (R.out _).mono ?_); rintro e w2 ⟨rfl, rfl⟩)
      rw [← HX1.out]
      go_wp2
      go_round
      case rel => exact ⟨_, k + 1, by omega, by go_num, rfl, HJ.out.2, HJ.out.1, HS.out⟩
      case measure => simp [intOf]; omega
     ·have e0 : decide ((0 : Int) < (k : Int)) = false := decide_eq_false (by omega)
      have HK : Hid (k = 0) := by show k = 0; omega
      have s2 : ¬ 9223372036854775807 < x.size + y.size := by omega
      have HJ : Hid ((x ++ y).data.toList = joinS ((txts L).take (k + 1)) ∧ (x ++ y).size ≤ (k + 1) * 32) := by
       refine ⟨?_, by rw [size_of_app]; omega⟩
       rw [bytes_app, HX.out, List.take_succ_eq_append_getElem hlt2, HY.out, HK.out]; simp [joinS]
      go_wp2_with ((with_reducible refine (R.out _).mono ?_); rintro e w2 ⟨rfl, rfl⟩)
      go_round
      case rel => exact ⟨_, k + 1, by omega, by go_num, rfl, HJ.out.2, HJ.out.1, HS.out⟩
      case measure => simp [intOf]; omega
   ·obtain rfl : k = L.length := by omega
    have HJ : Hid (x = ⟨(joinN (txts L)).toArray⟩) := by
     rw [joinN_small (by rw [HLEN.out]; omega) (names_all (by rw [HLEN.out]; exact HN.out))]
     refine str_of ?_
     rw [HX.out, List.take_of_length_le (by rw [HLEN.out]; exact Nat.le_refl _)]
    clear hxs
    go_wp2
    go_ret
    exact ⟨by rw [← HJ.out]; rfl, rfl⟩
abbrev Tx := List UInt8
theorem x_irrefl (x : Tx) : ¬ x < x := List.lt_irrefl x
theorem x_trans {x y z : Tx} (h : x < y) (h' : y < z) : x < z := List.lt_trans h h'
theorem x_tri (x y : Tx) (h : ¬ x < y) (h' : ¬ y < x) : x = y := List.le_antisymm (List.not_lt.1 h') (List.not_lt.1 h)
theorem x_asymm {x y : Tx} (h : x < y) : ¬ y < x := fun h' => x_irrefl _ (x_trans h h')
def ordX (x y : Tx) : Int := if x < y then -1 else if y < x then 1 else 0
theorem ordX_lt {x y : Tx} (h : x < y) : ordX x y = -1 := if_pos h
theorem ordX_gt {x y : Tx} (h : y < x) : ordX x y = 1 := by rw [ordX, if_neg (x_asymm h), if_pos h]
theorem ordX_eq (x : Tx) : ordX x x = 0 := by rw [ordX, if_neg (x_irrefl x), if_neg (x_irrefl x)]
theorem cmpP_cons (a b : Tx) (x y : List Tx) : cmpP (a :: x) (b :: y) = if ordX a b = 0 then cmpP x y else ordX a b := by
 by_cases h : a < b
 ·rw [ordX_lt h, if_neg (by decide), cmpP, if_pos h]
 ·by_cases h2 : b < a
  ·rw [ordX_gt h2, if_neg (by decide), cmpP, if_neg h, if_pos h2]
  ·rw [x_tri a b h h2, ordX_eq, if_pos rfl, cmpP, if_neg (x_irrefl b), if_neg (x_irrefl b)]
def SameTo (X Y : List Tx) (k : Nat) : Prop := cmpP X Y = cmpP (X.drop k) (Y.drop k)
theorem same_zero (X Y : List Tx) : SameTo X Y 0 := rfl
theorem same_one {X Y : List Tx} {k : Nat} (h : SameTo X Y k) (hx : k < X.length) (hy : k < Y.length) : cmpP X Y = if ordX X[k] Y[k] = 0 then cmpP (X.drop (k + 1)) (Y.drop (k + 1)) else ordX X[k] Y[k] := by
 unfold SameTo at h
 rw [h, List.drop_eq_getElem_cons hx, List.drop_eq_getElem_cons hy, cmpP_cons]
theorem same_step {X Y : List Tx} {k : Nat} (h : SameTo X Y k) (hx : k < X.length) (hy : k < Y.length) (h0 : ordX X[k] Y[k] = 0) : SameTo X Y (k + 1) := by
 unfold SameTo; rw [same_one h hx hy, if_pos h0]
theorem same_stop {X Y : List Tx} {k : Nat} (h : SameTo X Y k) (hx : k < X.length) (hy : k < Y.length) (h0 : ordX X[k] Y[k] ≠ 0) : cmpP X Y = ordX X[k] Y[k] := by
 rw [same_one h hx hy, if_neg h0]
theorem same_longer {X Y : List Tx} {k : Nat} (h : SameTo X Y k) (hx : k < X.length) (hy : Y.length ≤ k) : cmpP X Y = 1 := by
 unfold SameTo at h
 rw [h, List.drop_eq_getElem_cons hx, List.drop_of_length_le hy]; rfl
theorem same_shorter {X Y : List Tx} {k : Nat} (h : SameTo X Y k) (hx : X.length ≤ k) (hy : k < Y.length) : cmpP X Y = -1 := by
 unfold SameTo at h
 rw [h, List.drop_eq_getElem_cons hy, List.drop_of_length_le hx]; rfl
theorem same_end {X Y : List Tx} {k : Nat} (h : SameTo X Y k) (hx : X.length ≤ k) (hy : Y.length ≤ k) : cmpP X Y = 0 := by
 unfold SameTo at h
 rw [h, List.drop_of_length_le hx, List.drop_of_length_le hy]; rfl
theorem ordX_cases (x y : Tx) : (x < y ∧ ordX x y = -1) ∨ (y < x ∧ ordX x y = 1) ∨ (x = y ∧ ordX x y = 0) := by
 by_cases h : x < y
 ·exact .inl ⟨h, ordX_lt h⟩
 ·by_cases h2 : y < x
  ·exact .inr (.inl ⟨h2, ordX_gt h2⟩)
  ·obtain rfl := x_tri x y h h2
   exact .inr (.inr ⟨rfl, ordX_eq x⟩)
set_option maxRecDepth 100000 in
set_option maxHeartbeats 2000000 in
theorem refDir_any (s : ByteArray) (hs : s.size ≤ 100000) (w : World) :
  Calls Tryz.prog 60 #[.string s] w fun e w' => e = .returned (.string ⟨(dirS s.data.toList).toArray⟩) ∧ Below w.heap.size w w' := by
 have C := Lib.hid (refSplit_any s hs)
 have J := Lib.hid refJoin_any
 obtain ⟨l, hl⟩ : ∃ l, l = s.data.toList := ⟨_, rfl⟩
 rw [← hl] at C ⊢
 clear hl hs
 go_enter Tryz.func60, Tryz.ntmps60
 go_wp2_with fail
 refine (C.out _).mono ?_
 rintro e w1 ⟨v, rfl, hv, hb1⟩
 have HV := Lib.hid hv
 obtain ⟨hm, a, cap, rfl, ⟨_, hcap⟩, hc⟩ := hv
 have HLEN := Lib.hid (strsOf_len (splitS l))
 have HT := Lib.hid (txts_strsOf (splitS l))
 obtain ⟨L, hL⟩ : ∃ L, L = strsOf (splitS l) := ⟨_, rfl⟩
 rw [← hL] at HV HLEN HT hm hcap hc ⊢
 clear hL
 have hmm : L.length ≤ 9223372036854775807 := by unfold maxLen at hm; omega
 by_cases h2 : L.length < 2
 ·have e2 : decide ((L.length : Int) < 2) = true := decide_eq_true (by omega)
  have HN : Hid (dirS l = []) := splitS_short (by rw [← HLEN.out]; exact h2)
  clear hc hm hcap
  go_wp2
  go_ret
  exact ⟨by rw [HN.out]; rfl, hb1⟩
 ·have e2 : decide ((L.length : Int) < 2) = false := decide_eq_false (by omega)
  obtain ⟨b, off, rfl, hlt, hcell⟩ := hc (by omega)
  have hV2 : IsStrs w1 (.slice (some ⟨b, off, none⟩) (L.length - 1) cap) L.dropLast := by
   refine ⟨by rw [List.length_dropLast]; omega, some ⟨b, off, none⟩, cap, by rw [List.length_dropLast], ⟨fun h => (by cases h), by rw [List.length_dropLast]; omega⟩, fun _ => ⟨b, off, rfl, hlt, fun i hi => ?_⟩⟩
   rw [List.length_dropLast] at hi
   rw [hcell i (by omega), List.getElem_dropLast]
  have HV2 := Lib.hid hV2
  have J2 := Lib.hid (fun hv => J.out (.slice (some ⟨b, off, none⟩) (L.length - 1) cap) L.dropLast w1 hv)
  have HD : Hid (joinN (txts L.dropLast) = dirS l) := by
   show _ = _
   rw [show txts L.dropLast = (txts L).dropLast by simp [txts], HT.out]; rfl
  have hz : ((L.length : Int) - 1) = ((L.length - 1 : Nat) : Int) := by omega
  have HZ := Lib.hid hz
  clear hc hcell hV2 hz J
  go_wp2_with fail
  refine (J2.out HV2.out).mono ?_
  rintro e w2 ⟨rfl, rfl⟩
  go_wp2
  go_ret
  exact ⟨by rw [HD.out]; rfl, hb1⟩
theorem find_none_step {L : List It} {t : List UInt8} {k : Nat} (hk : k < L.length) (h : findT (L.take k) t = none) (hne : L[k].t ≠ t) : findT (L.take (k + 1)) t = none := by
 rw [List.take_succ_eq_append_getElem hk, findT_app_none h, findT_cons, if_neg hne]; rfl
theorem find_some_step {L : List It} {t : List UInt8} {k : Nat} (hk : k < L.length) (h : findT (L.take k) t = none) (he : L[k].t = t) : findT L t = some L[k] := by
 conv => lhs; rw [← List.take_append_drop k L]
 rw [findT_app_none h, List.drop_eq_getElem_cons hk, findT_cons, if_pos he]
set_option maxRecDepth 100000 in
set_option maxHeartbeats 2000000 in
theorem rFind_any (v : Value) (L : List It) (s : ByteArray) (w : World) (h : IsItems w v L) :
  Calls Tryz.prog 98 #[v, .string s] w fun e w' => e = .returned (.tuple #[itV (foundI L s.data.toList), .bool (findT L s.data.toList).isSome]) ∧ Below w.heap.size w w' := by
 have HI := Lib.hid h
 obtain ⟨hm, a, cap, rfl, _, hc⟩ := h
 have hmm : L.length ≤ 9223372036854775807 := by unfold maxLen at hm; omega
 clear hc hm
 go_enter Tryz.func98, Tryz.ntmps98
 go_wp2
 go_loop [6] (fun i => ∃ k : Nat, k ≤ L.length ∧ i = .int .i64 k ∧ findT (L.take k) s.data.toList = none) (fun i => L.length - (intOf i).toNat)
 case atStart => exact ⟨0, Nat.zero_le _, rfl, rfl⟩
 case round =>
  obtain ⟨k, hk, rfl, hn⟩ := hrel
  have HN := Lib.hid hn; clear hn
  by_cases hlt : k < L.length
  ·have hI := HI.out.stays ((Below.refl _ w).alloc (Nat.le_refl _) (.cells #[.string ⟨#[]⟩, .bool false, .bool false, .string ⟨#[]⟩] 51))
   obtain ⟨_, _, _, e, _, hc⟩ := hI
   cases e
   obtain ⟨b, off, rfl, _, g⟩ := hc (by omega)
   obtain ⟨c0, c1, c2, c3⟩ := g k hlt
   clear g hc
   have hbk : decide ((k : Int) < (L.length : Int)) = true := by simpa using (show (k : Int) < L.length by omega)
   by_cases he : L[k].p = s
   ·have HS := Lib.hid (find_some_step hlt HN.out (by rw [It.t, he]))
    have hb1 := beq_true he
    have HE := Lib.hid he; clear he
    go_wp2
    exact bodyPost_ret (v := .tuple #[itV L[k], .bool true]) (by simp [results, Tryz.results98, go_sem]) rfl ⟨by rw [foundI_some HS.out, HS.out]; rfl, (Below.refl _ _).alloc (Nat.le_refl _) _⟩
   ·have HS := Lib.hid (find_none_step hlt HN.out (fun e => he (str_eq' e)))
    have hb1 := beq_false he
    clear he
    go_wp2
    go_round
    case rel => exact ⟨k + 1, by omega, by go_num, HS.out⟩
    case measure => simp [intOf]; omega
  ·have HS : Hid (findT L s.data.toList = none) := by
    have := HN.out; rwa [List.take_of_length_le (by omega)] at this
   go_wp2
   exact bodyPost_ret (v := .tuple #[itV zeroIt, .bool false]) (by simp [results, Tryz.results98, go_sem, zeroIt]) rfl ⟨by rw [foundI_none HS.out, HS.out]; rfl, (Below.refl _ _).alloc (Nat.le_refl _) _⟩
set_option maxRecDepth 100000 in
set_option maxHeartbeats 2000000 in
theorem rUnder_any (v : Value) (L : List It) (s : ByteArray) (w : World) (h : IsItems w v L) (hs : s.size ≤ 100000) :
  Calls Tryz.prog 82 #[v, .string s] w fun e w' => e = .returned (.bool (underT L s.data.toList)) ∧ Below w.heap.size w w' := by
 have HI := Lib.hid h
 have C := Lib.hid (refDir_any s hs)
 have F := Lib.hid rFind_any
 clear h hs
 obtain ⟨t, ht⟩ : ∃ t, t = s.data.toList := ⟨_, rfl⟩
 rw [← ht] at C ⊢
 clear ht
 by_cases hd : dirS t = []
 ·have HU : Hid (underT L t = true) := show _ = _ by unfold underT; rw [hd]; rfl
  have hd2 : (dirS t).isEmpty = true := by rw [hd]; rfl
  have HD := Lib.hid hd
  clear hd
  go_enter Tryz.func82, Tryz.ntmps82
  go_wp2_with fail
  refine (C.out _).mono ?_
  rintro e w1 ⟨rfl, hb1⟩
  go_wp2
  go_ret
  exact ⟨by rw [HU.out]; rfl, hb1⟩
 ·have HU : Hid (underT L t = (foundI L (dirS t)).d) := show _ = _ by unfold underT; rw [decide_eq_false hd]; rfl
  have hd2 : (dirS t).isEmpty = false := by simpa using hd
  clear hd
  go_enter Tryz.func82, Tryz.ntmps82
  go_wp2_with fail
  refine (C.out _).mono ?_
  rintro e w1 ⟨rfl, hb1⟩
  have F1 := Lib.hid (F.out v L ⟨(dirS t).toArray⟩ w1 (HI.out.stays hb1))
  go_wp2_with fail
  refine F1.out.mono ?_
  rintro e w2 ⟨rfl, hb2⟩
  have hB := below_step hb1 hb2
  clear hb1 hb2 F1 F
  have hsz := hB.size
  have HN : Hid (¬ (findT L (dirS t)).isSome = true → (foundI L (dirS t)).d = false) := show _ → _ from fun h => by rw [foundI_none (Option.not_isSome_iff_eq_none.1 h)]; rfl
  go_wp2
  ·go_ret
   exact ⟨by rw [HU.out]; rfl, hB.alloc hsz _⟩
  ·rename_i hh
   go_ret
   exact ⟨by rw [HU.out, HN.out hh]; rfl, hB.alloc hsz _⟩
def smallI (x : It) : Bool := decide (x.p.size ≤ 400) && decide (x.c.size ≤ 40000)
def fewB (L : List It) : Bool := decide (L.length ≤ 70) && L.all smallI
theorem few_len {L : List It} (h : fewB L = true) : L.length ≤ 70 := by
 unfold fewB at h; rw [Bool.and_eq_true] at h; exact of_decide_eq_true h.1
theorem few_mem {L : List It} (h : fewB L = true) : ∀ x ∈ L, x.p.size ≤ 400 ∧ x.c.size ≤ 40000 := by
 unfold fewB at h; rw [Bool.and_eq_true] at h
 intro x hx
 have := List.all_eq_true.1 h.2 x hx
 unfold smallI at this; rw [Bool.and_eq_true] at this
 exact ⟨of_decide_eq_true this.1, of_decide_eq_true this.2⟩
theorem few_mk {L : List It} (h1 : L.length ≤ 70) (h2 : ∀ x ∈ L, x.p.size ≤ 400 ∧ x.c.size ≤ 40000) : fewB L = true := by
 unfold fewB; rw [decide_eq_true h1, Bool.true_and, List.all_eq_true]
 intro x hx
 unfold smallI; rw [decide_eq_true (h2 x hx).1, decide_eq_true (h2 x hx).2]; rfl
end Go.Proofs.YtlccihidedfemaaGreatDoor

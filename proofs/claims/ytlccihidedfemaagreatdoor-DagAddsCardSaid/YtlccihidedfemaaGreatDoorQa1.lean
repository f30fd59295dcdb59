/-
  Texts put together: contracts and laws that this seat's proofs share.
-/
import Derived.Test.YtlccihidedfemaaGreatDoorQa0
import Derived.WalkKit
import Derived.ProofKit
import Derived.OpenShut
import Derived.SizedLaws
import Derived.Lib.SmallJoins
import Derived.ChangeSame
import Derived.ChangeMaps5
import Derived.Deep.Slices
import Derived.Deep.Fields
import Derived.RegionTactic
import Derived.BigRegion
import Derived.LoopTactic
import Derived.BigRegionIn
import Derived.Sort.CutIn
import Derived.Deep.QuietTactic
import Derived.BigQuiet
import Derived.Outline
import Derived.Laws.Cover1
import Derived.RangeFuncFrom
import Derived.RangeFuncBox
import Derived.Laws.RangeAny
import Derived.Deep.LoopGhost
import Derived.WalkMore
import Derived.Shelf.Strings.BuilderK
import Derived.ChangeAlike
import Derived.Test.YtlccihidedfemaaGreatDoorProg
import Derived.Shelf.Strings.Builder2
import Derived.WalkSmall
import Derived.Lib.Hide
namespace Go.Proofs.YtlccihidedfemaaGreatDoor
structure It where
  p : ByteArray
  d : Bool
  e : Bool
  c : ByteArray
def It.t (x : It) : List UInt8 := x.p.data.toList
def zeroIt : It := ⟨⟨#[]⟩, false, false, ⟨#[]⟩⟩
def Rise (L : List It) : Prop := L.Pairwise fun a b => orderS a.t b.t = -1
def findT (L : List It) (t : List UInt8) : Option It := L.find? fun x => decide (x.t = t)
def foundI (L : List It) (t : List UInt8) : It := (findT L t).getD zeroIt
def sizeT (L : List It) : Nat := (L.map fun x => x.c.size).sum
def underT (L : List It) (t : List UInt8) : Bool := decide (dirS t = []) || (foundI L (dirS t)).d
def badI (x : It) : Bool := x.d && (decide (x.c.size ≠ 0) || x.e)
def lastN (t : List UInt8) : List UInt8 := (splitS t).getLastD []
structure TFit (L : List It) : Prop where
  len : L.length ≤ 60
  rise : Rise L
  path : ∀ x ∈ L, pathB x.t = true
  form : ∀ x ∈ L, badI x = false
  data : ∀ x ∈ L, x.c.size ≤ 32768
  under : ∀ x ∈ L, underT L x.t = true
  size : sizeT L ≤ 65536
noncomputable def fitT (L : List It) : Bool := @decide (TFit L) (Classical.propDecidable _)
theorem rise_filter {L : List It} (h : Rise L) (p : It → Bool) : Rise (L.filter p) := List.Pairwise.filter p h
theorem order_ne {a b : List UInt8} (h : orderS a b = -1) : a ≠ b := fun e => by rw [(order_zero a b).2 e] at h; cases h
theorem order_self (a : List UInt8) : orderS a a = 0 := (order_zero a a).2 rfl
theorem findT_mem {L : List It} {t : List UInt8} {x : It} (h : findT L t = some x) : x ∈ L ∧ x.t = t :=
  ⟨List.mem_of_find?_eq_some h, by have := List.find?_some h; simpa using this⟩
theorem foundI_some {L : List It} {t : List UInt8} {x : It} (h : findT L t = some x) : foundI L t = x := by unfold foundI; rw [h]; rfl
theorem foundI_none {L : List It} {t : List UInt8} (h : findT L t = none) : foundI L t = zeroIt := by unfold foundI; rw [h]; rfl
end Go.Proofs.YtlccihidedfemaaGreatDoor
set_option linter.unusedVariables false
namespace Go.Proofs.YtlccihidedfemaaGreatDoor
open Go.RowKit
abbrev itV (x : It) : Value := .agg #[.string x.p, .bool x.d, .bool x.e, .string x.c]
def ItAt (w : World) (b o : Nat) (x : It) : Prop :=
  w.cell? ⟨b, o, none⟩ = some (.string x.p) ∧ w.cell? ⟨b, o + 1, none⟩ = some (.bool x.d) ∧ w.cell? ⟨b, o + 2, none⟩ = some (.bool x.e) ∧ w.cell? ⟨b, o + 3, none⟩ = some (.string x.c)
def IsItems (w : World) (v : Value) (L : List It) : Prop :=
  L.length ≤ maxLen ∧ ∃ (a : Option Addr) (cap : Nat), v = .slice a L.length cap ∧ ((a = none → L = [] ∧ cap = 0) ∧ L.length ≤ cap) ∧ (0 < L.length → ∃ b off, a = some ⟨b, off, none⟩ ∧ b < w.heap.size ∧ ∀ i (h : i < L.length), ItAt w b (off + i * 4) L[i])
theorem isItems_nil (w : World) : IsItems w (.slice none 0 0) [] := ⟨Nat.zero_le _, none, 0, rfl, ⟨fun _ => ⟨rfl, rfl⟩, Nat.le_refl _⟩, fun h => absurd h (by simp)⟩
theorem ItAt.stays {w w' : World} {b o : Nat} {x : It} (h : ItAt w b o x) (hlt : b < w.heap.size) (hb : Below w.heap.size w w') : ItAt w' b o x :=
  ⟨(hb.cell (p := ⟨b, _, none⟩) hlt).trans h.1, (hb.cell (p := ⟨b, _, none⟩) hlt).trans h.2.1, (hb.cell (p := ⟨b, _, none⟩) hlt).trans h.2.2.1, (hb.cell (p := ⟨b, _, none⟩) hlt).trans h.2.2.2⟩
theorem IsItems.stays {w w' : World} {v : Value} {L : List It} (h : IsItems w v L) (hb : Below w.heap.size w w') : IsItems w' v L := by
  obtain ⟨h0, a, cap, h1, h2, h3⟩ := h
  refine ⟨h0, a, cap, h1, h2, fun hL => ?_⟩
  obtain ⟨b, off, e, hlt, hc⟩ := h3 hL
  exact ⟨b, off, e, Nat.lt_of_lt_of_le hlt hb.size, fun i hi => (hc i hi).stays hlt hb⟩
end Go.Proofs.YtlccihidedfemaaGreatDoor
set_option linter.unusedVariables false
namespace Go.Proofs.YtlccihidedfemaaGreatDoor
open Go.ChangeShapes Go.WideShapes Go.ChangeAt Go.RowKit Go.Joins Go.Deep
set_option maxRecDepth 100000 in
theorem trod_obj {H : Type} {enc : TypeId × Value → H} {W : World} {base n : Nat} {spare : Nat → Bool} {held : Bool} {cs : List Value} {y : DataW H × List MemPlace}
    (hl : cs.length = 2) (h : DataW.trod enc Tryz.prog W base spare held n 33 cs = some y) : ∃ x : Ob, cs = obC x := by
  match cs, hl with
  | [c0, c1], _ =>
    obtain ⟨xs, m, _, _, _, hlen, hg⟩ := DataW.trod_struct Tryz.underlying33 h
    have k9 : Tryz.prog.cellsOf 9 = 1 := by kernel_rfl
    match xs, hlen with
    | [y0, y1], _ =>
      have h0 : DataW.trod enc Tryz.prog W base spare held m 9 [c0] = some y0 := by simpa [k9] using hg 0 _ rfl
      have h1 : DataW.trod enc Tryz.prog W base spare held m 9 [c1] = some y1 := by simpa [k9] using hg 1 _ rfl
      obtain ⟨s0, e0, _, _⟩ := DataW.trod_string Tryz.underlying9 h0
      obtain ⟨s1, e1, _, _⟩ := DataW.trod_string Tryz.underlying9 h1
      simp at e0 e1
      subst e0 e1
      exact ⟨⟨s0, s1⟩, rfl⟩
set_option maxRecDepth 100000 in
theorem open_obj {H : Type} {enc : TypeId × Value → H} {W : World} {r : Reach} {b0 : Nat} {base : Nat} {spare : Nat → Bool} {held : Bool} {v : Value} {d : DataW H} {p : List MemPlace}
    (hv : Value.okWide Tryz.prog W r b0 33 v) (h : DataW.Trod enc Tryz.prog W base spare held 33 v d p) : ∃ x : Ob, v = obV x := by
  obtain ⟨cs, rfl, hsz⟩ := okWide_struct Tryz.underlying33 hv
  have h4 : cs.size = 2 := hsz.trans (by kernel_rfl)
  obtain ⟨fuel, hf⟩ := h
  obtain ⟨x, hx⟩ := trod_obj (cs := cs.toList) (by simpa using h4) hf
  refine ⟨x, ?_⟩
  have : cs = #[.string x.k, .string x.r] := by
    apply Array.toList_inj.1; rw [hx]
  rw [this]
set_option maxRecDepth 100000 in
theorem open_objs {H : Type} {enc : TypeId × Value → H} {W : World} {r : Reach} {b0 : Nat} {spare : Nat → Bool} {held : Bool} {v : Value} {d : DataW H} {ps : List MemPlace}
    (hval : Value.okWide Tryz.prog W r b0 27 v) (h : DataW.Trod enc Tryz.prog W 0 spare held 27 v d ps) : ∃ L, IsObs W v L := by
  obtain ⟨a0, len, cap, rfl⟩ := okWide_slice Tryz.underlying27 hval
  obtain ⟨fuel, hf⟩ := h
  have hC : Tryz.prog.cellsOf 33 = 2 := by kernel_rfl
  rcases open_slice Tryz.underlying27 hf with ⟨hcs, _⟩ | ⟨a, len', cap', m, n, D, Pl, hcs, _, hl, hm, hmm, _, hi⟩
  · simp [Value.cells] at hcs
    obtain ⟨rfl, rfl, rfl⟩ := hcs
    exact ⟨[], obs_nil W⟩
  · simp [Value.cells] at hcs
    obtain ⟨rfl, rfl, rfl⟩ := hcs
    have hlm : len ≤ m := by rw [hmm]; split <;> omega
    have hit : ∀ i, i < len → ∃ x : Ob, ∀ j u, (obC x)[j]? = some u → W.cell? (a.add (i * 2 + j)) = some u := fun i him => by
      obtain ⟨cs, hc, ht⟩ := hi i (by omega)
      rw [hC] at hc
      obtain ⟨_, hcl, hat⟩ := World.cells?_some hc
      obtain ⟨x, rfl⟩ := trod_obj hcl ht
      refine ⟨x, fun j u hj => ?_⟩
      have hj4 : j < 2 := by
        have := (List.getElem?_eq_some_iff.1 hj).1
        simpa using this
      have := hat j hj4
      rw [← Go.Deep.add_add, this]; exact hj
    obtain ⟨f, hfx⟩ : ∃ f : Nat → Ob, ∀ i, i < len → ∀ j u, (obC (f i))[j]? = some u → W.cell? (a.add (i * 2 + j)) = some u := by
      refine ⟨fun i => if h : i < len then Classical.choose (hit i h) else zeroOb, fun i h => ?_⟩
      simp only [h, dif_pos]
      exact Classical.choose_spec (hit i h)
    refine ⟨(List.range len).map f, by simp; omega, some a, cap, by simp, ⟨fun h => (by cases h), by simpa using hl⟩, fun h0 => ?_⟩
    have h0' : 0 < len := by simpa using h0
    have hc0 := hfx 0 h0' 0 _ rfl
    obtain ⟨b, off, spot⟩ := a
    have hspot : spot = none := by simpa [Addr.add] using World.cell?_spot hc0
    subst hspot
    refine ⟨b, off, rfl, ?_, fun i hi => ?_⟩
    · have := block_lt_of_cell hc0
      simpa [Addr.add] using this
    · have hil : i < len := by simpa using hi
      have hg : ((List.range len).map f)[i] = f i := by simp
      rw [hg]
      have hh := fun j u hu => hfx i hil j u hu
      refine ⟨?_, ?_⟩
      · have := hh 0 _ rfl; rw [add_plain'] at this; exact this
      · have := hh 1 _ rfl; rw [add_plain', ← Nat.add_assoc] at this; exact this
end Go.Proofs.YtlccihidedfemaaGreatDoor
namespace Go.Proofs.YtlccihidedfemaaGreatDoor
theorem l_le_trans {a b c : List UInt8} (h1 : ¬ b < a) (h2 : ¬ c < b) : ¬ c < a := fun h => by
  by_cases hab : a < b
  · exact h2 (l_trans h hab)
  · have e : a = b := l_tri _ _ hab h1
    subst e; exact h2 h
theorem l_lt_le {a b c : List UInt8} (h1 : a < b) (h2 : ¬ c < b) : a < c := by
  by_cases hac : a < c
  · exact hac
  · refine absurd ?_ h2
    by_cases hca : c < a
    · exact l_trans hca h1
    · have e : a = c := l_tri _ _ hac hca
      subst e; exact h1
theorem l_le_lt {a b c : List UInt8} (h1 : ¬ b < a) (h2 : b < c) : a < c := by
  by_cases hab : a < b
  · exact l_trans hab h2
  · have e : a = b := l_tri _ _ hab h1
    subst e; exact h2
theorem l_lt_ne {a b : List UInt8} (h : a < b) : a ≠ b := fun e => by subst e; exact l_irrefl _ h
theorem l_asym {a b : List UInt8} (h : a < b) : ¬ b < a := fun h2 => l_irrefl _ (l_trans h h2)
def SortO (L : List Ob) : Prop := L.Pairwise fun a b => ¬ b.t < a.t
def Stab (L M : List Ob) : Prop := ∀ t, (M.filter fun x => decide (x.t = t)) = L.filter fun x => decide (x.t = t)
theorem Stab.refl (L : List Ob) : Stab L L := fun _ => rfl
theorem Stab.trans {L M N : List Ob} (h1 : Stab L M) (h2 : Stab M N) : Stab L N := fun t => (h2 t).trans (h1 t)
theorem Stab.app {L M L' M' : List Ob} (h1 : Stab L L') (h2 : Stab M M') : Stab (L ++ M) (L' ++ M') := fun t => by rw [List.filter_append, List.filter_append, h1 t, h2 t]
theorem stab_swap {A B : List Ob} (h : ∀ x ∈ A, ∀ y ∈ B, x.t ≠ y.t) : Stab (A ++ B) (B ++ A) := fun t => by
  rw [List.filter_append, List.filter_append]
  by_cases hA : A.filter (fun x => decide (x.t = t)) = []
  · rw [hA]; simp
  · have hB : B.filter (fun x => decide (x.t = t)) = [] := by
      refine List.filter_eq_nil_iff.2 fun y hy hyt => hA (List.filter_eq_nil_iff.2 fun x hx hxt => ?_)
      exact h x hx y hy ((of_decide_eq_true hxt).trans (of_decide_eq_true hyt).symm)
    rw [hB]; simp
theorem Stab.mem {L M : List Ob} (h : Stab L M) {x : Ob} : x ∈ M ↔ x ∈ L := by
  have e := h x.t
  have h1 : x ∈ M ↔ x ∈ M.filter (fun y => decide (y.t = x.t)) := by simp
  have h2 : x ∈ L ↔ x ∈ L.filter (fun y => decide (y.t = x.t)) := by simp
  rw [h1, e, ← h2]
theorem sortO_app {A B : List Ob} : SortO (A ++ B) ↔ SortO A ∧ SortO B ∧ ∀ x ∈ A, ∀ y ∈ B, ¬ y.t < x.t := List.pairwise_append
theorem stab_left {x : Ob} {P Q : List Ob} (hs : SortO (P ++ Q)) (h1 : ∀ y ∈ P.getLast?, y.t < x.t) (h2 : ∀ y ∈ Q.head?, ¬ y.t < x.t) : Stab (x :: (P ++ Q)) (P ++ x :: Q) ∧ SortO (P ++ x :: Q) := by
  obtain ⟨hP, hQ, hPQ⟩ := sortO_app.1 hs
  have lo : ∀ y ∈ P, y.t < x.t := fun y hy => by
    rcases List.eq_nil_or_concat P with e | ⟨P', z, e⟩
    · rw [e] at hy; cases hy
    · rw [List.concat_eq_append] at e; subst e
      have hz : z.t < x.t := h1 z (by simp)
      rcases List.mem_append.1 hy with hy | hy
      · exact l_le_lt ((sortO_app.1 hP).2.2 y hy z (by simp)) hz
      · rw [List.mem_singleton.1 hy]; exact hz
  have hi : ∀ y ∈ Q, ¬ y.t < x.t := fun y hy => by
    cases Q with
    | nil => cases hy
    | cons z Q =>
      have hz : ¬ z.t < x.t := h2 z (by simp)
      rcases List.mem_cons.1 hy with e | hy
      · rw [e]; exact hz
      · exact l_le_trans hz ((List.pairwise_cons.1 hQ).1 y hy)
  refine ⟨?_, sortO_app.2 ⟨hP, List.pairwise_cons.2 ⟨hi, hQ⟩, fun y hy z hz => ?_⟩⟩
  · have := stab_swap (A := [x]) (B := P) (fun a ha y hy => by rw [List.mem_singleton.1 ha]; exact (l_lt_ne (lo y hy)).symm)
    have := this.app (Stab.refl Q)
    simpa using this
  · rcases List.mem_cons.1 hz with e | hz
    · rw [e]; exact l_asym (lo y hy)
    · exact hPQ y hy z hz
theorem stab_right {x : Ob} {P Q : List Ob} (hs : SortO (P ++ Q)) (h1 : ∀ y ∈ P.getLast?, ¬ x.t < y.t) (h2 : ∀ y ∈ Q.head?, x.t < y.t) : Stab (P ++ Q ++ [x]) (P ++ x :: Q) ∧ SortO (P ++ x :: Q) := by
  obtain ⟨hP, hQ, hPQ⟩ := sortO_app.1 hs
  have lo : ∀ y ∈ P, ¬ x.t < y.t := fun y hy => by
    rcases List.eq_nil_or_concat P with e | ⟨P', z, e⟩
    · rw [e] at hy; cases hy
    · rw [List.concat_eq_append] at e; subst e
      have hz : ¬ x.t < z.t := h1 z (by simp)
      rcases List.mem_append.1 hy with hy | hy
      · exact l_le_trans ((sortO_app.1 hP).2.2 y hy z (by simp)) hz
      · rw [List.mem_singleton.1 hy]; exact hz
  have hi : ∀ y ∈ Q, x.t < y.t := fun y hy => by
    cases Q with
    | nil => cases hy
    | cons z Q =>
      have hz : x.t < z.t := h2 z (by simp)
      rcases List.mem_cons.1 hy with e | hy
      · rw [e]; exact hz
      · exact l_lt_le hz ((List.pairwise_cons.1 hQ).1 y hy)
  refine ⟨?_, sortO_app.2 ⟨hP, List.pairwise_cons.2 ⟨fun y hy => l_asym (hi y hy), hQ⟩, fun y hy z hz => ?_⟩⟩
  · have := stab_swap (A := Q) (B := [x]) (fun y hy a ha => by rw [List.mem_singleton.1 ha]; exact (l_lt_ne (hi y hy)).symm)
    have := (Stab.refl P).app this
    simpa using this
  · rcases List.mem_cons.1 hz with e | hz
    · rw [e]; exact lo y hy
    · exact hPQ y hy z hz
theorem stab_turn {X1 X2 Y1 Y2 : List Ob} (hX : SortO (X1 ++ X2)) (hY : SortO (Y1 ++ Y2)) (h1 : ∀ x ∈ X1.getLast?, ∀ y ∈ Y2.head?, ¬ y.t < x.t) (h2 : ∀ x ∈ X2.head?, ∀ y ∈ Y1.getLast?, y.t < x.t) :
    Stab (X1 ++ X2 ++ (Y1 ++ Y2)) (X1 ++ Y1 ++ (X2 ++ Y2)) ∧ ∀ a ∈ X1 ++ Y1, ∀ b ∈ X2 ++ Y2, ¬ b.t < a.t := by
  obtain ⟨hX1, hX2, hXX⟩ := sortO_app.1 hX
  obtain ⟨hY1, hY2, hYY⟩ := sortO_app.1 hY
  have last : ∀ {P : List Ob}, SortO P → ∀ y ∈ P, ∃ z ∈ P.getLast?, ¬ z.t < y.t := fun {P} hP y hy => by
    rcases List.eq_nil_or_concat P with e | ⟨P', z, e⟩
    · rw [e] at hy; cases hy
    · rw [List.concat_eq_append] at e; subst e
      refine ⟨z, by simp, ?_⟩
      rcases List.mem_append.1 hy with hy | hy
      · exact (sortO_app.1 hP).2.2 y hy z (by simp)
      · rw [List.mem_singleton.1 hy]; exact l_irrefl _
  have first : ∀ {P : List Ob}, SortO P → ∀ y ∈ P, ∃ z ∈ P.head?, ¬ y.t < z.t := fun {P} hP y hy => by
    cases P with
    | nil => cases hy
    | cons z P =>
      refine ⟨z, by simp, ?_⟩
      rcases List.mem_cons.1 hy with e | hy
      · rw [e]; exact l_irrefl _
      · exact (List.pairwise_cons.1 hP).1 y hy
  have xy : ∀ x ∈ X1, ∀ y ∈ Y2, ¬ y.t < x.t := fun x hx y hy => by
    obtain ⟨x', hx', e1⟩ := last hX1 x hx
    obtain ⟨y', hy', e2⟩ := first hY2 y hy
    exact l_le_trans e1 (l_le_trans (h1 x' hx' y' hy') e2)
  have yx : ∀ y ∈ Y1, ∀ x ∈ X2, y.t < x.t := fun y hy x hx => by
    obtain ⟨y', hy', e1⟩ := last hY1 y hy
    obtain ⟨x', hx', e2⟩ := first hX2 x hx
    exact l_le_lt e1 (l_lt_le (h2 x' hx' y' hy') e2)
  refine ⟨?_, fun a ha b hb => ?_⟩
  · have := ((Stab.refl X1).app (stab_swap (A := X2) (B := Y1) (fun x hx y hy => (l_lt_ne (yx y hy x hx)).symm))).app (Stab.refl Y2)
    simpa using this
  · rcases List.mem_append.1 ha with ha | ha <;> rcases List.mem_append.1 hb with hb | hb
    · exact hXX a ha b hb
    · exact xy a ha b hb
    · exact l_asym (yx a ha b hb)
    · exact hYY a ha b hb
theorem stab_parts {L A B A' B' : List Ob} (h : Stab L (A ++ B)) (hab : ∀ a ∈ A, ∀ b ∈ B, ¬ b.t < a.t) (hA : Stab A A') (sA : SortO A') (hB : Stab B B') (sB : SortO B') : Stab L (A' ++ B') ∧ SortO (A' ++ B') :=
  ⟨h.trans (hA.app hB), sortO_app.2 ⟨sA, sB, fun a ha b hb => hab a (hA.mem.1 ha) b (hB.mem.1 hb)⟩⟩
def newO : Ob → List Ob → List Ob
  | _, [] => []
  | p, x :: L => if x.t = p.t then newO x L else x :: newO x L
def compO : List Ob → List Ob
  | [] => []
  | x :: L => x :: newO x L
theorem getO_cons_Dta (x : Ob) (L : List Ob) (t : List UInt8) : getO (x :: L) t = if x.t = t then some x else getO L t := by
  unfold getO
  rw [List.find?_cons]
  by_cases h : x.t = t
  · simp [h]
  · simp [h]
theorem newO_mem : ∀ {p : Ob} {L : List Ob}, SortO (p :: L) → ∀ {y : Ob}, y ∈ newO p L ↔ y.t ≠ p.t ∧ getO L y.t = some y
  | p, [], _, y => by simp [newO, getO]
  | p, x :: L, hs, y => by
    obtain ⟨h1, h2⟩ := List.pairwise_cons.1 hs
    have ih := newO_mem h2 (y := y)
    have hpx := h1 x (by simp)
    unfold newO
    rw [getO_cons_Dta]
    by_cases hx : x.t = p.t
    · rw [if_pos hx, ih, hx]
      constructor
      · rintro ⟨a, b⟩
        exact ⟨a, by rw [if_neg (fun e => a e.symm)]; exact b⟩
      · rintro ⟨a, b⟩
        rw [if_neg (fun e => a e.symm)] at b
        exact ⟨a, b⟩
    · rw [if_neg hx, List.mem_cons, ih]
      constructor
      · rintro (rfl | ⟨a, b⟩)
        · exact ⟨hx, if_pos rfl⟩
        · refine ⟨fun e => ?_, by rw [if_neg (fun e => a e.symm)]; exact b⟩
          have hy := (List.pairwise_cons.1 h2).1 y (getO_mem b).1
          rw [e] at hy
          exact hx (l_tri _ _ hpx hy)
      · rintro ⟨a, b⟩
        by_cases e : x.t = y.t
        · rw [if_pos e] at b; exact .inl (Option.some.inj b).symm
        · rw [if_neg e] at b; exact .inr ⟨fun h => e h.symm, b⟩
theorem newO_rise : ∀ {p : Ob} {L : List Ob}, SortO (p :: L) → RiseO (p :: newO p L)
  | p, [], _ => List.pairwise_singleton _ _
  | p, x :: L, hs => by
    obtain ⟨h1, h2⟩ := List.pairwise_cons.1 hs
    have ih := newO_rise h2
    have hm : ∀ y ∈ newO p (x :: L), p.t < y.t := fun y hy => by
      obtain ⟨a, b⟩ := (newO_mem hs).1 hy
      have := h1 y (getO_mem b).1
      by_cases hl : p.t < y.t
      · exact hl
      · exact absurd (l_tri _ _ hl this).symm a
    refine List.pairwise_cons.2 ⟨hm, ?_⟩
    unfold newO
    by_cases hx : x.t = p.t
    · rw [if_pos hx]; exact (List.pairwise_cons.1 ih).2
    · rw [if_neg hx]; exact ih
theorem compO_mem {M : List Ob} (hs : SortO M) {y : Ob} : y ∈ compO M ↔ getO M y.t = some y := by
  cases M with
  | nil => simp [compO, getO]
  | cons x L =>
    unfold compO
    rw [getO_cons_Dta, List.mem_cons, newO_mem hs]
    constructor
    · rintro (rfl | ⟨a, b⟩)
      · exact if_pos rfl
      · rw [if_neg (fun e => a e.symm)]; exact b
    · intro b
      by_cases e : x.t = y.t
      · rw [if_pos e] at b; exact .inl (Option.some.inj b).symm
      · rw [if_neg e] at b; exact .inr ⟨fun h => e h.symm, b⟩
theorem compO_rise {M : List Ob} (hs : SortO M) : RiseO (compO M) := by
  cases M with
  | nil => exact List.Pairwise.nil
  | cons x L => exact newO_rise hs
theorem stab_get {L M : List Ob} (h : Stab L M) (t : List UInt8) : getO M t = getO L t := by
  unfold getO
  rw [← List.head?_filter, ← List.head?_filter, h t]
theorem puts_mem : ∀ {S : List Nd}, (∀ n ∈ S, fitN n = true) → ∀ {A : List Ob}, FitO A → ∀ {y : Ob}, y ∈ putsN A S ↔ y ∈ A ∨ (getO A y.t = none ∧ getO (S.map obN) y.t = some y)
  | [], _, A, _, y => by simp [putsN, getO]
  | n :: S, hf, A, hA, y => by
    have hl : (obN n).t.length = 32 := by rw [obN_t]; exact keyN_len (hf n (by simp))
    show y ∈ putsN (addO A (obN n)) S ↔ _
    rw [puts_mem (fun m hm => hf m (List.mem_cons_of_mem _ hm)) (addO_fit hA (obN n)), List.map_cons, getO_cons_Dta, mem_addO]
    by_cases ht : (obN n).t = y.t
    · rw [if_pos ht]
      cases hg : getO A (obN n).t with
      | some z =>
        have hz := getO_mem hg
        have hn : getO A y.t = some z := by rw [← ht]; exact hg
        rw [addO_there (.inl (by rw [hg]; rfl)), hn]
        simp
      | none =>
        have hs := getO_add_self hA hg hl
        have hn : getO A y.t = none := by rw [← ht]; exact hg
        rw [← ht, hs]
        simp only [hg, true_and]
        constructor
        · rintro ((h | ⟨h, _⟩) | h)
          · exact .inl h
          · exact .inr (by rw [h])
          · cases h.1
        · rintro (h | h)
          · exact .inl (.inl h)
          · exact .inl (.inr ⟨(Option.some.inj h).symm, hl⟩)
    · rw [if_neg ht, getO_add_other hA _ (fun e => ht e.symm)]
      constructor
      · rintro ((h | ⟨h, _⟩) | h)
        · exact .inl h
        · exact absurd (by rw [h]) ht
        · exact .inr h
      · rintro (h | h)
        · exact .inl (.inl h)
        · exact .inr h
theorem comp_puts {S : List Nd} (hf : ∀ n ∈ S, fitN n = true) {M : List Ob} (h : Stab (S.map obN) M) (hs : SortO M) : compO M = putsN [] S := by
  refine riseO_ext (compO_rise hs) (putsN_fit S fitO_nil).1 (fun y => ?_)
  rw [compO_mem hs, stab_get h, puts_mem hf fitO_nil]
  simp [getO]
end Go.Proofs.YtlccihidedfemaaGreatDoor
set_option linter.unusedVariables false
namespace Go.Proofs.YtlccihidedfemaaGreatDoor
open Go.RowKit
attribute [local go_sem] Oper.semAt_some
structure RowO (w : World) (g cap : Nat) (L : List Ob) : Prop where
  row : ∃ cur, w.heap[g]? = some (.cells cur 33 (0, 0)) ∧ cur.size = cap * 2 ∧ cur.toList.take (L.length * 2) = obCells L
  le : L.length ≤ cap
  max : cap ≤ maxLen
theorem OwnO.rowO {B : Nat} {w : World} {g n cap : Nat} {L : List Ob} (h : OwnO B w (.slice (some ⟨g, 0, none⟩) n cap) L) : n = L.length ∧ B ≤ g ∧ RowO w g cap L := by
  rcases h.2 with ⟨h0, _⟩ | ⟨g', cap', cur, e, h1, h2, h3, h4, h5, h6⟩
  · cases h0
  · cases e; exact ⟨rfl, h1, ⟨cur, h2, h5, h6⟩, h3, h4⟩
theorem RowO.own {B : Nat} {w : World} {g cap : Nat} {L : List Ob} (h : RowO w g cap L) (hB : B ≤ g) : OwnO B w (.slice (some ⟨g, 0, none⟩) L.length cap) L := by
  obtain ⟨cur, h2, h5, h6⟩ := h.row
  exact ⟨obCells_len _, .inr ⟨g, cap, cur, rfl, hB, h2, h.le, h.max, h5, h6⟩⟩
theorem RowO.lt {w : World} {g cap : Nat} {L : List Ob} (h : RowO w g cap L) : g < w.heap.size := by
  obtain ⟨cur, h2, _, _⟩ := h.row
  exact (Array.getElem?_eq_some_iff.1 h2).1
theorem RowO.at' {w : World} {g cap : Nat} {L : List Ob} (h : RowO w g cap L) {i : Nat} (hi : i < L.length) : w.cell? ⟨g, i * 2, none⟩ = some (.string L[i].k) ∧ w.cell? ⟨g, i * 2 + 1, none⟩ = some (.string L[i].r) := by
  obtain ⟨_, _, _, e, _, hc⟩ := (h.own (Nat.le_refl _)).is
  cases e
  obtain ⟨b, off, e, _, hat⟩ := hc (by omega)
  cases e
  obtain ⟨c0, c1⟩ := hat i hi
  rw [Nat.zero_add] at c0 c1
  exact ⟨c0, c1⟩
theorem RowO.free {w : World} {g cap : Nat} {L : List Ob} (h : RowO w g cap L) (i : Nat) : w.frozen? ⟨g, i, none⟩ = false := by
  obtain ⟨cur, h2, _, _⟩ := h.row
  exact frozen_of_row w g i cur _ h2
theorem RowO.stays {w w' : World} {g cap : Nat} {L : List Ob} (h : RowO w g cap L) (hb : Below w.heap.size w w') : RowO w' g cap L := by
  obtain ⟨cur, h2, h3⟩ := h.row
  exact ⟨⟨cur, (hb.block g h.lt).trans h2, h3⟩, h.le, h.max⟩
theorem grownBy_setRow_Dtb (w : World) (g : Nat) (C : Array Value) : w.grownBy (w.setRow g C) (some g) :=
  ⟨rfl, rfl, rfl, by simp, fun k hk hne => setRow_other w g k C (fun e => hne (by rw [e]))⟩
theorem obCells_set {L : List Ob} {i : Nat} (hi : i < L.length) (x : Ob) : obCells (L.set i x) = (obCells L).take (i * 2) ++ obC x ++ (obCells L).drop (i * 2 + 2) := by
  have hL : L = L.take i ++ L[i] :: L.drop (i + 1) := by rw [← List.drop_eq_getElem_cons hi, List.take_append_drop]
  have hl : (obCells (L.take i)).length = i * 2 := by rw [obCells_len, List.length_take]; congr 1; omega
  have e : obCells L = obCells (L.take i) ++ (obC L[i] ++ obCells (L.drop (i + 1))) := by
    conv => lhs; rw [hL]
    rw [obCells_app]; rfl
  rw [List.set_eq_take_append_cons_drop, if_pos hi, obCells_app]
  have h1 : (obCells L).take (i * 2) = obCells (L.take i) := by rw [e, List.take_left' hl]
  have h2 : (obCells L).drop (i * 2 + 2) = obCells (L.drop (i + 1)) := by
    rw [e, ← List.append_assoc]
    exact List.drop_left' (by rw [List.length_append, hl]; rfl)
  rw [h1, h2, List.append_assoc]; rfl
theorem set2 (C : Array Value) (k : Nat) (a b : Value) (hk : k + 2 ≤ C.size) : ((C.setIfInBounds k a).setIfInBounds (k + 1) b).toList = C.toList.take k ++ [a, b] ++ C.toList.drop (k + 2) := by
  apply List.ext_getElem?
  intro j
  simp only [Array.toList_setIfInBounds, List.getElem?_set, List.length_set, Array.length_toList]
  rcases Nat.lt_or_ge j k with h | h
  · rw [if_neg (by omega), if_neg (by omega), List.append_assoc, List.getElem?_append_left (by rw [List.length_take, Array.length_toList]; omega), List.getElem?_take, if_pos h]
  · have hlt : (C.toList.take k).length = k := by rw [List.length_take, Array.length_toList]; omega
    rcases Nat.lt_or_ge j (k + 2) with h4 | h4
    · rw [List.append_assoc, List.getElem?_append_right (by omega), hlt, List.getElem?_append_left (by simp; omega)]
      rcases (show j = k ∨ j = k + 1 by omega) with rfl | rfl
      · rw [if_neg (by omega), if_pos rfl, if_pos (by omega)]; simp
      · rw [if_pos rfl, if_pos (by omega)]; simp
    · rw [if_neg (by omega), if_neg (by omega), List.getElem?_append_right (by rw [List.length_append, hlt]; simp; omega), List.length_append, hlt, List.getElem?_drop]
      congr 1; simp; omega
def set2W (w : World) (g k : Nat) (x : Ob) : World := (w.setCell ⟨g, k, none⟩ (.string x.k)).setCell ⟨g, k + 1, none⟩ (.string x.r)
theorem set2W_row {w : World} {g k : Nat} {cur : Array Value} {t : TypeId} (hg : w.heap[g]? = some (.cells cur t (0, 0))) (hk : k + 2 ≤ cur.size) (x : Ob) :
    set2W w g k x = w.setRow g (cur.toList.take k ++ obC x ++ cur.toList.drop (k + 2)).toArray := by
  unfold set2W
  rw [setCell_eq_setRow w g k cur t (0, 0) _ hg, setCell_eq_setRow _ g (k + 1) _ t (0, 0) _ (setRow_heap w g cur _ t (0, 0) hg), setRow_setRow]
  congr 1
  rw [← set2 cur k _ _ hk]
theorem RowO.set {w : World} {g cap i : Nat} {L : List Ob} (h : RowO w g cap L) (hi : i < L.length) (x : Ob) : RowO (set2W w g (i * 2) x) g cap (L.set i x) ∧ w.grownBy (set2W w g (i * 2) x) (some g) := by
  obtain ⟨cur, h2, h6, h7⟩ := h.row
  have h4 := h.le
  rw [set2W_row h2 (by omega) x]
  refine ⟨⟨⟨_, setRow_heap w g cur _ _ (0, 0) h2, ?_, ?_⟩, by rw [List.length_set]; exact h4, h.max⟩, grownBy_setRow_Dtb _ _ _⟩
  · simp only [List.size_toArray, List.length_append, List.length_take, List.length_drop, Array.length_toList, List.length_cons, List.length_nil]; omega
  · rw [List.length_set, obCells_set hi, ← h7]
    have hl : (cur.toList.take (i * 2)).length = i * 2 := by rw [List.length_take, Array.length_toList]; omega
    rw [List.take_take, show min (i * 2) (L.length * 2) = i * 2 by omega]
    show List.take _ (cur.toList.take (i * 2) ++ obC x ++ cur.toList.drop (i * 2 + 2)) = _
    rw [List.take_append, List.length_append, hl, List.take_of_length_le (by rw [List.length_append, hl]; simp; omega), List.drop_take]
    congr 1
abbrev Turned (W0 w : World) (g : Nat) : Prop := W0.grownBy w (some g)
theorem turned_step {a b c : World} {g : Nat} (h : Turned a b g) (hb : Below b.heap.size b c) : Turned a c g :=
  ⟨hb.os.trans h.os, hb.tape.trans h.tape, hb.output.trans h.output, Nat.le_trans h.size hb.size, fun k hk hn => (hb.block k (Nat.lt_of_lt_of_le hk h.size)).trans (h.block k hk hn)⟩
theorem turned_trans {a b c : World} {g : Nat} (h : Turned a b g) (k : Turned b c g) : Turned a c g :=
  ⟨k.os.trans h.os, k.tape.trans h.tape, k.output.trans h.output, Nat.le_trans h.size k.size, fun i hi hn => (k.block i (Nat.lt_of_lt_of_le hi h.size) hn).trans (h.block i hi hn)⟩
theorem turned_refl (w : World) (g : Nat) : Turned w w g := ⟨rfl, rfl, rfl, Nat.le_refl _, fun _ _ _ => rfl⟩
def swpO (L : List Ob) (i j : Nat) : List Ob := (L.set i (L.getD j zeroOb)).set j (L.getD i zeroOb)
theorem swpO_len (L : List Ob) (i j : Nat) : (swpO L i j).length = L.length := by unfold swpO; rw [List.length_set, List.length_set]
theorem swpO_get {L : List Ob} {i j : Nat} (hi : i < L.length) (hj : j < L.length) (k : Nat) : (swpO L i j)[k]? = if k = j then L[i]? else if k = i then L[j]? else L[k]? := by
  unfold swpO
  have ei : some (L.getD i zeroOb) = L[i]? := by rw [List.getD_eq_getElem?_getD, List.getElem?_eq_getElem hi]; rfl
  have ej : some (L.getD j zeroOb) = L[j]? := by rw [List.getD_eq_getElem?_getD, List.getElem?_eq_getElem hj]; rfl
  simp only [List.getElem?_set, List.length_set, hi, hj, if_true, ei, ej]
  repeat' split
  all_goals first | rfl | (exfalso; omega)
theorem RowO.swp {w : World} {g cap i j : Nat} {L : List Ob} (h : RowO w g cap L) (hi : i < L.length) (hj : j < L.length) :
    RowO (set2W (set2W w g (i * 2) L[j]) g (j * 2) L[i]) g cap (swpO L i j) ∧ Turned w (set2W (set2W w g (i * 2) L[j]) g (j * 2) L[i]) g := by
  obtain ⟨h1, h2⟩ := h.set hi L[j]
  obtain ⟨h3, h4⟩ := h1.set (i := j) (by rw [List.length_set]; exact hj) L[i]
  refine ⟨?_, turned_trans h2 h4⟩
  unfold swpO
  rw [List.getD_eq_getElem?_getD, List.getD_eq_getElem?_getD, List.getElem?_eq_getElem hi, List.getElem?_eq_getElem hj]
  exact h3
def swapN (L : List Ob) (a b : Nat) : Nat → List Ob
  | 0 => L
  | k + 1 => swpO (swapN L a b k) (a + k) (b + k)
theorem swapN_len (L : List Ob) (a b : Nat) : ∀ k, (swapN L a b k).length = L.length
  | 0 => rfl
  | k + 1 => by unfold swapN; rw [swpO_len, swapN_len L a b k]
theorem swapN_get {L : List Ob} {a b : Nat} : ∀ k, a + k ≤ b → b + k ≤ L.length → ∀ i, (swapN L a b k)[i]? = if a ≤ i ∧ i < a + k then L[i - a + b]? else if b ≤ i ∧ i < b + k then L[i - b + a]? else L[i]?
  | 0, _, _, i => by rw [if_neg (by omega), if_neg (by omega)]; rfl
  | k + 1, h1, h2, i => by
    unfold swapN
    have ih := swapN_get (L := L) (a := a) (b := b) k (by omega) (by omega)
    rw [swpO_get (by rw [swapN_len]; omega) (by rw [swapN_len]; omega)]
    simp only [ih]
    repeat' split
    all_goals first | rfl | (exfalso; omega) | (congr 1; omega)
theorem swapN_parts {P X M Y Q : List Ob} (h : X.length = Y.length) : swapN (P ++ (X ++ (M ++ (Y ++ Q)))) P.length (P.length + X.length + M.length) X.length = P ++ (Y ++ (M ++ (X ++ Q))) := by
  apply List.ext_getElem?
  intro i
  rw [swapN_get _ (by omega) (by simp; omega)]
  simp only [List.getElem?_append]
  repeat' split
  all_goals first | rfl | (exfalso; omega) | (congr 1; omega)
set_option maxRecDepth 100000 in
set_option maxHeartbeats 4000000 in
theorem swapRange_any (c : Value) (g cap : Nat) (L : List Ob) (a b n : Nat) (w : World) (hR : RowO w g cap L) (h1 : a + n ≤ b) (h2 : b + n ≤ L.length) (hL : L.length ≤ 1000000) :
    Calls Tryz.prog 149 #[.slice (some ⟨g, 0, none⟩) L.length cap, .int .i64 a, .int .i64 b, .int .i64 n, c] w fun e w' => e = .returned (.tuple #[]) ∧ RowO w' g cap (swapN L a b n) ∧ Turned w w' g := by
  have HR := Lib.hid hR
  clear hR
  go_enter Tryz.func149, Tryz.ntmps149
  go_wp2
  go_loopw [10] (fun i wr => ∃ k : Nat, k ≤ n ∧ i = .int .i64 k ∧ RowO wr g cap (swapN L a b k) ∧ Turned w wr g) (fun i _ => n - (intOf i).toNat)
  case atStart => exact ⟨0, Nat.zero_le _, rfl, HR.out, turned_refl _ _⟩
  case round =>
    obtain ⟨k, hk, rfl, hR, hT⟩ := hrel
    have HT := Lib.hid hT; clear hT
    by_cases hlt : k < n
    · have hSl : (swapN L a b k).length = L.length := swapN_len _ _ _ _
      have HS : Hid (swapN L a b (k + 1) = swpO (swapN L a b k) (a + k) (b + k)) := rfl
      obtain ⟨S, hS⟩ : ∃ S, S = swapN L a b k := ⟨_, rfl⟩
      rw [← hS] at hR hSl HS
      clear hS
      have hi : a + k < S.length := by omega
      have hj : b + k < S.length := by omega
      obtain ⟨c0, c1⟩ := hR.at' hi
      obtain ⟨d0, d1⟩ := hR.at' hj
      have hf := hR.free
      have HW := Lib.hid (hR.swp hi hj)
      obtain ⟨x, hx⟩ : ∃ x, x = S[a + k] := ⟨_, rfl⟩
      obtain ⟨y, hy⟩ : ∃ y, y = S[b + k] := ⟨_, rfl⟩
      rw [← hx] at c0 c1 HW
      rw [← hy] at d0 d1 HW
      clear hx hy hR
      have s1 : (0 : Int) ≤ (a : Int) + (k : Int) := by omega
      have s2 : (0 : Int) ≤ (b : Int) + (k : Int) := by omega
      have s3 : ((a : Int) + (k : Int)).toNat = a + k := by omega
      have s4 : ((b : Int) + (k : Int)).toNat = b + k := by omega
      have s5 : (a : Int) + (k : Int) < (L.length : Int) := by omega
      have s6 : (b : Int) + (k : Int) < (L.length : Int) := by omega
      have hbk : decide ((k : Int) < (n : Int)) = true := decide_eq_true (by omega)
      have hgl : g < wr.heap.size := by
        obtain ⟨_, h3⟩ := HW.out.2; exact Nat.lt_of_lt_of_le (by
          have := HW.out.1.lt; unfold set2W at this; simpa using this) (Nat.le_refl _)
      clear hSl hi hj
      go_wp2_with fail
      go_region
      go_wp2
      have hdw : ∀ X : World, Below X.heap.size X X.drew := fun X => (Below.refl _ _).drew
      go_roundw
      case rel => exact ⟨k + 1, by omega, by go_num, by rw [HS.out]; exact HW.out.1.stays (hdw _), turned_step (turned_trans HT.out HW.out.2) (hdw _)⟩
      case measure => simp [intOf]; omega
    · have hk' : k = n := by omega
      subst hk'
      obtain ⟨hR1, hR2⟩ : Hid (RowO wr g cap (swapN L a b k)) ∧ True := ⟨hR, trivial⟩
      clear hR
      go_wp2
      go_end0
      exact ⟨rfl, hR1.out, HT.out⟩
theorem rot_left {P X Y Q : List Ob} (h : Y.length < X.length) : swapN (P ++ (X ++ (Y ++ Q))) P.length (P.length + X.length) Y.length = (P ++ Y) ++ (X.drop Y.length ++ (X.take Y.length ++ Q)) := by
  have := swapN_parts (P := P) (X := X.take Y.length) (M := X.drop Y.length) (Y := Y) (Q := Q) (by rw [List.length_take]; omega)
  rw [List.length_take, List.length_drop, Nat.min_eq_left (Nat.le_of_lt h), show P.length + Y.length + (X.length - Y.length) = P.length + X.length by omega, ← List.append_assoc (X.take _), List.take_append_drop] at this
  rw [this, List.append_assoc]
theorem rot_right {P X Y Q : List Ob} (h : X.length < Y.length) : swapN (P ++ (X ++ (Y ++ Q))) P.length (P.length + X.length + (Y.length - X.length)) X.length = P ++ (Y.drop (Y.length - X.length) ++ (Y.take (Y.length - X.length) ++ (X ++ Q))) := by
  have := swapN_parts (P := P) (X := X) (M := Y.take (Y.length - X.length)) (Y := Y.drop (Y.length - X.length)) (Q := Q) (by rw [List.length_drop]; omega)
  rw [List.length_take, Nat.min_eq_left (by omega), ← List.append_assoc (Y.take _), List.take_append_drop] at this
  exact this
theorem rot_same {P X Y Q : List Ob} (h : X.length = Y.length) : swapN (P ++ (X ++ (Y ++ Q))) P.length (P.length + X.length) X.length = P ++ (Y ++ (X ++ Q)) :=
  swapN_parts (P := P) (X := X) (M := []) (Y := Y) (Q := Q) h
set_option maxRecDepth 100000 in
set_option maxHeartbeats 4000000 in
theorem rotate_any (c : Value) (g cap n a m b : Nat) (P X Y Q : List Ob) (w : World) (hR : RowO w g cap (P ++ (X ++ (Y ++ Q)))) (hn : n = (P ++ (X ++ (Y ++ Q))).length) (ha : a = P.length) (hm : m = P.length + X.length) (hb : b = P.length + X.length + Y.length) (hX : 0 < X.length) (hY : 0 < Y.length) (hL : n ≤ 1000000) :
    Calls Tryz.prog 130 #[.slice (some ⟨g, 0, none⟩) n cap, .int .i64 a, .int .i64 m, .int .i64 b, c] w fun e w' => e = .returned (.tuple #[]) ∧ RowO w' g cap (P ++ (Y ++ (X ++ Q))) ∧ Turned w w' g := by
  have HR := Lib.hid hR
  have C := Lib.hid (fun (L : List Ob) (a b k : Nat) (w : World) => swapRange_any c g cap L a b k w)
  have HN := Lib.hid (hn.trans (show _ = P.length + X.length + Y.length + Q.length by simp; omega))
  have HA := Lib.hid ha; have HM := Lib.hid hm; have HB := Lib.hid hb
  have hbn : b ≤ n := by have := HN.out; omega
  have ham : a ≤ m := by omega
  have hmb : m ≤ b := by omega
  clear hR hn ha hm hb
  go_enter Tryz.func130, Tryz.ntmps130
  go_wp2
  go_loopw [10, 11] (fun i j wr => ∃ P' X' Y' Q' : List Ob, i = .int .i64 X'.length ∧ j = .int .i64 Y'.length ∧ P'.length + X'.length = m ∧ 0 < X'.length ∧ 0 < Y'.length ∧ (P' ++ (X' ++ (Y' ++ Q'))).length = n ∧ RowO wr g cap (P' ++ (X' ++ (Y' ++ Q'))) ∧ P' ++ (Y' ++ (X' ++ Q')) = P ++ (Y ++ (X ++ Q)) ∧ Turned w wr g) (fun i j _ => (intOf i).toNat + (intOf j).toNat)
  case atStart => exact ⟨P, X, Y, Q, by congr 1; have := HA.out; have := HM.out; omega, by congr 1; have := HM.out; have := HB.out; omega, HM.out.symm, hX, hY, by rw [HN.out]; simp; omega, HR.out, rfl, turned_refl _ _⟩
  case round =>
    obtain ⟨P', X', Y', Q', rfl, rfl, hpm, hx, hy, hlen, hR, hE, hT⟩ := hrel
    have hl2 : P'.length + X'.length + Y'.length + Q'.length = n := by rw [← hlen]; simp; omega
    have HPM := Lib.hid hpm
    have hxm : X'.length ≤ m := by omega
    have hyn : m + Y'.length ≤ n := by omega
    have hxn : X'.length ≤ n := by omega
    have hyn2 : Y'.length ≤ n := by omega
    clear hpm hl2
    have HL := Lib.hid hlen; have HE := Lib.hid hE; have HT := Lib.hid hT
    clear hlen hE hT
    rcases Nat.lt_trichotomy X'.length Y'.length with hlt | heq | hgt
    · have q1 : ((X'.length : Int) == (Y'.length : Int)) = false := beq_eq_false_iff_ne.2 (by omega)
      have q2 : decide ((X'.length : Int) > (Y'.length : Int)) = false := decide_eq_false (by omega)
      have q3 : ¬ ((Y'.length : Int) < (X'.length : Int)) := by omega
      have C1 := Lib.hid (C.out (P' ++ (X' ++ (Y' ++ Q'))) P'.length (P'.length + X'.length + (Y'.length - X'.length)) X'.length wr hR (by omega) (by rw [HL.out]; have := HPM.out; omega) (by rw [HL.out]; exact hL))
      rw [rot_right hlt, HL.out] at C1
      have e1 : (m : Int) - (X'.length : Int) = (P'.length : Int) := by have := HPM.out; omega
      obtain ⟨q, hq⟩ : ∃ q, q = P'.length + X'.length + (Y'.length - X'.length) := ⟨_, rfl⟩
      rw [← hq] at C1
      have e2 : (m : Int) + (Y'.length : Int) - (X'.length : Int) = (q : Int) := by have := HPM.out; omega
      clear hq
      clear hR
      go_wp2_with fail
      try simp only [e1, e2]
      with_reducible refine C1.out.mono ?_
      rintro e w1 ⟨rfl, hR1, hT1⟩
      have HR1 := Lib.hid hR1; have HT1 := Lib.hid hT1
      clear hR1 hT1
      go_wp2
      go_roundw
      case rel => exact ⟨P', Y'.drop (Y'.length - X'.length), Y'.take (Y'.length - X'.length), X' ++ Q', by rw [List.length_drop]; go_num, by rw [List.length_take]; go_num, by have := HPM.out; rw [List.length_drop]; omega, by rw [List.length_drop]; omega, by rw [List.length_take]; omega, by have := HL.out; simp at this ⊢; omega, HR1.out, by
          rw [← HE.out]
          congr 1
          rw [← List.append_assoc (Y'.take _), List.take_append_drop], turned_trans HT.out HT1.out⟩
      case measure => simp [intOf]; omega
    · have HEQ := Lib.hid heq
      have q1 : ((X'.length : Int) == (Y'.length : Int)) = true := beq_iff_eq.2 (by omega)
      have q0 : ((X'.length : Int) != (Y'.length : Int)) = false := by simp [heq]
      clear heq
      have C1 := Lib.hid (C.out (P' ++ (X' ++ (Y' ++ Q'))) P'.length (P'.length + X'.length) X'.length wr hR (by omega) (by rw [HL.out]; have := HPM.out; have := HEQ.out; omega) (by rw [HL.out]; exact hL))
      rw [rot_same HEQ.out, HL.out] at C1
      have e1 : (m : Int) - (X'.length : Int) = (P'.length : Int) := by have := HPM.out; omega
      clear hR
      rw [HPM.out] at C1
      go_wp2_with fail
      try simp only [e1]
      with_reducible refine C1.out.mono ?_
      rintro e w1 ⟨rfl, hR1, hT1⟩
      have HR1 := Lib.hid hR1; have HT1 := Lib.hid hT1
      clear hR1 hT1
      go_wp2
      go_end0
      exact ⟨rfl, by rw [← HE.out]; exact HR1.out, turned_trans HT.out HT1.out⟩
    · have q1 : ((X'.length : Int) == (Y'.length : Int)) = false := beq_eq_false_iff_ne.2 (by omega)
      have q2 : decide ((X'.length : Int) > (Y'.length : Int)) = true := decide_eq_true (by omega)
      have q3 : ((Y'.length : Int) < (X'.length : Int)) := by omega
      have C1 := Lib.hid (C.out (P' ++ (X' ++ (Y' ++ Q'))) P'.length (P'.length + X'.length) Y'.length wr hR (by omega) (by rw [HL.out]; have := HPM.out; omega) (by rw [HL.out]; exact hL))
      rw [rot_left hgt, HL.out] at C1
      have e1 : (m : Int) - (X'.length : Int) = (P'.length : Int) := by have := HPM.out; omega
      clear hR
      rw [HPM.out] at C1
      go_wp2_with fail
      try simp only [e1]
      with_reducible refine C1.out.mono ?_
      rintro e w1 ⟨rfl, hR1, hT1⟩
      have HR1 := Lib.hid hR1; have HT1 := Lib.hid hT1
      clear hR1 hT1
      go_wp2
      go_roundw
      case rel => exact ⟨P' ++ Y', X'.drop Y'.length, X'.take Y'.length, Q', by rw [List.length_drop]; go_num, by rw [List.length_take]; go_num, by have := HPM.out; rw [List.length_drop, List.length_append]; omega, by rw [List.length_drop]; omega, by rw [List.length_take]; omega, by have := HL.out; simp at this ⊢; omega, HR1.out, by
          rw [← HE.out, List.append_assoc, ← List.append_assoc (X'.take _), List.take_append_drop], turned_trans HT.out HT1.out⟩
      case measure => simp [intOf]; omega
def FitTo (l : List Txt) (k : Nat) : Prop := ∀ i (h : i < l.length), i < k → l[i].length = 32 ∧ (0 < i → l[i - 1]'(by omega) < l[i])
theorem fitTo_zero (l : List Txt) : FitTo l 0 := fun i _ h => absurd h (by omega)
theorem fitTo_step {l : List Txt} {k : Nat} (h : FitTo l k) (hk : k < l.length) (h32 : l[k].length = 32) (hr : 0 < k → l[k - 1]'(by omega) < l[k]) : FitTo l (k + 1) := fun i hi hik => by
  rcases Nat.lt_or_ge i k with e | e
  · exact h i hi e
  · obtain rfl : i = k := by omega
    exact ⟨h32, hr⟩
theorem fitB_all {l : List Txt} {k : Nat} (h : FitTo l k) (hk : l.length ≤ k) : fitB l = true := fitB_true fun i hi => h i hi (by omega)
theorem fitB_no32 {l : List Txt} {k : Nat} (hk : k < l.length) (h32 : l[k].length ≠ 32) : fitB l = false := fitB_false fun h => h32 (h k hk).1
theorem fitB_norise {l : List Txt} {k : Nat} (hk : k < l.length) (h0 : 0 < k) (hr : ¬ l[k - 1]'(by omega) < l[k]) : fitB l = false := fitB_false fun h => hr ((h k hk).2 h0)
theorem one_dot {s : ByteArray} : (s.toList == [46]) = decide (s.data.toList = [46]) := by rw [Lib.toList_data, Bool.eq_iff_iff]; simp
theorem two_dots {s : ByteArray} : (s.toList == [46, 46]) = decide (s.data.toList = [46, 46]) := by rw [Lib.toList_data, Bool.eq_iff_iff]; simp
def CleanTo (l : List UInt8) (k : Nat) : Prop := (0 : UInt8) ∉ l.take k ∧ (47 : UInt8) ∉ l.take k
theorem clean_zero (l : List UInt8) : CleanTo l 0 := ⟨by simp, by simp⟩
theorem clean_step {s : ByteArray} {k : Nat} (h : CleanTo s.data.toList k) (hk : k < s.size) (h0 : s[k] ≠ 0) (h47 : s[k] ≠ 47) : CleanTo s.data.toList (k + 1) := by
  unfold CleanTo; rw [take_on s k hk]
  exact ⟨fun hm => by rcases List.mem_append.1 hm with e | e; exact h.1 e; exact h0 (List.mem_singleton.1 e).symm, fun hm => by rcases List.mem_append.1 hm with e | e; exact h.2 e; exact h47 (List.mem_singleton.1 e).symm⟩
theorem clean_all {s : ByteArray} (h : CleanTo s.data.toList s.size) : (0 : UInt8) ∉ s.data.toList ∧ (47 : UInt8) ∉ s.data.toList := by
  unfold CleanTo at h; rwa [take_all s _ (Nat.le_refl _)] at h
theorem mem_at {s : ByteArray} {k : Nat} (hk : k < s.size) : s[k] ∈ s.data.toList := by
  show s.data[k] ∈ _
  simp
def RetL (L : List (List UInt8)) (w : World) (e : Ending) (w' : World) : Prop := ∃ v, e = .returned v ∧ IsStrs w' v (strsOf L) ∧ Below w.heap.size w w'
def NamesTo (L : List (List UInt8)) (k : Nat) : Prop := ∀ p ∈ L.take k, nameB p = true
theorem names_zero (L : List (List UInt8)) : NamesTo L 0 := fun p hp => by simp at hp
theorem names_step {L : List (List UInt8)} {k : Nat} (h : NamesTo L k) (hk : k < L.length) (hn : nameB L[k] = true) : NamesTo L (k + 1) := fun p hp => by
  rw [List.take_succ_eq_append_getElem hk] at hp
  rcases List.mem_append.1 hp with e | e
  · exact h p e
  · rw [List.mem_singleton.1 e]; exact hn
theorem names_all {L : List (List UInt8)} (h : NamesTo L L.length) : L.all nameB = true := List.all_eq_true.2 fun p hp => h p (by rw [List.take_length]; exact hp)
theorem joinS_take {L : List (List UInt8)} {k : Nat} (hk : k < L.length) (h0 : 0 < k) : joinS (L.take (k + 1)) = joinS (L.take k) ++ 47 :: L[k] := by
  rw [List.take_succ_eq_append_getElem hk, joinS_snoc (by intro e; have h1 : (L.take k).length = k := by { rw [List.length_take]; omega }; rw [e] at h1; change 0 = k at h1; omega)]
theorem str_of {x : ByteArray} {l : List UInt8} (h : x.data.toList = l) : x = ⟨l.toArray⟩ := by rw [← h]
def eqO (x y : Ob) : Bool := x.k.toList == y.k.toList && x.r.toList == y.r.toList
theorem eqO_iff {x y : Ob} : eqO x y = true ↔ x = y := by
  unfold eqO
  constructor
  · intro h
    simp only [Bool.and_eq_true, beq_iff_eq] at h
    obtain ⟨h1, h2⟩ := h
    rw [Lib.toList_data, Lib.toList_data] at h1 h2
    exact ob_ext (str_eq' h1) (str_eq' h2)
  · rintro rfl; simp
theorem eqO_yes {x y : Ob} (h : x = y) : eqO x y = true := eqO_iff.2 h
theorem eqO_no {x y : Ob} (h : x ≠ y) : eqO x y = false := by
  rcases hb : eqO x y with _ | _
  · rfl
  · exact absurd (eqO_iff.1 hb) h
theorem neqO (x y : Ob) (w : World) : (binOp .neq 33 (obV x) (obV y)).run Tryz.prog w = .ok (.bool (!eqO x y)) w := by
  have hS : Tryz.prog.underlying 33 = some (.struct (Tryz.prog.fieldsOf 33)) := by kernel_rfl
  have hp : Tryz.prog.stoodInHeld 33 = false := by kernel_rfl
  have gas := Tryz.isAgg9; have gzs := Tryz.sizeOf9
  rw [run_neq_struct, show (10000 : Nat) = 9999 + 1 from rfl, run_equalIn_agg w 9999 33 _ _ hS hp]
  simp only [Program.fieldsOf, Tryz.underlying33]
  go_simp
  unfold eqO
  by_cases h0 : x.k.toList = y.k.toList <;> by_cases h1 : x.r.toList = y.r.toList <;> simp [h0, h1]
theorem guardO (op : BinOp) (a b : Operand) (x y : Ob) (w : World) : Sem.run Tryz.prog (eqGuard op 33 a b (obV x) (obV y)) w = .ok () w :=
  run_eqGuard_agg w op _ a b _ _ (by kernel_rfl)
theorem takeO_same {L M : List Ob} {k : Nat} (hk : k < L.length) (hm : k < M.length) (h : L.take k = M.take k) (h2 : L[k] = M[k]) : L.take (k + 1) = M.take (k + 1) := by
  rw [List.take_succ_eq_append_getElem hk, List.take_succ_eq_append_getElem hm, h, h2]
set_option maxRecDepth 100000 in
set_option maxHeartbeats 2000000 in
theorem rSameO_any (v1 v2 : Value) (L M : List Ob) (w : World) (h1 : IsObs w v1 L) (h2 : IsObs w v2 M) :
    Calls Tryz.prog 13 #[v1, v2] w fun e w' => e = .returned (.bool (sameO L M)) ∧ Below w.heap.size w w' := by
  obtain ⟨hm1, a1, cap1, rfl, _, hc1⟩ := h1
  obtain ⟨hm2, a2, cap2, rfl, _, hc2⟩ := h2
  have hmm1 : L.length ≤ 9223372036854775807 := by unfold maxLen at hm1; omega
  have hmm2 : M.length ≤ 9223372036854775807 := by unfold maxLen at hm2; omega
  have H1 := Lib.hid hc1; have H2 := Lib.hid hc2
  clear hc1 hm1 hc2 hm2
  have hne' : ∀ (x y : Ob) (w : World), Sem.run Tryz.prog (binOp .neq 33 (obV x) (obV y)) w = .ok (.bool (!eqO x y)) w := fun x y w => neqO x y w
  have hgd' : ∀ (op : BinOp) (a b : Operand) (x y : Ob) (w : World), Sem.run Tryz.prog (eqGuard op 33 a b (obV x) (obV y)) w = .ok () w := fun op a b x y w => guardO op a b x y w
  by_cases hl : L.length = M.length
  · have hll : ((L.length : Int) == (M.length : Int)) = true := beq_iff_eq.2 (by omega)
    have HL := Lib.hid hl
    clear hl
    go_enter Tryz.func13, Tryz.ntmps13
    go_wp2
    go_loopw [5] (fun i wr => ∃ k m : Nat, k ≤ L.length ∧ i = .int .i64 k ∧ L.take k = M.take k ∧ wr = w.drewN m) (fun i _ => L.length - (intOf i).toNat)
    case atStart => exact ⟨0, 0, Nat.zero_le _, rfl, rfl, rfl⟩
    case round =>
      obtain ⟨k, m, hk, rfl, he, rfl⟩ := hrel
      have HE := Lib.hid he; clear he
      by_cases hlt : k < L.length
      · have hlt2 : k < M.length := by have := HL.out; omega
        obtain ⟨b1, o1, rfl, _, g1⟩ := H1.out (by omega)
        obtain ⟨b2, o2, rfl, _, g2⟩ := H2.out (by omega)
        obtain ⟨c0, c1⟩ := g1 k hlt
        obtain ⟨d0, d1⟩ := g2 k hlt2
        clear g1 g2
        have hbk : decide ((k : Int) < (L.length : Int)) = true := by simpa using (show (k : Int) < L.length by omega)
        have hbk2 : decide ((k : Int) < (M.length : Int)) = true := by simpa using (show (k : Int) < M.length by omega)
        have HT := Lib.hid (takeO_same hlt hlt2 HE.out)
        have HG := Lib.hid (show L[k] ≠ M[k] → L ≠ M from fun h e => h (by subst e; rfl))
        obtain ⟨x, hx⟩ : ∃ x, x = L[k] := ⟨_, rfl⟩
        obtain ⟨y, hy⟩ : ∃ y, y = M[k] := ⟨_, rfl⟩
        rw [← hx] at c0 c1 HT HG
        rw [← hy] at d0 d1 HT HG
        clear hx hy
        by_cases hxy : x = y
        · have q := eqO_yes hxy
          have HT2 := Lib.hid (HT.out hxy)
          clear hxy
          go_wp2_with fail
          go_quiet (fail)
          go_wp2
          go_roundw
          case rel => exact ⟨k + 1, m + nq, by omega, by go_num, HT2.out, by simp [World.drewN]⟩
          case measure => simp [intOf]; omega
        · have q := eqO_no hxy
          have HN := Lib.hid (sameO_no (HG.out hxy))
          clear hxy
          go_wp2_with fail
          go_quiet (fail)
          go_wp2
          go_ret
          exact ⟨by rw [HN.out]; rfl, below_drewN (below_drewN (Below.refl _ _) _) _⟩
      · have hk' : k = L.length := by omega
        have HS : Hid (sameO L M = true) := sameO_yes (by have := HE.out; rwa [hk', List.take_length, HL.out, List.take_length] at this)
        clear hk'
        go_wp2
        go_ret
        exact ⟨by rw [HS.out]; rfl, below_drewN (Below.refl _ _) _⟩
  · have hll : ((L.length : Int) == (M.length : Int)) = false := beq_eq_false_iff_ne.2 (by omega)
    have HN := Lib.hid (sameO_no (show L ≠ M from fun e => hl (by rw [e])))
    clear hl
    go_enter Tryz.func13, Tryz.ntmps13
    go_wp2
    go_ret
    exact ⟨by rw [HN.out]; rfl, Below.refl _ _⟩
def gotO (L : List Ob) (t : List UInt8) : ByteArray := ((getO L t).map (·.r)).getD ⟨#[]⟩
theorem gotO_some {L : List Ob} {t : List UInt8} {x : Ob} (h : getO L t = some x) : gotO L t = x.r := by unfold gotO; rw [h]; rfl
theorem gotO_none {L : List Ob} {t : List UInt8} (h : getO L t = none) : gotO L t = ⟨#[]⟩ := by unfold gotO; rw [h]; rfl
theorem getO_app_none {A B : List Ob} {t : List UInt8} (h : getO A t = none) : getO (A ++ B) t = getO B t := by
  unfold getO at h ⊢; rw [List.find?_append, h]; rfl
theorem getO_cons (x : Ob) (L : List Ob) (t : List UInt8) : getO (x :: L) t = if x.t = t then some x else getO L t := by
  unfold getO
  rw [List.find?_cons]
  by_cases h : x.t = t
  · simp [h]
  · simp [h]
theorem getO_none_step {L : List Ob} {t : List UInt8} {k : Nat} (hk : k < L.length) (h : getO (L.take k) t = none) (hne : L[k].t ≠ t) : getO (L.take (k + 1)) t = none := by
  rw [List.take_succ_eq_append_getElem hk, getO_app_none h, getO_cons, if_neg hne]; rfl
theorem getO_some_step {L : List Ob} {t : List UInt8} {k : Nat} (hk : k < L.length) (h : getO (L.take k) t = none) (he : L[k].t = t) : getO L t = some L[k] := by
  conv => lhs; rw [← List.take_append_drop k L]
  rw [getO_app_none h, List.drop_eq_getElem_cons hk, getO_cons, if_pos he]
set_option maxRecDepth 100000 in
set_option maxHeartbeats 2000000 in
theorem rGet_any (v : Value) (L : List Ob) (s : ByteArray) (w : World) (h : IsObs w v L) :
    Calls Tryz.prog 19 #[v, .string s] w fun e w' => e = .returned (.tuple #[.string (gotO L s.data.toList), .bool (getO L s.data.toList).isSome]) ∧ Below w.heap.size w w' := by
  have HI := Lib.hid h
  obtain ⟨hm, a, cap, rfl, _, hc⟩ := h
  have hmm : L.length ≤ 9223372036854775807 := by unfold maxLen at hm; omega
  clear hc hm
  go_enter Tryz.func19, Tryz.ntmps19
  go_wp2
  go_loop [6] (fun i => ∃ k : Nat, k ≤ L.length ∧ i = .int .i64 k ∧ getO (L.take k) s.data.toList = none) (fun i => L.length - (intOf i).toNat)
  case atStart => exact ⟨0, Nat.zero_le _, rfl, rfl⟩
  case round =>
    obtain ⟨k, hk, rfl, hn⟩ := hrel
    have HN := Lib.hid hn; clear hn
    by_cases hlt : k < L.length
    · have hI := HI.out
      obtain ⟨_, _, _, e, _, hc⟩ := hI
      cases e
      obtain ⟨b, off, rfl, _, g⟩ := hc (by omega)
      obtain ⟨c0, c1⟩ := g k hlt
      clear g hc
      have hbk : decide ((k : Int) < (L.length : Int)) = true := by simpa using (show (k : Int) < L.length by omega)
      by_cases he : L[k].k = s
      · have HS := Lib.hid (getO_some_step hlt HN.out (by rw [Ob.t, he]))
        have hb1 := beq_true he
        have HE := Lib.hid he; clear he
        go_wp2
        exact bodyPost_ret (v := .tuple #[.string L[k].r, .bool true]) (by simp [results, Tryz.results19, go_sem]) rfl ⟨by rw [gotO_some HS.out, HS.out]; rfl, Below.refl _ _⟩
      · have HS := Lib.hid (getO_none_step hlt HN.out (fun e => he (str_eq' e)))
        have hb1 := beq_false he
        clear he
        go_wp2
        go_round
        case rel => exact ⟨k + 1, by omega, by go_num, HS.out⟩
        case measure => simp [intOf]; omega
    · have HS : Hid (getO L s.data.toList = none) := by
        have := HN.out; rwa [List.take_of_length_le (by omega)] at this
      go_wp2
      exact bodyPost_ret (v := .tuple #[.string ⟨#[]⟩, .bool false]) (by simp [results, Tryz.results19, go_sem]) rfl ⟨by rw [gotO_none HS.out, HS.out]; rfl, Below.refl _ _⟩
theorem keyAt {L : List Ob} {i : Nat} (h : i < L.length) : (L.map Ob.t)[i]'(by rw [List.length_map]; exact h) = L[i].k.data.toList := List.getElem_map ..
theorem fitO_keys (L : List Ob) : FitO L ↔ FitP (L.map Ob.t) := by
  constructor
  · intro h
    refine fit_of ?_ (fun t ht => ?_)
    · exact List.pairwise_map.2 h.1
    · obtain ⟨x, hx, rfl⟩ := List.mem_map.1 ht; exact h.2 x hx
  · intro h
    refine ⟨List.pairwise_map.1 (fit_rises h), fun x hx => ?_⟩
    obtain ⟨i, hi, e⟩ := List.mem_iff_getElem.1 (List.mem_map.2 ⟨x, hx, rfl⟩ : x.t ∈ L.map Ob.t)
    rw [← e]; exact (h i hi).1
theorem fitO_eq (L : List Ob) : fitO L = fitB (L.map Ob.t) := by
  by_cases h : FitP (L.map Ob.t)
  · rw [fitB_true h, fitO_yes ((fitO_keys L).2 h)]
  · rw [fitB_false h, fitO_no (fun g => h ((fitO_keys L).1 g))]
theorem fitO_norise {L : List Ob} {k : Nat} (hk : k < (L.map Ob.t).length) (h0 : 0 < k) (hr : ¬ (L.map Ob.t)[k - 1]'(by omega) < (L.map Ob.t)[k]) : fitO L = false := by rw [fitO_eq]; exact fitB_norise hk h0 hr
theorem fitO_no32 {L : List Ob} {k : Nat} (hk : k < (L.map Ob.t).length) (h : (L.map Ob.t)[k].length ≠ 32) : fitO L = false := by rw [fitO_eq]; exact fitB_no32 hk h
theorem fitO_all {L : List Ob} {k : Nat} (h : FitTo (L.map Ob.t) k) (hk : (L.map Ob.t).length ≤ k) : fitO L = true := by rw [fitO_eq]; exact fitB_all h hk
set_option maxRecDepth 100000 in
set_option maxHeartbeats 2000000 in
theorem rFitO_any (v : Value) (L : List Ob) (w : World) (hv : IsObs w v L) :
    Calls Tryz.prog 14 #[v] w fun e w' => e = .returned (.bool (fitO L)) ∧ Below w.heap.size w w' := by
  obtain ⟨hm, a, cap, rfl, _, hc⟩ := hv
  have hmm : L.length ≤ 9223372036854775807 := by unfold maxLen at hm; omega
  have HC := Lib.hid hc
  clear hc hm
  go_enter Tryz.func14, Tryz.ntmps14
  go_wp2
  go_loopw [3] (fun i wr => ∃ k m : Nat, k ≤ L.length ∧ i = .int .i64 k ∧ FitTo (L.map Ob.t) k ∧ wr = w.drewN m) (fun i _ => L.length - (intOf i).toNat)
  case atStart => exact ⟨0, 0, Nat.zero_le _, rfl, fitTo_zero _, rfl⟩
  case round =>
    obtain ⟨k, m, hk, rfl, hF, rfl⟩ := hrel
    have HF := Lib.hid hF; clear hF
    by_cases hlt : k < L.length
    · obtain ⟨b1, o1, rfl, _, g1⟩ := HC.out (by omega)
      have q1 := (g1 k hlt).1
      have hkl : k < (L.map Ob.t).length := by rw [List.length_map]; exact hlt
      have hty := keyAt hlt
      obtain ⟨y, hy⟩ : ∃ y, y = L[k].k := ⟨_, rfl⟩
      rw [← hy] at q1 hty
      clear hy
      have HT := Lib.hid hty; clear hty
      have hbk : decide ((k : Int) < (L.length : Int)) = true := by simpa using (show (k : Int) < L.length by omega)
      by_cases h32 : y.size = 32
      · have h32b : (((y.size : Nat) : Int) != 32) = false := by rw [h32]; rfl
        have h32l : (L.map Ob.t)[k].length = 32 := by rw [HT.out, ← Lib.size_eq]; exact h32
        have H32 := Lib.hid h32l
        clear h32 h32l
        by_cases h0 : k = 0
        · subst h0
          have HS := Lib.hid (fitTo_step HF.out hkl H32.out (fun h => absurd h (by omega)))
          simp only [Nat.zero_mul, Nat.add_zero] at q1
          clear g1
          go_wp2_with fail
          go_quiet (fail)
          go_wp2
          go_roundw
          case rel => exact ⟨1, m + nq, by omega, by go_num, HS.out, by simp [World.drewN]⟩
          case measure => simp [intOf]; omega
        · have q0 := (g1 (k - 1) (by omega)).1
          have htz := keyAt (L := L) (i := k - 1) (by omega)
          obtain ⟨z, hz⟩ : ∃ z, z = L[k - 1].k := ⟨_, rfl⟩
          rw [← hz] at q0 htz
          clear hz g1
          obtain ⟨j, hj⟩ : ∃ j, j = k - 1 := ⟨_, rfl⟩
          obtain rfl : k = j + 1 := by omega
          simp only [Nat.add_sub_cancel] at q0 htz
          clear hj
          have hk0 : decide ((0 : Int) < ((j + 1 : Nat) : Int)) = true := by simp
          by_cases hr : z.data.toList < y.data.toList
          · have hrb : Op.bytesLess z.toList y.toList = true := by rw [less_eq]; exact decide_eq_true hr
            have HS := Lib.hid (fitTo_step HF.out hkl H32.out (fun h => by rw [HT.out]; simp only [Nat.add_sub_cancel]; rw [htz]; exact hr))
            clear hr htz
            go_wp2_with fail
            go_quiet (fail)
            go_wp2
            go_roundw
            case rel => exact ⟨j + 2, m + nq, by omega, by go_num, HS.out, by simp [World.drewN]⟩
            case measure => simp [intOf]; omega
          · have hrb : Op.bytesLess z.toList y.toList = false := by rw [less_eq]; exact decide_eq_false hr
            have HS := Lib.hid (fitO_norise hkl (by omega) (by rw [HT.out]; simp only [Nat.add_sub_cancel]; rw [htz]; exact hr))
            clear hr htz
            go_wp2_with fail
            go_quiet (fail)
            go_wp2
            go_ret
            exact ⟨ret_val (congrArg Value.bool HS.out.symm), below_drewN (below_drewN (Below.refl _ _) _) _⟩
      · have h32b : (((y.size : Nat) : Int) != 32) = true := by simp; omega
        have HS := Lib.hid (fitO_no32 hkl (by rw [HT.out, ← Lib.size_eq]; exact h32))
        clear h32 g1
        go_wp2_with fail
        go_quiet (fail)
        go_wp2
        go_ret
        exact ⟨ret_val (congrArg Value.bool HS.out.symm), below_drewN (below_drewN (Below.refl _ _) _) _⟩
    · have HS := Lib.hid (fitO_all HF.out (by rw [List.length_map]; omega))
      have hge : decide ((k : Int) < (L.length : Int)) = false := by simp; omega
      go_wp2
      go_ret
      exact ⟨ret_val (congrArg Value.bool HS.out.symm), below_drewN (Below.refl _ _) _⟩
end Go.Proofs.YtlccihidedfemaaGreatDoor
namespace Go.Proofs.YtlccihidedfemaaGreatDoor
def cs (t : List UInt8) : List (List UInt8) := if t = [] then [] else pts t
theorem cs_nil : cs [] = [] := rfl
theorem cs_inj {a b : List UInt8} (h : cs a = cs b) : a = b := by
  unfold cs at h
  by_cases ha : a = [] <;> by_cases hb : b = []
  · rw [ha, hb]
  · rw [if_pos ha, if_neg hb] at h; exact absurd h.symm (pts_ne b)
  · rw [if_neg ha, if_pos hb] at h; exact absurd h (pts_ne a)
  · rw [if_neg ha, if_neg hb] at h; exact pts_inj h
structure PathOk (t : List UInt8) : Prop where
  ne : t ≠ []
  pts : cs t = pts t
  split : splitS t = cs t
  len : (cs t).length ≤ 8
  nil : cs t ≠ []
  names : ∀ n ∈ cs t, nameB n = true
theorem path_ok {t : List UInt8} (h : pathB t = true) : PathOk t := by
  have h0 : 0 < (splitS t).length := of_decide_eq_true h
  have h1 := (path_iff t).1 h0
  have hne : t ≠ [] := by
    intro e; subst e
    have := List.all_eq_true.1 h1.2 [] (by decide)
    rw [nameB_nil] at this; cases this
  have hc : cs t = pts t := if_neg hne
  have hs := (splitS_ne (l := t) (by intro e; rw [e] at h0; cases h0)).1
  exact ⟨hne, hc, by rw [hs, hc], by rw [hc]; exact h1.1, by rw [hc]; exact pts_ne t, fun n hn => List.all_eq_true.1 h1.2 n (by rwa [← hc])⟩
theorem cs_dir {t : List UInt8} (h : pathB t = true) : cs (dirS t) = (cs t).dropLast := by
  have P := path_ok h
  unfold dirS
  rw [P.split]
  have ha : (cs t).dropLast.all nameB = true := List.all_eq_true.2 fun n hn => P.names n ((List.dropLast_sublist _).subset hn)
  rw [joinN_small (by rw [List.length_dropLast]; have := P.len; omega) ha]
  cases hd : (cs t).dropLast with
  | nil => rfl
  | cons a r =>
    rw [hd] at ha
    have hf : ∀ p ∈ a :: r, (47 : UInt8) ∉ p := fun p hp => (nameB_iff.1 (List.all_eq_true.1 ha p hp)).2.2.2.2.2
    have hj := pts_joinS (L := a :: r) (by simp) hf
    have hn : joinS (a :: r) ≠ [] := by
      intro e
      rw [e] at hj
      have h1 : a = [] := by injection hj with h1 _; exact h1.symm
      have := List.all_eq_true.1 ha a (by simp)
      rw [h1, nameB_nil] at this; cases this
    unfold cs
    rw [if_neg hn, hj]
theorem cs_last {t : List UInt8} (h : pathB t = true) : cs t = (cs t).dropLast ++ [lastN t] := by
  have P := path_ok h
  unfold lastN
  rw [P.split]
  have hn := P.nil
  rw [List.getLastD_eq_getLast?, List.getLast?_eq_some_getLast hn]
  exact (List.dropLast_concat_getLast hn).symm
theorem dir_iff {t d : List UInt8} (h : pathB t = true) : dirS t = d ↔ cs t = cs d ++ [lastN t] := by
  constructor
  · rintro rfl; rw [cs_dir h]; exact cs_last h
  · intro e
    refine cs_inj ?_
    rw [cs_dir h, e]
    simp
theorem dir_of {t d n : List UInt8} (h : pathB t = true) (e : cs t = cs d ++ [n]) : dirS t = d ∧ lastN t = n := by
  have hl := cs_last h
  rw [e] at hl
  simp at hl
  have : lastN t = n := hl.symm
  exact ⟨(dir_iff h).2 (by rw [e, this]), this⟩
theorem cmp_app (x y : List (List UInt8)) : ∀ D : List (List UInt8), cmpP (D ++ x) (D ++ y) = cmpP x y
  | [] => rfl
  | a :: D => by rw [List.cons_append, List.cons_append, cmp_same]; exact cmp_app x y D
theorem cmp_names {a b : List UInt8} (h : cmpP [a] [b] = -1) : a < b := by
  rw [cmp_cons] at h
  by_cases hl : a < b
  · exact hl
  · rw [if_neg hl] at h
    by_cases hg : b < a
    · rw [if_pos hg] at h; cases h
    · rw [if_neg hg] at h; exact absurd h (by decide)
def pieceN (t : List UInt8) : Nd := ⟨1, ⟨t.toArray⟩, [], []⟩
def partP (t : List UInt8) : Pt := ⟨⟨(keyN (pieceN t)).toArray⟩, t.length⟩
def fileN (c : List UInt8 → Nat) (l : List UInt8) : Nd := ⟨2, ⟨#[]⟩, (pcs c l).map partP, []⟩
def seqF (c : List UInt8 → Nat) (l : List UInt8) : List Nd := (pcs c l).map pieceN ++ [fileN c l]
def It.b (x : It) : List UInt8 := x.c.data.toList
def inD (L : List It) (d : List UInt8) : List It := L.filter fun x => decide (dirS x.t = d)
def entE (x : It) (key : List UInt8) : En := ⟨⟨(lastN x.t).toArray⟩, if x.d then 3 else 2, x.e, ⟨key.toArray⟩⟩
def dirN (c : List UInt8 → Nat) (L : List It) : Nat → List UInt8 → Nd
  | 0, _ => ⟨3, ⟨#[]⟩, [], []⟩
  | k + 1, d => ⟨3, ⟨#[]⟩, [], (inD L d).map fun x => entE x (keyN (if x.d then dirN c L k x.t else fileN c x.b))⟩
def seqD (c : List UInt8 → Nat) (L : List It) : Nat → List UInt8 → List Nd
  | 0, d => [dirN c L 0 d]
  | k + 1, d => ((inD L d).flatMap fun x => if x.d then seqD c L k x.t else seqF c x.b) ++ [dirN c L (k + 1) d]
def subN (c : List UInt8 → Nat) (L : List It) (k : Nat) (x : It) : Nd := if x.d then dirN c L k x.t else fileN c x.b
theorem dirN_es (c : List UInt8 → Nat) (L : List It) (k : Nat) (d : List UInt8) : (dirN c L (k + 1) d).es = (inD L d).map fun x => entE x (keyN (subN c L k x)) := rfl
theorem mem_inD {L : List It} {d : List UInt8} {x : It} : x ∈ inD L d ↔ x ∈ L ∧ dirS x.t = d := by unfold inD; simp
theorem top_mem (c : List UInt8 → Nat) (L : List It) (k : Nat) (d : List UInt8) : dirN c L k d ∈ seqD c L k d := by
  cases k with
  | zero => exact List.mem_singleton.2 rfl
  | succ k => exact List.mem_append_right _ (List.mem_singleton.2 rfl)
structure ReadyT (c : List UInt8 → Nat) (L : List It) : Prop where
  fit : TFit L
  cut : ∃ mn mx, CutOk mn mx c ∧ mx ≤ 4096
  few : ∀ x ∈ L, (pcs c x.b).length ≤ 1024
theorem piece_fit {t : List UInt8} (h1 : 1 ≤ t.length) (h2 : t.length ≤ 4096) : fitN (pieceN t) = true := by
  have hs : (pieceN t).d.size = t.length := by unfold pieceN; rw [Lib.size_eq]
  rw [fit_piece rfl, hs]
  simp only [pieceN, List.length_nil, decide_true, Bool.and_true, Bool.and_eq_true, decide_eq_true_eq]
  exact ⟨h1, h2⟩
theorem pcs_sizes {c : List UInt8 → Nat} {L : List It} (R : ReadyT c L) (l : List UInt8) : ∀ t ∈ pcs c l, 1 ≤ t.length ∧ t.length ≤ 4096 := by
  intro t ht
  obtain ⟨mn, mx, H, h4⟩ := R.cut
  obtain ⟨i, hi, e⟩ := List.getElem_of_mem ht
  have := pcs_each H l.length l (Nat.le_refl _) i t (by rw [← e]; exact List.getElem?_eq_getElem hi)
  exact ⟨this.1, Nat.le_trans this.2.1 h4⟩
theorem sum_parts : ∀ P : List (List UInt8), sumPt (P.map partP) = (P.flatten.length : Int)
  | [] => rfl
  | t :: P => by
    rw [List.map_cons, List.flatten_cons, List.length_append]
    show (t.length : Int) + sumPt (P.map partP) = _
    rw [sum_parts P]; omega
theorem file_fit {c : List UInt8 → Nat} {L : List It} (R : ReadyT c L) {x : It} (hx : x ∈ L) : fitN (fileN c x.b) = true := by
  obtain ⟨mn, mx, H, _⟩ := R.cut
  rw [fit_file rfl]
  have h1 := R.few x hx
  have h2 := R.fit.data x hx
  have h3 := pcs_flat H.pos x.b.length x.b (Nat.le_refl _)
  have h4 : x.b.length = x.c.size := by unfold It.b; rw [Lib.size_eq]
  simp only [fileN, List.length_map, List.length_nil, decide_true, Bool.and_true, Bool.and_eq_true, decide_eq_true_eq]
  refine ⟨⟨rfl, h1⟩, fitFile_iff.2 ⟨fun p hp => ?_, ?_⟩⟩
  · obtain ⟨t, ht, rfl⟩ := List.mem_map.1 hp
    have hs := pcs_sizes R x.b t ht
    refine okPt_iff.2 ⟨?_, ?_, ?_⟩
    · unfold partP; rw [Lib.size_eq]; exact keyN_len (piece_fit hs.1 hs.2)
    · unfold partP; simp only; omega
    · unfold partP; simp only; omega
  · rw [sum_parts, h3]; omega
theorem dir_fit {c : List UInt8 → Nat} {L : List It} (R : ReadyT c L) : ∀ (k : Nat) (d : List UInt8), fitN (dirN c L k d) = true
  | 0, _ => by show fitN ⟨3, ⟨#[]⟩, [], []⟩ = true; decide
  | k + 1, d => by
    have hsub : ∀ x ∈ inD L d, (keyN (subN c L k x)).length = 32 := fun x hx => by
      unfold subN
      cases hd : x.d
      · exact keyN_len (file_fit R (mem_inD.1 hx).1)
      · exact keyN_len (dir_fit R k x.t)
    rw [fit_dir rfl, dirN_es]
    have hl : (inD L d).length ≤ 60 := Nat.le_trans (List.length_filter_le _ _) R.fit.len
    have hz : (dirN c L (k + 1) d).d.size = 0 ∧ (dirN c L (k + 1) d).ps.length = 0 := ⟨rfl, rfl⟩
    rw [hz.1, hz.2, List.length_map]
    simp only [decide_true, Bool.true_and, Bool.and_eq_true, decide_eq_true_eq]
    refine ⟨hl, fitDir_iff.2 ⟨fun e he => ?_, fun i hi h0 => ?_⟩⟩
    · obtain ⟨x, hx, rfl⟩ := List.mem_map.1 he
      have hL := (mem_inD.1 hx).1
      have hp := R.fit.path x hL
      refine okEn_iff.2 ⟨?_, ?_, ?_⟩
      · exact (path_ok hp).names _ (by rw [cs_last hp]; simp [entE])
      · unfold entE; rw [Lib.size_eq]; exact hsub x hx
      · have hb := R.fit.form x hL
        unfold entE
        cases hd : x.d
        · exact .inl rfl
        · refine .inr ⟨rfl, ?_⟩
          unfold badI at hb
          rw [hd] at hb
          simp at hb
          exact hb.2
    · rw [List.length_map] at hi
      rw [List.getElem_map, List.getElem_map]
      have hr := rise_filter R.fit.rise fun x => decide (dirS x.t = d)
      have ho := List.pairwise_iff_getElem.1 hr (i - 1) i (by show i - 1 < (inD L d).length; omega) hi (by omega)
      have ho : orderS ((inD L d)[i - 1]'(by omega)).t ((inD L d)[i]).t = -1 := ho
      have m1 := mem_inD.1 (List.getElem_mem (l := inD L d) (n := i - 1) (by omega))
      have m2 := mem_inD.1 (List.getElem_mem (l := inD L d) (n := i) hi)
      have p1 := R.fit.path _ m1.1; have p2 := R.fit.path _ m2.1
      have e1 := (dir_iff p1).1 m1.2; have e2 := (dir_iff p2).1 m2.2
      unfold orderS at ho
      rw [← (path_ok p1).pts, ← (path_ok p2).pts, e1, e2, cmp_app] at ho
      have := cmp_names ho
      unfold entE
      simpa using this
theorem seqF_fit {c : List UInt8 → Nat} {L : List It} (R : ReadyT c L) {x : It} (hx : x ∈ L) : ∀ n ∈ seqF c x.b, fitN n = true := by
  intro n hn
  rcases List.mem_append.1 hn with h | h
  · obtain ⟨t, ht, rfl⟩ := List.mem_map.1 h
    have := pcs_sizes R x.b t ht
    exact piece_fit this.1 this.2
  · rw [List.mem_singleton.1 h]; exact file_fit R hx
theorem seqD_fit {c : List UInt8 → Nat} {L : List It} (R : ReadyT c L) : ∀ (k : Nat) (d : List UInt8), ∀ n ∈ seqD c L k d, fitN n = true
  | 0, d, n, hn => by rw [List.mem_singleton.1 hn]; exact dir_fit R 0 d
  | k + 1, d, n, hn => by
    rcases List.mem_append.1 hn with h | h
    · obtain ⟨x, hx, h⟩ := List.mem_flatMap.1 h
      cases hd : x.d
      · rw [if_neg (by rw [hd]; decide)] at h; exact seqF_fit R (mem_inD.1 hx).1 n h
      · rw [if_pos hd] at h; exact seqD_fit R k x.t n h
    · rw [List.mem_singleton.1 h]; exact dir_fit R _ d
end Go.Proofs.YtlccihidedfemaaGreatDoor
set_option linter.unusedVariables false
namespace Go.Proofs.YtlccihidedfemaaGreatDoor
open Go Go.RowKit
def KeepsAt (A : Nat → Prop) (X Y : World) : Prop := ∀ k, A k → Y.heap[k]? = X.heap[k]?
theorem KeepsAt.trans {A : Nat → Prop} {X Y Z : World} (h : KeepsAt A X Y) (h' : KeepsAt A Y Z) : KeepsAt A X Z := fun k hk => (h' k hk).trans (h k hk)
theorem KeepsAt.mono {A A' : Nat → Prop} {X Y : World} (h : KeepsAt A X Y) (hA : ∀ k, A' k → A k) : KeepsAt A' X Y := fun k hk => h k (hA k hk)
theorem KeepsAt.put {A : Nat → Prop} {W : World} {l : Nat} {o : Obj} (h : ¬ A l) : KeepsAt A W (W.putObj l o) := fun k hk => World.putObj_heap_other (fun e => h (e ▸ hk))
theorem KeepsAt.below {A : Nat → Prop} {X Y : World} (h : Below X.heap.size X Y) (hA : ∀ k, A k → k < X.heap.size) : KeepsAt A X Y := fun k hk => h.block k (hA k hk)
theorem KeepsAt.refl {A : Nat → Prop} (X : World) : KeepsAt A X X := fun _ _ => rfl
def winPost {α : Type} (A : Nat → Prop) (D : Nat) (I : List α → World → Prop) (Ix : Code → List α → World → Prop) (pre : List α) (W : World) : Exit → Act → World → Prop
  | .normal, _, Y => KeepsAt (fun k => A k ∨ k = D ∨ k = D + 1) W Y ∧ I pre Y
  | .ret, _, Y => KeepsAt (fun k => k = D ∨ k = D + 1) W Y ∧ Ix .ret pre Y
  | .exit id, _, Y => KeepsAt (fun k => k = D ∨ k = D + 1) W Y ∧ Ix (.exit id) pre Y
  | .goto t, _, Y => KeepsAt (fun k => k = D ∨ k = D + 1) W Y ∧ Ix (.goto t) pre Y
  | _, _, _ => False
def SeqOwn {α : Type} (F : Fence) (n : Nat) (P : Program) (g : Nat) (lb : Array Value) (encs : α → Array Value) (A : Nat → Nat → Prop) (K : Nat) (stops : Prop) (S Sp : List α → Prop) (N : Nat) (w : World) : Prop :=
  ∀ (l : Nat) (J Jx : List α → World → Prop) (W : World), Below w.heap.size w W → (∀ s X, Jx s X → stops) →
    (∀ s b X Y, A W.heap.size b → J s X → X.grownBy Y (some b) → J s Y) → (∀ s b X Y, A W.heap.size b → Jx s X → X.grownBy Y (some b) → Jx s Y) →
    (∀ pre x X, J pre X → pre.length < N → (0 < K → W.heap.size + K ≤ X.heap.size) → YieldAt F (n - 1) P l (encs x) X fun e Y =>
      (e = .returned (.bool true) ∧ J (pre ++ [x]) Y ∧ KeepsAt (A W.heap.size) X Y) ∨ (e = .returned (.bool false) ∧ Jx (pre ++ [x]) Y)) → J [] W →
      CallsIn F n P g (#[.func (.yield l) #[] #[]] ++ lb) W fun e Y => (∃ v, e = .returned v) ∧ ((∃ xs, S xs ∧ J xs Y) ∨ (∃ pre, Sp pre ∧ Jx pre Y))
variable {F : Fence} {n : Nat} {P : Program}
theorem wpIn_rangeFunc_win {α : Type} {g : Operand} {ps : Array Tmp} {assign body : Code} {Q : Exit → Act → World → Prop} {a : Act} {w : World}
    (hro : F.round = none) (h1 : 1 ≤ n) {gf : Nat} {lb : Array Value} (hg : a.eval g = .func (.func gf) #[] lb) (hF : F.fn gf) (eg : ∀ args w, (callFunc gf args).run P w = .ok (.enter gf args) w)
    {encs : α → Array Value} {A : Nat → Nat → Prop} {K : Nat} {stops : Prop} {S Sp : List α → Prop} {N : Nat} {w0 : World} (hseq : SeqOwn F (n - 1) P gf lb encs A K stops S Sp N w0)
    (hb0 : Below w0.heap.size w0 w) (hps : ∀ x, (encs x).size = ps.size)
    (hA : ∀ b, A (w.heap.size + 2) b → b ≠ w.heap.size ∧ b ≠ w.heap.size + 1)
    (I : List α → World → Prop) (Ix : Code → List α → World → Prop)
    (hI : ∀ s b X Y, (A (w.heap.size + 2) b ∨ b = w.heap.size ∨ b = w.heap.size + 1) → I s X → X.grownBy Y (some b) → I s Y)
    (hIx : ∀ c s b X Y, (A (w.heap.size + 2) b ∨ b = w.heap.size ∨ b = w.heap.size + 1) → Ix c s X → X.grownBy Y (some b) → Ix c s Y)
    (hst : ∀ c s X, Ix c s X → stops)
    (hI0 : ∀ o, I [] ((w.alloc (.deferred (some []))).alloc (.loop o)))
    (a₁ : α → Act)
    (hassign : ∀ (l : Nat) (x : α) (W : World) (K : Act → World → Prop), K (a₁ x) W →
      assign.wpIn (F.inRound l) (n - 1 - 1) P (Exit.then K (fun _ _ _ => False)) { tmps := (ps.zip (encs x)).foldl (fun t (p, v) => t.setIfInBounds p v) a.tmps, defers := [] } W)
    (hbody : ∀ (l : Nat) (pre : List α) (x : α) (W : World), I pre W → pre.length < N → (0 < K → w.heap.size + 2 + K ≤ W.heap.size) → body.wpIn (F.inRound l) (n - 1 - 1) P (winPost (A (w.heap.size + 2)) w.heap.size I Ix (pre ++ [x]) W) (a₁ x) W)
    (hdone : ∀ (xs : List α) (W : World), S xs → I xs W → W.heap[w.heap.size]? = some (.deferred (some [])) → Q .normal { a with defers := { target := .collected w.heap.size, args := #[] } :: a.defers } W)
    (hstop : ∀ (c : Code) (pre : List α) (W : World), Sp pre → Ix c pre W → W.heap[w.heap.size]? = some (.deferred (some [])) → c.wpIn F n P Q { a with defers := { target := .collected w.heap.size, args := #[] } :: a.defers } W) :
    (Code.rangeFunc g ps assign body).wpIn F n P Q a w := by
  refine wpIn_rangeFunc fun fn hfn => ?_
  rw [hro]
  obtain ⟨rec, hrec⟩ : ∃ rec : LoopState → Option Code → Loop, rec = fun st pe => { state := st, pending := pe, fn, tmps := a.tmps, params := ps, assign, body, defers := w.heap.size } := ⟨_, rfl⟩
  obtain ⟨W1, hW1⟩ : ∃ W1, (w.alloc (.deferred (some []))).alloc (.loop (rec .ready none)) = W1 := ⟨_, rfl⟩
  have hL1 : W1.heap[w.heap.size + 1]? = some (.loop (rec .ready none)) := by
    rw [← hW1]; have := World.alloc_heap_new (w.alloc (.deferred (some []))) (.loop (rec .ready none)); rwa [World.size_alloc] at this
  have hK1 : W1.heap[w.heap.size]? = some (.deferred (some [])) := by
    rw [← hW1]; exact (Below.heap_alloc _ _ _ (by simp)).trans (World.alloc_heap_new w _)
  have hs1 : W1.heap.size = w.heap.size + 2 := by rw [← hW1]; simp
  have hI1 : I [] W1 := by rw [← hW1]; exact hI0 _
  have hb1 : Below w0.heap.size w0 W1 := by
    rw [← hW1]; exact hb0.trans ((((Below.refl _ w).alloc (Nat.le_refl _) _).alloc (by simp) _).mono hb0.size)
  refine ⟨w.heap.size + 1, [{ target := .collected w.heap.size, args := #[] }], W1, { target := .fn (.func gf) lb, args := #[.func (.yield (w.heap.size + 1)) #[] #[]] }, W1, gf,
    #[.func (.yield (w.heap.size + 1)) #[] #[]] ++ lb, W1, ?_, ?_, ?_, ?_, fun _ => h1, ?_⟩
  · rw [← hW1, hrec]; exact run_enterLoop_outer _ _ _ _ _
  · simp only [resolve, hg]
    simp [go_sem]
  · intro f' hf'; simp [Target.leads] at hf'; subst hf'; exact hF
  · simp [invoke, go_sem, eg]
  · have keep : ∀ {X Y : World} {b k : Nat} {o : Obj}, X.heap[k]? = some o → X.grownBy Y (some b) → b ≠ k → Y.heap[k]? = some o :=
      fun hx hg hne => (hg.block _ (Array.getElem?_eq_some_iff.1 hx).1 (fun e => hne (by cases e; rfl))).trans hx
    refine (hseq (w.heap.size + 1)
      (fun pre W => I pre W ∧ W.heap[w.heap.size + 1]? = some (.loop (rec .ready none)) ∧ W.heap[w.heap.size]? = some (.deferred (some [])))
      (fun pre W => ∃ c, Ix c pre W ∧ W.heap[w.heap.size + 1]? = some (.loop (rec .done (some c))) ∧ W.heap[w.heap.size]? = some (.deferred (some [])))
      W1 hb1 (fun s X h => by obtain ⟨c, hc, _⟩ := h; exact hst c s X hc)
      (fun s b X Y hb hs hg' => by
        rw [hs1] at hb
        exact ⟨hI s b X Y (.inl hb) hs.1 hg', keep hs.2.1 hg' (hA b hb).2, keep hs.2.2 hg' (hA b hb).1⟩)
      (fun s b X Y hb hs hg' => by
        rw [hs1] at hb
        obtain ⟨c, hc, hl, hk⟩ := hs
        exact ⟨c, hIx c s b X Y (.inl hb) hc hg', keep hl hg' (hA b hb).2, keep hk hg' (hA b hb).1⟩)
      ?_ ⟨hI1, hL1, hK1⟩).mono ?_
    · rintro pre x W ⟨hi, hl, hk⟩ hlen hsz
      rw [hs1] at hsz ⊢
      have hlt : w.heap.size + 1 < W.heap.size := (Array.getElem?_eq_some_iff.1 hl).1
      have hy := run_yield (P := P) (args := encs x) hl (by rw [hrec]; exact hps x)
      rw [hrec] at hy
      refine ⟨fn, _, assign, body, hy, roundIn_of_wpIn hfn (hassign _ x W _ ⟨_, run_beginRound hl (by rw [hrec]), ?_⟩)⟩
      have hl2 : (W.putObj (w.heap.size + 1) (.loop { rec .ready none with state := .busy })).heap[w.heap.size + 1]? = some (.loop { rec .ready none with state := .busy }) := World.putObj_heap_same hlt
      have hk2 : (W.putObj (w.heap.size + 1) (.loop { rec .ready none with state := .busy })).heap[w.heap.size]? = some (.deferred (some [])) := (World.putObj_heap_other (by omega)).trans hk
      have hkA : ∀ (W : World) (o : Obj), KeepsAt (A (w.heap.size + 2)) W (W.putObj (w.heap.size + 1) o) := fun W o => KeepsAt.put (fun h => (hA _ h).2 rfl)
      refine wpIn_mono (hbody _ pre x _ (hI _ _ _ _ (.inr (.inr rfl)) hi (grownBy_putObj' _ _ _)) hlen (fun hK => Nat.le_trans (hsz hK) (grownBy_putObj' W _ _).size)) ?_
      have fin : ∀ (jump : Option Code) (W3 : World), W3.heap[w.heap.size + 1]? = some (.loop { rec .ready none with state := .busy }) → W3.heap[w.heap.size]? = some (.deferred (some [])) →
          (Instr.endRound (w.heap.size + 1) jump).run P W3 = .ok (.bool jump.isNone) (W3.putObj (w.heap.size + 1) (.loop (rec (if jump.isNone then .ready else .done) jump))) ∧
          (W3.putObj (w.heap.size + 1) (.loop (rec (if jump.isNone then .ready else .done) jump))).heap[w.heap.size + 1]? = some (.loop (rec (if jump.isNone then .ready else .done) jump)) ∧
          (W3.putObj (w.heap.size + 1) (.loop (rec (if jump.isNone then .ready else .done) jump))).heap[w.heap.size]? = some (.deferred (some [])) := fun jump W3 hl3 hk3 => by
        have := run_endRound (P := P) jump hl3
        rw [hrec] at this ⊢
        exact ⟨this, World.putObj_heap_same (Array.getElem?_eq_some_iff.1 hl3).1, (World.putObj_heap_other (by omega)).trans hk3⟩
      rintro e a3 W3 hp
      have hL3 : ∀ {B : Nat → Prop}, KeepsAt B (W.putObj (w.heap.size + 1) (.loop { rec .ready none with state := .busy })) W3 → B (w.heap.size + 1) → W3.heap[w.heap.size + 1]? = some (.loop { rec .ready none with state := .busy }) := fun h hB => (h _ hB).trans hl2
      have hD3 : ∀ {B : Nat → Prop}, KeepsAt B (W.putObj (w.heap.size + 1) (.loop { rec .ready none with state := .busy })) W3 → B w.heap.size → W3.heap[w.heap.size]? = some (.deferred (some [])) := fun h hB => (h _ hB).trans hk2
      cases e with
      | normal =>
        obtain ⟨hk3, hi3⟩ := hp
        obtain ⟨hr, hl4, hk4⟩ := fin none W3 (hL3 hk3 (.inr (.inr rfl))) (hD3 hk3 (.inr (.inl rfl)))
        exact ⟨_, _, hr, .inl ⟨rfl, ⟨hI _ _ _ _ (.inr (.inr rfl)) hi3 (grownBy_putObj' _ _ _), hl4, hk4⟩, ((hkA W _).trans (hk3.mono (fun k h => .inl h))).trans (hkA W3 _)⟩⟩
      | ret =>
        obtain ⟨hk3, hi3⟩ := hp
        obtain ⟨hr, hl4, hk4⟩ := fin (some .ret) W3 (hL3 hk3 (.inr rfl)) (hD3 hk3 (.inl rfl))
        exact ⟨_, _, hr, .inr ⟨rfl, .ret, hIx _ _ _ _ _ (.inr (.inr rfl)) hi3 (grownBy_putObj' _ _ _), hl4, hk4⟩⟩
      | exit id =>
        obtain ⟨hk3, hi3⟩ := hp
        obtain ⟨hr, hl4, hk4⟩ := fin (some (.exit id)) W3 (hL3 hk3 (.inr rfl)) (hD3 hk3 (.inl rfl))
        exact ⟨_, _, hr, .inr ⟨rfl, .exit id, hIx _ _ _ _ _ (.inr (.inr rfl)) hi3 (grownBy_putObj' _ _ _), hl4, hk4⟩⟩
      | goto t =>
        obtain ⟨hk3, hi3⟩ := hp
        obtain ⟨hr, hl4, hk4⟩ := fin (some (.goto t)) W3 (hL3 hk3 (.inr rfl)) (hD3 hk3 (.inl rfl))
        exact ⟨_, _, hr, .inr ⟨rfl, .goto t, hIx _ _ _ _ _ (.inr (.inr rfl)) hi3 (grownBy_putObj' _ _ _), hl4, hk4⟩⟩
      | panic ch => exact hp.elim
      | outgrown => exact hp.elim
    · rintro e W2 ⟨⟨v, rfl⟩, (⟨xs, hS, hi, hl, hk⟩ | ⟨pre, hSp, c, hi, hl, hk⟩)⟩
      · exact ⟨none, _, by have := run_endLoop (P := P) hl (by rw [hrec]; simp); rw [hrec] at this; exact this, hdone xs _ hS (hI _ _ _ _ (.inr (.inr rfl)) hi (grownBy_putObj' _ _ _)) ((World.putObj_heap_other (by omega)).trans hk)⟩
      · exact ⟨some c, _, by have := run_endLoop (P := P) hl (by rw [hrec]; simp); rw [hrec] at this; exact this, hstop c pre _ hSp (hIx _ _ _ _ _ (.inr (.inr rfl)) hi (grownBy_putObj' _ _ _)) ((World.putObj_heap_other (by omega)).trans hk)⟩
end Go.Proofs.YtlccihidedfemaaGreatDoor
set_option linter.unusedVariables false
namespace Go.Proofs.YtlccihidedfemaaGreatDoor
open Go.RowKit Go.Shelf
attribute [local go_sem] Oper.semAt_some
abbrev badS : ByteArray := ⟨#[47, 0]⟩
set_option maxRecDepth 100000 in
theorem IndexByte_any (s : ByteArray) (c : UInt8) (w : World) : Calls Tryz.prog 178 #[.string s, .int .u8 c.toNat] w fun e w' => e = .returned (.int .i64 (Lib.indexByte s.data.toList c)) ∧ w = w' := by
  have C := Any.strings_IndexByte Tryz.lays137 s (c.toNat : Int) w
  change Calls Tryz.prog 178 _ _ _ at C
  refine C.mono ?_
  rintro e w' ⟨rfl, rfl⟩
  exact ⟨by simp, rfl⟩
def runeB (c : Int) : Bool := (decide (0 ≤ c) && decide (c < 55296)) || (decide (57343 < c) && decide (c ≤ 1114111))
theorem ValidRune_any (c : Int) (h0 : 128 ≤ c) (w : World) : Calls Tryz.prog 179 #[.int .i32 c] w fun e w' => e = .returned (.bool (runeB c)) ∧ w = w' := by
  have a0 : decide ((0 : Int) ≤ c) = true := decide_eq_true (by omega)
  by_cases h1 : c < 55296
  · have a1 : decide (c < 55296) = true := decide_eq_true h1
    have HN : Hid (runeB c = true) := by show _ = _; simp [runeB, a0, a1]
    go_enter Tryz.func179, Tryz.ntmps179
    go_wp2
    go_ret
    exact ⟨ret_val (congrArg Value.bool HN.out.symm), rfl⟩
  · have a1 : decide (c < 55296) = false := decide_eq_false h1
    by_cases h2 : 57343 < c
    · have a2 : decide (57343 < c) = true := decide_eq_true h2
      by_cases h3 : c ≤ 1114111
      · have a3 : decide (c ≤ 1114111) = true := decide_eq_true h3
        have HN : Hid (runeB c = true) := by show _ = _; simp [runeB, a2, a3]
        go_enter Tryz.func179, Tryz.ntmps179
        go_wp2
        go_ret
        exact ⟨ret_val (congrArg Value.bool HN.out.symm), rfl⟩
      · have a3 : decide (c ≤ 1114111) = false := decide_eq_false h3
        have HN : Hid (runeB c = false) := by show _ = _; simp [runeB, a1, a3]
        go_enter Tryz.func179, Tryz.ntmps179
        go_wp2
        go_ret
        exact ⟨ret_val (congrArg Value.bool HN.out.symm), rfl⟩
    · have a2 : decide (57343 < c) = false := decide_eq_false h2
      have HN : Hid (runeB c = false) := by show _ = _; simp [runeB, a1, a2]
      go_enter Tryz.func179, Tryz.ntmps179
      go_wp2
      go_ret
      exact ⟨ret_val (congrArg Value.bool HN.out.symm), rfl⟩
theorem encode_high {c : Int} (h : 128 ≤ c) : 2 ≤ (Utf8.encode c).size ∧ (Utf8.encode c).size ≤ 4 ∧ ∀ k (hk : k < (Utf8.encode c).size), k + 1 = (Utf8.encode c).size → ((Utf8.encode c)[k].toNat : Int) ≠ 0 := by
  obtain ⟨n, hn⟩ : ∃ n, n = if Utf8.valid c then c.toNat else Utf8.runeError := ⟨_, rfl⟩
  have hn1 : 128 ≤ n := by rw [hn]; split; omega; decide
  have key : ∀ m : Nat, ((UInt8.ofNat (128 + m % 64)).toNat : Int) ≠ 0 := fun m => by
    rw [UInt8.toNat_ofNat']; omega
  have two : ∀ a b : UInt8, (⟨#[a, b]⟩ : ByteArray).size = 2 := fun _ _ => rfl
  have three : ∀ a b c : UInt8, (⟨#[a, b, c]⟩ : ByteArray).size = 3 := fun _ _ _ => rfl
  have four : ∀ a b c d : UInt8, (⟨#[a, b, c, d]⟩ : ByteArray).size = 4 := fun _ _ _ _ => rfl
  unfold Utf8.encode
  rw [← hn]
  simp only
  split
  · omega
  · split
    · refine ⟨by rw [two]; omega, by rw [two]; omega, fun k hk e => ?_⟩
      rw [two] at e; obtain rfl : k = 1 := by omega
      exact key n
    · split
      · refine ⟨by rw [three]; omega, by rw [three]; omega, fun k hk e => ?_⟩
        rw [three] at e; obtain rfl : k = 2 := by omega
        exact key n
      · refine ⟨by rw [four]; omega, by rw [four]; omega, fun k hk e => ?_⟩
        rw [four] at e; obtain rfl : k = 3 := by omega
        exact key n
set_option maxRecDepth 100000 in
set_option maxHeartbeats 4000000 in
theorem IndexRune_high (c : Int) (h : 128 ≤ c) (hc : c ≤ 2147483647) (w : World) : Calls Tryz.prog 165 #[.string badS, .int .i32 c] w fun e w' => e = .returned (.int .i64 (-1)) ∧ Below w.heap.size w w' := by
  have a0 : decide (c < 128) = false := decide_eq_false (by omega)
  have a00 : decide ((0 : Int) ≤ c) = true := decide_eq_true (by omega)
  by_cases he : c = 65533
  · subst he
    go_enter Tryz.func165, Tryz.ntmps165
    go_wp2
    go_loopg [5, 6] 2 (fun g _ _ wx => ∃ i : Nat, i + g = 2 ∧ wx = w.iter badS i)
    case atStart => exact ⟨0, by omega, rfl⟩
    case round =>
      obtain ⟨i, hig, rfl⟩ := hrel
      cases gk with
      | zero =>
        obtain rfl : i = 2 := by omega
        have hnx := run_next_end (P := Tryz.prog) w badS 2
        go_wp2
        go_ret
        exact ⟨rfl, (Below.refl _ _).alloc (Nat.le_refl _) _⟩
      | succ g =>
        have hi : i < badS.size := by show i < 2; omega
        have hx : (badS[i]'hi).toNat < 128 := by
          rcases (show i = 0 ∨ i = 1 by omega) with rfl | rfl
          · exact (by decide : 47 < 128)
          · exact (by decide : 0 < 128)
        have hnx := fun ty => run_next_ascii (P := Tryz.prog) w badS i ty hi hx
        obtain ⟨x, hxx⟩ : ∃ x, x = (badS[i]'hi).toNat := ⟨_, rfl⟩
        rw [← hxx] at hnx hx
        have hne : ((x : Int) == 65533) = false := beq_eq_false_iff_ne.2 (by omega)
        clear hxx
        go_wp2
        go_roundg g
        case measure => omega
        case rel => exact ⟨i + 1, by omega, rfl⟩
  · have a1 : (c == 65533) = false := beq_eq_false_iff_ne.2 he
    have V := Lib.hid (ValidRune_any c h)
    rcases hv : runeB c with _ | _
    · rw [hv] at V
      go_enter Tryz.func165, Tryz.ntmps165
      go_wp2_with fail
      refine (V.out _).mono ?_
      rintro e w1 ⟨rfl, rfl⟩
      go_wp2
      go_ret
      exact ⟨rfl, Below.refl _ _⟩
    · rw [hv] at V
      obtain ⟨hz1, hz2, hlast⟩ := encode_high h
      clear hv
      by_cases hz : (Utf8.encode c).size = 2
      · have hl := hlast 1 (by omega) (by omega)
        have hu0 : (((badS[1]'(by decide)).toNat : Int) != (((Utf8.encode c)[1]'(by omega)).toNat : Int)) = true := bne_iff_ne.2 (fun e => hl e.symm)
        have hw2 : IntKind.i64.wrap 2 = 2 := by rw [IntKind.wrap_i64]; decide
        have hs2 := fun W => run_slice_from (P := Tryz.prog) Tryz.underlying9 badS 2 (by decide) W
        have CI := Lib.hid (fun (x : ByteArray) (hx : x.data.toList = []) (u : UInt8) W => show Calls Tryz.prog 178 #[.string x, .int .u8 u.toNat] W fun e w' => e = .returned (.int .i64 (-1)) ∧ w' = W from (IndexByte_any x u W).mono fun e w' h => ⟨by rw [h.1, hx]; rfl, h.2.symm⟩)
        clear hlast hl
        go_enter Tryz.func165, Tryz.ntmps165
        go_wp2_with fail
        refine (V.out _).mono ?_
        rintro e w1 ⟨rfl, rfl⟩
        go_wp2_with fail
        apply wp_scope_straight
        go_wp2_with fail
        go_loopw [9, 10] (fun i f wx => i = .int .i64 1 ∧ f = .int .i64 0 ∧ wx = w) (fun _ _ _ => 0)
        case atStart => exact ⟨rfl, rfl, rfl⟩
        case round =>
          obtain ⟨rfl, rfl, rfl⟩ := hrel
          go_wp2_with fail
          apply wp_scope_straight
          go_wp2_with fail
          go_quiet (fail)
          go_wp2_with fail
          have hBw := below_drewN (Below.refl wr.heap.size wr) nq
          generalize wr.drewN nq = wq at hBw ⊢
          go_quiet ((go_at_call 178; exact Calls.quiet_of_same (CI.out ByteArray.empty (by rfl) _ _)))
          go_wp2_with fail
          rw [Exit.noGoto_ret]
          go_wp2_with fail
          rw [Exit.noGoto_ret]
          go_wp2
          go_ret
          exact ⟨rfl, below_drewN hBw _⟩
      · have hz3 : 3 ≤ (Utf8.encode c).size := by omega
        obtain ⟨rs, hrs⟩ : ∃ rs, rs = Utf8.encode c := ⟨_, rfl⟩
        have HZ3 := Lib.hid hz3
        clear hlast hz
        go_enter Tryz.func165, Tryz.ntmps165
        go_wp2_with fail
        refine (V.out _).mono ?_
        rintro e w1 ⟨rfl, rfl⟩
        go_wp2_with fail
        apply wp_scope_straight
        go_wp2_with fail
        rw [← hrs] at hz3 hz1 hz2 ⊢
        clear hrs
        have hlt : decide ((rs.size : Int) - 1 < 2) = false := decide_eq_false (by omega)
        go_loopw [9, 10] (fun i f wx => i = .int .i64 ((rs.size : Int) - 1) ∧ f = .int .i64 0 ∧ wx = w) (fun _ _ _ => 0)
        case atStart => exact ⟨rfl, rfl, rfl⟩
        case round =>
          obtain ⟨rfl, rfl, rfl⟩ := hrel
          go_wp2_with fail
          rw [Exit.noGoto_ret]
          go_wp2
          go_ret
          exact ⟨rfl, Below.refl _ _⟩
end Go.Proofs.YtlccihidedfemaaGreatDoor
set_option linter.unusedVariables false
namespace Go.Proofs.YtlccihidedfemaaGreatDoor
open Go.RowKit Go.Shelf
theorem sizeBuilder_Bup : (Tryz.prog.info? 154).map (fun i => i.size) = some 2 := by kernel_rfl
theorem infoByte_Bup : (Tryz.prog.info? 5).map (fun i => (i.zero, i.size, i.bytes)) = some (some (.int .u8 0), 1, 1) := by kernel_rfl
theorem liesBuilder_Bup : liesAt Tryz.prog Tryz.prog.depth 154 (2 / Tryz.prog.cellsOf 154) 0 154 1 = true := by kernel_rfl
set_option maxHeartbeats 1000000 in
set_option maxRecDepth 100000 in
theorem copyCheck_used_Bup (b : Nat) (w : World) (h0 : w.cell? ⟨b, 0, none⟩ = some (.pointer (some ⟨b, 0, none⟩))) :
    Calls Tryz.prog 146 #[.pointer (some ⟨b, 0, none⟩)] w fun e w' => e = .returned (.tuple #[]) ∧ w' = w := by
  obtain ⟨j, hj, _⟩ := Option.map_eq_some_iff.1 sizeBuilder_Bup
  go_enter Tryz.func146, Tryz.ntmps146
  go_wp2
  rw [Lib.run_neq_ptr_same w _ Tryz.underlying152 hj]
  go_wp2
  go_end0
  exact ⟨rfl, rfl⟩
set_option maxHeartbeats 1000000 in
set_option maxRecDepth 100000 in
theorem copyCheck_fresh_Bup (b : Nat) (w : World) (h0 : w.cell? ⟨b, 0, none⟩ = some (.pointer none)) (hsh : w.shape? b = some (154, 2)) (hfz : w.frozen? ⟨b, 0, none⟩ = false) :
    Calls Tryz.prog 146 #[.pointer (some ⟨b, 0, none⟩)] w fun e w' => e = .returned (.tuple #[]) ∧ w' = w.setCell ⟨b, 0, none⟩ (.pointer (some ⟨b, 0, none⟩)) := by
  obtain ⟨j, hj, hjs⟩ := Option.map_eq_some_iff.1 sizeBuilder_Bup
  have hl := liesBuilder_Bup
  go_enter Tryz.func146, Tryz.ntmps146
  go_wp2
  rw [Lib.run_to_unsafe w ⟨b, 0, none⟩ Tryz.underlying152 Tryz.underlying180 hj (by rw [hjs]; decide) hsh (Nat.zero_lt_succ 1)]
  simp only [Result.andThen]
  rw [Oper.upon_value]
  go_wp2
  rw [run_callFunc_extern Tryz.func160 (by kernel_rfl) (by kernel_rfl) (by kernel_rfl) (e := Extern.AbiNoEscape.same) (by kernel_rfl)]
  rw [Lib.run_noEscape]
  simp only [Result.andThen]
  rw [Oper.upon_value]
  go_wp2
  rw [Lib.run_from_unsafe w ⟨b, 0, none⟩ Tryz.underlying180 Tryz.underlying152 hj hsh hl]
  simp only [Result.andThen]
  rw [Oper.upon_value]
  go_wp2
  go_end0
  exact ⟨rfl, rfl⟩
theorem copyCheck_k_Bup (B b : Nat) (bs : List Value) (w : World) (h : Lib.IsBuilderF 154 5 B b bs w) :
    Calls Tryz.prog 146 #[.pointer (some ⟨b, 0, none⟩)] w fun e w' => e = .returned (.tuple #[]) ∧ (Lib.BuilderAtF 154 5 B b (.pointer (some ⟨b, 0, none⟩)) bs w' ∧ Below B w w' ∧ Lib.OthersKept 5 (some b) w w') := by
  rcases h with h | h
  · refine (copyCheck_fresh_Bup b w h.cell0 h.shape h.frozen0).mono ?_
    rintro e w' ⟨rfl, rfl⟩
    exact ⟨rfl, h.used _, (Below.refl B w).setCell (p := ⟨b, 0, none⟩) h.1 _, (Lib.OthersKept.refl _ _ w).setCell ⟨b, 0, none⟩ rfl _⟩
  · refine (copyCheck_used_Bup b w h.cell0).mono ?_
    rintro e w' ⟨rfl, rfl⟩
    exact ⟨rfl, h, Below.refl B _, Lib.OthersKept.refl _ _ _⟩
theorem cellsByte_Bup : Tryz.prog.cellsOf 5 = 1 := by kernel_rfl
set_option maxHeartbeats 2000000 in
set_option maxRecDepth 100000 in
theorem String_full_k_Bup (B b : Nat) (l : List UInt8) (w : World) (h : Lib.IsBuilderF 154 5 B b (Lib.byteCells l) w) (h0 : l ≠ []) :
    Calls Tryz.prog 128 #[.pointer (some ⟨b, 0, none⟩)] w fun e w' => e = .returned (.string ⟨l.toArray⟩) ∧ (Lib.IsBuilderF 154 5 B b (Lib.byteCells l) w' ∧ Below B w w' ∧ Lib.OthersKept 5 (some b) w w') := by
  obtain ⟨p, hp, hAt⟩ : ∃ p, (p = .pointer none ∨ p = .pointer (some ⟨b, 0, none⟩)) ∧ Lib.BuilderAtF 154 5 B b p (Lib.byteCells l) w := by
    rcases h with h | h
    · exact ⟨_, .inl rfl, h⟩
    · exact ⟨_, .inr rfl, h⟩
  obtain ⟨hB, v, hbk, hown, hne⟩ := hAt
  have hl0 : l.length ≠ 0 := by simpa using h0
  rw [Lib.byteCells_length] at hown
  obtain ⟨g, cap, cur, fz, rfl, hbg, hg, hfz, hnc, hcm, hcs, htake⟩ : ∃ g cap cur fz, v = .slice (some ⟨g, 0, none⟩) l.length cap ∧ B ≤ g ∧ w.heap[g]? = some (.cells cur 5 fz) ∧ fz.2 ≤ l.length * 1 ∧ l.length ≤ cap ∧ cap ≤ maxLen ∧ cur.size = cap * 1 ∧ cur.toList.take (l.length * 1) = Lib.byteCells l := by
    rcases hown.2 with ⟨_, hz⟩ | ⟨g, cap, cur, fz, hv, r⟩
    · exact absurd hz hl0
    · exact ⟨g, cap, cur, fz, hv, r⟩
  have c1 : w.drew.cell? ⟨b, 1, none⟩ = some (.slice (some ⟨g, 0, none⟩) l.length cap) := by
    have : w.drew.heap[b]? = some (.cells #[p, .slice (some ⟨g, 0, none⟩) l.length cap] 154 (0, 0)) := hbk
    rw [Lib.cell_of_heap this]; rfl
  have hSD : (Builtin.unsafeSliceData_ #[83] 175 #[.slice (some ⟨g, 0, none⟩) l.length cap]).run Tryz.prog w.drew = .ok (.pointer (some ⟨g, 0, none⟩)) w.drew :=
    Lib.run_unsafeSliceData_row _ _ _ _ _ _ (by omega)
  have hUS : (Builtin.unsafeString_ #[175, 3] 9 #[.pointer (some ⟨g, 0, none⟩), .int .i64 l.length]).run Tryz.prog w.drew = .ok (.string ⟨l.toArray⟩) (w.drew.freeze ⟨g, 0, none⟩ l.length) := by
    refine Lib.run_unsafeString_row w.drew 175 3 9 5 Tryz.underlying175 cellsByte_Bup g cur.size (by have hg' : w.drew.heap[g]? = some (.cells cur 5 fz) := hg; simp [World.shape?, hg']) l h0 (by omega) (by unfold maxLen at hcm; omega) ?_
    intro j x hx
    have := hown.cells (g := g) rfl j (.int .u8 x.toNat) (by simp [Lib.byteCells, hx])
    exact this
  have hkeep : Lib.IsBuilderF 154 5 B b (Lib.byteCells l) (w.drew.freeze ⟨g, 0, none⟩ l.length) := by
    have hA : Lib.BuilderAtF 154 5 B b p (Lib.byteCells l) w.drew := ⟨hB, _, hbk, by rw [Lib.byteCells_length]; exact hown, hne⟩
    have hF := hA.froze (g := g) (cap := cap) (by rw [Lib.byteCells_length]; exact c1)
    rw [Lib.byteCells_length] at hF
    rcases hp with rfl | rfl
    · exact .inl hF
    · exact .inr hF
  go_enter Tryz.func128, Tryz.ntmps128
  go_wp2
  go_region
  all_goals (go_wp2; go_ret; exact ⟨rfl, hkeep, Lib.below_freeze (Below.drew (Below.refl B w)) (p := ⟨g, 0, none⟩) hbg _, ((Lib.OthersKept.refl _ _ w).drew).freeze ⟨g, 0, none⟩ _ ⟨cur, fz, hg⟩⟩)
set_option maxHeartbeats 2000000 in
set_option maxRecDepth 100000 in
theorem WriteString_k (B b : Nat) (bs : List Value) (s : ByteArray) (w : World) (h : Lib.IsBuilderF 154 5 B b bs w) (hlen : bs.length + s.size ≤ 140737488355328) (hBw : B ≤ w.heap.size) :
    Calls Tryz.prog 126 #[.pointer (some ⟨b, 0, none⟩), .string s] w fun e w' => e = .returned (.tuple #[.int .i64 s.size, .nilIface]) ∧ (Lib.BuilderAtF 154 5 B b (.pointer (some ⟨b, 0, none⟩)) (bs ++ Lib.strCells s) w' ∧ Below B w w' ∧ Lib.OthersKept 5 (some b) w w') := by
  obtain ⟨i0, hi, hz0, hz1, hz2⟩ := info_parts infoByte_Bup
  go_enter Tryz.func126, Tryz.ntmps126
  go_wp2_with (go_at_call 146; refine (copyCheck_k_Bup B b bs _ h).mono ?_)
  rintro e w1 ⟨rfl, h1, hb1, hk1⟩
  obtain ⟨hB, v, hbk, hown, hne⟩ := h1
  have c0 : w1.cell? ⟨b, 0, none⟩ = some (.pointer (some ⟨b, 0, none⟩)) := by rw [Lib.cell_of_heap hbk]; rfl
  have c1 : w1.cell? ⟨b, 1, none⟩ = some v := by rw [Lib.cell_of_heap hbk]; rfl
  go_wp2_with (at_builtin; refine Lib.wpList_append_own_stringF _ rfl _ _ 83 9 rfl B 5 i0 Tryz.underlying83 Tryz.underlying9 hi hz0 hz1 hz2 _ _ _ rfl hown s rfl ?c3 ?c4 ?c5 ?_)
  case c3 => unfold maxLen; omega
  case c4 => omega
  case c5 => have := hb1.size; omega
  intro v' w2 hown' hgrow _
  have hlt : b < w1.heap.size := (Array.getElem?_eq_some_iff.1 hbk).1
  have hb2 : w2.heap[b]? = some (.cells #[.pointer (some ⟨b, 0, none⟩), v] 154 (0, 0)) := by
    rw [hgrow.block b hlt (fun e => hne e.symm)]
    exact hbk
  have d0 : w2.cell? ⟨b, 0, none⟩ = some (.pointer (some ⟨b, 0, none⟩)) := by rw [Lib.cell_of_heap hb2]; rfl
  have d1 : w2.cell? ⟨b, 1, none⟩ = some v := by rw [Lib.cell_of_heap hb2]; rfl
  have f1 : w2.frozen? ⟨b, 1, none⟩ = false := Lib.frozen_of_heap hb2 1
  obtain ⟨ao, n', cap, rfl⟩ : ∃ ao n' cap, v' = .slice ao n' cap := by
    rcases hown'.2 with ⟨hv, _⟩ | ⟨g, cap, cur, fz, hv, _⟩
    · exact ⟨_, _, _, hv⟩
    · exact ⟨_, _, _, hv⟩
  go_wp2
  go_ret2
  refine ⟨rfl, ?_, ?_, (hk1.grown hgrow (Lib.ownsRowF_kind hown)).setCell ⟨b, 1, none⟩ rfl _⟩
  · exact Lib.BuilderAtF.put (T := 154) (e := 5) hB hb2 (bs' := bs ++ Lib.strCells s) (by simpa [Lib.strCells_length] using hown') (by decide)
  · exact (hb1.grown hgrow (by have := hb1.size; omega) (fun k hk => (hown.lt k hk).1)).setCell (p := ⟨b, 1, none⟩) hB _
theorem sizeByte : (Tryz.prog.info? 5).map (fun i => i.size) = some 1 := by kernel_rfl
set_option maxHeartbeats 2000000 in
set_option maxRecDepth 1000000 in
theorem grow_fresh (B b n : Nat) (w : World) (hB : B ≤ b) (hbk : w.heap[b]? = some (.cells #[.pointer (some ⟨b, 0, none⟩), .slice none 0 0] 154 (0, 0))) (hBw : B ≤ w.heap.size) (hn : n ≤ 281474976710656) :
    Calls Tryz.prog 152 #[.pointer (some ⟨b, 0, none⟩), .int .i64 n] w fun e w' => e = .returned (.tuple #[]) ∧ (Lib.BuilderAt 154 5 B b (.pointer (some ⟨b, 0, none⟩)) [] w' ∧ Below B w w') := by
  obtain ⟨cs, hrun, hle, hmax⟩ := Lib.run_makeNoZero (P := Tryz.prog) w.drew #[3] 83 5 Tryz.underlying83 n hn
  have hw : IntKind.i64.wrap (IntKind.i64.wrap 0 + (n : Int)) = n := by
    rw [IntKind.wrap_i64, IntKind.wrap_i64]
    omega
  have hcall : (callFunc 169 #[.int .i64 (n : Int)]).run Tryz.prog w.drew = .ok (.value (.slice (some ⟨w.drew.heap.size, 0, none⟩) n cs.size)) (w.drew.drew.drew.alloc (.cells cs 5)) := by
    rw [run_callFunc_extern Tryz.func169 (by kernel_rfl) (by kernel_rfl) (by kernel_rfl) (e := Extern.BytealgMakeNoZero.makeNoZero #[3] #[83]) (by kernel_rfl), hrun]
    rfl
  have hlt : b < w.heap.size := (Array.getElem?_eq_some_iff.1 hbk).1
  have c1 : w.drew.cell? ⟨b, 1, none⟩ = some (.slice none 0 0) := by
    have : w.drew.heap[b]? = _ := hbk
    rw [Lib.cell_of_heap this]; rfl
  have c2 : (w.alloc (.cells cs 5)).cell? ⟨b, 1, none⟩ = some (.slice none 0 0) := by
    have : (w.alloc (.cells cs 5)).heap[b]? = _ := (Lib.alloc_old w _ b hlt).trans hbk
    rw [Lib.cell_of_heap this]; rfl
  have f2 : (w.alloc (.cells cs 5)).frozen? ⟨b, 1, none⟩ = false := Lib.frozen_of_heap ((Lib.alloc_old w _ b hlt).trans hbk) 1
  have hcopy : ∀ W : World, (Builtin.copy_ #[83, 83] 3 #[.slice (some ⟨w.heap.size, 0, none⟩) 0 cs.size, .slice none 0 0]).run Tryz.prog W = .ok (goInt 0) W :=
    fun W => run_copy_none W 83 83 3 5 _ _ 0 cs.size 0 0 Tryz.underlying83 sizeByte rfl
  go_enter Tryz.func152, Tryz.ntmps152
  go_wp2
  have hfin := Lib.grown_fresh (T := 154) (e := 5) (cs := cs) hB hbk hBw (hmax (by unfold maxLen; omega)) (by decide)
  go_region
  all_goals (go_wp2; go_end0; exact ⟨rfl, by first | exact hfin | (rw [World.setCell_alloc_past _ b 1 _ hlt] at hfin; exact hfin)⟩)
set_option maxHeartbeats 2000000 in
set_option maxRecDepth 1000000 in
theorem Grow_fresh (B b n : Nat) (w : World) (hB : B ≤ b) (hbk : w.heap[b]? = some (.cells #[.pointer none, .slice none 0 0] 154 (0, 0))) (hBw : B ≤ w.heap.size) (hn1 : 1 ≤ n) (hn : n ≤ 281474976710656) :
    Calls Tryz.prog 136 #[.pointer (some ⟨b, 0, none⟩), .int .i64 n] w fun e w' => e = .returned (.tuple #[]) ∧ (Lib.BuilderAt 154 5 B b (.pointer (some ⟨b, 0, none⟩)) [] w' ∧ Below B w w') := by
  have h0 : w.cell? ⟨b, 0, none⟩ = some (.pointer none) := by rw [Lib.cell_of_heap hbk]; rfl
  have hsh : w.shape? b = some (154, 2) := by unfold World.shape?; rw [hbk]; rfl
  have hfz : w.frozen? ⟨b, 0, none⟩ = false := Lib.frozen_of_heap hbk 0
  have hbk1 : (w.setCell ⟨b, 0, none⟩ (.pointer (some ⟨b, 0, none⟩))).heap[b]? = some (.cells #[.pointer (some ⟨b, 0, none⟩), .slice none 0 0] 154 (0, 0)) := by
    simp [World.setCell, Array.getElem?_modify, hbk]
  have c1 : (w.setCell ⟨b, 0, none⟩ (.pointer (some ⟨b, 0, none⟩))).cell? ⟨b, 1, none⟩ = some (.slice none 0 0) := by rw [Lib.cell_of_heap hbk1]; rfl
  have hb1 : Below B w (w.setCell ⟨b, 0, none⟩ (.pointer (some ⟨b, 0, none⟩))) := (Below.refl B w).setCell (p := ⟨b, 0, none⟩) hB _
  obtain ⟨W1, hW1⟩ : ∃ W1, W1 = w.setCell ⟨b, 0, none⟩ (.pointer (some ⟨b, 0, none⟩)) := ⟨_, rfl⟩
  have CC := Lib.hid (copyCheck_fresh_Bup b w h0 hsh hfz)
  rw [← hW1] at hbk1 c1 hb1 CC
  have HB := Lib.hid hbk1
  have hp : (0 : Int) < (n : Int) := by omega
  clear hW1 hbk1 h0 hsh hfz
  go_enter Tryz.func136, Tryz.ntmps136
  go_wp2_with fail
  refine CC.out.mono ?_
  rintro e w1 ⟨rfl, rfl⟩
  go_wp2_with fail
  go_quiet (fail)
  go_wp2_with fail
  have hbk2 : (w1.drewN nq).heap[b]? = some (.cells #[.pointer (some ⟨b, 0, none⟩), .slice none 0 0] 154 (0, 0)) := HB.out
  refine (grow_fresh B b n _ hB hbk2 (Nat.le_trans hBw hb1.size) hn).mono ?_
  rintro e w2 ⟨rfl, hA, hb2⟩
  go_wp2_with fail
  go_end0
  exact ⟨rfl, hA, (below_drewN hb1 nq).trans hb2⟩
end Go.Proofs.YtlccihidedfemaaGreatDoor

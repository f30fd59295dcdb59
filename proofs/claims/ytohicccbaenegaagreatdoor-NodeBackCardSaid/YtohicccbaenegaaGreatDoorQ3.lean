/-
  Texts put together: contracts and laws that this seat's proofs share.
-/
import Derived.Test.YtohicccbaenegaaGreatDoorRows
import Derived.Test.YtohicccbaenegaaGreatDoorYNdq
import Derived.WalkKit
import Derived.ProofKit
import Derived.OpenShut
import Derived.LaidLaws
import Derived.LaidHandle
import Derived.Stop.Joined
import Derived.Lib.SmallJoins
import Derived.Stop.LaidErr
import Derived.Test.YtohicccbaenegaaGreatDoorQ0
import Derived.Test.YtohicccbaenegaaGreatDoorQ2
import Derived.ChangeSame
import Derived.ChangeMaps5
import Derived.Deep.Slices
import Derived.Deep.Fields
import Derived.Test.YtohicccbaenegaaGreatDoorYNdi
/-
  What the frames of layer 11 share: the library's variable that holds the type 'error', as the program's text lays it.
-/
set_option linter.unusedVariables false
namespace Go.Proofs.YtohicccbaenegaaGreatDoor
open Go.ChangeShapes Go.WideShapes Go.ChangeAt Go.RowKit Go.Joins

def theLaid : List (String × DataW Unit) := [("errors.errorType", Rows.laid_errors_errorType)]
theorem lay_et : Tryz.prog.globalNamed "errors.errorType" = some 0 := by kernel_rfl
theorem lay_rt : (Tryz.prog.cutTypes.find? (·.1 == "internal/reflectlite.rtype")).map (·.2) = some 125 := by kernel_rfl
theorem lay_row : ((List.range Tryz.prog.types.size).filter fun t => Tryz.prog.rowNamed t [101, 114, 114, 111, 114]) = [59] := by kernel_rfl
theorem tabs_of {W : World} (h : laidMetH Tryz.prog theLaid W) : ErrT W := by
  have h' : laidMet Tryz.prog [] W ∧ handlesMet Tryz.prog theLaid W := h
  obtain ⟨name, u, ty, e1, e2, e3, e4, e5⟩ := h'.2 _ (List.mem_singleton.2 rfl)
  have en : name = [101, 114, 114, 111, 114] := (Option.some.inj e1).symm
  subst en
  obtain rfl := Option.some.inj (lay_rt.symm.trans e2)
  have hm : ty ∈ (List.range Tryz.prog.types.size).filter fun t => Tryz.prog.rowNamed t [101, 114, 114, 111, 114] := List.mem_filter.2 ⟨List.mem_range.2 e3, e4⟩
  rw [lay_row] at hm
  obtain rfl := List.mem_singleton.1 hm
  have hh : typeHandle Tryz.prog 59 = .pointer (some ⟨2, 59, none⟩) := by kernel_rfl
  rw [hh] at e5
  unfold ErrT
  simpa using World.var?_cell lay_et e5 0
/-- A world for the witness: the settled one, the variable's cell laid. -/
noncomputable def laidWorld (os : Os) : World :=
  let w0 := World.holding Tryz.prog os ⟨#[], #[], []⟩
  { w0 with heap := w0.heap.modify 0 fun
      | .cells _ t frozen => .cells #[.iface 125 (.agg #[.pointer (some ⟨2, 59, none⟩)])] t frozen
      | o => o }
end Go.Proofs.YtohicccbaenegaaGreatDoor
/-
  What the frames of layer 11's laws on nodes share: a node as an argument.
-/
set_option linter.unusedVariables false
namespace Go.Proofs.YtohicccbaenegaaGreatDoor
open Go.ChangeShapes Go.WideShapes Go.ChangeAt Go.RowKit Go.Joins Go.Deep

set_option maxRecDepth 100000 in
theorem trod_part {H : Type} {enc : TypeId × Value → H} {W : World} {base n : Nat} {spare : Nat → Bool} {held : Bool} {cs : List Value} {y : DataW H × List MemPlace}
    (hl : cs.length = 2) (h : DataW.trod enc Tryz.prog W base spare held n 40 cs = some y) : ∃ x : Pt, cs = ptC x := by
  match cs, hl with
  | [c0, c1], _ =>
    obtain ⟨xs, m, _, _, _, hlen, hg⟩ := DataW.trod_struct Tryz.underlying40 h
    have k9 : Tryz.prog.cellsOf 9 = 1 := by kernel_rfl
    have k3 : Tryz.prog.cellsOf 3 = 1 := by kernel_rfl
    match xs, hlen with
    | [y0, y1], _ =>
      have h0 : DataW.trod enc Tryz.prog W base spare held m 9 [c0] = some y0 := by simpa [k9] using hg 0 _ rfl
      have h1 : DataW.trod enc Tryz.prog W base spare held m 3 [c1] = some y1 := by simpa [k3] using hg 1 _ rfl
      obtain ⟨k, e0, _, z0⟩ := DataW.trod_string Tryz.underlying9 h0
      obtain ⟨q, e1, _, z1⟩ := DataW.trod_int Tryz.underlying3 h1
      simp at e0 e1
      subst e0 e1
      exact ⟨⟨k, q⟩, rfl⟩
set_option maxRecDepth 100000 in
theorem trod_entry {H : Type} {enc : TypeId × Value → H} {W : World} {base n : Nat} {spare : Nat → Bool} {held : Bool} {cs : List Value} {y : DataW H × List MemPlace}
    (hl : cs.length = 4) (h : DataW.trod enc Tryz.prog W base spare held n 43 cs = some y) : ∃ x : En, cs = enC x := by
  match cs, hl with
  | [c0, c1, c2, c3], _ =>
    obtain ⟨xs, m, _, _, _, hlen, hg⟩ := DataW.trod_struct Tryz.underlying43 h
    have k9 : Tryz.prog.cellsOf 9 = 1 := by kernel_rfl
    have k3 : Tryz.prog.cellsOf 3 = 1 := by kernel_rfl
    have k4 : Tryz.prog.cellsOf 4 = 1 := by kernel_rfl
    match xs, hlen with
    | [y0, y1, y2, y3], _ =>
      have h0 : DataW.trod enc Tryz.prog W base spare held m 9 [c0] = some y0 := by simpa [k9] using hg 0 _ rfl
      have h1 : DataW.trod enc Tryz.prog W base spare held m 3 [c1] = some y1 := by simpa [k3] using hg 1 _ rfl
      have h2 : DataW.trod enc Tryz.prog W base spare held m 4 [c2] = some y2 := by simpa [k4] using hg 2 _ rfl
      have h3 : DataW.trod enc Tryz.prog W base spare held m 9 [c3] = some y3 := by simpa [k9] using hg 3 _ rfl
      obtain ⟨nm, e0, _, z0⟩ := DataW.trod_string Tryz.underlying9 h0
      obtain ⟨kd, e1, _, z1⟩ := DataW.trod_int Tryz.underlying3 h1
      obtain ⟨ex, e2, _⟩ := DataW.trod_bool Tryz.underlying4 h2
      obtain ⟨k, e3, _, z3⟩ := DataW.trod_string Tryz.underlying9 h3
      simp at e0 e1 e2 e3
      subst e0 e1 e2 e3
      exact ⟨⟨nm, kd, ex, k⟩, rfl⟩
set_option maxRecDepth 100000 in
theorem open_parts {H : Type} {enc : TypeId × Value → H} {W : World} {spare : Nat → Bool} {held : Bool} {fuel : Nat} {c : Value} {y : DataW H × List MemPlace}
    (hf : DataW.trod enc Tryz.prog W 0 spare held fuel 22 [c] = some y) : ∃ L, IsParts W c L := by
  have hC : Tryz.prog.cellsOf 40 = 2 := by kernel_rfl
  rcases open_slice Tryz.underlying22 hf with ⟨hcs, _⟩ | ⟨a, len, cap, m, n, D, Pl, hcs, _, hl, hm, hmm, _, hi⟩
  · simp at hcs
    subst hcs
    exact ⟨[], parts_nil W⟩
  · simp at hcs
    subst hcs
    have hlm : len ≤ m := by rw [hmm]; split <;> omega
    have hit : ∀ i, i < len → ∃ x : Pt, ∀ j u, (ptC x)[j]? = some u → W.cell? (a.add (i * 2 + j)) = some u := fun i him => by
      obtain ⟨cs, hc, ht⟩ := hi i (by omega)
      rw [hC] at hc
      obtain ⟨_, hcl, hat⟩ := World.cells?_some hc
      obtain ⟨x, rfl⟩ := trod_part hcl ht
      refine ⟨x, fun j u hj => ?_⟩
      have hj4 : j < 2 := by
        have := (List.getElem?_eq_some_iff.1 hj).1
        simpa using this
      have := hat j hj4
      rw [← Go.Deep.add_add, this]; exact hj
    obtain ⟨f, hfx⟩ : ∃ f : Nat → Pt, ∀ i, i < len → ∀ j u, (ptC (f i))[j]? = some u → W.cell? (a.add (i * 2 + j)) = some u := by
      refine ⟨fun i => if h : i < len then Classical.choose (hit i h) else zeroPt, fun i h => ?_⟩
      simp only [h, dif_pos]
      exact Classical.choose_spec (hit i h)
    refine ⟨(List.range len).map f, by simp; omega, some a, cap, by simp, ⟨fun h => (by cases h), by simpa using hl⟩, fun h0 => ?_⟩
    have h0' : 0 < len := by simpa using h0
    have hc0 := hfx 0 h0' 0 _ rfl
    obtain ⟨b, off, spot⟩ := a
    have hspot : spot = none := by simpa [Addr.add] using World.cell?_spot hc0
    subst hspot
    refine ⟨b, off, rfl, ?_, fun i hi => ?_⟩
    · have := block_lt_of_cell hc0
      simpa [Addr.add] using this
    · have hil : i < len := by simpa using hi
      have hg : ((List.range len).map f)[i] = f i := by simp
      rw [hg]
      have hh := fun j u hu => hfx i hil j u hu
      refine ⟨?_, ?_⟩
      · have := hh 0 _ rfl; rw [add_plain'] at this; exact this
      · have := hh 1 _ rfl; rw [add_plain', ← Nat.add_assoc] at this; exact this
set_option maxRecDepth 100000 in
theorem open_entries {H : Type} {enc : TypeId × Value → H} {W : World} {spare : Nat → Bool} {held : Bool} {fuel : Nat} {c : Value} {y : DataW H × List MemPlace}
    (hf : DataW.trod enc Tryz.prog W 0 spare held fuel 23 [c] = some y) : ∃ L, IsEntries W c L := by
  have hC : Tryz.prog.cellsOf 43 = 4 := by kernel_rfl
  rcases open_slice Tryz.underlying23 hf with ⟨hcs, _⟩ | ⟨a, len, cap, m, n, D, Pl, hcs, _, hl, hm, hmm, _, hi⟩
  · simp at hcs
    subst hcs
    exact ⟨[], entries_nil W⟩
  · simp at hcs
    subst hcs
    have hlm : len ≤ m := by rw [hmm]; split <;> omega
    have hit : ∀ i, i < len → ∃ x : En, ∀ j u, (enC x)[j]? = some u → W.cell? (a.add (i * 4 + j)) = some u := fun i him => by
      obtain ⟨cs, hc, ht⟩ := hi i (by omega)
      rw [hC] at hc
      obtain ⟨_, hcl, hat⟩ := World.cells?_some hc
      obtain ⟨x, rfl⟩ := trod_entry hcl ht
      refine ⟨x, fun j u hj => ?_⟩
      have hj4 : j < 4 := by
        have := (List.getElem?_eq_some_iff.1 hj).1
        simpa using this
      have := hat j hj4
      rw [← Go.Deep.add_add, this]; exact hj
    obtain ⟨f, hfx⟩ : ∃ f : Nat → En, ∀ i, i < len → ∀ j u, (enC (f i))[j]? = some u → W.cell? (a.add (i * 4 + j)) = some u := by
      refine ⟨fun i => if h : i < len then Classical.choose (hit i h) else zeroEn, fun i h => ?_⟩
      simp only [h, dif_pos]
      exact Classical.choose_spec (hit i h)
    refine ⟨(List.range len).map f, by simp; omega, some a, cap, by simp, ⟨fun h => (by cases h), by simpa using hl⟩, fun h0 => ?_⟩
    have h0' : 0 < len := by simpa using h0
    have hc0 := hfx 0 h0' 0 _ rfl
    obtain ⟨b, off, spot⟩ := a
    have hspot : spot = none := by simpa [Addr.add] using World.cell?_spot hc0
    subst hspot
    refine ⟨b, off, rfl, ?_, fun i hi => ?_⟩
    · have := block_lt_of_cell hc0
      simpa [Addr.add] using this
    · have hil : i < len := by simpa using hi
      have hg : ((List.range len).map f)[i] = f i := by simp
      rw [hg]
      have hh := fun j u hu => hfx i hil j u hu
      refine ⟨?_, ?_, ?_, ?_⟩
      · have := hh 0 _ rfl; rw [add_plain'] at this; exact this
      · have := hh 1 _ rfl; rw [add_plain', ← Nat.add_assoc] at this; exact this
      · have := hh 2 _ rfl; rw [add_plain', ← Nat.add_assoc] at this; exact this
      · have := hh 3 _ rfl; rw [add_plain', ← Nat.add_assoc] at this; exact this
set_option maxRecDepth 100000 in
theorem trod_node {H : Type} {enc : TypeId × Value → H} {W : World} {n : Nat} {spare : Nat → Bool} {held : Bool} {cs : List Value} {y : DataW H × List MemPlace}
    (hl : cs.length = 4) (h : DataW.trod enc Tryz.prog W 0 spare held n 25 cs = some y) : ∃ (x : Nd) (pv ev : Value), cs = [.int .i64 x.kd, .string x.d, pv, ev] ∧ IsParts W pv x.ps ∧ IsEntries W ev x.es ∧ x.d.size ≤ maxLen := by
  match cs, hl with
  | [c0, c1, c2, c3], _ =>
    obtain ⟨xs, m, _, _, _, hlen, hg⟩ := DataW.trod_struct Tryz.underlying25 h
    have k3 : Tryz.prog.cellsOf 3 = 1 := by kernel_rfl
    have k9 : Tryz.prog.cellsOf 9 = 1 := by kernel_rfl
    have kP : Tryz.prog.cellsOf 22 = 1 := by kernel_rfl
    have kE : Tryz.prog.cellsOf 23 = 1 := by kernel_rfl
    match xs, hlen with
    | [y0, y1, y2, y3], _ =>
      have h0 : DataW.trod enc Tryz.prog W 0 spare held m 3 [c0] = some y0 := by simpa [k3] using hg 0 _ rfl
      have h1 : DataW.trod enc Tryz.prog W 0 spare held m 9 [c1] = some y1 := by simpa [k9] using hg 1 _ rfl
      have h2 : DataW.trod enc Tryz.prog W 0 spare held m 22 [c2] = some y2 := by simpa [kP] using hg 2 _ rfl
      have h3 : DataW.trod enc Tryz.prog W 0 spare held m 23 [c3] = some y3 := by simpa [kE] using hg 3 _ rfl
      obtain ⟨kd, e0, _, z0⟩ := DataW.trod_int Tryz.underlying3 h0
      obtain ⟨d, e1, _, z1⟩ := DataW.trod_string Tryz.underlying9 h1
      simp at e0 e1
      subst e0 e1
      obtain ⟨L, hL⟩ := open_parts h2
      obtain ⟨M, hM⟩ := open_entries h3
      exact ⟨⟨kd, d, L, M⟩, c2, c3, rfl, hL, hM, z1⟩
set_option maxRecDepth 100000 in
theorem open_node {H : Type} {enc : TypeId × Value → H} {W : World} {r : Reach} {b0 : Nat} {spare : Nat → Bool} {held : Bool} {v : Value} {d : DataW H} {p : List MemPlace}
    (hv : Value.okWide Tryz.prog W r b0 25 v) (h : DataW.Trod enc Tryz.prog W 0 spare held 25 v d p) : ∃ (x : Nd) (pv ev : Value), v = ndV x pv ev ∧ IsParts W pv x.ps ∧ IsEntries W ev x.es := by
  obtain ⟨cs, rfl, hsz⟩ := okWide_struct Tryz.underlying25 hv
  have h4 : cs.size = 4 := hsz.trans (by kernel_rfl)
  obtain ⟨fuel, hf⟩ := h
  obtain ⟨x, pv, ev, hx, h1, h2, _⟩ := trod_node (cs := cs.toList) (by simpa using h4) hf
  refine ⟨x, pv, ev, ?_, h1, h2⟩
  have : cs = #[.int .i64 x.kd, .string x.d, pv, ev] := by
    apply Array.toList_inj.1; rw [hx]
  rw [this]
end Go.Proofs.YtohicccbaenegaaGreatDoor
/-
  The chapter's examples over this translation.
-/
set_option linter.unusedVariables false
namespace Go.Proofs.YtohicccbaenegaaGreatDoor
open Go.RowKit
attribute [local go_sem] Oper.semAt_some

def dirN0 : Nd := ⟨3, ⟨#[]⟩, [], []⟩
theorem ex_dir : RdOk [3, 0] dirN0 0 := .inl ⟨rfl, by decide +kernel, by decide +kernel⟩
theorem ex_piece : wrN ⟨1, ⟨#[97]⟩, [], []⟩ = [1, 97] := by decide +kernel
theorem ex_file : wrN ⟨2, ⟨#[]⟩, [], []⟩ = [2, 0] := by decide +kernel
theorem ex_read (w : World) (hT : ErrT w) : Calls Tryz.prog 20 #[.string ⟨#[3, 0]⟩] w fun e w' => ∃ a1 c1 a2 c2, e = .returned (.tuple #[.agg #[.int .i64 3, .string ⟨#[]⟩, .slice a1 0 c1, .slice a2 0 c2], .int .i64 0]) ∧ Below w.heap.size w w' := by
  refine (pRead_any ⟨#[3, 0]⟩ (by decide) w hT).mono ?_
  rintro e w' ⟨n, err, hR, pv, ev, rfl, hp, he, hb⟩
  obtain ⟨rfl, rfl⟩ := rdOk_same hR ex_dir
  obtain ⟨_, a1, c1, rfl, _, _⟩ := hp
  obtain ⟨_, a2, c2, rfl, _, _⟩ := he
  exact ⟨a1, c1, a2, c2, rfl, hb⟩
theorem ex_w1 (w : World) : Calls Tryz.prog 13 #[.agg #[.int .i64 1, .string ⟨#[97]⟩, .slice none 0 0, .slice none 0 0]] w fun e w' => e = .returned (.string ⟨#[1, 97]⟩) ∧ Below w.heap.size w w' := by
  have := pWrite_any ⟨1, ⟨#[97]⟩, [], []⟩ (.slice none 0 0) (.slice none 0 0) w (parts_nil _) (entries_nil _) (by decide)
  rw [ex_piece] at this; exact this
theorem ex_w2 (w : World) : Calls Tryz.prog 13 #[.agg #[.int .i64 2, .string ⟨#[]⟩, .slice none 0 0, .slice none 0 0]] w fun e w' => e = .returned (.string ⟨#[2, 0]⟩) ∧ Below w.heap.size w w' := by
  have := pWrite_any ⟨2, ⟨#[]⟩, [], []⟩ (.slice none 0 0) (.slice none 0 0) w (parts_nil _) (entries_nil _) (by decide)
  rw [ex_file] at this; exact this
set_option maxRecDepth 100000 in
set_option maxHeartbeats 1000000 in
theorem awake_any (w : World) (hT : ErrT w) : Calls Tryz.prog 8 #[] w fun e w' => e = .returned (.bool true) ∧ Below w.heap.size w w' := by
  have ER := Lib.hid (ex_read w hT)
  have W1 := Lib.hid ex_w1; have W2 := Lib.hid ex_w2
  clear hT
  go_enter Tryz.func8, Tryz.ntmps8
  go_wp2_with fail
  with_reducible refine ER.out.mono ?_
  rintro e w1 ⟨a1, c1, a2, c2, rfl, hb1⟩
  go_wp2_with fail
  have hb2 := (Below.refl w1.heap.size w1).alloc (Nat.le_refl _) (.cells #[.int .i64 3, .string ⟨#[]⟩, .slice a1 0 c1, .slice a2 0 c2] 25)
  have HB1 := Lib.hid (below_step hb1 hb2)
  with_reducible refine (W1.out _).mono ?_
  rintro e w3 ⟨rfl, hb3⟩
  have HX3 := Lib.hid ((ndBox_new w1 ⟨3, ⟨#[]⟩, [], []⟩ (.slice a1 0 c1) (.slice a2 0 c2) 25).stays hb3)
  have HB3 := Lib.hid (below_step HB1.out hb3)
  clear hb1 hb2 hb3
  go_wp2_with fail
  with_reducible refine (W2.out _).mono ?_
  rintro e w4 ⟨rfl, hb4⟩
  obtain ⟨x0, x1, x2, x3⟩ := (HX3.out.stays hb4).cells
  simp only at x0 x1
  have HB4 := Lib.hid (below_step HB3.out hb4)
  clear hb4
  go_wp2
  go_ret
  exact ⟨rfl, HB4.out⟩
end Go.Proofs.YtohicccbaenegaaGreatDoor

/-
  Texts put together: contracts and laws that this seat's proofs share.
-/
import Derived.WideKeyArgs
import Derived.Below
import Derived.OpenShut
import Derived.Deep.Slices
import Derived.ProofKit
import Derived.Laws.Rows
import Derived.DataReads
import GoSem.Claim
import Derived.SliceStrings
import Derived.WideShapes
import Derived.OwnWalk
import Derived.Laws.AppendOwn
import Derived.Laws.AppendOwnNone
import Derived.BigFrame
import Derived.Test.YtelaamchafocpaaDoorRows
import Derived.WalkKit
import Derived.LaidLaws
import Derived.Lib.LaidTab
import Derived.Lib.SmallJoins
import Derived.Stop.LaidErr
import Derived.Laws.PanicsMore
import Derived.Lib.Strings
import Derived.Test.YtelaamchafocpaaDoorProg
import Derived.KernelRfl
import Derived.Lib.Hide
import Derived.ChangeAlike
import Derived.ChangeKeysEq
import Derived.Lib.SlicesCompact
import Derived.Sort.Walk0
import Derived.LoopTactic
import Derived.RegionTactic
import Derived.BigRegionIn
import Derived.Sort.CutIn
import Derived.Deep.QuietTactic
import Derived.BigQuiet
import Derived.Outline
import Derived.Laws.Cover1
import Derived.ChangeSame
import Derived.ChangeMaps5
import Derived.Deep.Fields
import Derived.Laws.CopyOwn
import Derived.Laws.BytesArg
import Derived.Deep.WholeRow
import Derived.RangeFuncFrom
import Derived.RangeFuncBox
import Derived.Test.YtelaamchafocpaaDoorShl
import Derived.Laws.RangeAny
import Derived.Deep.LoopGhost
import Derived.WalkMore
import Derived.Lib.OthersKept
import Derived.Shelf.Strings.IndexAnyAll
import Derived.Shelf.Strings.BuilderK
/-
  From a reading of the arguments to a walk's facts, and back behind it: of no program.
-/
namespace Go.Proofs.YtelaamchafocpaaDoor
open Go.ChangeShapes Go.WideShapes Go.RowKit Go.Deep

section
variable {H : Type} {enc : TypeId × Value → H} {P : Program}

/-- What reads read on, whatever was made behind it. -/
theorem trodAll_stays (hl : laidOutB P = true) {W W' : World} {sp' : Nat → Bool} (hb : Below W.heap.size W W') : ∀ {ts : List TypeId} {vs : List Value} {ds : List (DataW H)} {ps : List MemPlace},
    (ts.all fun t => P.readableRec t && decide (t < P.types.size)) = true → DataW.TrodAll enc P W 0 (fun _ => true) true ts vs ds ps → (∀ p ∈ ps, p.block < W.heap.size) → (∀ p ∈ ps, sp' p.block = true) →
    DataW.TrodAll enc P W' 0 sp' true ts vs ds ps
  | [], _, _, _, _, h, _, _ => by
    obtain ⟨rfl, rfl, rfl⟩ := trodAll_nil h
    exact trodAll_mk0
  | t :: ts, _, _, _, hr, h, hlt, hsp => by
    obtain ⟨v, vs1, d, ds1, a, b, rfl, rfl, rfl, h1, h2⟩ := trodAll_cons h
    simp only [List.all_cons, Bool.and_eq_true, decide_eq_true_eq] at hr
    obtain ⟨⟨hr1, hr2⟩, hr3⟩ := hr
    exact trodAll_cons_mk (WideElems.Trod_stays hl hr1 hr2 h1 (fun p hp => hb.same (hlt p (List.mem_append.2 (.inl hp)))) (fun p hp => hsp p (List.mem_append.2 (.inl hp))))
      (trodAll_stays hl hb hr3 h2 (fun p hp => hlt p (List.mem_append.2 (.inr hp))) (fun p hp => hsp p (List.mem_append.2 (.inr hp))))

variable {w : World} {base : Nat} {spare : Nat → Bool} {held : Bool} {fuel : Nat} {t e : TypeId} {cs : List Value} {x : DataW H × List MemPlace}
/-- An array of numbers, as cells. -/
theorem trod_ints_arr {n : Nat} {q : IntKind} (ht : P.underlying t = some (.array n e)) (he : P.underlying e = some (.int q)) (hce : P.cellsOf e = 1) (hct : P.cellsOf t = n)
    (h : DataW.trod enc P w base spare held fuel t cs = some x) : ∃ ns : List Int, ns.length = n ∧ cs = ns.map (Value.int q) ∧ ∀ z ∈ ns, (Lit.int q z).wf = true := by
  obtain ⟨xs, m, _, _, hl, hxl, hi⟩ := DataW.trod_array ht h
  rw [hct] at hl
  have one : ∀ i (hin : i < cs.length), ∃ z, cs[i] = .int q z ∧ (Lit.int q z).wf = true := fun i hin => by
    have h1 := hi i (by omega)
    rw [hce, Nat.mul_one, show (cs.drop i).take 1 = [cs[i]] by rw [List.drop_eq_getElem_cons hin]; rfl, List.getElem?_eq_getElem (by omega)] at h1
    obtain ⟨z, hz, _, hw⟩ := DataW.trod_int he h1
    exact ⟨z, by simpa using hz, hw⟩
  refine ⟨cs.map fun v => match v with | .int _ z => z | _ => 0, by simpa using hl, ?_, ?_⟩
  · apply List.ext_getElem
    · simp
    · intro i h1 h2
      obtain ⟨z, hz, _⟩ := one i h1
      simp [hz]
  · intro z hz
    rw [List.mem_map] at hz
    obtain ⟨v, hv, rfl⟩ := hz
    obtain ⟨i, hin, rfl⟩ := List.getElem_of_mem hv
    obtain ⟨z, hz, hw⟩ := one i hin
    rw [hz]; exact hw
/-- An array of numbers by value. -/
theorem open_ints_arr {n : Nat} {q : IntKind} {r : Reach} {b0 : Nat} {v : Value} {d : DataW H} {ps : List MemPlace} (ht : P.underlying t = some (.array n e)) (he : P.underlying e = some (.int q)) (hce : P.cellsOf e = 1) (hct : P.cellsOf t = n)
    (hval : Value.okWide P w r b0 t v) (h : DataW.Trod enc P w base spare held t v d ps) : ∃ ns : List Int, ns.length = n ∧ v = .agg (ns.map (Value.int q)).toArray ∧ ∀ z ∈ ns, (Lit.int q z).wf = true := by
  simp only [Value.okWide, ht] at hval
  obtain ⟨c, rfl, _⟩ := hval
  obtain ⟨fuel, hf⟩ := h
  obtain ⟨ns, h1, h2, h3⟩ := trod_ints_arr ht he hce hct hf
  refine ⟨ns, h1, ?_, h3⟩
  rw [← h2]
  simp [Value.cells]
/-- A slice of arrays of numbers. -/
theorem open_slice_ints_arr {n : Nat} {q : IntKind} {r : Reach} {ts : TypeId} {v : Value} {d : DataW H} {ps : List MemPlace} (hts : P.underlying ts = some (.slice t)) (ht : P.underlying t = some (.array n e)) (he : P.underlying e = some (.int q)) (hce : P.cellsOf e = 1) (hct : P.cellsOf t = n) (hn : 0 < n) {b0 : Nat}
    (hval : Value.okWide P w r b0 ts v) (h : DataW.Trod enc P w 0 spare held ts v d ps) : ∃ (a : Option Addr) (cap : Nat) (L : List (List Int)), v = .slice a L.length cap ∧ L.length ≤ cap ∧ (∀ z ∈ L, z.length = n ∧ ∀ y ∈ z, (Lit.int q y).wf = true) ∧
      (0 < L.length → ∃ b off, a = some ⟨b, off, none⟩ ∧ b < w.heap.size ∧ ∀ i (hi : i < L.length) j (hj : j < L[i].length), w.cell? ⟨b, off + i * n + j, none⟩ = some (.int q (L[i][j]))) := by
  obtain ⟨a, len, cap, rfl⟩ := okWide_slice hts hval
  obtain ⟨fuel, hf⟩ := h
  rcases open_slice hts hf with ⟨hcs, _⟩ | ⟨a', len', cap', m, k, D, Pl, hcs, _, hl, _, hm, _, hx⟩
  · simp [Value.cells] at hcs
    obtain ⟨rfl, rfl, rfl⟩ := hcs
    exact ⟨none, 0, [], rfl, Nat.le_refl _, fun z hz => (by cases hz), fun h0 => absurd h0 (by simp)⟩
  · simp [Value.cells] at hcs
    obtain ⟨rfl, rfl, rfl⟩ := hcs
    have hlm : len ≤ m := by rw [hm]; split <;> omega
    rw [hct] at hx
    have one : ∀ i, i < len → ∃ ns : List Int, ns.length = n ∧ (∀ z ∈ ns, (Lit.int q z).wf = true) ∧ ∀ j (hj : j < ns.length), w.cell? ((a'.add (i * n)).add j) = some (.int q ns[j]) := fun i hi => by
      obtain ⟨cs', h1, h2⟩ := hx i (by omega)
      obtain ⟨ns, h3, rfl, h4⟩ := trod_ints_arr ht he hce hct h2
      refine ⟨ns, h3, h4, fun j hj => ?_⟩
      have := (World.cells?_some h1).2.2 j (by omega)
      rw [this]; simp [hj]
    refine ⟨some a', cap, (List.range len).attach.map fun i => (one i.1 (List.mem_range.1 i.2)).choose, by simp, by simpa using hl, ?_, fun h0 => ?_⟩
    · intro z hz
      rw [List.mem_map] at hz
      obtain ⟨i, _, rfl⟩ := hz
      exact ⟨(one i.1 (List.mem_range.1 i.2)).choose_spec.1, (one i.1 (List.mem_range.1 i.2)).choose_spec.2.1⟩
    · have h0' : 0 < len := by simpa using h0
      obtain ⟨b, off, spot⟩ := a'
      obtain ⟨ns, h3, _, h5⟩ := one 0 h0'
      have hc0 := h5 0 (by omega)
      have hspot : spot = none := by simpa [Addr.add] using World.cell?_spot hc0
      subst hspot
      refine ⟨b, off, rfl, ?_, ?_⟩
      · have := block_lt_of_cell hc0
        simpa [Addr.add] using this
      · intro i hi j hj
        have hi' : i < len := by simpa using hi
        have h7 := (one i hi').choose_spec.2.2 j (by simpa using hj)
        have e : ((⟨b, off, none⟩ : Addr).add (i * n)).add j = ⟨b, off + i * n + j, none⟩ := by rw [add_plain, add_plain]
        rw [e] at h7
        rw [h7]
        simp
end
theorem u8_of_wf' {a : Int} (h : (Lit.int .u8 a).wf = true) : ∃ u : UInt8, a = u.toNat := by
  simp [Lit.wf, IntKind.min, IntKind.max, IntKind.signed, IntKind.bits] at h
  exact ⟨UInt8.ofNat a.toNat, by simp; omega⟩
theorem bytes_of_wf : ∀ {ns : List Int}, (∀ z ∈ ns, (Lit.int .u8 z).wf = true) → ∃ l : List UInt8, ns = l.map fun u => (u.toNat : Int)
  | [], _ => ⟨[], rfl⟩
  | z :: ns, h => by
    obtain ⟨u, rfl⟩ := u8_of_wf' (h z List.mem_cons_self)
    obtain ⟨l, rfl⟩ := bytes_of_wf (fun y hy => h y (List.mem_cons_of_mem _ hy))
    exact ⟨u :: l, rfl⟩
end Go.Proofs.YtelaamchafocpaaDoor
/-
  From 'the number fits its kind' to bounds; of no program.
-/
namespace Go.Proofs.YtelaamchafocpaaDoor

theorem nat_of_wf_u16 {a : Int} (h : (Lit.int .u16 a).wf = true) : ∃ n : Nat, a = n ∧ n < 65536 := by
  have := bounds_u16 h
  exact ⟨a.toNat, by omega, by omega⟩
theorem nat_of_wf_u32 {a : Int} (h : (Lit.int .u32 a).wf = true) : ∃ n : Nat, a = n ∧ n < 4294967296 := by
  have := bounds_u32 h
  exact ⟨a.toNat, by omega, by omega⟩
theorem nat_of_wf_u64 {a : Int} (h : (Lit.int .u64 a).wf = true) : ∃ n : Nat, a = n ∧ n < 18446744073709551616 := by
  have := bounds_u64 h
  exact ⟨a.toNat, by omega, by omega⟩
end Go.Proofs.YtelaamchafocpaaDoor
/-
  Slices of strings, of no program: what reads as a list of strings; from an argument's reading; appended to a slice of the call's own.
-/
namespace Go.Proofs.YtelaamchafocpaaDoor
open Go.ChangeShapes Go.WideShapes Go.RowKit Go.Deep

def strCells (L : List ByteArray) : List Value := L.map Value.string
/-- A slice of strings that reads as a list. -/
def IsStrs (w : World) (v : Value) (L : List ByteArray) : Prop :=
  L.length ≤ maxLen ∧ ∃ (a : Option Addr) (cap : Nat), v = .slice a L.length cap ∧ ((a = none → L = [] ∧ cap = 0) ∧ L.length ≤ cap) ∧ (0 < L.length → ∃ b off, a = some ⟨b, off, none⟩ ∧ b < w.heap.size ∧ ∀ i (h : i < L.length), w.cell? ⟨b, off + i, none⟩ = some (.string L[i]))

theorem strCells_len (L : List ByteArray) : (strCells L).length = L.length := List.length_map ..
theorem strCells_get {L : List ByteArray} {i : Nat} (h : i < L.length) : (strCells L)[i]? = some (.string L[i]) := by simp [strCells, h]
theorem strCells_app (L M : List ByteArray) : strCells (L ++ M) = strCells L ++ strCells M := List.map_append
theorem add_plain' (b o i : Nat) : (⟨b, o, none⟩ : Addr).add i = ⟨b, o + i, none⟩ := by unfold Addr.add; split <;> simp_all

theorem isStrs_nil (w : World) : IsStrs w (.slice none 0 0) [] := ⟨Nat.zero_le _, none, 0, rfl, ⟨fun _ => ⟨rfl, rfl⟩, Nat.le_refl _⟩, fun h => absurd h (by simp)⟩
theorem IsStrs.stays {w w' : World} {v : Value} {L : List ByteArray} (h : IsStrs w v L) (hb : Below w.heap.size w w') : IsStrs w' v L := by
  obtain ⟨h0, a, cap, h1, h2, h3⟩ := h
  refine ⟨h0, a, cap, h1, h2, fun hL => ?_⟩
  obtain ⟨b, off, e, hlt, hc⟩ := h3 hL
  exact ⟨b, off, e, Nat.lt_of_lt_of_le hlt hb.size, fun i hi => (hb.cell (p := ⟨b, off + i, none⟩) hlt).trans (hc i hi)⟩
theorem IsStrs.of_owns {w : World} {base : Nat} {e : TypeId} {v : Value} {L : List ByteArray} (h : w.ownsRow base e 1 v L.length (strCells L)) : IsStrs w v L := by
  have hlt := h.lt
  have hc := fun g hg => h.cells (g := g) hg
  rcases h.2 with ⟨rfl, h0⟩ | ⟨g, cap, cur, rfl, hb, hg, hle, hm, _⟩
  · obtain rfl := List.length_eq_zero_iff.1 h0
    exact isStrs_nil w
  · refine ⟨Nat.le_trans hle hm, some ⟨g, 0, none⟩, cap, rfl, ⟨fun h => (by cases h), hle⟩, fun _ => ⟨g, 0, rfl, (hlt g rfl).2, fun i hi => ?_⟩⟩
    have := hc g rfl i _ (strCells_get hi)
    rw [add_plain'] at this; exact this
/-- An argument. -/
theorem open_isStrs {H : Type} {enc : TypeId × Value → H} {P : Program} {w : World} {r : Reach} {b0 : Nat} {spare : Nat → Bool} {held : Bool} {t e : TypeId} {v : Value} {d : DataW H} {ps : List MemPlace}
    (ht : P.underlying t = some (.slice e)) (he : P.underlying e = some .string) (hc : P.cellsOf e = 1) (hval : Value.okWide P w r b0 t v) (h : DataW.Trod enc P w 0 spare held t v d ps) : ∃ L, IsStrs w v L ∧ ∀ s ∈ L, s.size ≤ maxLen := by
  obtain ⟨a0, len, cap, rfl⟩ := okWide_slice ht hval
  obtain ⟨fuel, hf⟩ := h
  rcases open_strings ht he hc hf with ⟨hcs, _⟩ | ⟨a, len', cap', ss, hcs, _, hl, hm, hz, _, hcell, hsz⟩
  · simp [Value.cells] at hcs
    obtain ⟨rfl, rfl, rfl⟩ := hcs
    exact ⟨[], isStrs_nil w, fun s hs => (by cases hs)⟩
  · simp [Value.cells] at hcs
    obtain ⟨rfl, rfl, rfl⟩ := hcs
    have hls : len ≤ ss.length := by rw [hz]; split <;> omega
    have hlen : (ss.take len).length = len := by rw [List.length_take]; omega
    refine ⟨ss.take len, ⟨by omega, some a, cap, by rw [hlen], ⟨fun h => (by cases h), by omega⟩, fun h0 => ?_⟩, fun s hs => hsz s (List.mem_of_mem_take hs)⟩
    rw [hlen] at h0
    have hc0 := hcell 0 (by omega)
    obtain ⟨b, off, spot⟩ := a
    have hspot : spot = none := by simpa [Addr.add] using World.cell?_spot hc0
    subst hspot
    refine ⟨b, off, rfl, ?_, fun i hi => ?_⟩
    · have := block_lt_of_cell hc0
      simpa [Addr.add] using this
    · rw [hlen] at hi
      have := hcell i (by omega)
      rw [add_plain'] at this
      rw [this]
      simp [List.getD, show i < ss.length by omega]

theorem grownBy_of_below {W W' : World} (h : Below W.heap.size W W') : W.grownBy W' none := ⟨h.os, h.tape, h.output, h.size, fun k hk _ => h.block k hk⟩

/-- A whole list of strings behind what the call itself has; the operation may be guarded. -/
theorem wpList_append_strs {P : Program} {w : World} {ops : Array Oper} {rest : List Oper} {o : Oper} {a : Act} {Q : Exit → Act → World → Prop} (hgd : Region.wanted o (yielded ops a.tmps) = true) (s x : Operand) (t : TypeId)
    (ho : o.op = .call { callee := .builtin .append, args := #[s, x], argTypes := #[t, t] })
    (base : Nat) (e : TypeId) (i : TypeInfo) (z : Value) (bytes : Nat) (ht : P.underlying t = some (.slice e)) (hi : P.info? e = some i) (hz : i.zero = some z)
    (hsize : i.size = 1) (hby : i.bytes = bytes) (hzs : z.cells.size = 1)
    (v : Value) (M : List ByteArray) (hs : a.eval s = v) (hown : w.ownsRow base e 1 v M.length (strCells M)) (y : Value) (L : List ByteArray) (hx : a.eval x = y) (hL : IsStrs w y L)
    (h63 : M.length + L.length ≤ maxLen) (hbytes : (M.length + L.length) * bytes ≤ 140737488355328) (hbase : base ≤ w.heap.size)
    (h : ∀ v' w', w'.ownsRow base e 1 v' (M ++ L).length (strCells (M ++ L)) → w.grownBy w' v.ownBlock → wpList P ops Q rest (a.put o.dst v') w') : wpList P ops Q (o :: rest) a w := by
  obtain ⟨_, ad, cap, rfl, ⟨h0, _⟩, h1⟩ := hL
  refine BigFrame.wpList_want hgd fun K hK => ?_
  cases ad with
  | none =>
    obtain ⟨rfl, rfl⟩ := h0 rfl
    have hrun := run_append_owned_none (P := P) (w := w) base t o.type e i 1 ht hi v M.length (strCells M) hown
    unfold Oper.wp
    simp [execOp, ho, resolve, invoke, builtin, hs, hx, hrun, Result.andThen]
    exact hK _ _ (h v w (by simpa using hown) ⟨rfl, rfl, rfl, Nat.le_refl _, fun _ _ _ => rfl⟩)
  | some ad =>
    refine wp_append_own w s x t ho base e i z 1 bytes ht hi hz hsize hby hzs (by decide) v M.length (strCells M) hs hown ad L.length cap (strCells L) hx (by rw [strCells_len]; omega) ?_ ?_ h63 hbytes hbase ?_
    · intro j u hj
      have hjl : j < L.length := by
        have := (List.getElem?_eq_some_iff.1 hj).1
        rwa [strCells_len] at this
      rw [strCells_get hjl] at hj
      cases hj
      obtain ⟨b, off, e1, _, hc⟩ := h1 (by omega)
      cases e1
      rw [add_plain']; exact hc j hjl
    · intro u hu
      obtain ⟨s, _, rfl⟩ := List.mem_map.1 hu
      rfl
    · intro v' w' hown' hg _
      refine hK _ _ (h v' w' ?_ hg)
      rw [List.length_append, strCells_app]; exact hown'
end Go.Proofs.YtelaamchafocpaaDoor
/-
  What the frames of layer 9 share: a world that holds the library's tables (no walk reads them).
-/
set_option linter.unusedVariables false
namespace Go.Proofs.YtelaamchafocpaaDoor
open Go.ChangeShapes Go.WideShapes Go.ChangeAt Go.RowKit Go.Joins

def theLaid : List (String × DataW Unit) := [("unicode/utf8.acceptRanges", Rows.laid_unicode_utf8_acceptRanges), ("unicode/utf8.first", Rows.laid_unicode_utf8_first)]
theorem tabs_of {W : World} (h : laidMetH Tryd.prog theLaid W) : True := trivial
def putRow (xs : Array Value) : Obj → Obj
  | .cells _ t frozen => .cells xs t frozen
  | o => o
/-- A world for the witness: the settled one, the two tables holding what their texts lay. -/
noncomputable def laidWorld (os : Os) : World :=
  { World.holding Tryd.prog os ⟨#[], #[], []⟩ with heap := ((World.holding Tryd.prog os ⟨#[], #[], []⟩).heap.modify 0 (putRow (Go.Pinned.utf8FirstZ.map fun n : Nat => Value.int .u8 (n : Int)).toArray)).modify 1 (putRow #[.int .u8 128, .int .u8 191, .int .u8 160, .int .u8 191, .int .u8 128, .int .u8 159, .int .u8 144, .int .u8 191, .int .u8 128, .int .u8 143, .int .u8 0, .int .u8 0, .int .u8 0, .int .u8 0, .int .u8 0, .int .u8 0, .int .u8 0, .int .u8 0, .int .u8 0, .int .u8 0, .int .u8 0, .int .u8 0, .int .u8 0, .int .u8 0, .int .u8 0, .int .u8 0, .int .u8 0, .int .u8 0, .int .u8 0, .int .u8 0, .int .u8 0, .int .u8 0]) }
end Go.Proofs.YtelaamchafocpaaDoor

/-
  Mathematics of paths: the parts between the slashes, names, what is told of them, how two stand to each other. Of no program.
-/
namespace Go.Proofs.YtelaamchafocpaaDoor

/-- The parts between the slashes. -/
def pts : List UInt8 → List (List UInt8)
  | [] => [[]]
  | c :: r => if c = 47 then [] :: pts r else match pts r with
    | [] => [[c]]
    | h :: t => (c :: h) :: t
/-- Texts with a slash between. -/
def joinS : List (List UInt8) → List UInt8
  | [] => []
  | [a] => a
  | a :: b :: r => a ++ 47 :: joinS (b :: r)

theorem pts_ne (l : List UInt8) : pts l ≠ [] := by
  cases l with
  | nil => simp [pts]
  | cons c r =>
    simp only [pts]
    split
    · simp
    · split <;> simp
theorem pts_slash (r : List UInt8) : pts (47 :: r) = [] :: pts r := by simp [pts]
theorem pts_other {c : UInt8} (hc : c ≠ 47) {r h : List UInt8} {t : List (List UInt8)} (e : pts r = h :: t) : pts (c :: r) = (c :: h) :: t := by simp [pts, hc, e]
theorem pts_app (a b : List UInt8) : pts (a ++ 47 :: b) = pts a ++ pts b := by
  induction a with
  | nil => simp [pts]
  | cons c r ih =>
    by_cases hc : c = 47
    · subst hc; simp [pts, ih]
    · obtain ⟨h, t, e⟩ := List.exists_cons_of_ne_nil (pts_ne r)
      rw [List.cons_append, pts_other hc (show pts (r ++ 47 :: b) = h :: (t ++ pts b) by rw [ih, e]; rfl), pts_other hc e]; rfl
theorem pts_one {a : List UInt8} (h : (47 : UInt8) ∉ a) : pts a = [a] := by
  induction a with
  | nil => rfl
  | cons c r ih =>
    have hc : c ≠ 47 := fun e => h (by rw [e]; exact List.mem_cons_self ..)
    exact pts_other hc (ih (fun hr => h (List.mem_cons_of_mem _ hr)))
theorem pts_free (l : List UInt8) : ∀ p ∈ pts l, (47 : UInt8) ∉ p := by
  induction l with
  | nil => simp [pts]
  | cons c r ih =>
    by_cases hc : c = 47
    · subst hc; rw [pts_slash]; intro p hp
      rcases List.mem_cons.1 hp with rfl | hp
      · simp
      · exact ih p hp
    · obtain ⟨h, t, e⟩ := List.exists_cons_of_ne_nil (pts_ne r)
      rw [pts_other hc e]; rw [e] at ih; intro p hp
      rcases List.mem_cons.1 hp with rfl | hp
      · intro hm
        rcases List.mem_cons.1 hm with e2 | hm
        · exact hc e2.symm
        · exact ih h (List.mem_cons_self ..) hm
      · exact ih p (List.mem_cons_of_mem _ hp)
theorem joinS_cons {a : List UInt8} {L : List (List UInt8)} (h : L ≠ []) : joinS (a :: L) = a ++ 47 :: joinS L := by
  cases L with
  | nil => exact absurd rfl h
  | cons b r => rfl
theorem joinS_pts (l : List UInt8) : joinS (pts l) = l := by
  induction l with
  | nil => rfl
  | cons c r ih =>
    by_cases hc : c = 47
    · subst hc; rw [pts_slash, joinS_cons (pts_ne r), ih]; rfl
    · obtain ⟨h, t, e⟩ := List.exists_cons_of_ne_nil (pts_ne r)
      rw [pts_other hc e]; rw [e] at ih
      cases t with
      | nil => simp only [joinS] at ih ⊢; rw [ih]
      | cons b t => simp only [joinS] at ih ⊢; rw [List.cons_append, ih]
theorem pts_joinS : ∀ {L : List (List UInt8)}, L ≠ [] → (∀ p ∈ L, (47 : UInt8) ∉ p) → pts (joinS L) = L
  | [], h, _ => absurd rfl h
  | [a], _, h => pts_one (h a (List.mem_cons_self ..))
  | a :: b :: r, _, h => by
    show pts (a ++ 47 :: joinS (b :: r)) = _
    rw [pts_app, pts_one (h a (List.mem_cons_self ..)), pts_joinS (by simp) (fun p hp => h p (List.mem_cons_of_mem _ hp))]; rfl
theorem joinS_snoc {L : List (List UInt8)} (h : L ≠ []) (p : List UInt8) : joinS (L ++ [p]) = joinS L ++ 47 :: p := by
  induction L with
  | nil => exact absurd rfl h
  | cons a r ih =>
    cases r with
    | nil => rfl
    | cons b r => rw [List.cons_append, joinS_cons (L := b :: r ++ [p]) (by simp), ih (by simp), joinS_cons (a := a) (L := b :: r) (by simp), List.append_assoc, List.cons_append]
theorem joinS_len : ∀ (L : List (List UInt8)), (joinS L).length + 1 = (L.map List.length).sum + L.length ∨ L = []
  | [] => .inr rfl
  | [a] => .inl (by simp [joinS])
  | a :: b :: r => .inl (by
    rcases joinS_len (b :: r) with h | h
    · show (a ++ 47 :: joinS (b :: r)).length + 1 = _
      rw [List.length_append, List.length_cons]; simp only [List.map_cons, List.sum_cons, List.length_cons] at h ⊢; omega
    · cases h)

/-- A name. -/
def nameB (l : List UInt8) : Bool := decide (1 ≤ l.length ∧ l.length ≤ 31 ∧ l ≠ [46] ∧ l ≠ [46, 46] ∧ (0 : UInt8) ∉ l ∧ (47 : UInt8) ∉ l)
theorem nameB_iff {l : List UInt8} : nameB l = true ↔ 1 ≤ l.length ∧ l.length ≤ 31 ∧ l ≠ [46] ∧ l ≠ [46, 46] ∧ (0 : UInt8) ∉ l ∧ (47 : UInt8) ∉ l := by simp [nameB]
theorem nameB_mk {l : List UInt8} (h : 1 ≤ l.length ∧ l.length ≤ 31 ∧ l ≠ [46] ∧ l ≠ [46, 46] ∧ (0 : UInt8) ∉ l ∧ (47 : UInt8) ∉ l) : nameB l = true := nameB_iff.2 h
theorem nameB_no {l : List UInt8} (h : ¬ (1 ≤ l.length ∧ l.length ≤ 31 ∧ l ≠ [46] ∧ l ≠ [46, 46] ∧ (0 : UInt8) ∉ l ∧ (47 : UInt8) ∉ l)) : nameB l = false := by
  rcases hb : nameB l with _ | _
  · rfl
  · exact absurd (nameB_iff.1 hb) h
theorem nameB_nil : nameB [] = false := rfl

/-- Names as a path; nothing: they are none. -/
def joinN (L : List (List UInt8)) : List UInt8 := if L.length ≤ 8 ∧ L.all nameB = true then joinS L else []
/-- A path's names; none: it is no path. -/
def splitS (l : List UInt8) : List (List UInt8) := if (pts l).length ≤ 8 ∧ (pts l).all nameB = true then pts l else []
/-- The names that a text begins with. -/
def firstN (l : List UInt8) : List (List UInt8) := (pts l).takeWhile nameB
/-- The path of a directory. -/
def dirS (l : List UInt8) : List UInt8 := joinN (splitS l).dropLast

theorem firstN_all (l : List UInt8) : (firstN l).all nameB = true := by
  unfold firstN; exact List.all_takeWhile
theorem firstN_free (l : List UInt8) : ∀ p ∈ firstN l, (47 : UInt8) ∉ p := fun p hp => (nameB_iff.1 (List.all_eq_true.1 (firstN_all l) p hp)).2.2.2.2.2
theorem takeWhile_all {p : List UInt8 → Bool} : ∀ {L : List (List UInt8)}, L.all p = true → L.takeWhile p = L
  | [], _ => rfl
  | a :: L, h => by
    rw [List.all_cons, Bool.and_eq_true] at h
    rw [List.takeWhile_cons, h.1, if_pos rfl, takeWhile_all h.2]
/-- What is joined again makes the text: the names are the path's. -/
theorem split_same {l : List UInt8} (h : joinN (firstN l) = l) : splitS l = firstN l := by
  unfold joinN at h
  by_cases h8 : (firstN l).length ≤ 8
  · rw [if_pos ⟨h8, firstN_all l⟩] at h
    by_cases hn : firstN l = []
    · rw [hn] at h
      subst h
      decide
    · have hp := pts_joinS hn (firstN_free l)
      rw [h] at hp
      unfold splitS
      rw [hp, if_pos ⟨h8, firstN_all l⟩]
  · rw [if_neg (fun hh => h8 hh.1)] at h
    subst h
    exact absurd (by decide) h8
/-- Else it is no path. -/
theorem split_other {l : List UInt8} (h : joinN (firstN l) ≠ l) : splitS l = [] := by
  unfold splitS
  split
  · rename_i hh
    refine absurd ?_ h
    have e : firstN l = pts l := takeWhile_all hh.2
    rw [e]; unfold joinN; rw [if_pos hh, joinS_pts]
  · rfl
theorem splitS_cases (l : List UInt8) : (splitS l = [] ∧ ¬ ((pts l).length ≤ 8 ∧ (pts l).all nameB = true)) ∨ (splitS l = pts l ∧ (pts l).length ≤ 8 ∧ (pts l).all nameB = true) := by
  by_cases h : (pts l).length ≤ 8 ∧ (pts l).all nameB = true
  · exact .inr ⟨if_pos h, h⟩
  · exact .inl ⟨if_neg h, h⟩
theorem splitS_ne {l : List UInt8} (h : splitS l ≠ []) : splitS l = pts l ∧ (pts l).length ≤ 8 ∧ (pts l).all nameB = true := (splitS_cases l).resolve_left fun e => h e.1
theorem splitS_le (l : List UInt8) : (splitS l).length ≤ 8 := by
  rcases splitS_cases l with ⟨h, _⟩ | ⟨h, h8, _⟩ <;> rw [h]
  · exact Nat.zero_le _
  · exact h8
theorem splitS_all (l : List UInt8) : (splitS l).all nameB = true := by
  rcases splitS_cases l with ⟨h, _⟩ | ⟨h, _, ha⟩ <;> rw [h]
  · rfl
  · exact ha
theorem join_split {l : List UInt8} (h : splitS l ≠ []) : joinN (splitS l) = l := by
  obtain ⟨e, h8, ha⟩ := splitS_ne h
  rw [e]; unfold joinN; rw [if_pos ⟨h8, ha⟩, joinS_pts]
theorem joinN_small {L : List (List UInt8)} (h : L.length ≤ 8) (hL : L.all nameB = true) : joinN L = joinS L := if_pos ⟨h, hL⟩
theorem joinN_none {L : List (List UInt8)} (h : ¬ (L.length ≤ 8 ∧ L.all nameB = true)) : joinN L = [] := if_neg h
theorem joinN_long {L : List (List UInt8)} (h : 8 < L.length) : joinN L = [] := if_neg fun hh => absurd hh.1 (by omega)
theorem joinN_bad {L : List (List UInt8)} {p : List UInt8} (hp : p ∈ L) (h : nameB p = false) : joinN L = [] := if_neg fun hh => by
  have := List.all_eq_true.1 hh.2 p hp; rw [h] at this; cases this
theorem splitS_short {l : List UInt8} (h : (splitS l).length < 2) : dirS l = [] := by
  unfold dirS
  have : (splitS l).dropLast = [] := by
    cases hs : splitS l with
    | nil => rfl
    | cons a r => cases r with
      | nil => rfl
      | cons b r => rw [hs] at h; simp at h; omega
  rw [this]; rfl
theorem dirS_none {l : List UInt8} (h : splitS l = []) : dirS l = [] := splitS_short (by rw [h]; decide)

/-- How two lists of texts stand to each other: 'a < b' among bytes' lists is Lean's own. -/
def cmpP : List (List UInt8) → List (List UInt8) → Int
  | [], [] => 0
  | [], _ :: _ => -1
  | _ :: _, [] => 1
  | a :: x, b :: y => if a < b then -1 else if b < a then 1 else cmpP x y
def orderS (a b : List UInt8) : Int := cmpP (pts a) (pts b)
end Go.Proofs.YtelaamchafocpaaDoor
/-
  Mathematics of layer 9's laws: how two paths stand, turned, below, ahead; a path one name deeper. Of no program.
-/
namespace Go.Proofs.YtelaamchafocpaaDoor

theorem l_irrefl (x : List UInt8) : ¬ x < x := List.lt_irrefl x
theorem l_trans {x y z : List UInt8} (h : x < y) (h' : y < z) : x < z := List.lt_trans h h'
theorem l_tri (x y : List UInt8) (h : ¬ x < y) (h' : ¬ y < x) : x = y := List.le_antisymm (List.not_lt.1 h') (List.not_lt.1 h)
theorem l_asymm {x y : List UInt8} (h : x < y) : ¬ y < x := fun h' => l_irrefl _ (l_trans h h')

theorem cmp_cons (a b : List UInt8) (x y : List (List UInt8)) : cmpP (a :: x) (b :: y) = if a < b then -1 else if b < a then 1 else cmpP x y := rfl
theorem cmp_same (a : List UInt8) (x y : List (List UInt8)) : cmpP (a :: x) (a :: y) = cmpP x y := by rw [cmp_cons, if_neg (l_irrefl a), if_neg (l_irrefl a)]
theorem cmp_three : ∀ x y : List (List UInt8), cmpP x y = -1 ∨ cmpP x y = 0 ∨ cmpP x y = 1
  | [], [] => .inr (.inl rfl)
  | [], _ :: _ => .inl rfl
  | _ :: _, [] => .inr (.inr rfl)
  | a :: x, b :: y => by
    rw [cmp_cons]
    split
    · exact .inl rfl
    · split
      · exact .inr (.inr rfl)
      · exact cmp_three x y
theorem cmp_turn : ∀ x y : List (List UInt8), cmpP y x = - cmpP x y
  | [], [] => rfl
  | [], _ :: _ => rfl
  | _ :: _, [] => rfl
  | a :: x, b :: y => by
    rw [cmp_cons, cmp_cons]
    by_cases h : a < b
    · rw [if_pos h, if_neg (l_asymm h), if_pos h]; rfl
    · by_cases h2 : b < a
      · rw [if_pos h2, if_neg h, if_pos h2]
      · rw [if_neg h2, if_neg h, if_neg h, if_neg h2]; exact cmp_turn x y
theorem cmp_refl : ∀ x : List (List UInt8), cmpP x x = 0
  | [] => rfl
  | a :: x => by rw [cmp_same]; exact cmp_refl x
theorem cmp_zero : ∀ {x y : List (List UInt8)}, cmpP x y = 0 → x = y
  | [], [], _ => rfl
  | [], _ :: _, h => by cases h
  | _ :: _, [], h => by cases h
  | a :: x, b :: y, h => by
    rw [cmp_cons] at h
    by_cases h1 : a < b
    · rw [if_pos h1] at h; cases h
    · rw [if_neg h1] at h
      by_cases h2 : b < a
      · rw [if_pos h2] at h; cases h
      · rw [if_neg h2] at h; rw [l_tri a b h1 h2, cmp_zero h]
theorem cmp_trans : ∀ {x y z : List (List UInt8)}, cmpP x y = -1 → cmpP y z = -1 → cmpP x z = -1
  | [], [], _, h, _ => by cases h
  | [], _ :: _, [], _, h => by cases h
  | [], _ :: _, _ :: _, _, _ => rfl
  | _ :: _, [], _, h, _ => by cases h
  | _ :: _, _ :: _, [], _, h => by cases h
  | a :: x, b :: y, c :: z, h, h' => by
    rw [cmp_cons] at h h' ⊢
    by_cases h1 : a < b
    · by_cases h2 : b < c
      · rw [if_pos (l_trans h1 h2)]
      · rw [if_neg h2] at h'
        by_cases h3 : c < b
        · rw [if_pos h3] at h'; cases h'
        · rw [← l_tri b c h2 h3, if_pos h1]
    · rw [if_neg h1] at h
      by_cases h2 : b < a
      · rw [if_pos h2] at h; cases h
      · rw [if_neg h2] at h
        have e := l_tri a b h1 h2
        subst e
        by_cases h3 : a < c
        · rw [if_pos h3]
        · rw [if_neg h3] at h' ⊢
          by_cases h4 : c < a
          · rw [if_pos h4] at h'; cases h'
          · rw [if_neg h4] at h' ⊢; exact cmp_trans h h'
theorem cmp_below : ∀ (x : List (List UInt8)) {z : List (List UInt8)}, z ≠ [] → cmpP x (x ++ z) = -1
  | [], _ :: _, _ => rfl
  | [], [], h => absurd rfl h
  | a :: x, z, h => by rw [List.cons_append, cmp_same]; exact cmp_below x h
/-- What stands behind x, and not below it, stands behind all that is below x. -/
theorem cmp_aside : ∀ {x y : List (List UInt8)} (z : List (List UInt8)), cmpP x y = -1 → (∀ t, y ≠ x ++ t) → cmpP (x ++ z) y = -1
  | [], y, _, _, h => absurd rfl (h y)
  | _ :: _, [], _, h, _ => by cases h
  | a :: x, b :: y, z, h, hn => by
    rw [List.cons_append]
    rw [cmp_cons] at h ⊢
    by_cases h1 : a < b
    · rw [if_pos h1]
    · rw [if_neg h1] at h ⊢
      by_cases h2 : b < a
      · rw [if_pos h2] at h; cases h
      · rw [if_neg h2] at h ⊢
        have e := l_tri a b h1 h2
        subst e
        exact cmp_aside z h (fun t e => hn t (by rw [e]; rfl))

theorem pts_inj {a b : List UInt8} (h : pts a = pts b) : a = b := by rw [← joinS_pts a, h, joinS_pts]
theorem order_three (a b : List UInt8) : orderS a b = -1 ∨ orderS a b = 0 ∨ orderS a b = 1 := cmp_three _ _
theorem order_turn (a b : List UInt8) : orderS b a = - orderS a b := cmp_turn _ _
theorem order_zero (a b : List UInt8) : orderS a b = 0 ↔ a = b := ⟨fun h => pts_inj (cmp_zero h), fun h => by subst h; exact cmp_refl _⟩
theorem order_trans {a b c : List UInt8} (h : orderS a b = -1) (h' : orderS b c = -1) : orderS a c = -1 := cmp_trans h h'
theorem order_below (a c : List UInt8) : orderS a (a ++ 47 :: c) = -1 := by
  unfold orderS; rw [pts_app]; exact cmp_below _ (pts_ne c)
theorem joinS_app {L M : List (List UInt8)} (hL : L ≠ []) (hM : M ≠ []) : joinS (L ++ M) = joinS L ++ 47 :: joinS M := by
  induction L with
  | nil => exact absurd rfl hL
  | cons a r ih =>
    cases r with
    | nil => exact joinS_cons hM
    | cons b r => rw [List.cons_append, joinS_cons (L := b :: r ++ M) (by simp), ih (by simp), joinS_cons (a := a) (L := b :: r) (by simp), List.append_assoc, List.cons_append]
theorem order_aside {a b : List UInt8} (c : List UInt8) (h : orderS a b = -1) (hn : ∀ t, b ≠ a ++ 47 :: t) : orderS (a ++ 47 :: c) b = -1 := by
  unfold orderS; rw [pts_app]
  refine cmp_aside _ h (fun t e => ?_)
  by_cases ht : t = []
  · subst ht
    rw [List.append_nil] at e
    unfold orderS at h
    rw [e, cmp_refl] at h; cases h
  · refine hn (joinS t) ?_
    rw [← joinS_pts b, e, joinS_app (pts_ne a) ht, joinS_pts]
/-- Whether b lies below a, as the law asks it. -/
theorem inside_iff (a b : List UInt8) : (∃ t, b = a ++ 47 :: t) ↔ (a.length < b.length ∧ b.take (a.length + 1) = a ++ [47]) := by
  constructor
  · rintro ⟨t, rfl⟩
    refine ⟨by simp, ?_⟩
    rw [show a ++ 47 :: t = (a ++ [47]) ++ t by simp, List.take_left' (by simp)]
  · rintro ⟨_, h⟩
    refine ⟨b.drop (a.length + 1), ?_⟩
    conv => lhs; rw [← List.take_append_drop (a.length + 1) b, h]
    simp

/-! ## one name deeper -/
def pathB (l : List UInt8) : Bool := decide (0 < (splitS l).length)
theorem path_iff (l : List UInt8) : 0 < (splitS l).length ↔ ((pts l).length ≤ 8 ∧ (pts l).all nameB = true) := by
  rcases splitS_cases l with ⟨h, hn⟩ | ⟨h, h2⟩
  · rw [h]; exact ⟨fun h => absurd h (by simp), fun h => absurd h hn⟩
  · rw [h]; exact ⟨fun _ => h2, fun _ => List.length_pos_iff.2 (pts_ne l)⟩
/-- What the law asks of a path and one that lies below it. -/
theorem deeper {s n : List UInt8} (hs : 0 < (splitS s).length) :
    (0 < (splitS (s ++ 47 :: n)).length) ↔ ((pts s).length < 8 ∧ 0 < (splitS n).length ∧ ((splitS n).length : Int) ≤ 8 - ((pts s).length : Int)) := by
  obtain ⟨h1, h2⟩ := (path_iff s).1 hs
  rw [path_iff, pts_app, List.length_append, List.all_append, h2, Bool.true_and]
  have hp := List.length_pos_iff.2 (pts_ne n)
  constructor
  · rintro ⟨h3, h4⟩
    have h5 : 0 < (splitS n).length := (path_iff n).2 ⟨by omega, h4⟩
    have h6 : splitS n = pts n := (splitS_ne (List.length_pos_iff.1 h5)).1
    exact ⟨by omega, h5, by rw [h6]; omega⟩
  · rintro ⟨_, h5, h7⟩
    have h6 := splitS_ne (List.length_pos_iff.1 h5)
    rw [h6.1] at h7
    exact ⟨by omega, h6.2.2⟩
theorem dir_deeper {s n : List UInt8} (hs : 0 < (splitS s).length) (hn : nameB n = true) (h8 : (pts s).length < 8) : dirS (s ++ 47 :: n) = s := by
  obtain ⟨h1, h2⟩ := (path_iff s).1 hs
  have hpn : pts n = [n] := pts_one (nameB_iff.1 hn).2.2.2.2.2
  have he : splitS (s ++ 47 :: n) = pts s ++ [n] := by
    unfold splitS
    rw [pts_app, hpn, if_pos ⟨by rw [List.length_append]; simp; omega, by rw [List.all_append, h2]; simp [hn]⟩]
  unfold dirS
  rw [he, List.dropLast_concat, joinN_small h1 h2, joinS_pts]
theorem split_len {s : List UInt8} (hs : 0 < (splitS s).length) : (splitS s).length = (pts s).length := by
  rw [(splitS_ne (List.length_pos_iff.1 hs)).1]
/-- The names' count among the first k bytes. -/
theorem count_take {l : List UInt8} {k : Nat} (hk : k < l.length) : (l.take (k + 1)).count 47 = (l.take k).count 47 + if l[k] = 47 then 1 else 0 := by
  rw [List.take_succ_eq_append_getElem hk, List.count_append, List.count_singleton]
  by_cases h : l[k] = 47
  · rw [if_pos h, h]; rfl
  · rw [if_neg h]; simp [h]
end Go.Proofs.YtelaamchafocpaaDoor
/-
  Mathematics of trees: items that rise by path, what is found, put in, dropped; which can be. Of no program.
-/
namespace Go.Proofs.YtelaamchafocpaaDoor

/-- An item: its path, whether it is a directory, can be run, its bytes. -/
structure It where
  p : ByteArray
  d : Bool
  e : Bool
  c : ByteArray
def It.t (x : It) : List UInt8 := x.p.data.toList
def zeroIt : It := ⟨⟨#[]⟩, false, false, ⟨#[]⟩⟩
theorem ba_ext {a b : ByteArray} (h : a.data.toList = b.data.toList) : a = b := by
  cases a; cases b
  simp at h
  rw [h]
theorem it_ext {x y : It} (h1 : x.t = y.t) (h2 : x.d = y.d) (h3 : x.e = y.e) (h4 : x.c = y.c) : x = y := by
  cases x; cases y
  have := ba_ext h1
  simp_all

/-- They rise. -/
def Rise (L : List It) : Prop := L.Pairwise fun a b => orderS a.t b.t = -1
def findT (L : List It) (t : List UInt8) : Option It := L.find? fun x => decide (x.t = t)
def foundI (L : List It) (t : List UInt8) : It := (findT L t).getD zeroIt
def sizeT (L : List It) : Nat := (L.map fun x => x.c.size).sum
def cntT (L : List It) (t : List UInt8) : Nat := L.countP fun x => decide (orderS x.t t = -1)
def underT (L : List It) (t : List UInt8) : Bool := decide (dirS t = []) || (foundI L (dirS t)).d
def withT (L : List It) (x : It) : List It := (L.filter fun y => decide (orderS y.t x.t = -1)) ++ x :: (L.filter fun y => decide (orderS y.t x.t = 1))
def belowB (a b : List UInt8) : Bool := decide (b.length < a.length) && decide (a.take (b.length + 1) = b ++ [47])
def dropT (L : List It) (t : List UInt8) : List It := L.filter fun y => !(decide (y.t = t) || belowB y.t t)
def badI (x : It) : Bool := x.d && (decide (x.c.size ≠ 0) || x.e)
def wrongT (L : List It) (x : It) : Nat :=
  if pathB x.t = false then 7 else
  if badI x = true then 2 else
  if dirS x.t ≠ [] ∧ (findT L (dirS x.t)).isSome = false then 5 else
  if (dirS x.t ≠ [] ∧ (foundI L (dirS x.t)).d = false) ∨ ((findT L x.t).isSome = true ∧ (foundI L x.t).d ≠ x.d) then 10 else
  if 32768 < x.c.size ∨ 65536 + (foundI L x.t).c.size < sizeT L + x.c.size then 4 else
  if (findT L x.t).isSome = false ∧ 60 ≤ L.length then 9 else 0
def putT (L : List It) (x : It) : List It := if wrongT L x = 0 then withT L x else L
def goneT (L : List It) (t : List UInt8) : List It := if (findT L t).isSome then dropT L t else L
def lastN (t : List UInt8) : List UInt8 := (splitS t).getLastD []
def namesT (L : List It) (d : List UInt8) : List (List UInt8) := (L.filter fun x => decide (dirS x.t = d)).map fun x => lastN x.t
/-- A tree that can be. -/
structure TFit (L : List It) : Prop where
  len : L.length ≤ 60
  rise : Rise L
  path : ∀ x ∈ L, pathB x.t = true
  form : ∀ x ∈ L, badI x = false
  data : ∀ x ∈ L, x.c.size ≤ 32768
  under : ∀ x ∈ L, underT L x.t = true
  size : sizeT L ≤ 65536
noncomputable def fitT (L : List It) : Bool := @decide (TFit L) (Classical.propDecidable _)
theorem fitT_yes {L : List It} (h : TFit L) : fitT L = true := @decide_eq_true _ (Classical.propDecidable _) h
theorem fitT_no {L : List It} (h : ¬ TFit L) : fitT L = false := @decide_eq_false _ (Classical.propDecidable _) h
theorem fitT_iff {L : List It} : fitT L = true ↔ TFit L := ⟨fun h => @of_decide_eq_true _ (Classical.propDecidable _) h, fitT_yes⟩
noncomputable def sameT (L M : List It) : Bool := @decide (L = M) (Classical.propDecidable _)
theorem sameT_yes {L M : List It} (h : L = M) : sameT L M = true := @decide_eq_true _ (Classical.propDecidable _) h
theorem sameT_no {L M : List It} (h : L ≠ M) : sameT L M = false := @decide_eq_false _ (Classical.propDecidable _) h

/-! ## rising -/
theorem rise_nil : Rise [] := List.Pairwise.nil
theorem rise_cons {x : It} {L : List It} : Rise (x :: L) ↔ (∀ y ∈ L, orderS x.t y.t = -1) ∧ Rise L := List.pairwise_cons
theorem rise_app {A B : List It} : Rise (A ++ B) ↔ Rise A ∧ Rise B ∧ ∀ a ∈ A, ∀ b ∈ B, orderS a.t b.t = -1 := List.pairwise_append
theorem rise_snoc {M : List It} {x : It} : Rise (M ++ [x]) ↔ Rise M ∧ ∀ a ∈ M, orderS a.t x.t = -1 := by
  rw [rise_app]
  constructor
  · rintro ⟨h1, _, h3⟩; exact ⟨h1, fun a ha => h3 a ha x (by simp)⟩
  · rintro ⟨h1, h3⟩; exact ⟨h1, List.pairwise_singleton _ _, fun a ha b hb => by rw [List.mem_singleton.1 hb]; exact h3 a ha⟩
theorem rise_filter {L : List It} (h : Rise L) (p : It → Bool) : Rise (L.filter p) := List.Pairwise.filter p h
theorem order_ne {a b : List UInt8} (h : orderS a b = -1) : a ≠ b := fun e => by rw [(order_zero a b).2 e] at h; cases h
theorem order_self (a : List UInt8) : orderS a a = 0 := (order_zero a a).2 rfl
theorem order_flip {a b : List UInt8} : orderS a b = 1 ↔ orderS b a = -1 := by rw [order_turn b a]; omega
theorem order_after {a b c : List UInt8} (h : orderS a b = -1) (h' : orderS a c ≠ -1) : orderS b c = 1 := by
  rcases order_three a c with e | e | e
  · exact absurd e h'
  · have := (order_zero a c).1 e
    subst this; exact order_flip.2 h
  · exact order_flip.2 (order_trans (order_flip.1 e) h)
theorem rise_ext : ∀ {L M : List It}, Rise L → Rise M → (∀ y, y ∈ L ↔ y ∈ M) → L = M
  | [], [], _, _, _ => rfl
  | [], y :: M, _, _, h => absurd ((h y).2 (by simp)) (by simp)
  | x :: L, [], _, _, h => absurd ((h x).1 (by simp)) (by simp)
  | x :: L, y :: M, hL, hM, h => by
    obtain ⟨a1, a2⟩ := rise_cons.1 hL
    obtain ⟨b1, b2⟩ := rise_cons.1 hM
    have hxy : x = y := by
      rcases List.mem_cons.1 ((h x).1 (by simp)) with e | e
      · exact e
      · rcases List.mem_cons.1 ((h y).2 (by simp)) with e' | e'
        · exact e'.symm
        · have h1 := b1 x e
          have h2 := a1 y e'
          exact absurd rfl (order_ne (order_trans h1 h2))
    subst hxy
    congr 1
    refine rise_ext a2 b2 (fun z => ⟨fun hz => ?_, fun hz => ?_⟩)
    · rcases List.mem_cons.1 ((h z).1 (List.mem_cons_of_mem _ hz)) with e | e
      · exact absurd (e ▸ rfl) (order_ne (a1 z hz))
      · exact e
    · rcases List.mem_cons.1 ((h z).2 (List.mem_cons_of_mem _ hz)) with e | e
      · exact absurd (e ▸ rfl) (order_ne (b1 z hz))
      · exact e
theorem rise_uniq {L : List It} (h : Rise L) {x y : It} (hx : x ∈ L) (hy : y ∈ L) (e : x.t = y.t) : x = y := by
  induction L with
  | nil => cases hx
  | cons a L ih =>
    obtain ⟨h1, h2⟩ := rise_cons.1 h
    rcases List.mem_cons.1 hx with rfl | hx'
    · rcases List.mem_cons.1 hy with e2 | hy'
      · exact e2.symm
      · exact absurd e (order_ne (h1 y hy'))
    · rcases List.mem_cons.1 hy with rfl | hy'
      · exact absurd e.symm (order_ne (h1 x hx'))
      · exact ih h2 hx' hy'

/-! ## what is found -/
theorem findT_mem {L : List It} {t : List UInt8} {x : It} (h : findT L t = some x) : x ∈ L ∧ x.t = t :=
  ⟨List.mem_of_find?_eq_some h, by have := List.find?_some h; simpa using this⟩
theorem findT_none {L : List It} {t : List UInt8} : findT L t = none ↔ ∀ x ∈ L, x.t ≠ t := by
  unfold findT; simp
theorem findT_some {L : List It} (hr : Rise L) {t : List UInt8} {x : It} : findT L t = some x ↔ x ∈ L ∧ x.t = t := by
  refine ⟨findT_mem, fun ⟨h1, h2⟩ => ?_⟩
  cases hf : findT L t with
  | none => exact absurd h2 (findT_none.1 hf x h1)
  | some y =>
    obtain ⟨h3, h4⟩ := findT_mem hf
    rw [rise_uniq hr h3 h1 (h4.trans h2.symm)]
theorem foundI_some {L : List It} {t : List UInt8} {x : It} (h : findT L t = some x) : foundI L t = x := by unfold foundI; rw [h]; rfl
theorem foundI_none {L : List It} {t : List UInt8} (h : findT L t = none) : foundI L t = zeroIt := by unfold foundI; rw [h]; rfl
theorem findT_cons (x : It) (L : List It) (t : List UInt8) : findT (x :: L) t = if x.t = t then some x else findT L t := by
  unfold findT
  rw [List.find?_cons]
  by_cases h : x.t = t
  · simp [h]
  · simp [h]
theorem findT_app_none {A B : List It} {t : List UInt8} (h : findT A t = none) : findT (A ++ B) t = findT B t := by
  unfold findT at h ⊢; rw [List.find?_append, h]; rfl
theorem findT_app_some {A B : List It} {t : List UInt8} {x : It} (h : findT A t = some x) : findT (A ++ B) t = some x := by
  unfold findT at h ⊢; rw [List.find?_append, h]; rfl
theorem findT_size {L : List It} {t : List UInt8} : (foundI L t).c.size ≤ sizeT L := by
  cases hf : findT L t with
  | none => rw [foundI_none hf]; exact Nat.zero_le _
  | some x =>
    rw [foundI_some hf]
    have hm := (findT_mem hf).1
    clear hf
    induction L with
    | nil => cases hm
    | cons a L ih =>
      show _ ≤ ((a :: L).map fun x => x.c.size).sum
      rw [List.map_cons, List.sum_cons]
      rcases List.mem_cons.1 hm with e | e
      · rw [e]; omega
      · have := ih e; unfold sizeT at this; omega
/-- Rising items, parted at a path. -/
theorem rise_cut {L : List It} (hr : Rise L) (t : List UInt8) : ∃ A B, L = A ++ B ∧ A.length = cntT L t ∧ (∀ x ∈ A, orderS x.t t = -1) ∧ (∀ x ∈ B, orderS x.t t ≠ -1) := by
  induction L with
  | nil => exact ⟨[], [], rfl, rfl, by simp, by simp⟩
  | cons a L ih =>
    obtain ⟨h1, h2⟩ := rise_cons.1 hr
    by_cases ha : orderS a.t t = -1
    · obtain ⟨A, B, e, hl, hA, hB⟩ := ih h2
      refine ⟨a :: A, B, by rw [e]; rfl, ?_, ?_, hB⟩
      · rw [List.length_cons, hl]; unfold cntT; rw [List.countP_cons]; simp [ha]
      · intro x hx
        rcases List.mem_cons.1 hx with e2 | e2
        · rw [e2]; exact ha
        · exact hA x e2
    · have hall : ∀ x ∈ a :: L, orderS x.t t ≠ -1 := by
        intro x hx
        rcases List.mem_cons.1 hx with e2 | e2
        · rw [e2]; exact ha
        · rw [order_after (h1 x e2) ha]; decide
      refine ⟨[], a :: L, rfl, ?_, by simp, hall⟩
      unfold cntT
      rw [List.length_nil, eq_comm, List.countP_eq_zero]
      intro x hx
      simpa using hall x hx
theorem cnt_le (L : List It) (t : List UInt8) : cntT L t ≤ L.length := List.countP_le_length
theorem cnt_at {L : List It} (hr : Rise L) (t : List UInt8) {i : Nat} (h : i < L.length) : orderS L[i].t t = -1 ↔ i < cntT L t := by
  obtain ⟨A, B, rfl, hl, hA, hB⟩ := rise_cut hr t
  rw [← hl, List.getElem_append]
  split
  · rename_i hi; exact ⟨fun _ => hi, fun _ => hA _ (List.getElem_mem _)⟩
  · rename_i hi; exact ⟨fun e => absurd e (hB _ (List.getElem_mem _)), fun e => absurd e hi⟩
/-- What is at the place. -/
theorem find_at {L : List It} (hr : Rise L) (t : List UInt8) : (∃ h : cntT L t < L.length, orderS (L[cntT L t]).t t = 0 ∧ findT L t = some L[cntT L t]) ∨ (findT L t = none ∧ ∀ h : cntT L t < L.length, orderS (L[cntT L t]).t t = 1) := by
  by_cases h : cntT L t < L.length
  · rcases order_three (L[cntT L t]).t t with e | e | e
    · exact absurd ((cnt_at hr t h).1 e) (Nat.lt_irrefl _)
    · exact .inl ⟨h, e, (findT_some hr).2 ⟨List.getElem_mem _, (order_zero _ _).1 e⟩⟩
    · refine .inr ⟨findT_none.2 fun x hx hxt => ?_, fun _ => e⟩
      obtain ⟨i, hi, rfl⟩ := List.getElem_of_mem hx
      have h0 : orderS L[i].t t = 0 := (order_zero _ _).2 hxt
      by_cases hlt : i < cntT L t
      · rw [(cnt_at hr t hi).2 hlt] at h0; cases h0
      · by_cases he : i = cntT L t
        · subst he; rw [e] at h0; cases h0
        · have hp := List.pairwise_iff_getElem.1 hr (cntT L t) i h hi (by omega)
          rw [hxt] at hp; rw [hp] at e; cases e
  · refine .inr ⟨findT_none.2 fun x hx hxt => ?_, fun h' => absurd h' h⟩
    obtain ⟨i, hi, rfl⟩ := List.getElem_of_mem hx
    have h0 : orderS L[i].t t = 0 := (order_zero _ _).2 hxt
    rw [(cnt_at hr t hi).2 (by omega)] at h0; cases h0

/-! ## something put in -/
theorem mem_withT {L : List It} {x y : It} : y ∈ withT L x ↔ y = x ∨ (y ∈ L ∧ y.t ≠ x.t) := by
  unfold withT
  simp only [List.mem_append, List.mem_cons, List.mem_filter, decide_eq_true_eq]
  constructor
  · rintro (⟨h, e⟩ | h | ⟨h, e⟩)
    · exact .inr ⟨h, order_ne e⟩
    · exact .inl h
    · exact .inr ⟨h, fun e' => by rw [(order_zero _ _).2 e'] at e; cases e⟩
  · rintro (h | ⟨h, e⟩)
    · exact .inr (.inl h)
    · rcases order_three y.t x.t with h' | h' | h'
      · exact .inl ⟨h, h'⟩
      · exact absurd ((order_zero _ _).1 h') e
      · exact .inr (.inr ⟨h, h'⟩)
theorem rise_withT {L : List It} (hr : Rise L) (x : It) : Rise (withT L x) := by
  unfold withT
  refine rise_app.2 ⟨rise_filter hr _, rise_cons.2 ⟨fun y hy => ?_, rise_filter hr _⟩, fun a ha b hb => ?_⟩
  · have := (List.mem_filter.1 hy).2
    exact order_flip.1 (by simpa using this)
  · have h1 : orderS a.t x.t = -1 := by simpa using (List.mem_filter.1 ha).2
    rcases List.mem_cons.1 hb with e | e
    · rw [e]; exact h1
    · exact order_trans h1 (order_flip.1 (by simpa using (List.mem_filter.1 e).2))
theorem withT_snoc_less {M : List It} {x y : It} (h : orderS y.t x.t = -1) (hr : ∀ z ∈ M, orderS z.t x.t = -1) : ∀ z ∈ M ++ [y], orderS z.t x.t = -1 := by
  intro z hz
  rcases List.mem_append.1 hz with e | e
  · exact hr z e
  · rw [List.mem_singleton.1 e]; exact h
theorem withT_all {M : List It} {x : It} (h : ∀ z ∈ M, orderS z.t x.t = -1) : withT M x = M ++ [x] := by
  unfold withT
  rw [List.filter_eq_self.2 (fun z hz => by simpa using h z hz), List.filter_eq_nil_iff.2 (fun z hz => by simp [h z hz])]
theorem withT_same {M : List It} {x y : It} (h : orderS y.t x.t = 0) : withT (M ++ [y]) x = withT M x := by
  unfold withT
  rw [List.filter_append, List.filter_append]
  simp [h]
theorem withT_more {M : List It} {x y : It} (h : orderS y.t x.t = 1) : withT (M ++ [y]) x = withT M x ++ [y] := by
  unfold withT
  rw [List.filter_append, List.filter_append]
  simp [h]
theorem withT_set {L : List It} (hr : Rise L) {x : It} {i : Nat} (hi : i = cntT L x.t) (h : i < L.length) (h0 : orderS L[i].t x.t = 0) : withT L x = L.set i x := by
  obtain ⟨A, B, rfl, hl, hA, hB⟩ := rise_cut hr x.t
  rw [← hl] at hi
  subst hi
  obtain ⟨y, B', rfl⟩ : ∃ y B', B = y :: B' := by
    cases B with
    | nil => simp at h
    | cons y B' => exact ⟨y, B', rfl⟩
  have hy : orderS y.t x.t = 0 := by simpa using h0
  rw [List.set_append_right _ _ (Nat.le_refl _), Nat.sub_self, List.set_cons_zero]
  have hB' : ∀ z ∈ B', orderS z.t x.t = 1 := fun z hz => by
    have := (rise_cons.1 (rise_app.1 hr).2.1).1 z hz
    exact order_after this (by rw [hy]; decide)
  unfold withT
  rw [List.filter_append, List.filter_append, List.filter_eq_self.2 (fun z hz => by simpa using hA z hz), List.filter_eq_nil_iff (l := A) |>.2 (fun z hz => by simp [hA z hz])]
  rw [List.filter_cons, List.filter_cons]
  simp only [hy]
  rw [List.filter_eq_nil_iff (l := B') |>.2 (fun z hz => by simp [hB' z hz]), List.filter_eq_self.2 (fun z hz => by simpa using hB' z hz)]
  simp
theorem withT_insert {L : List It} (hr : Rise L) {x : It} (h0 : ∀ h : cntT L x.t < L.length, orderS (L[cntT L x.t]).t x.t = 1) : withT L x = L.take (cntT L x.t) ++ x :: L.drop (cntT L x.t) := by
  obtain ⟨A, B, rfl, hl, hA, hB⟩ := rise_cut hr x.t
  rw [← hl] at h0 ⊢
  rw [List.take_left, List.drop_left]
  have hB' : ∀ z ∈ B, orderS z.t x.t = 1 := by
    cases B with
    | nil => simp
    | cons y B =>
      have hy : orderS y.t x.t = 1 := by simpa using h0 (by simp)
      intro z hz
      rcases List.mem_cons.1 hz with e | e
      · rw [e]; exact hy
      · exact order_after ((rise_cons.1 (rise_app.1 hr).2.1).1 z e) (by rw [hy]; decide)
  unfold withT
  rw [List.filter_append, List.filter_append, List.filter_eq_self.2 (fun z hz => by simpa using hA z hz), List.filter_eq_nil_iff (l := A) |>.2 (fun z hz => by simp [hA z hz]),
    List.filter_eq_nil_iff (l := B) |>.2 (fun z hz => by simp [hB' z hz]), List.filter_eq_self.2 (fun z hz => by simpa using hB' z hz)]
  simp
theorem len_withT {L : List It} (hr : Rise L) (x : It) : (withT L x).length = L.length + if (findT L x.t).isSome then 0 else 1 := by
  rcases find_at hr x.t with ⟨h, h0, hf⟩ | ⟨hf, h0⟩
  · rw [withT_set hr rfl h h0, hf]; simp
  · rw [withT_insert hr h0, hf]; have := cnt_le L x.t; simp; omega
theorem sizeT_app (A B : List It) : sizeT (A ++ B) = sizeT A + sizeT B := by simp [sizeT]
theorem sizeT_cons (x : It) (B : List It) : sizeT (x :: B) = x.c.size + sizeT B := by simp [sizeT]
theorem size_withT {L : List It} (hr : Rise L) (x : It) : sizeT (withT L x) + (foundI L x.t).c.size = sizeT L + x.c.size := by
  rcases find_at hr x.t with ⟨h, h0, hf⟩ | ⟨hf, h0⟩
  · rw [withT_set hr rfl h h0, foundI_some hf]
    have e : L = L.take (cntT L x.t) ++ L[cntT L x.t] :: L.drop (cntT L x.t + 1) := by rw [← List.drop_eq_getElem_cons h, List.take_append_drop]
    rw [List.set_eq_take_append_cons_drop, if_pos h, sizeT_app, sizeT_cons]
    conv => rhs; rw [e]
    rw [sizeT_app, sizeT_cons]
    omega
  · rw [withT_insert hr h0, foundI_none hf]
    have e : L = L.take (cntT L x.t) ++ L.drop (cntT L x.t) := by rw [List.take_append_drop]
    rw [sizeT_app, sizeT_cons]
    conv => rhs; rw [e]
    rw [sizeT_app]
    show _ + 0 = _
    omega
end Go.Proofs.YtelaamchafocpaaDoor
/-
  Small laws on operations, of no program: slices of strings.
-/
namespace Go.Proofs.YtelaamchafocpaaDoor
open Go.RowKit

theorem run_slice_str {P : Program} {t : TypeId} (ht : P.underlying t = some .string) (s : ByteArray) (a b : Int) (h0 : 0 ≤ a) (h1 : a ≤ b) (h2 : b ≤ s.size) (w : World) :
    (Instr.slice t (.string s) (some (.int .i64 a)) (some (.int .i64 b)) none).run P w = .ok (.string (s.extract a.toNat b.toNat)) w := by
  have e2 : 0 ≤ b := Int.le_trans h0 h1
  have eb : ∀ (y : Nat) code, b ≤ y → (Instr.sliceBound (.int .i64 b) y code).run P w = .ok b.toNat w := fun y code hy => by
    simp [Instr.sliceBound, asIntOf, e2, go_sem]
    omega
  have ea : ∀ (y : Nat) code, a ≤ y → (Instr.sliceBound (.int .i64 a) y code).run P w = .ok a.toNat w := fun y code hy => by
    simp [Instr.sliceBound, asIntOf, h0, go_sem]
    omega
  simp [Instr.slice, run_underlying ht, Instr.sliceBounds, eb s.size _ h2, go_sem]
  omega

theorem run_slice_to {P : Program} {t : TypeId} (ht : P.underlying t = some .string) (s : ByteArray) (b : Nat) (h2 : b ≤ s.size) (w : World) :
    (Instr.slice t (.string s) none (some (.int .i64 (b : Int))) none).run P w = .ok (.string (s.extract 0 b)) w := by
  have eb : ∀ (y : Nat) code, b ≤ y → (Instr.sliceBound (.int .i64 (b : Int)) y code).run P w = .ok b w := fun y code hy => by
    simp [Instr.sliceBound, asIntOf, go_sem]
    omega
  simp [Instr.slice, run_underlying ht, Instr.sliceBounds, eb s.size _ h2, go_sem]
theorem run_slice_from {P : Program} {t : TypeId} (ht : P.underlying t = some .string) (s : ByteArray) (a : Nat) (h2 : a ≤ s.size) (w : World) :
    (Instr.slice t (.string s) (some (.int .i64 (a : Int))) none none).run P w = .ok (.string (s.extract a s.size)) w := by
  have ea : ∀ (y : Nat) code, a ≤ y → (Instr.sliceBound (.int .i64 (a : Int)) y code).run P w = .ok a w := fun y code hy => by
    simp [Instr.sliceBound, asIntOf, go_sem]
    omega
  simp [Instr.slice, run_underlying ht, Instr.sliceBounds, ea s.size _ h2, go_sem]
/-- Three steps, each over what lies ahead of it. -/
theorem below_step {a b c : World} (h : Below a.heap.size a b) (k : Below b.heap.size b c) : Below a.heap.size a c := h.trans (k.mono h.size)
end Go.Proofs.YtelaamchafocpaaDoor
/-
  Slices of strings over this translation: lists of texts; the tail of a slice; one string appended.
-/
set_option linter.unusedVariables false
namespace Go.Proofs.YtelaamchafocpaaDoor
open Go.RowKit

theorem infoStr : (Tryd.prog.info? 9).map (fun i => (i.zero, i.size, i.bytes)) = some (some (.string ⟨#[]⟩), 1, 16) := by kernel_rfl
/-- Lists of bytes as strings, and strings' bytes. -/
def strsOf (L : List (List UInt8)) : List ByteArray := L.map fun l => ⟨l.toArray⟩
def txts (L : List ByteArray) : List (List UInt8) := L.map (·.data.toList)
theorem strsOf_len (L : List (List UInt8)) : (strsOf L).length = L.length := List.length_map ..
theorem txts_len (L : List ByteArray) : (txts L).length = L.length := List.length_map ..
theorem strsOf_snoc (L : List (List UInt8)) (t : List UInt8) : strsOf (L ++ [t]) = strsOf L ++ [⟨t.toArray⟩] := by simp [strsOf]
theorem strsOf_app (L M : List (List UInt8)) : strsOf (L ++ M) = strsOf L ++ strsOf M := List.map_append
theorem strsOf_txts (L : List ByteArray) : strsOf (txts L) = L := by simp [strsOf, txts, Function.comp_def]
theorem txts_strsOf (L : List (List UInt8)) : txts (strsOf L) = L := by simp [strsOf, txts, Function.comp_def]
theorem txts_get {L : List ByteArray} {i : Nat} (h : i < L.length) : (txts L)[i]'(by rw [txts_len]; exact h) = L[i].data.toList := by simp [txts]
theorem strsOf_get {L : List (List UInt8)} {i : Nat} (h : i < L.length) : (strsOf L)[i]'(by rw [strsOf_len]; exact h) = ⟨L[i].toArray⟩ := by simp [strsOf]

theorem bcell {W w1 : World} (hb : Below W.heap.size W w1) : (∀ b o, b < W.heap.size → w1.cell? ⟨b, o, none⟩ = W.cell? ⟨b, o, none⟩) ∧ (∀ b o, b < W.heap.size → w1.frozen? ⟨b, o, none⟩ = W.frozen? ⟨b, o, none⟩) :=
  ⟨fun b o h => hb.cell (p := ⟨b, o, none⟩) h, fun b o h => hb.frozen (p := ⟨b, o, none⟩) h⟩
theorem cell_one {w : World} {v : Value} {t : TypeId} : ∀ j u, [v][j]? = some u → (w.alloc (.cells #[v] t)).cell? ((⟨w.heap.size, 0, none⟩ : Addr).add j) = some u := by
  intro j u hj
  match j, hj with
  | 0, hj => simp at hj; subst hj; simp [Addr.add]

/-- The tail of a slice of strings. -/
theorem strs_tail {w : World} {v : Value} {x : ByteArray} {L : List ByteArray} (h : IsStrs w v (x :: L)) :
    ∃ v', (∀ W, (Instr.slice 31 v (some (.int .i64 1)) none none).run Tryd.prog W = .ok v' W) ∧ IsStrs w v' L := by
  obtain ⟨hm, a, cap, rfl, ⟨_, hcap⟩, hc⟩ := h
  obtain ⟨b, off, rfl, hlt, hcell⟩ := hc (by simp)
  simp only [List.length_cons] at hm hcap hcell
  refine ⟨sliced (some ⟨b, off, none⟩) 1 (L.length + 1) cap 1, fun W => ?_, Nat.le_trans (Nat.le_succ _) hm, ?_⟩
  · have := run_slice_l (P := Tryd.prog) (w := W) 31 (some ⟨b, off, none⟩) (L.length + 1) cap (by kernel_rfl) .i64 1 (by omega) (by omega)
    rw [List.length_cons, this]
    have hs : (sizeOf (Tryd.prog.elem 31)).run Tryd.prog W = .ok 1 W := by
      have : Tryd.prog.elem 31 = 9 := by kernel_rfl
      rw [this]
      obtain ⟨i0, hi, _⟩ := info_parts infoStr
      rw [run_sizeOf _ hi]
      have h1 : Tryd.prog.cellsOf 9 = 1 := by kernel_rfl
      rw [h1]
    rw [hs]; rfl
  · by_cases hcap1 : cap = 1
    · subst hcap1
      obtain rfl : L = [] := List.length_eq_zero_iff.1 (by omega)
      exact ⟨some ⟨b, off, none⟩, 0, by simp [sliced], ⟨fun h => (by cases h), Nat.le_refl _⟩, fun h => absurd h (by simp)⟩
    · refine ⟨some ⟨b, off + 1, none⟩, cap - 1, by simp [sliced, Addr.add, hcap1], ⟨fun h => (by cases h), by omega⟩, fun h => ⟨b, off + 1, rfl, hlt, fun i hi => ?_⟩⟩
      have := hcell (i + 1) (by omega)
      rw [show off + 1 + i = off + (i + 1) by omega, this]; simp

/-- One string behind a slice of the call's own; the call began at W. -/
theorem wpList_append_one {ops : Array Oper} {rest : List Oper} {o : Oper} {a : Act} {W w0 : World} {Q : Exit → Act → World → Prop} (hgd : o.guard = none) (s x : Operand)
    (ho : o.op = .call { callee := .builtin .append, args := #[s, x], argTypes := #[31, 31] })
    {v : Value} {M : List ByteArray} {y : ByteArray} (hown : w0.ownsRow W.heap.size 9 1 v M.length (strCells M)) (hb : Below W.heap.size W w0) (hs : a.eval s = v)
    (hx : a.eval x = .slice (some ⟨w0.heap.size, 0, none⟩) 1 1) (hlen : M.length ≤ 1000000)
    (h : ∀ v' w', w'.ownsRow W.heap.size 9 1 v' (M ++ [y]).length (strCells (M ++ [y])) → Below W.heap.size W w' → wpList Tryd.prog ops Q rest (a.put o.dst v') w') :
    wpList Tryd.prog ops Q (o :: rest) a (w0.alloc (.cells #[.string y] 9)) := by
  obtain ⟨i0, hi, hz0, hz1, hz2⟩ := info_parts infoStr
  have hsz := hb.size
  refine wpList_append_own _ hgd s x 31 ho W.heap.size 9 i0 (.string ⟨#[]⟩) 1 16 Tryd.underlying31 hi hz0 hz1 hz2 rfl (by decide) v M.length (strCells M) hs (hown.alloc _) ⟨w0.heap.size, 0, none⟩ 1 1 [.string y] hx rfl cell_one ?_ ?_ ?_ ?_ ?_
  · intro u hu; simp at hu; subst hu; rfl
  · unfold maxLen; omega
  · omega
  · simp; omega
  · intro v' w' hown' hg _
    refine h v' w' ?_ ((hb.alloc hsz _).grown hg (by simp; omega) (fun j hj => (hown.lt j hj).1))
    rw [List.length_append, strCells_app]; exact hown'

/-- A slice of the call's own (which began at W) that reads as texts. -/
def OwnTxt (W wr : World) (v : Value) (M : List (List UInt8)) : Prop := wr.ownsRow W.heap.size 9 1 v (strsOf M).length (strCells (strsOf M))
theorem ownTxt_nil (W : World) : OwnTxt W W (.slice none 0 0) [] := World.ownsRow_nil _ _ _ _
theorem OwnTxt.strs {W wr : World} {v : Value} {M : List (List UInt8)} (h : OwnTxt W wr v M) : IsStrs wr v (strsOf M) := IsStrs.of_owns h
theorem OwnTxt.stays {W a b : World} {v : Value} {M : List (List UInt8)} (h : OwnTxt W a v M) (hb : Below a.heap.size a b) : OwnTxt W b v M :=
  World.ownsRow.kept h (grownBy_of_below hb) (by cases hv : v.ownBlock <;> simp)
theorem txt_str (x : ByteArray) : (⟨x.data.toList.toArray⟩ : ByteArray) = x := by simp
theorem wpList_append_txt {ops : Array Oper} {rest : List Oper} {o : Oper} {a : Act} {W w0 : World} {Q : Exit → Act → World → Prop} (hgd : o.guard = none) (s x : Operand)
    (ho : o.op = .call { callee := .builtin .append, args := #[s, x], argTypes := #[31, 31] })
    {v : Value} {M : List (List UInt8)} {y : ByteArray} (hown : OwnTxt W w0 v M) (hb : Below W.heap.size W w0) (hs : a.eval s = v)
    (hx : a.eval x = .slice (some ⟨w0.heap.size, 0, none⟩) 1 1) (hlen : M.length ≤ 1000000)
    (h : ∀ v' w', OwnTxt W w' v' (M ++ [y.data.toList]) → Below W.heap.size W w' → wpList Tryd.prog ops Q rest (a.put o.dst v') w') :
    wpList Tryd.prog ops Q (o :: rest) a (w0.alloc (.cells #[.string y] 9)) :=
  wpList_append_one hgd s x ho hown hb hs hx (by rw [strsOf_len]; exact hlen) fun v' w' h1 h2 => h v' w' (by unfold OwnTxt; rw [strsOf_snoc, txt_str]; exact h1) h2
theorem wpList_append_all {ops : Array Oper} {rest : List Oper} {o : Oper} {a : Act} {W w0 : World} {Q : Exit → Act → World → Prop} (hgd : Region.wanted o (yielded ops a.tmps) = true) (s x : Operand)
    (ho : o.op = .call { callee := .builtin .append, args := #[s, x], argTypes := #[31, 31] })
    {v : Value} {M : List (List UInt8)} {y : Value} {L : List ByteArray} (hown : OwnTxt W w0 v M) (hb : Below W.heap.size W w0) (hL : IsStrs w0 y L) (hs : a.eval s = v) (hx : a.eval x = y) (hlen : M.length + L.length ≤ 1000000)
    (h : ∀ v' w', OwnTxt W w' v' (M ++ txts L) → Below W.heap.size W w' → wpList Tryd.prog ops Q rest (a.put o.dst v') w') :
    wpList Tryd.prog ops Q (o :: rest) a w0 := by
  obtain ⟨i0, hi, hz0, hz1, hz2⟩ := info_parts infoStr
  have hsz := hb.size
  refine wpList_append_strs hgd s x 31 ho W.heap.size 9 i0 (.string ⟨#[]⟩) 16 Tryd.underlying31 hi hz0 hz1 hz2 rfl v (strsOf M) hs hown y L hx hL ?_ ?_ hsz ?_
  · rw [strsOf_len]; unfold maxLen; omega
  · rw [strsOf_len]; omega
  · intro v' w' h1 h2
    refine h v' w' ?_ (hb.grown h2 hsz (fun j hj => (hown.lt j hj).1))
    unfold OwnTxt; rw [strsOf_app, strsOf_txts]; exact h1
end Go.Proofs.YtelaamchafocpaaDoor
/-
  Sets of texts, of no program: rising lists, joined, common, less; their sameness by their members.
-/
set_option linter.unusedVariables false
namespace Go.Proofs.YtelaamchafocpaaDoor

abbrev Txt := List UInt8

theorem t_irrefl (x : Txt) : ¬ x < x := List.lt_irrefl x
theorem t_trans {x y z : Txt} (h : x < y) (h' : y < z) : x < z := List.lt_trans h h'
theorem t_tri (x y : Txt) (h : ¬ x < y) (h' : ¬ y < x) : x = y := List.le_antisymm (List.not_lt.1 h') (List.not_lt.1 h)
theorem t_asymm {x y : Txt} (h : x < y) : ¬ y < x := fun h' => t_irrefl _ (t_trans h h')

abbrev Rises (l : List Txt) : Prop := l.Pairwise (· < ·)

/-- Two rising lists of the same members are the same. -/
theorem rises_ext : ∀ {a b : List Txt}, Rises a → Rises b → (∀ x, x ∈ a ↔ x ∈ b) → a = b
  | [], [], _, _, _ => rfl
  | [], y :: b, _, _, h => absurd ((h y).2 (List.mem_cons_self ..)) (by simp)
  | x :: a, [], _, _, h => absurd ((h x).1 (List.mem_cons_self ..)) (by simp)
  | x :: a, y :: b, ha, hb, h => by
    have ha' := List.pairwise_cons.1 ha
    have hb' := List.pairwise_cons.1 hb
    have hxy : x = y := by
      rcases List.mem_cons.1 ((h x).1 (List.mem_cons_self ..)) with e | e
      · exact e
      · rcases List.mem_cons.1 ((h y).2 (List.mem_cons_self ..)) with f | f
        · exact f.symm
        · exact absurd (ha'.1 y f) (t_asymm (hb'.1 x e))
    subst hxy
    congr 1
    refine rises_ext ha'.2 hb'.2 fun z => ⟨fun hz => ?_, fun hz => ?_⟩
    · rcases List.mem_cons.1 ((h z).1 (List.mem_cons_of_mem _ hz)) with e | e
      · subst e; exact absurd (ha'.1 z hz) (t_irrefl _)
      · exact e
    · rcases List.mem_cons.1 ((h z).2 (List.mem_cons_of_mem _ hz)) with e | e
      · subst e; exact absurd (hb'.1 z hz) (t_irrefl _)
      · exact e

/-! ## Two lists gone through at once -/
def opt (b : Bool) (x : Txt) : List Txt := if b then [x] else []
theorem mem_opt {b : Bool} {x z : Txt} : z ∈ opt b x ↔ b = true ∧ z = x := by cases b <;> simp [opt]

def sift (k : Bool → Bool → Bool) : List Txt → List Txt → List Txt
  | [], [] => []
  | x :: a, [] => opt (k true false) x ++ sift k a []
  | [], y :: b => opt (k false true) y ++ sift k [] b
  | x :: a, y :: b =>
    if x < y then opt (k true false) x ++ sift k a (y :: b)
    else if y < x then opt (k false true) y ++ sift k (x :: a) b
    else opt (k true true) x ++ sift k a b
termination_by a b => a.length + b.length

theorem sift_spec (k : Bool → Bool → Bool) : ∀ (a b : List Txt), Rises a → Rises b →
    Rises (sift k a b) ∧ ∀ z, z ∈ sift k a b ↔ (z ∈ a ∨ z ∈ b) ∧ k (decide (z ∈ a)) (decide (z ∈ b)) = true
  | [], [], _, _ => by simp [sift]
  | x :: a, [], ha, hb => by
    have ha' := List.pairwise_cons.1 ha
    obtain ⟨h1, h2⟩ := sift_spec k a [] ha'.2 hb
    rw [sift]
    refine ⟨List.pairwise_append.2 ⟨by cases k true false <;> simp [opt], h1, fun p hp q hq => ?_⟩, fun z => ?_⟩
    · obtain ⟨_, rfl⟩ := mem_opt.1 hp
      exact ha'.1 q (by simpa using ((h2 q).1 hq).1)
    · rw [List.mem_append, mem_opt, h2]
      have hx : x ∉ a := fun h => t_irrefl _ (ha'.1 x h)
      by_cases e : z = x
      · subst e; simp [hx]
      · simp [e]
  | [], y :: b, ha, hb => by
    have hb' := List.pairwise_cons.1 hb
    obtain ⟨h1, h2⟩ := sift_spec k [] b ha hb'.2
    rw [sift]
    refine ⟨List.pairwise_append.2 ⟨by cases k false true <;> simp [opt], h1, fun p hp q hq => ?_⟩, fun z => ?_⟩
    · obtain ⟨_, rfl⟩ := mem_opt.1 hp
      exact hb'.1 q (by simpa using ((h2 q).1 hq).1)
    · rw [List.mem_append, mem_opt, h2]
      have hx : y ∉ b := fun h => t_irrefl _ (hb'.1 y h)
      by_cases e : z = y
      · subst e; simp [hx]
      · simp [e]
  | x :: a, y :: b, ha, hb => by
    have ha' := List.pairwise_cons.1 ha
    have hb' := List.pairwise_cons.1 hb
    have hx : x ∉ a := fun h => t_irrefl _ (ha'.1 x h)
    have hy : y ∉ b := fun h => t_irrefl _ (hb'.1 y h)
    rw [sift]
    by_cases c : x < y
    · rw [if_pos c]
      obtain ⟨h1, h2⟩ := sift_spec k a (y :: b) ha'.2 hb
      have hxb : x ∉ y :: b := fun h => by
        rcases List.mem_cons.1 h with e | e
        · subst e; exact t_irrefl _ c
        · exact t_asymm c (hb'.1 x e)
      refine ⟨List.pairwise_append.2 ⟨by cases k true false <;> simp [opt], h1, fun p hp q hq => ?_⟩, fun z => ?_⟩
      · obtain ⟨_, rfl⟩ := mem_opt.1 hp
        rcases ((h2 q).1 hq).1 with h | h
        · exact ha'.1 q h
        · rcases List.mem_cons.1 h with e | e
          · subst e; exact c
          · exact t_trans c (hb'.1 q e)
      · rw [List.mem_append, mem_opt, h2]
        by_cases e : z = x
        · subst e; simp [hx, hxb]
        · simp [e]
    · rw [if_neg c]
      by_cases c2 : y < x
      · rw [if_pos c2]
        obtain ⟨h1, h2⟩ := sift_spec k (x :: a) b ha hb'.2
        have hya : y ∉ x :: a := fun h => by
          rcases List.mem_cons.1 h with e | e
          · subst e; exact t_irrefl _ c2
          · exact t_asymm c2 (ha'.1 y e)
        refine ⟨List.pairwise_append.2 ⟨by cases k false true <;> simp [opt], h1, fun p hp q hq => ?_⟩, fun z => ?_⟩
        · obtain ⟨_, rfl⟩ := mem_opt.1 hp
          rcases ((h2 q).1 hq).1 with h | h
          · rcases List.mem_cons.1 h with e | e
            · subst e; exact c2
            · exact t_trans c2 (ha'.1 q e)
          · exact hb'.1 q h
        · rw [List.mem_append, mem_opt, h2]
          by_cases e : z = y
          · subst e; simp [hy, hya]
          · simp [e]
      · rw [if_neg c2]
        obtain rfl := t_tri x y c c2
        obtain ⟨h1, h2⟩ := sift_spec k a b ha'.2 hb'.2
        refine ⟨List.pairwise_append.2 ⟨by cases k true true <;> simp [opt], h1, fun p hp q hq => ?_⟩, fun z => ?_⟩
        · obtain ⟨_, rfl⟩ := mem_opt.1 hp
          rcases ((h2 q).1 hq).1 with h | h
          · exact ha'.1 q h
          · exact hb'.1 q h
        · rw [List.mem_append, mem_opt, h2]
          by_cases e : z = x
          · subst e; simp [hx, hy]
          · simp [e]
termination_by a b => a.length + b.length

def kOr (x y : Bool) : Bool := x || y
def kAnd (x y : Bool) : Bool := x && y
def kLess (x y : Bool) : Bool := x && !y

theorem sift_or_len : ∀ (a b : List Txt), (sift kOr a b).length = (sift kLess a b).length + b.length
  | [], [] => by simp [sift]
  | x :: a, [] => by
    have := sift_or_len a []
    rw [sift, sift]; simp only [List.length_append, List.length_nil] at this ⊢
    simp [opt, kOr, kLess]; omega
  | [], y :: b => by
    have := sift_or_len [] b
    rw [sift, sift]; simp [opt, kOr, kLess]; omega
  | x :: a, y :: b => by
    rw [sift, sift]
    by_cases c : x < y
    · have := sift_or_len a (y :: b)
      simp only [if_pos c]
      simp [opt, kOr, kLess] at this ⊢; omega
    · by_cases c2 : y < x
      · have := sift_or_len (x :: a) b
        simp only [if_neg c, if_pos c2]
        simp [opt, kOr, kLess] at this ⊢; omega
      · have := sift_or_len a b
        simp only [if_neg c, if_neg c2]
        simp [opt, kOr, kLess] at this ⊢; omega
termination_by a b => a.length + b.length

theorem sift_and_len : ∀ (a b : List Txt), a.length = (sift kLess a b).length + (sift kAnd a b).length
  | [], [] => by simp [sift]
  | x :: a, [] => by
    have := sift_and_len a []
    rw [sift, sift]; simp [opt, kAnd, kLess]; omega
  | [], y :: b => by
    have := sift_and_len [] b
    rw [sift, sift]; simp [opt, kAnd, kLess] at this ⊢; exact this
  | x :: a, y :: b => by
    rw [sift, sift]
    by_cases c : x < y
    · have := sift_and_len a (y :: b)
      simp only [if_pos c]
      simp [opt, kAnd, kLess] at this ⊢; omega
    · by_cases c2 : y < x
      · have := sift_and_len (x :: a) b
        simp only [if_neg c, if_pos c2]
        simp [opt, kAnd, kLess] at this ⊢; omega
      · have := sift_and_len a b
        simp only [if_neg c, if_neg c2]
        simp [opt, kAnd, kLess] at this ⊢; omega
termination_by a b => a.length + b.length

theorem sift_len (k : Bool → Bool → Bool) : ∀ (a b : List Txt), (sift k a b).length ≤ a.length + b.length
  | [], [] => by simp [sift]
  | x :: a, [] => by
    have := sift_len k a []
    rw [sift]; cases k true false <;> simp [opt] at this ⊢ <;> omega
  | [], y :: b => by
    have := sift_len k [] b
    rw [sift]; cases k false true <;> simp [opt] at this ⊢ <;> omega
  | x :: a, y :: b => by
    rw [sift]
    by_cases c : x < y
    · have := sift_len k a (y :: b)
      simp only [if_pos c]
      cases k true false <;> simp [opt] at this ⊢ <;> omega
    · by_cases c2 : y < x
      · have := sift_len k (x :: a) b
        simp only [if_neg c, if_pos c2]
        cases k false true <;> simp [opt] at this ⊢ <;> omega
      · have := sift_len k a b
        simp only [if_neg c, if_neg c2]
        cases k true true <;> simp [opt] at this ⊢ <;> omega
termination_by a b => a.length + b.length

/-! ## The set of a list -/
def isK (t : Txt) : Bool := decide (t.length = 32)
def ofL (l : List Txt) : List Txt := Lib.compact ((l.filter isK).mergeSort fun x y => decide (x ≤ y))

theorem t_le_total (a b : Txt) : (decide (a ≤ b) || decide (b ≤ a)) = true := by
  rcases List.le_total a b with h | h <;> simp [h]
theorem t_le_trans (a b c : Txt) (h1 : decide (a ≤ b) = true) (h2 : decide (b ≤ c) = true) : decide (a ≤ c) = true := by
  simp only [decide_eq_true_eq] at *; exact List.le_trans h1 h2
theorem t_lt_of_le_ne {x y : Txt} (h : x ≤ y) (h' : x ≠ y) : x < y := by
  refine Classical.byContradiction fun c => h' ?_
  exact t_tri x y c (List.not_lt.2 h)

theorem compactUpTo_rises (zs : List Txt) (hs : zs.Pairwise (· ≤ ·)) : ∀ m, m ≤ zs.length →
    Rises (Lib.compactUpTo zs.toArray m) ∧ (∀ x, x ∈ Lib.compactUpTo zs.toArray m ↔ x ∈ zs.take m) ∧ (∀ x ∈ Lib.compactUpTo zs.toArray m, ∀ h : 0 < m, ∀ h2 : m - 1 < zs.length, x ≤ zs[m - 1])
  | 0, _ => by simp [Lib.compactUpTo]
  | m + 1, hm => by
    obtain ⟨h1, h2, h3⟩ := compactUpTo_rises zs hs m (by omega)
    have hlt : m < zs.length := by omega
    have hget : zs.toArray[m]! = zs[m] := by simp [hlt]
    have hle : ∀ x ∈ Lib.compactUpTo zs.toArray m, x ≤ zs[m] := fun x hx => by
      have hx' := (h2 x).1 hx
      obtain ⟨i, hi, rfl⟩ := List.mem_iff_getElem.1 hx'
      rw [List.length_take] at hi
      rw [List.getElem_take]
      exact List.pairwise_iff_getElem.1 hs i m (by omega) hlt (by omega)
    rw [Lib.compactUpTo_succ, hget]
    rw [List.take_succ_eq_append_getElem hlt]
    by_cases hk : Lib.keeps zs.toArray m = true
    · rw [if_pos hk]
      have hne : m = 0 ∨ zs[m] ≠ zs[m - 1]'(by omega) := by
        unfold Lib.keeps at hk
        have := of_decide_eq_true hk
        rcases this with h | h
        · exact .inl h
        · right; rw [hget] at h
          intro e; apply h; rw [e]; simp [show m - 1 < zs.length by omega]
      refine ⟨List.pairwise_append.2 ⟨h1, by simp, fun x hx y hy => ?_⟩, fun x => ?_, fun x hx _ _ => ?_⟩
      · obtain rfl := List.mem_singleton.1 hy
        refine t_lt_of_le_ne (hle x hx) fun e => ?_
        subst e
        rcases hne with h | h
        · subst h; simp [Lib.compactUpTo] at hx
        · have h5 := h3 _ hx (by rcases Nat.eq_zero_or_pos m with e | e; · subst e; simp [Lib.compactUpTo] at hx
                                 exact e) (by omega)
          have h6 : zs[m - 1] ≤ zs[m] := by
            by_cases e0 : m = 0
            · subst e0; exact List.le_refl _
            · exact List.pairwise_iff_getElem.1 hs (m - 1) m (by omega) hlt (by omega)
          exact h (List.le_antisymm h5 h6)
      · rw [List.mem_append, List.mem_append, h2]
      · rcases List.mem_append.1 hx with h | h
        · exact hle x h
        · obtain rfl := List.mem_singleton.1 h; exact List.le_refl _
    · rw [if_neg hk, List.append_nil]
      have hk' : m ≠ 0 ∧ zs[m] = zs[m - 1]'(by omega) := by
        unfold Lib.keeps at hk
        have := of_decide_eq_false (Bool.not_eq_true _ ▸ hk)
        rw [not_or] at this
        refine ⟨this.1, ?_⟩
        have h4 := Classical.not_not.1 this.2
        rw [hget] at h4; rw [h4]; simp [show m - 1 < zs.length by omega]
      refine ⟨h1, fun x => ?_, fun x hx _ _ => hle x hx⟩
      rw [h2, List.mem_append]
      refine ⟨fun h => .inl h, fun h => h.elim id fun h => ?_⟩
      obtain rfl := List.mem_singleton.1 h
      rw [hk'.2]
      exact List.mem_iff_getElem.2 ⟨m - 1, by rw [List.length_take]; omega, by rw [List.getElem_take]⟩

theorem compact_rises (zs : List Txt) (hs : zs.Pairwise (· ≤ ·)) : Rises (Lib.compact zs) ∧ ∀ x, x ∈ Lib.compact zs ↔ x ∈ zs := by
  obtain ⟨h1, h2, _⟩ := compactUpTo_rises zs hs zs.length (Nat.le_refl _)
  exact ⟨h1, fun x => by rw [Lib.compact, h2, List.take_length]⟩

theorem ofL_spec (l : List Txt) : Rises (ofL l) ∧ ∀ x, x ∈ ofL l ↔ x ∈ l ∧ x.length = 32 := by
  have hs : ((l.filter isK).mergeSort fun x y => decide (x ≤ y)).Pairwise (· ≤ ·) := by
    have := List.pairwise_mergeSort (le := fun x y : Txt => decide (x ≤ y)) t_le_trans t_le_total (l.filter isK)
    exact this.imp fun h => of_decide_eq_true h
  obtain ⟨h1, h2⟩ := compact_rises _ hs
  refine ⟨h1, fun x => ?_⟩
  rw [ofL, h2, (List.mergeSort_perm _ _).mem_iff, List.mem_filter]
  simp [isK]
theorem ofL_ext {l m : List Txt} (h : ∀ x, x.length = 32 → (x ∈ l ↔ x ∈ m)) : ofL l = ofL m :=
  rises_ext (ofL_spec l).1 (ofL_spec m).1 fun x => by
    rw [(ofL_spec l).2, (ofL_spec m).2]
    exact ⟨fun ⟨a, b⟩ => ⟨(h x b).1 a, b⟩, fun ⟨a, b⟩ => ⟨(h x b).2 a, b⟩⟩

/-! ## The document's -/
def ins : List Txt → Txt → List Txt
  | [], k => [k]
  | x :: l, k => if k < x then k :: x :: l else x :: ins l k
def addL (l : List Txt) (k : Txt) : List Txt := if k ∈ l then l else ins l k
theorem mem_ins : ∀ (l : List Txt) (k z : Txt), z ∈ ins l k ↔ z = k ∨ z ∈ l
  | [], k, z => by simp [ins]
  | x :: l, k, z => by
    rw [ins]; split
    · simp
    · rw [List.mem_cons, mem_ins l k z, List.mem_cons]
      exact ⟨fun h => h.elim (fun a => .inr (.inl a)) (·.elim .inl fun a => .inr (.inr a)), fun h => h.elim (fun a => .inr (.inl a)) (·.elim .inl fun a => .inr (.inr a))⟩
theorem ins_rises : ∀ (l : List Txt) (k : Txt), Rises l → k ∉ l → Rises (ins l k)
  | [], k, _, _ => by simp [ins]
  | x :: l, k, h, hk => by
    have h' := List.pairwise_cons.1 h
    rw [ins]
    by_cases c : k < x
    · rw [if_pos c]
      refine List.pairwise_cons.2 ⟨fun z hz => ?_, h⟩
      rcases List.mem_cons.1 hz with e | e
      · subst e; exact c
      · exact t_trans c (h'.1 z e)
    · rw [if_neg c]
      refine List.pairwise_cons.2 ⟨fun z hz => ?_, ins_rises l k h'.2 fun h => hk (List.mem_cons_of_mem _ h)⟩
      rcases (mem_ins l k z).1 hz with e | e
      · subst e
        refine Classical.byContradiction fun c2 => hk ?_
        rw [t_tri z x c c2]; exact List.mem_cons_self ..
      · exact h'.1 z e
theorem addL_spec (l : List Txt) (k : Txt) (h : Rises l) : Rises (addL l k) ∧ ∀ z, z ∈ addL l k ↔ z = k ∨ z ∈ l := by
  unfold addL
  split
  · next hk => exact ⟨h, fun z => ⟨.inr, fun e => e.elim (fun e => e ▸ hk) id⟩⟩
  · next hk => exact ⟨ins_rises l k h hk, mem_ins l k⟩
theorem ins_len : ∀ (l : List Txt) (k : Txt), (ins l k).length = l.length + 1
  | [], _ => rfl
  | x :: l, k => by rw [ins]; split <;> simp [ins_len l k]
theorem addL_len (l : List Txt) (k : Txt) : (addL l k).length ≤ l.length + 1 := by
  unfold addL; split
  · omega
  · rw [ins_len]; omega
theorem adds_spec : ∀ (m l : List Txt), Rises l → Rises (m.foldl addL l) ∧ ∀ z, z ∈ m.foldl addL l ↔ z ∈ m ∨ z ∈ l
  | [], l, h => ⟨h, fun z => by simp⟩
  | k :: m, l, h => by
    obtain ⟨h1, h2⟩ := addL_spec l k h
    obtain ⟨h3, h4⟩ := adds_spec m _ h1
    refine ⟨h3, fun z => ?_⟩
    rw [List.foldl_cons, h4, h2, List.mem_cons]
    exact ⟨fun h => h.elim (fun a => .inl (.inr a)) (·.elim (fun a => .inl (.inl a)) .inr), fun h => h.elim (·.elim (fun a => .inr (.inl a)) .inl) fun a => .inr (.inr a)⟩
theorem adds_len : ∀ (m l : List Txt), (m.foldl addL l).length ≤ m.length + l.length
  | [], l => by simp
  | k :: m, l => by
    have h1 := adds_len m (addL l k)
    have h2 := addL_len l k
    rw [List.foldl_cons, List.length_cons]; omega
def refOfL (l : List Txt) : List Txt := (l.filter isK).foldl addL []
theorem refOf_eq (l : List Txt) : refOfL l = ofL l := by
  obtain ⟨h1, h2⟩ := adds_spec (l.filter isK) [] List.Pairwise.nil
  refine rises_ext h1 (ofL_spec l).1 fun x => ?_
  rw [refOfL, h2, (ofL_spec l).2, List.mem_filter]
  simp [isK]
def refJoinL (a b : List Txt) : List Txt := b.foldl addL a
theorem refJoin_eq {a b : List Txt} (ha : Rises a) (hb : Rises b) : refJoinL a b = sift kOr a b := by
  obtain ⟨h1, h2⟩ := adds_spec b a ha
  obtain ⟨h3, h4⟩ := sift_spec kOr a b ha hb
  refine rises_ext h1 h3 fun x => ?_
  rw [refJoinL, h2, h4]; simp only [kOr, Bool.or_eq_true, decide_eq_true_eq]
  exact ⟨fun h => ⟨h.symm, h.symm⟩, fun h => h.1.symm⟩
def refSomeL (a b : List Txt) (c : Bool) : List Txt := a.filter fun x => decide (x ∈ b) == c
theorem refBoth_eq {a b : List Txt} (ha : Rises a) (hb : Rises b) : refSomeL a b true = sift kAnd a b := by
  obtain ⟨h3, h4⟩ := sift_spec kAnd a b ha hb
  refine rises_ext (ha.filter _) h3 fun x => ?_
  rw [h4, refSomeL, List.mem_filter]; simp [kAnd]
  exact fun h _ => .inl h
theorem refLess_eq {a b : List Txt} (ha : Rises a) (hb : Rises b) : refSomeL a b false = sift kLess a b := by
  obtain ⟨h3, h4⟩ := sift_spec kLess a b ha hb
  refine rises_ext (ha.filter _) h3 fun x => ?_
  rw [h4, refSomeL, List.mem_filter]; simp [kLess]
  exact fun h _ => .inl h

/-! ## What follows -/
theorem mem_or {a b : List Txt} (ha : Rises a) (hb : Rises b) (x : Txt) : x ∈ sift kOr a b ↔ x ∈ a ∨ x ∈ b := by
  rw [(sift_spec kOr a b ha hb).2]; simp [kOr]
theorem mem_and {a b : List Txt} (ha : Rises a) (hb : Rises b) (x : Txt) : x ∈ sift kAnd a b ↔ x ∈ a ∧ x ∈ b := by
  rw [(sift_spec kAnd a b ha hb).2]; simp only [kAnd, Bool.and_eq_true, decide_eq_true_eq]; exact ⟨fun h => h.2, fun h => ⟨.inl h.1, h⟩⟩
theorem mem_less {a b : List Txt} (ha : Rises a) (hb : Rises b) (x : Txt) : x ∈ sift kLess a b ↔ x ∈ a ∧ x ∉ b := by
  rw [(sift_spec kLess a b ha hb).2]; simp only [kLess, Bool.and_eq_true, decide_eq_true_eq, Bool.not_eq_true', decide_eq_false_iff_not]; exact ⟨fun h => h.2, fun h => ⟨.inl h.1, h⟩⟩
theorem sift_rises {k : Bool → Bool → Bool} {a b : List Txt} (ha : Rises a) (hb : Rises b) : Rises (sift k a b) := (sift_spec k a b ha hb).1
theorem or_comm' {a b : List Txt} (ha : Rises a) (hb : Rises b) : sift kOr a b = sift kOr b a :=
  rises_ext (sift_rises ha hb) (sift_rises hb ha) fun x => by rw [mem_or ha hb, mem_or hb ha]; exact Or.comm
theorem and_comm' {a b : List Txt} (ha : Rises a) (hb : Rises b) : sift kAnd a b = sift kAnd b a :=
  rises_ext (sift_rises ha hb) (sift_rises hb ha) fun x => by rw [mem_and ha hb, mem_and hb ha]; exact And.comm
theorem or_assoc' {a b c : List Txt} (ha : Rises a) (hb : Rises b) (hc : Rises c) : sift kOr (sift kOr a b) c = sift kOr a (sift kOr b c) :=
  rises_ext (sift_rises (sift_rises ha hb) hc) (sift_rises ha (sift_rises hb hc)) fun x => by
    rw [mem_or (sift_rises ha hb) hc, mem_or ha hb, mem_or ha (sift_rises hb hc), mem_or hb hc]; exact or_assoc
theorem less_or {a b c : List Txt} (ha : Rises a) (hb : Rises b) (hc : Rises c) : sift kLess a (sift kOr b c) = sift kLess (sift kLess a b) c :=
  rises_ext (sift_rises ha (sift_rises hb hc)) (sift_rises (sift_rises ha hb) hc) fun x => by
    rw [mem_less ha (sift_rises hb hc), mem_or hb hc, mem_less (sift_rises ha hb) hc, mem_less ha hb, not_or]; exact and_assoc.symm
theorem less_and {a b : List Txt} (ha : Rises a) (hb : Rises b) : sift kOr (sift kLess a b) (sift kAnd a b) = a :=
  rises_ext (sift_rises (sift_rises ha hb) (sift_rises ha hb)) ha fun x => by
    rw [mem_or (sift_rises ha hb) (sift_rises ha hb), mem_less ha hb, mem_and ha hb]
    exact ⟨fun h => h.elim And.left And.left, fun h => (Classical.em (x ∈ b)).elim (fun g => .inr ⟨h, g⟩) fun g => .inl ⟨h, g⟩⟩
theorem or_of (l m : List Txt) : ofL (m ++ l) = sift kOr (ofL l) (ofL m) :=
  rises_ext (ofL_spec _).1 (sift_rises (ofL_spec _).1 (ofL_spec _).1) fun x => by
    rw [mem_or (ofL_spec _).1 (ofL_spec _).1, (ofL_spec _).2, (ofL_spec _).2, (ofL_spec _).2, List.mem_append]
    exact ⟨fun ⟨h, g⟩ => h.elim (fun a => .inr ⟨a, g⟩) fun a => .inl ⟨a, g⟩, fun h => h.elim (fun a => ⟨.inr a.1, a.2⟩) fun a => ⟨.inl a.1, a.2⟩⟩

/-! ## Which lists are sets -/
def FitP (l : List Txt) : Prop := ∀ i (h : i < l.length), l[i].length = 32 ∧ (0 < i → l[i - 1]'(by omega) < l[i])
theorem fit_rises {l : List Txt} (h : FitP l) : Rises l := by
  refine List.pairwise_iff_getElem.2 ?_
  intro i j hi hj hij
  induction j with
  | zero => omega
  | succ j ih =>
    have h1 := (h (j + 1) hj).2 (by omega)
    rcases Nat.lt_or_ge i j with e | e
    · exact t_trans (ih (by omega) e) h1
    · obtain rfl : i = j := by omega
      exact h1
theorem fit_of {l : List Txt} (h : Rises l) (hk : ∀ x ∈ l, x.length = 32) : FitP l := fun i hi =>
  ⟨hk _ (List.getElem_mem ..), fun h0 => List.pairwise_iff_getElem.1 h (i - 1) i (by omega) hi (by omega)⟩
open Classical in
noncomputable def fitB (l : List Txt) : Bool := decide (FitP l)
theorem fitB_true {l : List Txt} (h : FitP l) : fitB l = true := by simp [fitB, h]
theorem fitB_false {l : List Txt} (h : ¬ FitP l) : fitB l = false := by simp [fitB, h]
theorem of_fit {l : List Txt} (h : fitB l = true) : FitP l := by simpa [fitB] using h
theorem ofL_fit (l : List Txt) : FitP (ofL l) := fit_of (ofL_spec l).1 fun x hx => (((ofL_spec l).2 x).1 hx).2
theorem sift_fit {k : Bool → Bool → Bool} {a b : List Txt} (ha : FitP a) (hb : FitP b) : FitP (sift k a b) :=
  fit_of (sift_rises (fit_rises ha) (fit_rises hb)) fun x hx => by
    rcases (((sift_spec k a b (fit_rises ha) (fit_rises hb)).2 x).1 hx).1 with h | h
    · obtain ⟨i, hi, rfl⟩ := List.mem_iff_getElem.1 h; exact (ha i hi).1
    · obtain ⟨i, hi, rfl⟩ := List.mem_iff_getElem.1 h; exact (hb i hi).1

end Go.Proofs.YtelaamchafocpaaDoor
/-
  Strings over this translation: '==' and '<' of strings as lists of bytes. General.
-/
set_option linter.unusedVariables false
namespace Go.Proofs.YtelaamchafocpaaDoor
open Go.RowKit
attribute [local go_sem] Oper.semAt_some

theorem ret_val {a b : Value} (h : a = b) : Ending.returned a = .returned b := by rw [h]
theorem str_eq' {x y : ByteArray} (h : x.data.toList = y.data.toList) : x = y := ByteArray.ext (Array.toList_inj.1 h)
theorem beq_true {x y : ByteArray} (h : x = y) : (x.toList == y.toList) = true := by subst h; simp
theorem beq_false {x y : ByteArray} (h : x ≠ y) : (x.toList == y.toList) = false := by
  rw [beq_eq_false_iff_ne]; intro e
  rw [Lib.toList_data, Lib.toList_data] at e
  exact h (str_eq' e)
theorem less_eq (x y : ByteArray) : Op.bytesLess x.toList y.toList = decide (x.data.toList < y.data.toList) := by
  rw [Lib.toList_data, Lib.toList_data, bytesLess_eq]

theorem below_drewN {B : Nat} {a w : World} (h : Below B a w) (n : Nat) : Below B a (w.drewN n) := h.trans ⟨rfl, rfl, rfl, Nat.le_refl _, fun _ _ => rfl⟩
end Go.Proofs.YtelaamchafocpaaDoor
/-
  Slices of items over this translation: what reads as a list of items; one owned.
-/
set_option linter.unusedVariables false
namespace Go.Proofs.YtelaamchafocpaaDoor
open Go.RowKit

abbrev itC (x : It) : List Value := [.string x.p, .bool x.d, .bool x.e, .string x.c]
abbrev itV (x : It) : Value := .agg #[.string x.p, .bool x.d, .bool x.e, .string x.c]
def itCells (L : List It) : List Value := L.flatMap itC
/-- One item lies at a place. -/
def ItAt (w : World) (b o : Nat) (x : It) : Prop :=
  w.cell? ⟨b, o, none⟩ = some (.string x.p) ∧ w.cell? ⟨b, o + 1, none⟩ = some (.bool x.d) ∧ w.cell? ⟨b, o + 2, none⟩ = some (.bool x.e) ∧ w.cell? ⟨b, o + 3, none⟩ = some (.string x.c)
/-- A slice of items that reads as a list. -/
def IsItems (w : World) (v : Value) (L : List It) : Prop :=
  L.length ≤ maxLen ∧ ∃ (a : Option Addr) (cap : Nat), v = .slice a L.length cap ∧ ((a = none → L = [] ∧ cap = 0) ∧ L.length ≤ cap) ∧ (0 < L.length → ∃ b off, a = some ⟨b, off, none⟩ ∧ b < w.heap.size ∧ ∀ i (h : i < L.length), ItAt w b (off + i * 4) L[i])
theorem infoItem : (Tryd.prog.info? 27).map (fun i => (i.zero, i.size, i.bytes)) = some (some (itV zeroIt), 4, 40) := by kernel_rfl
theorem itCells_len (L : List It) : (itCells L).length = L.length * 4 := by
  induction L with
  | nil => rfl
  | cons x L ih => show (itC x ++ itCells L).length = _; rw [List.length_append, ih, List.length_cons]; simp; omega
theorem itCells_app (L M : List It) : itCells (L ++ M) = itCells L ++ itCells M := List.flatMap_append
theorem itCells_get {L : List It} {i j : Nat} (h : i < L.length) (hj : j < 4) : (itCells L)[i * 4 + j]? = (itC L[i])[j]? := by
  induction L generalizing i with
  | nil => simp at h
  | cons x L ih =>
    show (itC x ++ itCells L)[i * 4 + j]? = _
    cases i with
    | zero => rw [List.getElem?_append_left (by simp; omega)]; simp
    | succ i =>
      rw [List.getElem?_append_right (by simp; omega), show (i + 1) * 4 + j - (itC x).length = i * 4 + j by simp; omega, ih (by simpa using h)]
      rfl
theorem itCells_one {u : Value} {L : List It} (h : u ∈ itCells L) : u.oneCell' = true := by
  obtain ⟨x, _, hx⟩ := List.mem_flatMap.1 h
  simp at hx
  rcases hx with rfl | rfl | rfl | rfl <;> rfl
theorem isItems_nil (w : World) : IsItems w (.slice none 0 0) [] := ⟨Nat.zero_le _, none, 0, rfl, ⟨fun _ => ⟨rfl, rfl⟩, Nat.le_refl _⟩, fun h => absurd h (by simp)⟩
theorem ItAt.stays {w w' : World} {b o : Nat} {x : It} (h : ItAt w b o x) (hlt : b < w.heap.size) (hb : Below w.heap.size w w') : ItAt w' b o x :=
  ⟨(hb.cell (p := ⟨b, _, none⟩) hlt).trans h.1, (hb.cell (p := ⟨b, _, none⟩) hlt).trans h.2.1, (hb.cell (p := ⟨b, _, none⟩) hlt).trans h.2.2.1, (hb.cell (p := ⟨b, _, none⟩) hlt).trans h.2.2.2⟩
theorem IsItems.stays {w w' : World} {v : Value} {L : List It} (h : IsItems w v L) (hb : Below w.heap.size w w') : IsItems w' v L := by
  obtain ⟨h0, a, cap, h1, h2, h3⟩ := h
  refine ⟨h0, a, cap, h1, h2, fun hL => ?_⟩
  obtain ⟨b, off, e, hlt, hc⟩ := h3 hL
  exact ⟨b, off, e, Nat.lt_of_lt_of_le hlt hb.size, fun i hi => (hc i hi).stays hlt hb⟩

theorem fewer_len (L : List It) (k : Nat) (h : k < L.length) : sizeT (L.take (k + 1)) = sizeT (L.take k) + L[k].c.size := by
  rw [List.take_succ_eq_append_getElem h, sizeT_app, sizeT_cons]; rfl
theorem sizeT_take (L : List It) (k : Nat) : sizeT (L.take k) ≤ sizeT L := by
  conv => rhs; rw [← List.take_append_drop k L]
  rw [sizeT_app]; omega

/-- An item in a block of its own. -/
def InBox (w : World) (b : Nat) (x : It) : Prop := ItAt w b 0 x ∧ b < w.heap.size
theorem InBox.stays {w w' : World} {b : Nat} {x : It} (h : InBox w b x) (hb : Below w.heap.size w w') : InBox w' b x := ⟨h.1.stays h.2 hb, Nat.lt_of_lt_of_le h.2 hb.size⟩
theorem InBox.cells {w : World} {b : Nat} {x : It} (h : InBox w b x) : w.cell? ⟨b, 0, none⟩ = some (.string x.p) ∧ w.cell? ⟨b, 1, none⟩ = some (.bool x.d) ∧ w.cell? ⟨b, 2, none⟩ = some (.bool x.e) ∧ w.cell? ⟨b, 3, none⟩ = some (.string x.c) := h.1
theorem inBox_new (w : World) (x : It) (t : TypeId) : InBox (w.alloc (.cells #[.string x.p, .bool x.d, .bool x.e, .string x.c] t)) w.heap.size x :=
  ⟨⟨by simp, by simp, by simp, by simp⟩, by simp⟩

theorem sc_other {w : World} {b i j : Nat} {v : Value} (h : i ≠ j) : (w.setCell ⟨b, i, none⟩ v).cell? ⟨b, j, none⟩ = w.cell? ⟨b, j, none⟩ := World.cell?_setCell_other _ _ _ _ (fun e => h (by cases e; rfl))
theorem sc_same {w : World} {b i : Nat} {u v : Value} (h : w.cell? ⟨b, i, none⟩ = some u) : (w.setCell ⟨b, i, none⟩ v).cell? ⟨b, i, none⟩ = some v := World.cell?_setCell_same _ _ _ h
theorem cells_set {w : World} {b : Nat} {z : It} (h : InBox w b z) (x : It) :
    InBox ((((w.setCell ⟨b, 0, none⟩ (.string x.p)).setCell ⟨b, 1, none⟩ (.bool x.d)).setCell ⟨b, 2, none⟩ (.bool x.e)).setCell ⟨b, 3, none⟩ (.string x.c)) b x := by
  obtain ⟨h0, h1, h2, h3⟩ := h.cells
  refine ⟨⟨?_, ?_, ?_, ?_⟩, by simpa using h.2⟩
  · exact (sc_other (by decide)).trans ((sc_other (by decide)).trans ((sc_other (by decide)).trans (sc_same h0)))
  · exact (sc_other (by decide)).trans ((sc_other (by decide)).trans (sc_same ((sc_other (by decide)).trans h1)))
  · exact (sc_other (by decide)).trans (sc_same ((sc_other (by decide)).trans ((sc_other (by decide)).trans h2)))
  · exact sc_same ((sc_other (by decide)).trans ((sc_other (by decide)).trans ((sc_other (by decide)).trans h3)))
theorem below_set {w0 w : World} {B b : Nat} (h : Below B w0 w) (hb : B ≤ b) (x : It) :
    Below B w0 ((((w.setCell ⟨b, 0, none⟩ (.string x.p)).setCell ⟨b, 1, none⟩ (.bool x.d)).setCell ⟨b, 2, none⟩ (.bool x.e)).setCell ⟨b, 3, none⟩ (.string x.c)) :=
  (((h.setCell hb _).setCell hb _).setCell hb _).setCell hb _

/-! ## the model's '==' of items -/
def eqI (x y : It) : Bool := x.p.toList == y.p.toList && x.d == y.d && x.e == y.e && x.c.toList == y.c.toList
theorem eqI_iff {x y : It} : eqI x y = true ↔ x = y := by
  unfold eqI
  constructor
  · intro h
    simp only [Bool.and_eq_true, beq_iff_eq] at h
    obtain ⟨⟨⟨h1, h2⟩, h3⟩, h4⟩ := h
    rw [Lib.toList_data, Lib.toList_data] at h1 h4
    exact it_ext h1 h2 h3 (str_eq' h4)
  · rintro rfl; simp
theorem eqI_yes {x y : It} (h : x = y) : eqI x y = true := eqI_iff.2 h
theorem eqI_no {x y : It} (h : x ≠ y) : eqI x y = false := by
  rcases hb : eqI x y with _ | _
  · rfl
  · exact absurd (eqI_iff.1 hb) h
theorem eqItem (x y : It) (w : World) : (binOp .eql 27 (itV x) (itV y)).run Tryd.prog w = .ok (.bool (eqI x y)) w := by
  have hS : Tryd.prog.underlying 27 = some (.struct (Tryd.prog.fieldsOf 27)) := by kernel_rfl
  have hp : Tryd.prog.stoodInHeld 27 = false := by kernel_rfl
  have a9 := Tryd.isAgg9; have z9 := Tryd.sizeOf9; have a4 := Tryd.isAgg4; have z4 := Tryd.sizeOf4
  rw [run_eql_struct, show (10000 : Nat) = 9999 + 1 from rfl, run_equalIn_agg w 9999 27 _ _ hS hp]
  simp only [Program.fieldsOf, Tryd.underlying27]
  go_simp
  unfold eqI
  by_cases h1 : x.p.toList = y.p.toList <;> by_cases h2 : x.d = y.d <;> by_cases h3 : x.e = y.e <;> by_cases h4 : x.c.toList = y.c.toList <;> simp [h1, h2, h3, h4]
theorem neqItem (x y : It) (w : World) : (binOp .neq 27 (itV x) (itV y)).run Tryd.prog w = .ok (.bool (!eqI x y)) w := by
  have hS : Tryd.prog.underlying 27 = some (.struct (Tryd.prog.fieldsOf 27)) := by kernel_rfl
  have hp : Tryd.prog.stoodInHeld 27 = false := by kernel_rfl
  have a9 := Tryd.isAgg9; have z9 := Tryd.sizeOf9; have a4 := Tryd.isAgg4; have z4 := Tryd.sizeOf4
  rw [run_neq_struct, show (10000 : Nat) = 9999 + 1 from rfl, run_equalIn_agg w 9999 27 _ _ hS hp]
  simp only [Program.fieldsOf, Tryd.underlying27]
  go_simp
  unfold eqI
  by_cases h1 : x.p.toList = y.p.toList <;> by_cases h2 : x.d = y.d <;> by_cases h3 : x.e = y.e <;> by_cases h4 : x.c.toList = y.c.toList <;> simp [h1, h2, h3, h4]
theorem guardItem (op : BinOp) (a b : Operand) (x y : It) (w : World) : Sem.run Tryd.prog (eqGuard op 27 a b (itV x) (itV y)) w = .ok () w :=
  run_eqGuard_agg w op _ a b _ _ (by kernel_rfl)
end Go.Proofs.YtelaamchafocpaaDoor
/-
  What the frames of layer 10 share: an item, and a slice of items, as arguments.
-/
set_option linter.unusedVariables false
namespace Go.Proofs.YtelaamchafocpaaDoor
open Go.ChangeShapes Go.WideShapes Go.ChangeAt Go.RowKit Go.Joins Go.Deep

set_option maxRecDepth 100000 in
theorem trod_item {H : Type} {enc : TypeId × Value → H} {W : World} {base n : Nat} {spare : Nat → Bool} {held : Bool} {cs : List Value} {y : DataW H × List MemPlace}
    (hl : cs.length = 4) (h : DataW.trod enc Tryd.prog W base spare held n 27 cs = some y) : ∃ x : It, cs = itC x := by
  match cs, hl with
  | [c0, c1, c2, c3], _ =>
    obtain ⟨xs, m, _, _, _, hlen, hg⟩ := DataW.trod_struct Tryd.underlying27 h
    have k9 : Tryd.prog.cellsOf 9 = 1 := by kernel_rfl
    have k4 : Tryd.prog.cellsOf 4 = 1 := by kernel_rfl
    match xs, hlen with
    | [y0, y1, y2, y3], _ =>
      have h0 : DataW.trod enc Tryd.prog W base spare held m 9 [c0] = some y0 := by simpa [k9] using hg 0 _ rfl
      have h1 : DataW.trod enc Tryd.prog W base spare held m 4 [c1] = some y1 := by simpa [k4] using hg 1 _ rfl
      have h2 : DataW.trod enc Tryd.prog W base spare held m 4 [c2] = some y2 := by simpa [k4] using hg 2 _ rfl
      have h3 : DataW.trod enc Tryd.prog W base spare held m 9 [c3] = some y3 := by simpa [k9] using hg 3 _ rfl
      obtain ⟨s0, e0, _, _⟩ := DataW.trod_string Tryd.underlying9 h0
      obtain ⟨b1, e1, _⟩ := DataW.trod_bool Tryd.underlying4 h1
      obtain ⟨b2, e2, _⟩ := DataW.trod_bool Tryd.underlying4 h2
      obtain ⟨s3, e3, _, _⟩ := DataW.trod_string Tryd.underlying9 h3
      simp at e0 e1 e2 e3
      subst e0 e1 e2 e3
      exact ⟨⟨s0, b1, b2, s3⟩, rfl⟩
set_option maxRecDepth 100000 in
theorem open_item {H : Type} {enc : TypeId × Value → H} {W : World} {r : Reach} {b0 : Nat} {base : Nat} {spare : Nat → Bool} {held : Bool} {v : Value} {d : DataW H} {p : List MemPlace}
    (hv : Value.okWide Tryd.prog W r b0 27 v) (h : DataW.Trod enc Tryd.prog W base spare held 27 v d p) : ∃ x : It, v = itV x := by
  obtain ⟨cs, rfl, hsz⟩ := okWide_struct Tryd.underlying27 hv
  have h4 : cs.size = 4 := hsz.trans (by kernel_rfl)
  obtain ⟨fuel, hf⟩ := h
  obtain ⟨x, hx⟩ := trod_item (cs := cs.toList) (by simpa using h4) hf
  refine ⟨x, ?_⟩
  have : cs = #[.string x.p, .bool x.d, .bool x.e, .string x.c] := by
    apply Array.toList_inj.1; rw [hx]
  rw [this]
set_option maxRecDepth 100000 in
theorem open_items {H : Type} {enc : TypeId × Value → H} {W : World} {r : Reach} {b0 : Nat} {spare : Nat → Bool} {held : Bool} {v : Value} {d : DataW H} {ps : List MemPlace}
    (hval : Value.okWide Tryd.prog W r b0 22 v) (h : DataW.Trod enc Tryd.prog W 0 spare held 22 v d ps) : ∃ L, IsItems W v L := by
  obtain ⟨a0, len, cap, rfl⟩ := okWide_slice Tryd.underlying22 hval
  obtain ⟨fuel, hf⟩ := h
  have hC : Tryd.prog.cellsOf 27 = 4 := by kernel_rfl
  rcases open_slice Tryd.underlying22 hf with ⟨hcs, _⟩ | ⟨a, len', cap', m, n, D, Pl, hcs, _, hl, hm, hmm, _, hi⟩
  · simp [Value.cells] at hcs
    obtain ⟨rfl, rfl, rfl⟩ := hcs
    exact ⟨[], isItems_nil W⟩
  · simp [Value.cells] at hcs
    obtain ⟨rfl, rfl, rfl⟩ := hcs
    have hlm : len ≤ m := by rw [hmm]; split <;> omega
    have hit : ∀ i, i < len → ∃ x : It, ∀ j u, (itC x)[j]? = some u → W.cell? (a.add (i * 4 + j)) = some u := fun i him => by
      obtain ⟨cs, hc, ht⟩ := hi i (by omega)
      rw [hC] at hc
      obtain ⟨_, hcl, hat⟩ := World.cells?_some hc
      obtain ⟨x, rfl⟩ := trod_item hcl ht
      refine ⟨x, fun j u hj => ?_⟩
      have hj4 : j < 4 := by
        have := (List.getElem?_eq_some_iff.1 hj).1
        simpa using this
      have := hat j hj4
      rw [← Go.Deep.add_add, this]; exact hj
    obtain ⟨f, hfx⟩ : ∃ f : Nat → It, ∀ i, i < len → ∀ j u, (itC (f i))[j]? = some u → W.cell? (a.add (i * 4 + j)) = some u := by
      refine ⟨fun i => if h : i < len then Classical.choose (hit i h) else zeroIt, fun i h => ?_⟩
      simp only [h, dif_pos]
      exact Classical.choose_spec (hit i h)
    refine ⟨(List.range len).map f, by simp; omega, some a, cap, by simp, ⟨fun h => (by cases h), by simpa using hl⟩, fun h0 => ?_⟩
    have h0' : 0 < len := by simpa using h0
    have hc0 := hfx 0 h0' 0 _ rfl
    obtain ⟨b, off, spot⟩ := a
    have hspot : spot = none := by simpa [Addr.add] using World.cell?_spot hc0
    subst hspot
    refine ⟨b, off, rfl, ?_, fun i hi => ?_⟩
    · have := block_lt_of_cell hc0
      simpa [Addr.add] using this
    · have hil : i < len := by simpa using hi
      have hg : ((List.range len).map f)[i] = f i := by simp
      rw [hg]
      have hh := fun j u hu => hfx i hil j u hu
      refine ⟨?_, ?_, ?_, ?_⟩
      · have := hh 0 _ rfl; rw [add_plain'] at this; exact this
      · have := hh 1 _ rfl; rw [add_plain', ← Nat.add_assoc] at this; exact this
      · have := hh 2 _ rfl; rw [add_plain', ← Nat.add_assoc] at this; exact this
      · have := hh 3 _ rfl; rw [add_plain', ← Nat.add_assoc] at this; exact this
end Go.Proofs.YtelaamchafocpaaDoor
/-
  Arrays by value and in memory, of any program: a zero laid, a number taken out by a place, rows that stand.
-/
namespace Go.Proofs.YtelaamchafocpaaDoor
open Go.RowKit

/-- A new variable, its zero's cells said by the caller. -/
theorem wpList_alloc_zero {P : Program} {ops : Array Oper} {rest : List Oper} {o : Oper} {a : Act} {w : World} {Q : Exit → Act → World → Prop} (hg : o.guard = none) (t : TypeId) (ho : o.op = .alloc t)
    (cells : Array Value) (hz : (P.info? t).bind (fun i => i.zero.map (·.cells)) = some cells)
    (h : wpList P ops Q rest (a.put o.dst (.pointer (some ⟨w.heap.size, 0, none⟩))) (w.alloc (.cells cells t))) : wpList P ops Q (o :: rest) a w := by
  cases hi : P.info? t with
  | none => simp [hi] at hz
  | some i =>
    cases hz0 : i.zero with
    | none => simp [hi, hz0] at hz
    | some z =>
      simp only [hi, hz0, Option.bind_some, Option.map_some, Option.some.injEq] at hz
      subst hz
      refine wpList_plain hg fun K hK => ?_
      unfold Oper.wp execOp
      simp [ho, Instr.alloc, zeroValue, typeInfo, hi, hz0, newVar, newRow, go_sem]
      exact hK _ _ h

/-- An array's number, by a place. -/
theorem wpList_index_arr {P : Program} {ops : Array Oper} {rest : List Oper} {o : Oper} {a : Act} {w : World} {Q : Exit → Act → World → Prop} (hg : o.guard = none) (t : TypeId) (x y : Operand) (ho : o.op = .index t x y)
    (n : Nat) (e : TypeId) (k : IntKind) (i : Nat) (cs : Array Value) (v : Value) (hx : a.eval x = .agg cs) (hy : a.eval y = .int k i) (hu : P.underlying t = some (.array n e)) (hin : i < n)
    (hs : (P.info? e).map (·.size) = some 1) (ha : ∀ w, (isAgg e).run P w = .ok false w) (hv : cs[i]? = some v)
    (h : wpList P ops Q rest (a.put o.dst v) w) : wpList P ops Q (o :: rest) a w := by
  cases hi : P.info? e with
  | none => simp [hi] at hs
  | some ie =>
    simp only [hi, Option.map_some, Option.some.injEq] at hs
    refine wpList_plain hg fun K hK => ?_
    unfold Oper.wp execOp
    have h1 : (0 : Int) ≤ (i : Int) ∧ (i : Int) < (n : Int) := ⟨Int.natCast_nonneg i, by omega⟩
    simp only [ho, hx, hy]
    simp [Instr.index, asIntOf, run_underlying hu, hin, sizeOf, typeInfo, hi, hs, part, ha, hv, Sem.run_bind, go_sem]
    exact hK _ _ h

/-- A row of memory that nothing has frozen. -/
def Row (W : World) (B : Nat) (xs : Array Value) (T : TypeId) : Prop := W.heap[B]? = some (.cells xs T (0, 0))
theorem Row.cell {W : World} {B : Nat} {xs : Array Value} {T : TypeId} (h : Row W B xs T) (i : Nat) : W.cell? ⟨B, i, none⟩ = xs[i]? := cell_of_row W B i _ _ _ h
theorem Row.free {W : World} {B : Nat} {xs : Array Value} {T : TypeId} (h : Row W B xs T) (i : Nat) : W.frozen? ⟨B, i, none⟩ = false := frozen_of_row W B i _ _ h
theorem Row.lt {W : World} {B : Nat} {xs : Array Value} {T : TypeId} (h : Row W B xs T) : B < W.heap.size := (Array.getElem?_eq_some_iff.1 h).1
theorem Row.set {W : World} {B : Nat} {xs : Array Value} {T : TypeId} (h : Row W B xs T) (i : Nat) (v : Value) : Row (W.setCell ⟨B, i, none⟩ v) B (xs.setIfInBounds i v) T := heap_setCell_same W B i _ _ _ h
theorem Row.other {W : World} {B : Nat} {xs : Array Value} {T : TypeId} (h : Row W B xs T) (a : Addr) (v : Value) (hne : B ≠ a.block) : Row (W.setCell a v) B xs T := by
  unfold Row; rw [heap_setCell_other _ _ _ _ hne]; exact h
theorem Row.setRow {W : World} {B : Nat} {xs : Array Value} {T : TypeId} (h : Row W B xs T) (ys : Array Value) : Row (W.setRow B ys) B ys T := setRow_heap _ _ _ _ _ _ h
theorem Row.setRow_other {W : World} {B : Nat} {xs : Array Value} {T : TypeId} (h : Row W B xs T) (g : Nat) (ys : Array Value) (hne : B ≠ g) : Row (W.setRow g ys) B xs T := by
  unfold Row; rw [Go.setRow_other _ _ _ _ hne]; exact h
theorem Row.alloc {W : World} {B : Nat} {xs : Array Value} {T : TypeId} (h : Row W B xs T) (o : Obj) : Row (W.alloc o) B xs T := by
  show (W.heap.push o)[B]? = _; rw [Array.getElem?_push, if_neg (Nat.ne_of_lt h.lt)]; exact h
theorem Row.made (W : World) (xs : Array Value) (T : TypeId) : Row (W.alloc (.cells xs T)) W.heap.size xs T := heap_alloc_new _ _
theorem Row.below {W W' : World} {B b : Nat} {xs : Array Value} {T : TypeId} (h : Row W B xs T) (hb : Below b W W') (hlt : B < b) : Row W' B xs T := by
  unfold Row; rw [hb.block B hlt]; exact h
theorem Row.step {W W' : World} {B : Nat} {xs : Array Value} {T : TypeId} (h : Row W B xs T) (hb : Below W.heap.size W W') : Row W' B xs T := h.below hb h.lt
theorem Row.drew {W : World} {B : Nat} {xs : Array Value} {T : TypeId} (h : Row W B xs T) : Row W.drew B xs T := h
theorem Row.drewN {W : World} {B : Nat} {xs : Array Value} {T : TypeId} (h : Row W B xs T) (n : Nat) : Row (W.drewN n) B xs T := h

def numV (l : List Nat) : Array Value := (l.map fun n : Nat => Value.int .u32 (n : Int)).toArray
def bytV (l : List UInt8) : Array Value := (l.map fun n : UInt8 => Value.int .u8 (n.toNat : Int)).toArray
def zrow (n : Nat) : Array Value := numV (List.replicate n 0)
theorem zrow_size (n : Nat) : (zrow n).size = n := by simp [zrow, numV]
def zbyt (n : Nat) : Array Value := bytV (List.replicate n 0)
theorem zbyt_size (n : Nat) : (zbyt n).size = n := by simp [zbyt, bytV]
theorem numV_size (l : List Nat) : (numV l).size = l.length := by simp [numV]
theorem bytV_size (l : List UInt8) : (bytV l).size = l.length := by simp [bytV]
theorem numV_get (l : List Nat) (i : Nat) (h : i < l.length) : (numV l)[i]? = some (.int .u32 (l.getD i 0 : Nat)) := by simp [numV, h]
theorem bytV_get (l : List UInt8) (i : Nat) (h : i < l.length) : (bytV l)[i]? = some (.int .u8 ((l.getD i 0).toNat : Nat)) := by simp [bytV, h]
theorem numV_set (l : List Nat) (i n : Nat) : (numV l).setIfInBounds i (.int .u32 (n : Int)) = numV (l.set i n) := by
  simp [numV, List.map_set]
theorem bytV_set (l : List UInt8) (i : Nat) (n : UInt8) : (bytV l).setIfInBounds i (.int .u8 (n.toNat : Int)) = bytV (l.set i n) := by
  simp [bytV, List.map_set]
theorem numV_one (l : List Nat) : (numV l).all (·.oneCell') = true := by
  simp [numV, Value.oneCell']
theorem bytV_one (l : List UInt8) : (bytV l).all (·.oneCell') = true := by
  simp [bytV, Value.oneCell']
end Go.Proofs.YtelaamchafocpaaDoor
/-
  Small laws on operations, of no program: a slice of bytes becomes a string.
-/
namespace Go.Proofs.YtelaamchafocpaaDoor
open Go.RowKit

section
variable {P : Program}
theorem wpList_convert {ops : Array Oper} {rest : List Oper} {o : Oper} {a : Act} {w : World} {Q : Exit → Act → World → Prop} (hgd : o.guard = none) (t t' : TypeId) (x : Operand) (ho : o.op = .convert t t' x)
    (y v : Value) (w' : World) (hx : a.eval x = y) (hrun : (convert t t' y).run P w = .ok v w') (h : wpList P ops Q rest (a.put o.dst v) w') : wpList P ops Q (o :: rest) a w :=
  wpList_plain hgd fun _ hK => by
    unfold Oper.wp execOp
    simp only [ho, hx, Sem.run_bind, hrun, Result.andThen_ok, Sem.run_pure]
    exact hK _ _ h
/-- A whole block of bytes as a string. -/
theorem conv_row (src e dst : TypeId) (hs : P.underlying src = some (.slice e)) (he : P.underlying e = some (.int .u8)) (hd : P.underlying dst = some .string) (w : World) (B : Nat) (t : TypeId) (fr : Nat × Nat) (xs : List Int)
    (hg : w.heap[B]? = some (.cells (xs.map (Value.int .u8)).toArray t fr)) (n cap : Nat) (hn : xs.length = n) :
    (convert src dst (.slice (some ⟨B, 0, none⟩) n cap)).run P w = .ok (.string (strOfNums xs)) w :=
  run_convert_bytes_arg (P := P) w src e hs he B 0 n cap xs hn (fun i hi => by
    rw [Nat.zero_add, cell_of_row w B i _ _ _ hg]
    have hi' : i < xs.length := by omega
    simp [List.getD, List.getElem?_eq_getElem hi']) dst hd
end
theorem byte_mod (n : Nat) : UInt8.ofNat (n % 256) = UInt8.ofNat n := by
  apply UInt8.toNat_inj.1; simp
end Go.Proofs.YtelaamchafocpaaDoor
/-
  Small general things: values in endings, a text's beginning, bytes of an array as a string.
-/
set_option linter.unusedVariables false
namespace Go.Proofs.YtelaamchafocpaaDoor
open Go.RowKit

theorem ret_i {k : IntKind} {a b : Int} (h : a = b) : Ending.returned (.int k a) = .returned (.int k b) := by rw [h]
theorem val_i {k : IntKind} {a b : Int} (h : a = b) : Value.int k a = .int k b := by rw [h]
theorem take_on (s : ByteArray) (k : Nat) (h : k < s.size) : s.data.toList.take (k + 1) = s.data.toList.take k ++ [s[k]] := by
  rw [List.take_succ_eq_append_getElem (by simpa using h)]; rfl
theorem take_all (s : ByteArray) (k : Nat) (h : s.size ≤ k) : s.data.toList.take k = s.data.toList := List.take_of_length_le (by simp; omega)
theorem nums_bytes (l : List UInt8) : strOfNums (l.map fun u : UInt8 => (u.toNat : Int)) = ⟨l.toArray⟩ := by
  unfold strOfNums
  rw [List.map_map]
  congr 2
  exact (List.map_congr_left (fun u _ => by simp)).trans (List.map_id l)
theorem bytV_of (l : List UInt8) : bytV l = ((l.map fun u : UInt8 => (u.toNat : Int)).map (Value.int .u8)).toArray := by simp [bytV]
/-- A row of bytes, from its start, as a string. -/
theorem conv_of {W : World} {B : Nat} {l : List UInt8} {T : TypeId} (h : Row W B (bytV l) T) (n cap : Nat) (hn : l.length = n) :
    (convert 81 9 (.slice (some ⟨B, 0, none⟩) n cap)).run Tryd.prog W = .ok (.string ⟨l.toArray⟩) W := by
  have h' : W.heap[B]? = some (.cells ((l.map fun u : UInt8 => (u.toNat : Int)).map (Value.int .u8)).toArray T (0, 0)) := by rw [← bytV_of]; exact h
  rw [conv_row 81 5 9 Tryd.underlying81 Tryd.underlying5 Tryd.underlying9 W B T (0, 0) _ h' n cap (by simpa using hn), nums_bytes]
theorem bytes_app (a b : ByteArray) : (a ++ b).data.toList = a.data.toList ++ b.data.toList := by simp
theorem size_of_app (a b : ByteArray) : (a ++ b).size = a.size + b.size := ByteArray.size_append
end Go.Proofs.YtelaamchafocpaaDoor
/-
  Contracts over this translation: the document's Name.
-/
set_option linter.unusedVariables false
namespace Go.Proofs.YtelaamchafocpaaDoor
open Go.RowKit
attribute [local go_sem] Oper.semAt_some

theorem one_dot {s : ByteArray} : (s.toList == [46]) = decide (s.data.toList = [46]) := by rw [Lib.toList_data, Bool.eq_iff_iff]; simp
theorem two_dots {s : ByteArray} : (s.toList == [46, 46]) = decide (s.data.toList = [46, 46]) := by rw [Lib.toList_data, Bool.eq_iff_iff]; simp

/-- Neither 0 nor a slash among the first. -/
def CleanTo (l : List UInt8) (k : Nat) : Prop := (0 : UInt8) ∉ l.take k ∧ (47 : UInt8) ∉ l.take k
theorem clean_zero (l : List UInt8) : CleanTo l 0 := ⟨by simp, by simp⟩
theorem clean_step {s : ByteArray} {k : Nat} (h : CleanTo s.data.toList k) (hk : k < s.size) (h0 : s[k] ≠ 0) (h47 : s[k] ≠ 47) : CleanTo s.data.toList (k + 1) := by
  unfold CleanTo; rw [take_on s k hk]
  exact ⟨fun hm => by rcases List.mem_append.1 hm with e | e; exact h.1 e; exact h0 (List.mem_singleton.1 e).symm, fun hm => by rcases List.mem_append.1 hm with e | e; exact h.2 e; exact h47 (List.mem_singleton.1 e).symm⟩
theorem clean_all {s : ByteArray} (h : CleanTo s.data.toList s.size) : (0 : UInt8) ∉ s.data.toList ∧ (47 : UInt8) ∉ s.data.toList := by
  unfold CleanTo at h; rwa [take_all s _ (Nat.le_refl _)] at h
theorem mem_at {s : ByteArray} {k : Nat} (hk : k < s.size) : s[k] ∈ s.data.toList := by
  show s.data[k] ∈ _
  simp
theorem byte_ne {u : UInt8} {n : Nat} (hn : n < 256) (h : u ≠ UInt8.ofNat n) : ((u.toNat : Int) == (n : Int)) = false := by
  rw [beq_eq_false_iff_ne]
  intro e
  have e2 : u.toNat = n := by exact_mod_cast e
  exact h (by rw [← e2]; simp)

set_option maxRecDepth 100000 in
set_option maxHeartbeats 1000000 in
theorem refName_any (s : ByteArray) (w : World) :
    Calls Tryd.prog 48 #[.string s] w fun e w' => e = .returned (.bool (nameB s.data.toList)) ∧ w = w' := by
  by_cases h0 : s.size = 0
  · have e0 : s.toList.isEmpty = true := by
      rw [Lib.toList_data]; have := Lib.size_eq s; cases h : s.data.toList with
      | nil => rfl
      | cons a t => rw [h] at this; simp at this; omega
    have HN : Hid (nameB s.data.toList = false) := nameB_no (fun hh => by rw [← Lib.size_eq] at hh; omega)
    clear h0
    go_enter Tryd.func48, Tryd.ntmps48
    go_wp2
    go_ret
    exact ⟨ret_val (congrArg Value.bool HN.out.symm), rfl⟩
  · have e0 : s.toList.isEmpty = false := by
      rw [Lib.toList_data]; have := Lib.size_eq s; cases h : s.data.toList with
      | nil => rw [h] at this; exact absurd this h0
      | cons a t => rfl
    by_cases h31 : 31 < s.size
    · have e1 : decide ((31 : Int) < (s.size : Int)) = true := decide_eq_true (by omega)
      have HN : Hid (nameB s.data.toList = false) := nameB_no (fun hh => by rw [← Lib.size_eq] at hh; omega)
      clear h0 h31
      go_enter Tryd.func48, Tryd.ntmps48
      go_wp2
      go_ret
      exact ⟨ret_val (congrArg Value.bool HN.out.symm), rfl⟩
    · have e1 : decide ((31 : Int) < (s.size : Int)) = false := decide_eq_false (by omega)
      by_cases hd : s.data.toList = [46]
      · have e2 : (s.toList == [46]) = true := by rw [one_dot]; exact decide_eq_true hd
        have HN : Hid (nameB s.data.toList = false) := nameB_no (fun hh => hh.2.2.1 hd)
        clear h0 h31 hd
        go_enter Tryd.func48, Tryd.ntmps48
        go_wp2
        go_ret
        exact ⟨ret_val (congrArg Value.bool HN.out.symm), rfl⟩
      · have e2 : (s.toList == [46]) = false := by rw [one_dot]; exact decide_eq_false hd
        by_cases hd2 : s.data.toList = [46, 46]
        · have e3 : (s.toList == [46, 46]) = true := by rw [two_dots]; exact decide_eq_true hd2
          have HN : Hid (nameB s.data.toList = false) := nameB_no (fun hh => hh.2.2.2.1 hd2)
          clear h0 h31 hd hd2
          go_enter Tryd.func48, Tryd.ntmps48
          go_wp2
          go_ret
          exact ⟨ret_val (congrArg Value.bool HN.out.symm), rfl⟩
        · have e3 : (s.toList == [46, 46]) = false := by rw [two_dots]; exact decide_eq_false hd2
          have HO := Lib.hid (show 1 ≤ s.data.toList.length ∧ s.data.toList.length ≤ 31 ∧ s.data.toList ≠ [46] ∧ s.data.toList ≠ [46, 46] from by rw [← Lib.size_eq]; exact ⟨by omega, by omega, hd, hd2⟩)
          clear h0 hd hd2
          go_enter Tryd.func48, Tryd.ntmps48
          go_wp2
          go_loop [3] (fun i => ∃ k : Nat, k ≤ s.size ∧ i = .int .i64 k ∧ CleanTo s.data.toList k) (fun i => s.size - (intOf i).toNat)
          case atStart => exact ⟨0, Nat.zero_le _, rfl, clean_zero _⟩
          case round =>
            obtain ⟨k, hk, rfl, hc⟩ := hrel
            have HC := Lib.hid hc; clear hc
            by_cases hlt : k < s.size
            · by_cases b0 : s[k] = 0
              · have c0 : ((s[k].toNat : Int) == 0) = true := by rw [b0]; rfl
                have HN : Hid (nameB s.data.toList = false) := nameB_no (fun hh => hh.2.2.2.2.1 (b0 ▸ mem_at hlt))
                clear b0
                go_wp2
                go_ret
                exact ⟨ret_val (congrArg Value.bool HN.out.symm), rfl⟩
              · have c0 : ((s[k].toNat : Int) == 0) = false := byte_ne (n := 0) (by decide) b0
                by_cases b47 : s[k] = 47
                · have c1 : ((s[k].toNat : Int) == 47) = true := by rw [b47]; rfl
                  have HN : Hid (nameB s.data.toList = false) := nameB_no (fun hh => hh.2.2.2.2.2 (b47 ▸ mem_at hlt))
                  clear b0 b47
                  go_wp2
                  go_ret
                  exact ⟨ret_val (congrArg Value.bool HN.out.symm), rfl⟩
                · have c1 : ((s[k].toNat : Int) == 47) = false := byte_ne (n := 47) (by decide) b47
                  have HS := Lib.hid (clean_step HC.out hlt b0 b47)
                  clear b0 b47
                  go_wp2
                  go_round
                  case rel => exact ⟨k + 1, by omega, by go_num, HS.out⟩
                  case measure => simp [intOf]; omega
            · obtain rfl : k = s.size := by omega
              have HN : Hid (nameB s.data.toList = true) := nameB_mk ⟨HO.out.1, HO.out.2.1, HO.out.2.2.1, HO.out.2.2.2, clean_all HC.out⟩
              go_wp2
              go_ret
              exact ⟨ret_val (congrArg Value.bool HN.out.symm), rfl⟩
end Go.Proofs.YtelaamchafocpaaDoor
/-
  Contracts over this translation: the document's parts, Split, Fit.
-/
set_option linter.unusedVariables false
namespace Go.Proofs.YtelaamchafocpaaDoor
open Go.RowKit
attribute [local go_sem] Oper.semAt_some

/-- A call that hands back a slice of strings. -/
def RetL (L : List (List UInt8)) (w : World) (e : Ending) (w' : World) : Prop := ∃ v, e = .returned v ∧ IsStrs w' v (strsOf L) ∧ Below w.heap.size w w'

/-- On the way through a text: the parts that ended, where the next begins. -/
def OnPart (l : List UInt8) (M : List (List UInt8)) (f k : Nat) : Prop :=
  (k ≤ l.length ∧ f ≤ k ∧ pts l = M ++ pts (l.drop f) ∧ (47 : UInt8) ∉ (l.drop f).take (k - f)) ∨ (k = l.length + 1 ∧ M = pts l)
theorem onPart_start (l : List UInt8) : OnPart l [] 0 0 := .inl ⟨Nat.zero_le _, Nat.le_refl _, rfl, by simp⟩
theorem onPart_le {l : List UInt8} {M : List (List UInt8)} {f k : Nat} (h : OnPart l M f k) (hk : k ≤ l.length) : f ≤ k := by
  rcases h with h | h
  · exact h.2.1
  · omega
theorem onPart_cut {l : List UInt8} {M : List (List UInt8)} {f k : Nat} (h : OnPart l M f k) (hk : k < l.length) (h47 : l[k] = 47) : OnPart l (M ++ [(l.drop f).take (k - f)]) (k + 1) (k + 1) := by
  rcases h with ⟨h1, h2, h3, h4⟩ | ⟨h1, _⟩
  · refine .inl ⟨by omega, Nat.le_refl _, ?_, by simp⟩
    have e : l.drop f = (l.drop f).take (k - f) ++ 47 :: l.drop (k + 1) := by
      conv => lhs; rw [← List.take_append_drop (k - f) (l.drop f)]
      rw [List.drop_drop, show f + (k - f) = k by omega, List.drop_eq_getElem_cons hk, h47]
    rw [h3, e, pts_app, ← e, pts_one h4]; simp
  · omega
theorem onPart_end {l : List UInt8} {M : List (List UInt8)} {f : Nat} (h : OnPart l M f l.length) (g : Nat) : OnPart l (M ++ [(l.drop f).take (l.length - f)]) g (l.length + 1) := by
  rcases h with ⟨h1, h2, h3, h4⟩ | ⟨h1, _⟩
  · refine .inr ⟨rfl, ?_⟩
    rw [h3, ← pts_one h4, List.take_of_length_le (by simp)]
  · omega
theorem onPart_step {l : List UInt8} {M : List (List UInt8)} {f k : Nat} (h : OnPart l M f k) (hk : k < l.length) (h47 : l[k] ≠ 47) : OnPart l M f (k + 1) := by
  rcases h with ⟨h1, h2, h3, h4⟩ | ⟨h1, _⟩
  · refine .inl ⟨by omega, by omega, h3, ?_⟩
    rw [show k + 1 - f = (k - f) + 1 by omega, List.take_succ_eq_append_getElem (by simp; omega)]
    intro hm
    rcases List.mem_append.1 hm with e | e
    · exact h4 e
    · refine h47 ?_
      have := List.mem_singleton.1 e
      rw [List.getElem_drop] at this
      rw [this]; congr 1; omega
  · omega
theorem onPart_fin {l : List UInt8} {M : List (List UInt8)} {f : Nat} (h : OnPart l M f (l.length + 1)) : M = pts l := by
  rcases h with ⟨h1, _⟩ | ⟨_, h⟩
  · omega
  · exact h

theorem getE_list (s : ByteArray) (k : Nat) (h : k < s.size) : s.data.toList[k]'(by rw [← Lib.size_eq]; exact h) = s[k] := by
  show _ = s.data[k]
  simp

set_option maxRecDepth 100000 in
set_option maxHeartbeats 2000000 in
theorem parts_any (s : ByteArray) (hs : s.size ≤ 100000) (w : World) :
    Calls Tryd.prog 43 #[.string s] w (RetL (pts s.data.toList) w) := by
  have hown0 := ownTxt_nil w
  go_enter Tryd.func43, Tryd.ntmps43
  go_wp2
  go_loopw [3, 4, 5] (fun l f i wr => ∃ (M : List (List UInt8)) (a k : Nat) , k ≤ s.size + 1 ∧ f = .int .i64 a ∧ i = .int .i64 k ∧ M.length ≤ k ∧ OnPart s.data.toList M a k ∧ OwnTxt w wr l M ∧ Below w.heap.size w wr) (fun _ _ i _ => s.size + 1 - (intOf i).toNat)
  case atStart => exact ⟨[], 0, 0, Nat.zero_le _, rfl, rfl, Nat.le_refl _, onPart_start _, hown0, Below.refl _ _⟩
  case round =>
    obtain ⟨M, a, k, hk, rfl, rfl, hml, hop, hown, hB⟩ := hrel
    have HP := Lib.hid hop; have HO := Lib.hid hown
    have hol : M.length ≤ 1000000 := by omega
    clear hown0 hop hown
    by_cases hlt : k ≤ s.size
    · have e1 : decide ((k : Int) ≤ (s.size : Int)) = true := decide_eq_true (by omega)
      have hak := onPart_le HP.out (by rw [← Lib.size_eq]; exact hlt)
      have hd := fun W => run_slice_str (P := Tryd.prog) Tryd.underlying9 s (a : Int) (k : Int) (by omega) (by omega) (by omega) W
      simp only [Int.toNat_natCast] at hd
      have hdat := Lib.extract_data s a k
      obtain ⟨t, ht⟩ : ∃ t, t = s.extract a k := ⟨_, rfl⟩
      rw [← ht] at hd hdat
      clear ht
      by_cases hend : k = s.size
      · have e2 : ((k : Int) == (s.size : Int)) = true := beq_iff_eq.2 (by omega)
        have HN : Hid (OnPart s.data.toList (M ++ [t.data.toList]) (k + 1) (k + 1)) := by
          have := onPart_end (by have := HP.out; rwa [hend, Lib.size_eq] at this) (k + 1)
          rw [hdat, hend, Lib.size_eq]
          rw [hend, Lib.size_eq] at this
          exact this
        clear hdat hend HP
        go_wp2_with (at_builtin; refine wpList_append_txt rfl _ _ rfl HO.out hB rfl rfl hol ?_)
        intro v' w2 hown' hb2
        have HO2 := Lib.hid hown'; clear hown'
        go_wp2_with fail
        go_roundw
        case rel => exact ⟨_, k + 1, k + 1, by omega, by go_num, by go_num, by rw [List.length_append]; exact Nat.add_le_add_right hml 1, HN.out, HO2.out, hb2⟩
        case measure => simp [intOf]; omega
      · have hlt2 : k < s.size := by omega
        have e2 : ((k : Int) == (s.size : Int)) = false := beq_eq_false_iff_ne.2 (by omega)
        have hll : k < s.data.toList.length := by rw [← Lib.size_eq]; exact hlt2
        by_cases b47 : s[k] = 47
        · have c1 : ((s[k].toNat : Int) == 47) = true := by rw [b47]; rfl
          have HN : Hid (OnPart s.data.toList (M ++ [t.data.toList]) (k + 1) (k + 1)) := by
            rw [hdat]; exact onPart_cut HP.out hll (by rw [getE_list s k hlt2]; exact b47)
          clear hdat hend HP b47
          go_wp2_with (at_builtin; refine wpList_append_txt rfl _ _ rfl HO.out hB rfl rfl hol ?_)
          intro v' w2 hown' hb2
          have HO2 := Lib.hid hown'; clear hown'
          go_wp2_with fail
          go_roundw
          case rel => exact ⟨_, k + 1, k + 1, by omega, by go_num, by go_num, by rw [List.length_append]; exact Nat.add_le_add_right hml 1, HN.out, HO2.out, hb2⟩
          case measure => simp [intOf]; omega
        · have c1 : ((s[k].toNat : Int) == 47) = false := byte_ne (n := 47) (by decide) b47
          have HN : Hid (OnPart s.data.toList M a (k + 1)) := onPart_step HP.out hll (by rw [getE_list s k hlt2]; exact b47)
          clear hdat hend HP b47 hd
          go_wp2_with fail
          go_roundw
          case rel => exact ⟨_, a, k + 1, by omega, rfl, by go_num, by omega, HN.out, HO.out, hB⟩
          case measure => simp [intOf]; omega
    · obtain rfl : k = s.size + 1 := by omega
      have e1 : decide (((s.size + 1 : Nat) : Int) ≤ (s.size : Int)) = false := decide_eq_false (by omega)
      have hM : M = pts s.data.toList := onPart_fin (by have := HP.out; rwa [Lib.size_eq] at this)
      have HST := Lib.hid (by have := HO.out.strs; rw [hM] at this; exact this)
      clear hM HP HO
      go_wp2
      go_ret
      exact ⟨_, rfl, HST.out, hB⟩
end Go.Proofs.YtelaamchafocpaaDoor
/-
  Contracts over this translation: the document's Split, Fit, Join, Dir, Order; the laws' same.
-/
set_option linter.unusedVariables false
namespace Go.Proofs.YtelaamchafocpaaDoor
open Go.RowKit
attribute [local go_sem] Oper.semAt_some

/-- The first are names. -/
def NamesTo (L : List (List UInt8)) (k : Nat) : Prop := ∀ p ∈ L.take k, nameB p = true
theorem names_zero (L : List (List UInt8)) : NamesTo L 0 := fun p hp => by simp at hp
theorem names_step {L : List (List UInt8)} {k : Nat} (h : NamesTo L k) (hk : k < L.length) (hn : nameB L[k] = true) : NamesTo L (k + 1) := fun p hp => by
  rw [List.take_succ_eq_append_getElem hk] at hp
  rcases List.mem_append.1 hp with e | e
  · exact h p e
  · rw [List.mem_singleton.1 e]; exact hn
theorem names_all {L : List (List UInt8)} (h : NamesTo L L.length) : L.all nameB = true := List.all_eq_true.2 fun p hp => h p (by rw [List.take_length]; exact hp)
theorem not_all {L : List (List UInt8)} {k : Nat} (hk : k < L.length) (hn : nameB L[k] = false) : ¬ L.all nameB = true := fun h => by
  have := List.all_eq_true.1 h _ (List.getElem_mem hk)
  rw [hn] at this; cases this

theorem strsOf_at (L : List (List UInt8)) (k : Nat) (hk : k < (strsOf L).length) (hk' : k < L.length) : ((strsOf L)[k]).data.toList = L[k] := by
  simp [strsOf]

set_option maxRecDepth 100000 in
set_option maxHeartbeats 2000000 in
theorem refSplit_any (s : ByteArray) (hs : s.size ≤ 100000) (w : World) :
    Calls Tryd.prog 34 #[.string s] w (RetL (splitS s.data.toList) w) := by
  have C := Lib.hid (parts_any s hs)
  obtain ⟨l, hl⟩ : ∃ l, l = s.data.toList := ⟨_, rfl⟩
  rw [← hl] at C ⊢
  clear hl hs
  go_enter Tryd.func34, Tryd.ntmps34
  go_wp2_with fail
  refine (C.out _).mono ?_
  rintro e w1 ⟨v, rfl, hv, hb1⟩
  have HV := Lib.hid hv
  obtain ⟨hm, a, cap, rfl, _, hc⟩ := hv
  have hmm : (strsOf (pts l)).length ≤ 9223372036854775807 := by unfold maxLen at hm; omega
  have HC := Lib.hid hc
  have HLEN := Lib.hid (strsOf_len (pts l))
  have HIN := Lib.hid (strsOf_at (pts l))
  clear hm hc
  obtain ⟨L, hL⟩ : ∃ L, L = strsOf (pts l) := ⟨_, rfl⟩
  rw [← hL] at HV HC HLEN HIN hmm ⊢
  have HLS := Lib.hid hL
  clear hL
  by_cases h8 : 8 < L.length
  · have e1 : decide ((8 : Int) < (L.length : Int)) = true := decide_eq_true (by omega)
    have HN : Hid (splitS l = []) := if_neg (fun hh => by have := HLEN.out; omega)
    go_wp2
    go_ret
    exact ⟨_, rfl, by rw [HN.out]; exact isStrs_nil _, hb1⟩
  · have e1 : decide ((8 : Int) < (L.length : Int)) = false := decide_eq_false (by omega)
    go_wp2
    go_loop [4] (fun i => ∃ k : Nat, k ≤ L.length ∧ i = .int .i64 k ∧ NamesTo (pts l) k) (fun i => L.length - (intOf i).toNat)
    case atStart => exact ⟨0, Nat.zero_le _, rfl, names_zero _⟩
    case round =>
      obtain ⟨k, hk, rfl, hn⟩ := hrel
      have HN := Lib.hid hn; clear hn
      by_cases hlt : k < L.length
      · obtain ⟨b1, o1, rfl, _, g1⟩ := HC.out (by omega)
        have q1 := g1 k hlt
        clear g1
        have hin := HIN.out k hlt (by rw [← HLEN.out]; exact hlt)
        obtain ⟨y, hy⟩ : ∃ y, y = L[k] := ⟨_, rfl⟩
        rw [← hy] at q1 hin
        have HY := Lib.hid hin; clear hin hy
        have hbk : decide ((k : Int) < (L.length : Int)) = true := by simpa using (show (k : Int) < L.length by omega)
        have R := Lib.hid (refName_any y)
        rcases hb : nameB y.data.toList with _ | _
        · have HS : Hid (splitS l = []) := if_neg (fun hh => not_all (by rw [← HLEN.out]; exact hlt) (by rw [← HY.out]; exact hb) hh.2)
          rw [hb] at R
          clear hb
          go_wp2_with ((with_reducible refine (R.out _).mono ?_); rintro e w2 ⟨rfl, rfl⟩)
          go_ret
          exact ⟨_, rfl, by rw [HS.out]; exact isStrs_nil _, hb1⟩
        · have HS := Lib.hid (names_step HN.out (by rw [← HLEN.out]; exact hlt) (by rw [← HY.out]; exact hb))
          rw [hb] at R
          clear hb
          go_wp2_with ((with_reducible refine (R.out _).mono ?_); rintro e w2 ⟨rfl, rfl⟩)
          go_round
          case rel => exact ⟨k + 1, by omega, by go_num, HS.out⟩
          case measure => simp [intOf]; omega
      · obtain rfl : k = L.length := by omega
        have HS : Hid (splitS l = pts l) := if_pos ⟨by rw [← HLEN.out]; omega, names_all (by rw [← HLEN.out]; exact HN.out)⟩
        go_wp2
        go_ret
        exact ⟨_, rfl, by rw [HS.out, ← HLS.out]; exact HV.out, hb1⟩

/-- A path. -/
def isPath (l : List UInt8) : Bool := decide (0 < (splitS l).length)
set_option maxRecDepth 100000 in
theorem refFit_any (s : ByteArray) (hs : s.size ≤ 100000) (w : World) :
    Calls Tryd.prog 26 #[.string s] w fun e w' => e = .returned (.bool (isPath s.data.toList)) ∧ Below w.heap.size w w' := by
  have C := Lib.hid (refSplit_any s hs)
  go_enter Tryd.func26, Tryd.ntmps26
  go_wp2_with fail
  refine (C.out _).mono ?_
  rintro e w1 ⟨v, rfl, ⟨hm, a, cap, rfl, _, hc⟩, hb1⟩
  have HE : Hid (isPath s.data.toList = decide ((0 : Int) < ((strsOf (splitS s.data.toList)).length : Int))) := by
    unfold isPath; rw [strsOf_len]; exact decide_eq_decide.2 (by omega)
  have hmm : (strsOf (splitS s.data.toList)).length ≤ 9223372036854775807 := by unfold maxLen at hm; omega
  clear hc hm
  go_wp2
  go_ret
  exact ⟨ret_val (congrArg Value.bool (by rw [HE.out]; simp)), hb1⟩

/-! ## Join -/
theorem joinS_take {L : List (List UInt8)} {k : Nat} (hk : k < L.length) (h0 : 0 < k) : joinS (L.take (k + 1)) = joinS (L.take k) ++ 47 :: L[k] := by
  rw [List.take_succ_eq_append_getElem hk, joinS_snoc (by intro e; have h1 : (L.take k).length = k := by { rw [List.length_take]; omega }; rw [e] at h1; change 0 = k at h1; omega)]
theorem str_of {x : ByteArray} {l : List UInt8} (h : x.data.toList = l) : x = ⟨l.toArray⟩ := by rw [← h]
set_option maxRecDepth 100000 in
set_option maxHeartbeats 2000000 in
theorem refJoin_any (v : Value) (L : List ByteArray) (w : World) (hv : IsStrs w v L) :
    Calls Tryd.prog 47 #[v] w fun e w' => e = .returned (.string ⟨(joinN (txts L)).toArray⟩) ∧ w = w' := by
  obtain ⟨hm, a, cap, rfl, _, hc⟩ := hv
  have hmm : L.length ≤ 9223372036854775807 := by unfold maxLen at hm; omega
  have HC := Lib.hid hc
  have HLEN := Lib.hid (txts_len L)
  clear hm hc
  by_cases h8 : 8 < L.length
  · have e1 : decide ((8 : Int) < (L.length : Int)) = true := decide_eq_true (by omega)
    have HN : Hid (joinN (txts L) = []) := joinN_long (by rw [HLEN.out]; exact h8)
    go_enter Tryd.func47, Tryd.ntmps47
    go_wp2
    go_ret
    exact ⟨by rw [HN.out]; rfl, rfl⟩
  · have e1 : decide ((8 : Int) < (L.length : Int)) = false := decide_eq_false (by omega)
    go_enter Tryd.func47, Tryd.ntmps47
    go_wp2
    go_loop [3, 4] (fun r i => ∃ (x : ByteArray) (k : Nat), k ≤ L.length ∧ i = .int .i64 k ∧ r = .string x ∧ x.size ≤ k * 32 ∧ x.data.toList = joinS ((txts L).take k) ∧ NamesTo (txts L) k) (fun _ i => L.length - (intOf i).toNat)
    case atStart => exact ⟨⟨#[]⟩, 0, Nat.zero_le _, rfl, rfl, Nat.le_refl _, rfl, names_zero _⟩
    case round =>
      obtain ⟨x, k, hk, rfl, rfl, hxs, hx, hn⟩ := hrel
      have HN := Lib.hid hn; have HX := Lib.hid hx; clear hn hx
      by_cases hlt : k < L.length
      · obtain ⟨b1, o1, rfl, _, g1⟩ := HC.out (by omega)
        have q1 := g1 k hlt
        clear g1
        have hlt2 : k < (txts L).length := by rw [HLEN.out]; exact hlt
        have hin : (txts L)[k] = L[k].data.toList := txts_get hlt
        obtain ⟨y, hy⟩ : ∃ y, y = L[k] := ⟨_, rfl⟩
        rw [← hy] at q1 hin
        have HY := Lib.hid hin; clear hin hy
        have hbk : decide ((k : Int) < (L.length : Int)) = true := by simpa using (show (k : Int) < L.length by omega)
        have R := Lib.hid (refName_any y)
        rcases hb : nameB y.data.toList with _ | _
        · have HS : Hid (joinN (txts L) = []) := joinN_bad (List.getElem_mem hlt2) (by rw [HY.out]; exact hb)
          rw [hb] at R
          clear hb hxs
          go_wp2_with ((with_reducible refine (R.out _).mono ?_); rintro e w2 ⟨rfl, rfl⟩)
          go_ret
          exact ⟨by rw [HS.out]; rfl, rfl⟩
        · have hys : y.size ≤ 31 := by have := (nameB_iff.1 hb).2.1; rw [← Lib.size_eq] at this; exact this
          have HS := Lib.hid (names_step HN.out hlt2 (by rw [HY.out]; exact hb))
          rw [hb] at R
          clear hb
          by_cases h0 : 0 < k
          · have e0 : decide ((0 : Int) < (k : Int)) = true := decide_eq_true (by omega)
            have s1 : ¬ 9223372036854775807 < x.size + 1 := by omega
            have s1' : ¬ 9223372036854775807 < x.size + (⟨#[47]⟩ : ByteArray).size := s1
            obtain ⟨x1, hx1⟩ : ∃ x1, x1 = x ++ (⟨#[47]⟩ : ByteArray) := ⟨_, rfl⟩
            have hx1s : x1.size = x.size + 1 := by rw [hx1, size_of_app]; rfl
            have s2 : ¬ 9223372036854775807 < x1.size + y.size := by omega
            have HJ : Hid ((x1 ++ y).data.toList = joinS ((txts L).take (k + 1)) ∧ (x1 ++ y).size ≤ (k + 1) * 32) := by
              refine ⟨?_, by rw [size_of_app]; omega⟩
              rw [joinS_take hlt2 h0, bytes_app, hx1, bytes_app, HX.out, HY.out]; simp
            have HX1 := Lib.hid hx1
            clear hx1
            go_wp2_with ((with_reducible refine (R.out _).mono ?_); rintro e w2 ⟨rfl, rfl⟩)
            rw [← HX1.out]
            go_wp2
            go_round
            case rel => exact ⟨_, k + 1, by omega, by go_num, rfl, HJ.out.2, HJ.out.1, HS.out⟩
            case measure => simp [intOf]; omega
          · have e0 : decide ((0 : Int) < (k : Int)) = false := decide_eq_false (by omega)
            have HK : Hid (k = 0) := by show k = 0; omega
            have s2 : ¬ 9223372036854775807 < x.size + y.size := by omega
            have HJ : Hid ((x ++ y).data.toList = joinS ((txts L).take (k + 1)) ∧ (x ++ y).size ≤ (k + 1) * 32) := by
              refine ⟨?_, by rw [size_of_app]; omega⟩
              rw [bytes_app, HX.out, List.take_succ_eq_append_getElem hlt2, HY.out, HK.out]; simp [joinS]
            go_wp2_with ((with_reducible refine (R.out _).mono ?_); rintro e w2 ⟨rfl, rfl⟩)
            go_round
            case rel => exact ⟨_, k + 1, by omega, by go_num, rfl, HJ.out.2, HJ.out.1, HS.out⟩
            case measure => simp [intOf]; omega
      · obtain rfl : k = L.length := by omega
        have HJ : Hid (x = ⟨(joinN (txts L)).toArray⟩) := by
          rw [joinN_small (by rw [HLEN.out]; omega) (names_all (by rw [HLEN.out]; exact HN.out))]
          refine str_of ?_
          rw [HX.out, List.take_of_length_le (by rw [HLEN.out]; exact Nat.le_refl _)]
        clear hxs
        go_wp2
        go_ret
        exact ⟨by rw [← HJ.out]; rfl, rfl⟩
end Go.Proofs.YtelaamchafocpaaDoor
/-
  Contracts over this translation: the document's Dir, Order; cmp.Compare, slices.Compare.
-/
set_option linter.unusedVariables false
namespace Go.Proofs.YtelaamchafocpaaDoor
open Go.RowKit
attribute [local go_sem] Oper.semAt_some

/-! ## how two stand -/
abbrev Tx := List UInt8
theorem x_irrefl (x : Tx) : ¬ x < x := List.lt_irrefl x
theorem x_trans {x y z : Tx} (h : x < y) (h' : y < z) : x < z := List.lt_trans h h'
theorem x_tri (x y : Tx) (h : ¬ x < y) (h' : ¬ y < x) : x = y := List.le_antisymm (List.not_lt.1 h') (List.not_lt.1 h)
theorem x_asymm {x y : Tx} (h : x < y) : ¬ y < x := fun h' => x_irrefl _ (x_trans h h')
theorem isNaN_any (x : ByteArray) (w : World) :
    Calls Tryd.prog 83 #[.string x] w fun e w' => e = .returned (.bool false) ∧ w = w' := by
  have h : (x.toList == x.toList) = true := by simp
  go_enter Tryd.func83, Tryd.ntmps83
  go_wp2
  go_ret
  exact ⟨ret_val (by simp), rfl⟩
def ordX (x y : Tx) : Int := if x < y then -1 else if y < x then 1 else 0
theorem ordX_lt {x y : Tx} (h : x < y) : ordX x y = -1 := if_pos h
theorem ordX_gt {x y : Tx} (h : y < x) : ordX x y = 1 := by rw [ordX, if_neg (x_asymm h), if_pos h]
theorem ordX_eq (x : Tx) : ordX x x = 0 := by rw [ordX, if_neg (x_irrefl x), if_neg (x_irrefl x)]
theorem cmpP_cons (a b : Tx) (x y : List Tx) : cmpP (a :: x) (b :: y) = if ordX a b = 0 then cmpP x y else ordX a b := by
  by_cases h : a < b
  · rw [ordX_lt h, if_neg (by decide), cmpP, if_pos h]
  · by_cases h2 : b < a
    · rw [ordX_gt h2, if_neg (by decide), cmpP, if_neg h, if_pos h2]
    · rw [x_tri a b h h2, ordX_eq, if_pos rfl, cmpP, if_neg (x_irrefl b), if_neg (x_irrefl b)]

set_option maxRecDepth 100000 in
theorem Compare_any (x y : ByteArray) (w : World) :
    Calls Tryd.prog 74 #[.string x, .string y] w fun e w' => e = .returned (.int .i64 (ordX x.data.toList y.data.toList)) ∧ w = w' := by
  have HN := Lib.hid isNaN_any
  by_cases h : x.data.toList < y.data.toList
  · have l1 : Op.bytesLess x.toList y.toList = true := by rw [less_eq]; exact decide_eq_true h
    rw [ordX_lt h]
    clear h
    go_enter Tryd.func74, Tryd.ntmps74
    go_wp2_with ((with_reducible refine (HN.out _ _).mono ?_); rintro e w' ⟨rfl, rfl⟩)
    go_ret
    exact ⟨rfl, rfl⟩
  · by_cases h2 : y.data.toList < x.data.toList
    · have l1 : Op.bytesLess x.toList y.toList = false := by rw [less_eq]; exact decide_eq_false h
      have l2 : (x.toList == y.toList) = false := beq_false (fun e => x_irrefl _ (e ▸ h2))
      rw [ordX_gt h2]
      clear h h2
      go_enter Tryd.func74, Tryd.ntmps74
      go_wp2_with ((with_reducible refine (HN.out _ _).mono ?_); rintro e w' ⟨rfl, rfl⟩)
      go_ret
      exact ⟨rfl, rfl⟩
    · obtain rfl := str_eq' (x_tri _ _ h h2)
      have l1 : Op.bytesLess x.toList x.toList = false := by rw [less_eq]; exact decide_eq_false h
      have l2 : (x.toList == x.toList) = true := beq_true rfl
      rw [ordX_eq]
      clear h h2
      go_enter Tryd.func74, Tryd.ntmps74
      go_wp2_with ((with_reducible refine (HN.out _ _).mono ?_); rintro e w' ⟨rfl, rfl⟩)
      go_ret
      exact ⟨rfl, rfl⟩

/-- What is left to compare. -/
def SameTo (X Y : List Tx) (k : Nat) : Prop := cmpP X Y = cmpP (X.drop k) (Y.drop k)
theorem same_zero (X Y : List Tx) : SameTo X Y 0 := rfl
theorem same_one {X Y : List Tx} {k : Nat} (h : SameTo X Y k) (hx : k < X.length) (hy : k < Y.length) : cmpP X Y = if ordX X[k] Y[k] = 0 then cmpP (X.drop (k + 1)) (Y.drop (k + 1)) else ordX X[k] Y[k] := by
  unfold SameTo at h
  rw [h, List.drop_eq_getElem_cons hx, List.drop_eq_getElem_cons hy, cmpP_cons]
theorem same_step {X Y : List Tx} {k : Nat} (h : SameTo X Y k) (hx : k < X.length) (hy : k < Y.length) (h0 : ordX X[k] Y[k] = 0) : SameTo X Y (k + 1) := by
  unfold SameTo; rw [same_one h hx hy, if_pos h0]
theorem same_stop {X Y : List Tx} {k : Nat} (h : SameTo X Y k) (hx : k < X.length) (hy : k < Y.length) (h0 : ordX X[k] Y[k] ≠ 0) : cmpP X Y = ordX X[k] Y[k] := by
  rw [same_one h hx hy, if_neg h0]
theorem same_longer {X Y : List Tx} {k : Nat} (h : SameTo X Y k) (hx : k < X.length) (hy : Y.length ≤ k) : cmpP X Y = 1 := by
  unfold SameTo at h
  rw [h, List.drop_eq_getElem_cons hx, List.drop_of_length_le hy]; rfl
theorem same_shorter {X Y : List Tx} {k : Nat} (h : SameTo X Y k) (hx : X.length ≤ k) (hy : k < Y.length) : cmpP X Y = -1 := by
  unfold SameTo at h
  rw [h, List.drop_eq_getElem_cons hy, List.drop_of_length_le hx]; rfl
theorem same_end {X Y : List Tx} {k : Nat} (h : SameTo X Y k) (hx : X.length ≤ k) (hy : Y.length ≤ k) : cmpP X Y = 0 := by
  unfold SameTo at h
  rw [h, List.drop_of_length_le hx, List.drop_of_length_le hy]; rfl
theorem ordX_cases (x y : Tx) : (x < y ∧ ordX x y = -1) ∨ (y < x ∧ ordX x y = 1) ∨ (x = y ∧ ordX x y = 0) := by
  by_cases h : x < y
  · exact .inl ⟨h, ordX_lt h⟩
  · by_cases h2 : y < x
    · exact .inr (.inl ⟨h2, ordX_gt h2⟩)
    · obtain rfl := x_tri x y h h2
      exact .inr (.inr ⟨rfl, ordX_eq x⟩)

set_option maxRecDepth 100000 in
set_option maxHeartbeats 2000000 in
theorem slCompare_any (v1 v2 : Value) (K L : List ByteArray) (w : World) (h1 : IsStrs w v1 K) (h2 : IsStrs w v2 L) :
    Calls Tryd.prog 66 #[v1, v2] w fun e w' => e = .returned (.int .i64 (cmpP (txts K) (txts L))) ∧ w = w' := by
  obtain ⟨hm, a1, c1, rfl, _, hc1⟩ := h1
  obtain ⟨hm2, a2, c2, rfl, _, hc2⟩ := h2
  have hmm : K.length ≤ 9223372036854775807 := by unfold maxLen at hm; omega
  have hmm2 : L.length ≤ 9223372036854775807 := by unfold maxLen at hm2; omega
  have H1 := Lib.hid hc1; have H2 := Lib.hid hc2
  have HK := Lib.hid (txts_len K); have HL := Lib.hid (txts_len L)
  have CA := Lib.hid Compare_any
  clear hc1 hc2 hm hm2
  go_enter Tryd.func66, Tryd.ntmps66
  go_wp2
  go_loop [11] (fun i => ∃ k : Nat, k ≤ K.length ∧ k ≤ L.length ∧ i = .int .i64 k ∧ SameTo (txts K) (txts L) k) (fun i => K.length - (intOf i).toNat)
  case atStart => exact ⟨0, Nat.zero_le _, Nat.zero_le _, rfl, same_zero _ _⟩
  case round =>
    obtain ⟨k, hk, hk2, rfl, hn⟩ := hrel
    have HN := Lib.hid hn; clear hn
    by_cases hlt : k < K.length
    · obtain ⟨b1, o1, rfl, _, g1⟩ := H1.out (by omega)
      have q1 := g1 k hlt
      clear g1
      have hbk : decide ((k : Int) < (K.length : Int)) = true := by simpa using (show (k : Int) < K.length by omega)
      have hx : (txts K)[k]'(by rw [HK.out]; exact hlt) = K[k].data.toList := txts_get hlt
      obtain ⟨x, hxx⟩ : ∃ x, x = K[k] := ⟨_, rfl⟩
      rw [← hxx] at q1 hx
      have HX := Lib.hid hx; clear hx hxx
      by_cases hlt2 : k < L.length
      · obtain ⟨b2, o2, rfl, _, g2⟩ := H2.out (by omega)
        have q2 := g2 k hlt2
        clear g2
        have hy : (txts L)[k]'(by rw [HL.out]; exact hlt2) = L[k].data.toList := txts_get hlt2
        obtain ⟨y, hyy⟩ : ∃ y, y = L[k] := ⟨_, rfl⟩
        rw [← hyy] at q2 hy
        have HY := Lib.hid hy; clear hy hyy
        have hnl : ¬ L.length ≤ k := by omega
        have R := Lib.hid (CA.out x y)
        rcases ordX_cases x.data.toList y.data.toList with ⟨_, ho⟩ | ⟨_, ho⟩ | ⟨_, ho⟩
        · have HS : Hid (cmpP (txts K) (txts L) = -1) := by
            have := same_stop HN.out (by rw [HK.out]; exact hlt) (by rw [HL.out]; exact hlt2) (by rw [HX.out, HY.out, ho]; decide)
            rw [HX.out, HY.out, ho] at this; exact this
          rw [ho] at R; clear ho
          go_wp2_with ((with_reducible refine (R.out _).mono ?_); rintro e w2 ⟨rfl, rfl⟩)
          go_ret
          exact ⟨by rw [HS.out]; rfl, rfl⟩
        · have HS : Hid (cmpP (txts K) (txts L) = 1) := by
            have := same_stop HN.out (by rw [HK.out]; exact hlt) (by rw [HL.out]; exact hlt2) (by rw [HX.out, HY.out, ho]; decide)
            rw [HX.out, HY.out, ho] at this; exact this
          rw [ho] at R; clear ho
          go_wp2_with ((with_reducible refine (R.out _).mono ?_); rintro e w2 ⟨rfl, rfl⟩)
          go_ret
          exact ⟨by rw [HS.out]; rfl, rfl⟩
        · have HS := Lib.hid (same_step HN.out (by rw [HK.out]; exact hlt) (by rw [HL.out]; exact hlt2) (by rw [HX.out, HY.out, ho]))
          rw [ho] at R; clear ho
          go_wp2_with ((with_reducible refine (R.out _).mono ?_); rintro e w2 ⟨rfl, rfl⟩)
          go_round
          case rel => exact ⟨k + 1, by omega, by omega, by go_num, HS.out⟩
          case measure => simp [intOf]; omega
      · have hnl : L.length ≤ k := by omega
        have HS : Hid (cmpP (txts K) (txts L) = 1) := same_longer HN.out (by rw [HK.out]; exact hlt) (by rw [HL.out]; exact hnl)
        go_wp2
        go_ret
        exact ⟨by rw [HS.out]; rfl, rfl⟩
    · obtain rfl : k = K.length := by omega
      by_cases hlt2 : K.length < L.length
      · have HS : Hid (cmpP (txts K) (txts L) = -1) := same_shorter HN.out (by rw [HK.out]; exact Nat.le_refl _) (by rw [HL.out]; exact hlt2)
        go_wp2
        go_ret
        exact ⟨by rw [HS.out]; rfl, rfl⟩
      · have HS : Hid (cmpP (txts K) (txts L) = 0) := same_end HN.out (by rw [HK.out]; exact Nat.le_refl _) (by rw [HL.out]; omega)
        go_wp2
        go_ret
        exact ⟨by rw [HS.out]; rfl, rfl⟩

set_option maxRecDepth 100000 in
set_option maxHeartbeats 2000000 in
theorem refDir_any (s : ByteArray) (hs : s.size ≤ 100000) (w : World) :
    Calls Tryd.prog 33 #[.string s] w fun e w' => e = .returned (.string ⟨(dirS s.data.toList).toArray⟩) ∧ Below w.heap.size w w' := by
  have C := Lib.hid (refSplit_any s hs)
  have J := Lib.hid refJoin_any
  obtain ⟨l, hl⟩ : ∃ l, l = s.data.toList := ⟨_, rfl⟩
  rw [← hl] at C ⊢
  clear hl hs
  go_enter Tryd.func33, Tryd.ntmps33
  go_wp2_with fail
  refine (C.out _).mono ?_
  rintro e w1 ⟨v, rfl, hv, hb1⟩
  have HV := Lib.hid hv
  obtain ⟨hm, a, cap, rfl, ⟨_, hcap⟩, hc⟩ := hv
  have HLEN := Lib.hid (strsOf_len (splitS l))
  have HT := Lib.hid (txts_strsOf (splitS l))
  obtain ⟨L, hL⟩ : ∃ L, L = strsOf (splitS l) := ⟨_, rfl⟩
  rw [← hL] at HV HLEN HT hm hcap hc ⊢
  clear hL
  have hmm : L.length ≤ 9223372036854775807 := by unfold maxLen at hm; omega
  by_cases h2 : L.length < 2
  · have e2 : decide ((L.length : Int) < 2) = true := decide_eq_true (by omega)
    have HN : Hid (dirS l = []) := splitS_short (by rw [← HLEN.out]; exact h2)
    clear hc hm hcap
    go_wp2
    go_ret
    exact ⟨by rw [HN.out]; rfl, hb1⟩
  · have e2 : decide ((L.length : Int) < 2) = false := decide_eq_false (by omega)
    obtain ⟨b, off, rfl, hlt, hcell⟩ := hc (by omega)
    have hV2 : IsStrs w1 (.slice (some ⟨b, off, none⟩) (L.length - 1) cap) L.dropLast := by
      refine ⟨by rw [List.length_dropLast]; omega, some ⟨b, off, none⟩, cap, by rw [List.length_dropLast], ⟨fun h => (by cases h), by rw [List.length_dropLast]; omega⟩, fun _ => ⟨b, off, rfl, hlt, fun i hi => ?_⟩⟩
      rw [List.length_dropLast] at hi
      rw [hcell i (by omega), List.getElem_dropLast]
    have HV2 := Lib.hid hV2
    have J2 := Lib.hid (fun hv => J.out (.slice (some ⟨b, off, none⟩) (L.length - 1) cap) L.dropLast w1 hv)
    have HD : Hid (joinN (txts L.dropLast) = dirS l) := by
      show _ = _
      rw [show txts L.dropLast = (txts L).dropLast by simp [txts], HT.out]; rfl
    have hz : ((L.length : Int) - 1) = ((L.length - 1 : Nat) : Int) := by omega
    have HZ := Lib.hid hz
    clear hc hcell hV2 hz J
    go_wp2_with fail
    refine (J2.out HV2.out).mono ?_
    rintro e w2 ⟨rfl, rfl⟩
    go_wp2
    go_ret
    exact ⟨by rw [HD.out]; rfl, hb1⟩
end Go.Proofs.YtelaamchafocpaaDoor
/-
  Contracts over this translation: the document's Size, Same, Find, under; the law's few.
-/
set_option linter.unusedVariables false
namespace Go.Proofs.YtelaamchafocpaaDoor
open Go.RowKit
attribute [local go_sem] Oper.semAt_some

set_option maxRecDepth 100000 in
set_option maxHeartbeats 2000000 in
theorem rSize_any (v : Value) (L : List It) (w : World) (h : IsItems w v L) (hs : sizeT L ≤ 1000000000) :
    Calls Tryd.prog 19 #[v] w fun e w' => e = .returned (.int .i64 (sizeT L)) ∧ w = w' := by
  obtain ⟨hm, a, cap, rfl, _, hc⟩ := h
  have hmm : L.length ≤ 9223372036854775807 := by unfold maxLen at hm; omega
  have H := Lib.hid hc
  clear hc hm
  go_enter Tryd.func19, Tryd.ntmps19
  go_wp2
  go_loop [3, 4] (fun n i => ∃ k : Nat, k ≤ L.length ∧ i = .int .i64 k ∧ n = .int .i64 (sizeT (L.take k))) (fun _ i => L.length - (intOf i).toNat)
  case atStart => exact ⟨0, Nat.zero_le _, rfl, rfl⟩
  case round =>
    obtain ⟨k, hk, rfl, rfl⟩ := hrel
    by_cases hlt : k < L.length
    · obtain ⟨b, off, rfl, _, g⟩ := H.out (by omega)
      have g1 := g k hlt
      clear g
      obtain ⟨c0, c1, c2, c3⟩ := g1
      have hbk : decide ((k : Int) < (L.length : Int)) = true := by simpa using (show (k : Int) < L.length by omega)
      have hbd : sizeT (L.take k) + L[k].c.size ≤ 1000000000 := by have := sizeT_take L (k + 1); rw [fewer_len L k hlt] at this; omega
      have HS := Lib.hid (fewer_len L k hlt)
      go_wp2
      go_round
      case rel => exact ⟨k + 1, by omega, by go_num, by rw [HS.out]; go_num⟩
      case measure => simp [intOf]; omega
    · go_wp2
      go_ret
      exact ⟨ret_i (by rw [List.take_of_length_le (by omega)]), rfl⟩

theorem take_same {L M : List It} {k : Nat} (hk : k < L.length) (hm : k < M.length) (h : L.take k = M.take k) (h2 : L[k] = M[k]) : L.take (k + 1) = M.take (k + 1) := by
  rw [List.take_succ_eq_append_getElem hk, List.take_succ_eq_append_getElem hm, h, h2]
set_option maxRecDepth 100000 in
set_option maxHeartbeats 2000000 in
theorem rSame_any (v1 v2 : Value) (L M : List It) (w : World) (h1 : IsItems w v1 L) (h2 : IsItems w v2 M) :
    Calls Tryd.prog 12 #[v1, v2] w fun e w' => e = .returned (.bool (sameT L M)) ∧ Below w.heap.size w w' := by
  obtain ⟨hm1, a1, cap1, rfl, _, hc1⟩ := h1
  obtain ⟨hm2, a2, cap2, rfl, _, hc2⟩ := h2
  have hmm1 : L.length ≤ 9223372036854775807 := by unfold maxLen at hm1; omega
  have hmm2 : M.length ≤ 9223372036854775807 := by unfold maxLen at hm2; omega
  have H1 := Lib.hid hc1; have H2 := Lib.hid hc2
  clear hc1 hm1 hc2 hm2
  have hne' : ∀ (x y : It) (w : World), Sem.run Tryd.prog (binOp .neq 27 (itV x) (itV y)) w = .ok (.bool (!eqI x y)) w := fun x y w => neqItem x y w
  have hgd' : ∀ (op : BinOp) (a b : Operand) (x y : It) (w : World), Sem.run Tryd.prog (eqGuard op 27 a b (itV x) (itV y)) w = .ok () w := fun op a b x y w => guardItem op a b x y w
  by_cases hl : L.length = M.length
  · have hll : ((L.length : Int) == (M.length : Int)) = true := beq_iff_eq.2 (by omega)
    have HL := Lib.hid hl
    clear hl
    go_enter Tryd.func12, Tryd.ntmps12
    go_wp2
    go_loopw [5] (fun i wr => ∃ k m : Nat, k ≤ L.length ∧ i = .int .i64 k ∧ L.take k = M.take k ∧ wr = w.drewN m) (fun i _ => L.length - (intOf i).toNat)
    case atStart => exact ⟨0, 0, Nat.zero_le _, rfl, rfl, rfl⟩
    case round =>
      obtain ⟨k, m, hk, rfl, he, rfl⟩ := hrel
      have HE := Lib.hid he; clear he
      by_cases hlt : k < L.length
      · have hlt2 : k < M.length := by have := HL.out; omega
        obtain ⟨b1, o1, rfl, _, g1⟩ := H1.out (by omega)
        obtain ⟨b2, o2, rfl, _, g2⟩ := H2.out (by omega)
        obtain ⟨c0, c1, c2, c3⟩ := g1 k hlt
        obtain ⟨d0, d1, d2, d3⟩ := g2 k hlt2
        clear g1 g2
        have hbk : decide ((k : Int) < (L.length : Int)) = true := by simpa using (show (k : Int) < L.length by omega)
        have hbk2 : decide ((k : Int) < (M.length : Int)) = true := by simpa using (show (k : Int) < M.length by omega)
        have HT := Lib.hid (take_same hlt hlt2 HE.out)
        have HG := Lib.hid (show L[k] ≠ M[k] → L ≠ M from fun h e => h (by subst e; rfl))
        obtain ⟨x, hx⟩ : ∃ x, x = L[k] := ⟨_, rfl⟩
        obtain ⟨y, hy⟩ : ∃ y, y = M[k] := ⟨_, rfl⟩
        rw [← hx] at c0 c1 c2 c3 HT HG
        rw [← hy] at d0 d1 d2 d3 HT HG
        clear hx hy
        by_cases hxy : x = y
        · have q := eqI_yes hxy
          have HT2 := Lib.hid (HT.out hxy)
          clear hxy
          go_wp2_with fail
          go_quiet (fail)
          go_wp2
          go_roundw
          case rel => exact ⟨k + 1, m + nq, by omega, by go_num, HT2.out, by simp [World.drewN]⟩
          case measure => simp [intOf]; omega
        · have q := eqI_no hxy
          have HN := Lib.hid (sameT_no (HG.out hxy))
          clear hxy
          go_wp2_with fail
          go_quiet (fail)
          go_wp2
          go_ret
          exact ⟨by rw [HN.out]; rfl, below_drewN (below_drewN (Below.refl _ _) _) _⟩
      · have hk' : k = L.length := by omega
        have HS : Hid (sameT L M = true) := sameT_yes (by have := HE.out; rwa [hk', List.take_length, HL.out, List.take_length] at this)
        clear hk'
        go_wp2
        go_ret
        exact ⟨by rw [HS.out]; rfl, below_drewN (Below.refl _ _) _⟩
  · have hll : ((L.length : Int) == (M.length : Int)) = false := beq_eq_false_iff_ne.2 (by omega)
    have HN := Lib.hid (sameT_no (show L ≠ M from fun e => hl (by rw [e])))
    clear hl
    go_enter Tryd.func12, Tryd.ntmps12
    go_wp2
    go_ret
    exact ⟨by rw [HN.out]; rfl, Below.refl _ _⟩

theorem find_none_step {L : List It} {t : List UInt8} {k : Nat} (hk : k < L.length) (h : findT (L.take k) t = none) (hne : L[k].t ≠ t) : findT (L.take (k + 1)) t = none := by
  rw [List.take_succ_eq_append_getElem hk, findT_app_none h, findT_cons, if_neg hne]; rfl
theorem find_some_step {L : List It} {t : List UInt8} {k : Nat} (hk : k < L.length) (h : findT (L.take k) t = none) (he : L[k].t = t) : findT L t = some L[k] := by
  conv => lhs; rw [← List.take_append_drop k L]
  rw [findT_app_none h, List.drop_eq_getElem_cons hk, findT_cons, if_pos he]
set_option maxRecDepth 100000 in
set_option maxHeartbeats 2000000 in
theorem rFind_any (v : Value) (L : List It) (s : ByteArray) (w : World) (h : IsItems w v L) :
    Calls Tryd.prog 14 #[v, .string s] w fun e w' => e = .returned (.tuple #[itV (foundI L s.data.toList), .bool (findT L s.data.toList).isSome]) ∧ Below w.heap.size w w' := by
  have HI := Lib.hid h
  obtain ⟨hm, a, cap, rfl, _, hc⟩ := h
  have hmm : L.length ≤ 9223372036854775807 := by unfold maxLen at hm; omega
  clear hc hm
  go_enter Tryd.func14, Tryd.ntmps14
  go_wp2
  go_loop [6] (fun i => ∃ k : Nat, k ≤ L.length ∧ i = .int .i64 k ∧ findT (L.take k) s.data.toList = none) (fun i => L.length - (intOf i).toNat)
  case atStart => exact ⟨0, Nat.zero_le _, rfl, rfl⟩
  case round =>
    obtain ⟨k, hk, rfl, hn⟩ := hrel
    have HN := Lib.hid hn; clear hn
    by_cases hlt : k < L.length
    · have hI := HI.out.stays ((Below.refl _ w).alloc (Nat.le_refl _) (.cells #[.string ⟨#[]⟩, .bool false, .bool false, .string ⟨#[]⟩] 27))
      obtain ⟨_, _, _, e, _, hc⟩ := hI
      cases e
      obtain ⟨b, off, rfl, _, g⟩ := hc (by omega)
      obtain ⟨c0, c1, c2, c3⟩ := g k hlt
      clear g hc
      have hbk : decide ((k : Int) < (L.length : Int)) = true := by simpa using (show (k : Int) < L.length by omega)
      by_cases he : L[k].p = s
      · have HS := Lib.hid (find_some_step hlt HN.out (by rw [It.t, he]))
        have hb1 := beq_true he
        have HE := Lib.hid he; clear he
        go_wp2
        exact bodyPost_ret (v := .tuple #[itV L[k], .bool true]) (by simp [results, Tryd.results14, go_sem]) rfl ⟨by rw [foundI_some HS.out, HS.out]; rfl, (Below.refl _ _).alloc (Nat.le_refl _) _⟩
      · have HS := Lib.hid (find_none_step hlt HN.out (fun e => he (str_eq' e)))
        have hb1 := beq_false he
        clear he
        go_wp2
        go_round
        case rel => exact ⟨k + 1, by omega, by go_num, HS.out⟩
        case measure => simp [intOf]; omega
    · have HS : Hid (findT L s.data.toList = none) := by
        have := HN.out; rwa [List.take_of_length_le (by omega)] at this
      go_wp2
      exact bodyPost_ret (v := .tuple #[itV zeroIt, .bool false]) (by simp [results, Tryd.results14, go_sem, zeroIt]) rfl ⟨by rw [foundI_none HS.out, HS.out]; rfl, (Below.refl _ _).alloc (Nat.le_refl _) _⟩

set_option maxRecDepth 100000 in
set_option maxHeartbeats 2000000 in
theorem rUnder_any (v : Value) (L : List It) (s : ByteArray) (w : World) (h : IsItems w v L) (hs : s.size ≤ 100000) :
    Calls Tryd.prog 28 #[v, .string s] w fun e w' => e = .returned (.bool (underT L s.data.toList)) ∧ Below w.heap.size w w' := by
  have HI := Lib.hid h
  have C := Lib.hid (refDir_any s hs)
  have F := Lib.hid rFind_any
  clear h hs
  obtain ⟨t, ht⟩ : ∃ t, t = s.data.toList := ⟨_, rfl⟩
  rw [← ht] at C ⊢
  clear ht
  by_cases hd : dirS t = []
  · have HU : Hid (underT L t = true) := show _ = _ by unfold underT; rw [hd]; rfl
    have hd2 : (dirS t).isEmpty = true := by rw [hd]; rfl
    have HD := Lib.hid hd
    clear hd
    go_enter Tryd.func28, Tryd.ntmps28
    go_wp2_with fail
    refine (C.out _).mono ?_
    rintro e w1 ⟨rfl, hb1⟩
    go_wp2
    go_ret
    exact ⟨by rw [HU.out]; rfl, hb1⟩
  · have HU : Hid (underT L t = (foundI L (dirS t)).d) := show _ = _ by unfold underT; rw [decide_eq_false hd]; rfl
    have hd2 : (dirS t).isEmpty = false := by simpa using hd
    clear hd
    go_enter Tryd.func28, Tryd.ntmps28
    go_wp2_with fail
    refine (C.out _).mono ?_
    rintro e w1 ⟨rfl, hb1⟩
    have F1 := Lib.hid (F.out v L ⟨(dirS t).toArray⟩ w1 (HI.out.stays hb1))
    go_wp2_with fail
    refine F1.out.mono ?_
    rintro e w2 ⟨rfl, hb2⟩
    have hB := below_step hb1 hb2
    clear hb1 hb2 F1 F
    have hsz := hB.size
    have HN : Hid (¬ (findT L (dirS t)).isSome = true → (foundI L (dirS t)).d = false) := show _ → _ from fun h => by rw [foundI_none (Option.not_isSome_iff_eq_none.1 h)]; rfl
    go_wp2
    · go_ret
      exact ⟨by rw [HU.out]; rfl, hB.alloc hsz _⟩
    · rename_i hh
      go_ret
      exact ⟨by rw [HU.out, HN.out hh]; rfl, hB.alloc hsz _⟩

/-- Few items, of few bytes. -/
def smallI (x : It) : Bool := decide (x.p.size ≤ 400) && decide (x.c.size ≤ 40000)
def fewB (L : List It) : Bool := decide (L.length ≤ 70) && L.all smallI
theorem all_step {L : List It} {k : Nat} (hk : k < L.length) (h : (L.take k).all smallI = true) (hx : smallI L[k] = true) : (L.take (k + 1)).all smallI = true := by
  rw [List.take_succ_eq_append_getElem hk, List.all_append, h]; simpa using hx
theorem not_all_small {L : List It} {k : Nat} (hk : k < L.length) (hx : smallI L[k] = false) : fewB L = false := by
  unfold fewB
  rw [Bool.and_eq_false_iff]; right
  rw [List.all_eq_false]
  exact ⟨L[k], List.getElem_mem _, by rw [hx]; decide⟩
theorem few_len {L : List It} (h : fewB L = true) : L.length ≤ 70 := by
  unfold fewB at h; rw [Bool.and_eq_true] at h; exact of_decide_eq_true h.1
theorem few_mem {L : List It} (h : fewB L = true) : ∀ x ∈ L, x.p.size ≤ 400 ∧ x.c.size ≤ 40000 := by
  unfold fewB at h; rw [Bool.and_eq_true] at h
  intro x hx
  have := List.all_eq_true.1 h.2 x hx
  unfold smallI at this; rw [Bool.and_eq_true] at this
  exact ⟨of_decide_eq_true this.1, of_decide_eq_true this.2⟩
theorem few_mk {L : List It} (h1 : L.length ≤ 70) (h2 : ∀ x ∈ L, x.p.size ≤ 400 ∧ x.c.size ≤ 40000) : fewB L = true := by
  unfold fewB; rw [decide_eq_true h1, Bool.true_and, List.all_eq_true]
  intro x hx
  unfold smallI; rw [decide_eq_true (h2 x hx).1, decide_eq_true (h2 x hx).2]; rfl
set_option maxRecDepth 100000 in
set_option maxHeartbeats 2000000 in
theorem few_any (v : Value) (L : List It) (w : World) (h : IsItems w v L) :
    Calls Tryd.prog 7 #[v] w fun e w' => e = .returned (.bool (fewB L)) ∧ Below w.heap.size w w' := by
  have HI := Lib.hid h
  obtain ⟨hm, a, cap, rfl, _, hc⟩ := h
  have hmm : L.length ≤ 9223372036854775807 := by unfold maxLen at hm; omega
  clear hc hm
  by_cases h70 : 70 < L.length
  · have HF : Hid (fewB L = false) := show _ = _ by unfold fewB; rw [decide_eq_false (by omega)]; rfl
    have e1 : decide ((70 : Int) < (L.length : Int)) = true := decide_eq_true (by omega)
    go_enter Tryd.func7, Tryd.ntmps7
    go_wp2
    go_ret
    exact ⟨by rw [HF.out]; rfl, Below.refl _ _⟩
  · have e1 : decide ((70 : Int) < (L.length : Int)) = false := decide_eq_false (by omega)
    go_enter Tryd.func7, Tryd.ntmps7
    go_wp2
    go_loopw [10] (fun i wr => ∃ k : Nat, k ≤ L.length ∧ i = .int .i64 k ∧ (L.take k).all smallI = true ∧ Below w.heap.size w wr) (fun i _ => L.length - (intOf i).toNat)
    case atStart => exact ⟨0, Nat.zero_le _, rfl, rfl, Below.refl _ _⟩
    case round =>
      obtain ⟨k, hk, rfl, hn, hB⟩ := hrel
      have HN := Lib.hid hn; clear hn
      have hsz := hB.size
      by_cases hlt : k < L.length
      · obtain ⟨_, _, _, e, _, hc⟩ := HI.out.stays hB
        cases e
        obtain ⟨b, off, rfl, hbl, g⟩ := hc (by omega)
        obtain ⟨c0, c1, c2, c3⟩ := g k hlt
        clear g hc
        have hbk : decide ((k : Int) < (L.length : Int)) = true := by simpa using (show (k : Int) < L.length by omega)
        have HST := Lib.hid (all_step hlt HN.out)
        have HNO := Lib.hid (not_all_small hlt)
        obtain ⟨x, hx⟩ : ∃ x, x = L[k] := ⟨_, rfl⟩
        rw [← hx] at c0 c1 c2 c3 HST HNO
        clear hx
        by_cases h1 : x.p.size ≤ 400
        · have e2 : decide ((400 : Int) < (x.p.size : Int)) = false := decide_eq_false (by omega)
          by_cases h2 : x.c.size ≤ 40000
          · have e3 : decide ((40000 : Int) < (x.c.size : Int)) = false := decide_eq_false (by omega)
            have HS := Lib.hid (HST.out (by unfold smallI; rw [decide_eq_true h1, decide_eq_true h2]; rfl))
            clear h1 h2
            go_wp2
            go_roundw
            case rel => exact ⟨k + 1, by omega, by go_num, HS.out, hB.alloc hsz _⟩
            case measure => simp [intOf]; omega
          · have e3 : decide ((40000 : Int) < (x.c.size : Int)) = true := decide_eq_true (by omega)
            have HS := Lib.hid (HNO.out (by unfold smallI; rw [decide_eq_false h2]; simp))
            clear h1 h2
            go_wp2
            go_ret
            exact ⟨by rw [HS.out]; rfl, hB.alloc hsz _⟩
        · have e2 : decide ((400 : Int) < (x.p.size : Int)) = true := decide_eq_true (by omega)
          have HS := Lib.hid (HNO.out (by unfold smallI; rw [decide_eq_false h1]; rfl))
          clear h1
          go_wp2
          go_ret
          exact ⟨by rw [HS.out]; rfl, hB.alloc hsz _⟩
      · have HS : Hid (fewB L = true) := show _ = _ by
          have := HN.out
          rw [List.take_of_length_le (by omega)] at this
          unfold fewB; rw [decide_eq_true (by omega), this]; rfl
        go_wp2
        go_ret
        exact ⟨by rw [HS.out]; rfl, hB⟩
end Go.Proofs.YtelaamchafocpaaDoor
/-
  Contracts over this translation: items appended; the document's below, Drop, with.
-/
set_option linter.unusedVariables false
namespace Go.Proofs.YtelaamchafocpaaDoor
open Go.RowKit
attribute [local go_sem] Oper.semAt_some

/-- A slice of items of the call's own, from block B on. -/
def OwnI (B : Nat) (w : World) (v : Value) (L : List It) : Prop := w.ownsRow B 27 4 v L.length (itCells L)
theorem ownI_nil (B : Nat) (w : World) : OwnI B w (.slice none 0 0) [] := World.ownsRow_nil _ _ _ _
theorem OwnI.items {B : Nat} {w : World} {v : Value} {L : List It} (h : OwnI B w v L) : IsItems w v L := by
  have hlt := h.lt
  have hc := fun g hg => h.cells (g := g) hg
  rcases h.2 with ⟨rfl, h0⟩ | ⟨g, cap, cur, rfl, hb, hg, hle, hm, _⟩
  · obtain rfl := List.length_eq_zero_iff.1 h0
    exact isItems_nil w
  · refine ⟨Nat.le_trans hle hm, some ⟨g, 0, none⟩, cap, rfl, ⟨fun h => (by cases h), hle⟩, fun _ => ⟨g, 0, rfl, (hlt g rfl).2, fun i hi => ?_⟩⟩
    have hh := fun j (hj : j < 4) u (hu : (itC L[i])[j]? = some u) => hc g rfl (i * 4 + j) u (by rw [itCells_get hi hj]; exact hu)
    refine ⟨?_, ?_, ?_, ?_⟩
    · have := hh 0 (by decide) _ rfl; rw [add_plain'] at this; exact this
    · have := hh 1 (by decide) _ rfl; rw [add_plain'] at this; exact this
    · have := hh 2 (by decide) _ rfl; rw [add_plain'] at this; exact this
    · have := hh 3 (by decide) _ rfl; rw [add_plain'] at this; exact this
theorem OwnI.stays {B : Nat} {w w' : World} {v : Value} {L : List It} (h : OwnI B w v L) (hb : Below w.heap.size w w') : OwnI B w' v L :=
  World.ownsRow.kept h (grownBy_of_below hb) (by cases hv : v.ownBlock <;> simp)
theorem cell_four {w : World} {y : It} {t : TypeId} : ∀ j u, (itC y)[j]? = some u → (w.alloc (.cells #[.string y.p, .bool y.d, .bool y.e, .string y.c] t)).cell? ((⟨w.heap.size, 0, none⟩ : Addr).add j) = some u := by
  intro j u hj
  match j, hj with
  | 0, hj => simp at hj; subst hj; simp [Addr.add]
  | 1, hj => simp at hj; subst hj; simp [Addr.add]
  | 2, hj => simp at hj; subst hj; simp [Addr.add]
  | 3, hj => simp at hj; subst hj; simp [Addr.add]
theorem wpList_append_item {ops : Array Oper} {rest : List Oper} {o : Oper} {a : Act} {W w0 : World} {Q : Exit → Act → World → Prop} (hgd : o.guard = none) (s x : Operand)
    (ho : o.op = .call { callee := .builtin .append, args := #[s, x], argTypes := #[22, 22] })
    {v : Value} {M : List It} {y : It} (hown : OwnI W.heap.size w0 v M) (hb : Below W.heap.size W w0) (hs : a.eval s = v)
    (hx : a.eval x = .slice (some ⟨w0.heap.size, 0, none⟩) 1 1) (hlen : M.length ≤ 1000000)
    (h : ∀ v' w', OwnI W.heap.size w' v' (M ++ [y]) → Below W.heap.size W w' → wpList Tryd.prog ops Q rest (a.put o.dst v') w') :
    wpList Tryd.prog ops Q (o :: rest) a (w0.alloc (.cells #[.string y.p, .bool y.d, .bool y.e, .string y.c] 27)) := by
  obtain ⟨i0, hi, hz0, hz1, hz2⟩ := info_parts infoItem
  have hsz := hb.size
  refine wpList_append_own _ hgd s x 22 ho W.heap.size 27 i0 (itV zeroIt) 4 40 Tryd.underlying22 hi hz0 hz1 hz2 rfl (by decide) v M.length (itCells M) hs (World.ownsRow.alloc hown _) ⟨w0.heap.size, 0, none⟩ 1 1 (itC y) hx rfl cell_four ?_ ?_ ?_ ?_ ?_
  · intro u hu; simp at hu; rcases hu with rfl | rfl | rfl | rfl <;> rfl
  · unfold maxLen; omega
  · omega
  · simp; omega
  · intro v' w' hown' hg _
    refine h v' w' ?_ ((hb.alloc hsz _).grown hg (by simp; omega) (fun j hj => (hown.lt j hj).1))
    unfold OwnI
    rw [List.length_append, itCells_app]
    have : itCells [y] = itC y := List.append_nil _
    rw [this]; exact hown'

/-! ## below -/
theorem below_split {l m : List UInt8} (h : m.length < l.length) : belowB l m = (decide (l.take m.length = m) && decide (l[m.length] = 47)) := by
  unfold belowB
  rw [decide_eq_true h, Bool.true_and, List.take_succ_eq_append_getElem h, Bool.eq_iff_iff]
  simp only [decide_eq_true_eq, Bool.and_eq_true]
  constructor
  · intro e
    have hl : (l.take m.length).length = m.length := by rw [List.length_take]; omega
    exact ⟨List.append_inj_left e hl, by simpa using List.append_inj_right e hl⟩
  · rintro ⟨h1, h2⟩; rw [h1, h2]
set_option maxRecDepth 100000 in
set_option maxHeartbeats 2000000 in
theorem rBelow_any (a b : ByteArray) (w : World) (ha : a.size ≤ 1000000) (hb : b.size ≤ 1000000) :
    Calls Tryd.prog 39 #[.string a, .string b] w fun e w' => e = .returned (.bool (belowB a.data.toList b.data.toList)) ∧ w = w' := by
  by_cases hlt : b.size < a.size
  · have e1 : decide ((b.size : Int) < (a.size : Int)) = true := decide_eq_true (by omega)
    have hd := fun W => run_slice_to (P := Tryd.prog) Tryd.underlying9 a b.size (by omega) W
    have hl : b.data.toList.length < a.data.toList.length := by rw [← Lib.size_eq, ← Lib.size_eq]; exact hlt
    have hx : (a.extract 0 b.size).data.toList = a.data.toList.take b.data.toList.length := by rw [Lib.extract_data, Lib.size_eq]; simp
    have hget : a.data.toList[b.data.toList.length] = a[b.size] := by rw [← getE_list a b.size hlt]; congr 1
    have HS := Lib.hid (below_split hl)
    rw [hget, ← hx] at HS
    clear hx hget
    obtain ⟨t, ht⟩ : ∃ t, t = a.extract 0 b.size := ⟨_, rfl⟩
    rw [← ht] at hd HS
    clear ht
    by_cases he : t = b
    · have f1 := beq_true he
      have h1 : decide (t.data.toList = b.data.toList) = true := decide_eq_true (by rw [he])
      by_cases h47 : a[b.size] = 47
      · have c1 : ((a[b.size].toNat : Int) == 47) = true := by rw [h47]; rfl
        have HV : Hid (belowB a.data.toList b.data.toList = true) := show _ = _ by rw [HS.out, h1, decide_eq_true h47]; rfl
        clear he h47 h1
        go_enter Tryd.func39, Tryd.ntmps39
        go_wp2
        go_ret
        exact ⟨by rw [HV.out]; rfl, rfl⟩
      · have c1 : ((a[b.size].toNat : Int) == 47) = false := byte_ne (n := 47) (by decide) h47
        have HV : Hid (belowB a.data.toList b.data.toList = false) := show _ = _ by rw [HS.out, decide_eq_false h47]; simp
        clear he h47 h1
        go_enter Tryd.func39, Tryd.ntmps39
        go_wp2
        go_ret
        exact ⟨by rw [HV.out]; rfl, rfl⟩
    · have f1 := beq_false he
      have HV : Hid (belowB a.data.toList b.data.toList = false) := show _ = _ by rw [HS.out, decide_eq_false (fun e => he (str_eq' e))]; rfl
      clear he
      go_enter Tryd.func39, Tryd.ntmps39
      go_wp2
      go_ret
      exact ⟨by rw [HV.out]; rfl, rfl⟩
  · have e1 : decide ((b.size : Int) < (a.size : Int)) = false := decide_eq_false (by omega)
    have HV : Hid (belowB a.data.toList b.data.toList = false) := show _ = _ by unfold belowB; rw [← Lib.size_eq, ← Lib.size_eq, decide_eq_false hlt]; rfl
    go_enter Tryd.func39, Tryd.ntmps39
    go_wp2
    go_ret
    exact ⟨by rw [HV.out]; rfl, rfl⟩

/-! ## Drop -/
/-- A call that hands back a slice of items, and a number. -/
def RetI (L : List It) (n : Int) (w : World) (e : Ending) (w' : World) : Prop := ∃ v, e = .returned (.tuple #[v, .int .i64 n]) ∧ IsItems w' v L ∧ Below w.heap.size w w'
theorem drop_step {L : List It} {t : List UInt8} {k : Nat} (hk : k < L.length) : dropT (L.take (k + 1)) t = dropT (L.take k) t ++ if (decide (L[k].t = t) || belowB L[k].t t) = true then [] else [L[k]] := by
  unfold dropT
  rw [List.take_succ_eq_append_getElem hk, List.filter_append]
  congr 1
  rw [List.filter_cons, List.filter_nil]
  cases h : (decide (L[k].t = t) || belowB L[k].t t) <;> rfl
theorem drop_len (L : List It) (t : List UInt8) : (dropT L t).length ≤ L.length := List.length_filter_le _ _
set_option maxRecDepth 100000 in
set_option maxHeartbeats 2000000 in
theorem rDrop_any (v : Value) (L : List It) (s : ByteArray) (w : World) (h : IsItems w v L) (hf : fewB L = true) (hs : s.size ≤ 1000000) :
    Calls Tryd.prog 23 #[v, .string s] w (RetI (goneT L s.data.toList) (if (findT L s.data.toList).isSome then 0 else 5) w) := by
  have HI := Lib.hid h
  have F := Lib.hid rFind_any
  have HFEW := Lib.hid (few_mem hf)
  have h70 := few_len hf
  obtain ⟨hm, a, cap, rfl, _, hc⟩ := h
  clear hc hf
  have F1 := Lib.hid (F.out (.slice a L.length cap) L s w HI.out)
  clear F
  obtain ⟨t, ht⟩ : ∃ t, t = s.data.toList := ⟨_, rfl⟩
  have HT := Lib.hid ht
  rw [← ht] at F1 ⊢
  clear ht
  rcases hfd : findT L t with _ | y
  · have HG : Hid (goneT L t = L) := show _ = _ by unfold goneT; rw [hfd]; rfl
    rw [hfd] at F1
    clear hfd
    go_enter Tryd.func23, Tryd.ntmps23
    go_wp2_with fail
    refine F1.out.mono ?_
    rintro e w1 ⟨rfl, hb1⟩
    have hsz := hb1.size
    have HI1 := Lib.hid (HI.out.stays hb1)
    clear F1
    go_wp2
    go_ret2
    exact ⟨_, rfl, by rw [HG.out]; exact HI1.out.stays ((Below.refl _ _).alloc (Nat.le_refl _) _), hb1.alloc hsz _⟩
  · have HG : Hid (goneT L t = dropT L t) := show _ = _ by unfold goneT; rw [hfd]; rfl
    rw [hfd] at F1
    clear hfd
    have BL := Lib.hid rBelow_any
    go_enter Tryd.func23, Tryd.ntmps23
    go_wp2_with fail
    refine F1.out.mono ?_
    rintro e w1 ⟨rfl, hb1⟩
    have hsz := hb1.size
    clear F1
    go_wp2_with fail
    go_loopw [8, 9] (fun o i wr => ∃ k : Nat, k ≤ L.length ∧ i = .int .i64 k ∧ OwnI w.heap.size wr o (dropT (L.take k) t) ∧ Below w.heap.size w wr) (fun _ i _ => L.length - (intOf i).toNat)
    case atStart => exact ⟨0, Nat.zero_le _, rfl, ownI_nil _ _, hb1.alloc hsz _⟩
    case round =>
      clear hb1 hsz
      obtain ⟨k, hk, rfl, hown, hB⟩ := hrel
      have HO := Lib.hid hown; clear hown
      by_cases hlt : k < L.length
      · obtain ⟨_, _, _, e, _, hc⟩ := HI.out.stays hB
        cases e
        obtain ⟨b, off, rfl, hbl, g⟩ := hc (by omega)
        obtain ⟨c0, c1, c2, c3⟩ := g k hlt
        clear g hc
        have hbk : decide ((k : Int) < (L.length : Int)) = true := by simpa using (show (k : Int) < L.length by omega)
        have HST := Lib.hid (drop_step (t := t) hlt)
        have hol : (dropT (L.take k) t).length ≤ 1000000 := Nat.le_trans (drop_len _ _) (by rw [List.length_take]; omega)
        have hxs := (HFEW.out _ (List.getElem_mem hlt)).1
        obtain ⟨x, hx⟩ : ∃ x, x = L[k] := ⟨_, rfl⟩
        rw [← hx] at c0 c1 c2 c3 HST hxs
        clear hx
        have BL1 := Lib.hid (BL.out x.p s · (by omega) hs)
        by_cases h1 : x.p = s
        · have f1 := beq_true h1
          have HE : Hid (dropT (L.take (k + 1)) t = dropT (L.take k) t) := show _ = _ by
            rw [HST.out, show x.t = t from by rw [It.t, h1, HT.out]]; simp
          clear h1
          go_wp2
          go_roundw
          case rel => exact ⟨k + 1, by omega, by go_num, by rw [HE.out]; exact HO.out, hB⟩
          case measure => simp [intOf]; omega
        · have f1 := beq_false h1
          have hne : x.t ≠ t := fun e => h1 (str_eq' (by rw [← HT.out]; exact e))
          have HEX : Hid (dropT (L.take (k + 1)) t = dropT (L.take k) t ++ if belowB x.t t = true then [] else [x]) := show _ = _ by
            rw [HST.out, decide_eq_false hne, Bool.false_or]
          clear h1 hne HST
          have BL2 := BL1
          rw [show x.p.data.toList = x.t from rfl, ← HT.out] at BL2
          clear BL1
          rcases hbb : belowB x.t t with _ | _
          · rw [hbb] at BL2
            have HE : Hid (dropT (L.take (k + 1)) t = dropT (L.take k) t ++ [x]) := show _ = _ by rw [HEX.out, hbb]; rfl
            clear hbb HEX
            go_wp2_with fail
            refine (BL2.out _).mono ?_
            rintro e w2 ⟨rfl, rfl⟩
            go_wp2_with (at_builtin; refine wpList_append_item rfl _ _ rfl HO.out hB rfl rfl hol ?_)
            intro v' w2 hown' hb2
            have HO2 := Lib.hid hown'; clear hown'
            go_wp2_with fail
            go_roundw
            case rel => exact ⟨k + 1, by omega, by go_num, by rw [HE.out]; exact HO2.out, hb2⟩
            case measure => simp [intOf]; omega
          · rw [hbb] at BL2
            have HE : Hid (dropT (L.take (k + 1)) t = dropT (L.take k) t) := show _ = _ by rw [HEX.out, hbb]; simp
            clear hbb HEX
            go_wp2_with fail
            refine (BL2.out _).mono ?_
            rintro e w2 ⟨rfl, rfl⟩
            go_wp2
            go_roundw
            case rel => exact ⟨k + 1, by omega, by go_num, by rw [HE.out]; exact HO.out, hB⟩
            case measure => simp [intOf]; omega
      · have HST := Lib.hid (by have := HO.out.items; rw [List.take_of_length_le (by omega)] at this; exact this)
        clear HO
        go_wp2
        go_ret2
        exact ⟨_, rfl, by rw [HG.out]; exact HST.out, hB⟩
end Go.Proofs.YtelaamchafocpaaDoor
/-
  A range over a function whose iterator has blocks of its own (some lie ahead of the loop, or it makes them: 'A n b': block b is its own if it begins in a world of n blocks), and which may be left by a jump. Of no program.
-/
set_option linter.unusedVariables false
namespace Go.Proofs.YtelaamchafocpaaDoor
open Go Go.RowKit

/-- Some blocks lie as they lay. -/
def KeepsAt (A : Nat → Prop) (X Y : World) : Prop := ∀ k, A k → Y.heap[k]? = X.heap[k]?
theorem KeepsAt.trans {A : Nat → Prop} {X Y Z : World} (h : KeepsAt A X Y) (h' : KeepsAt A Y Z) : KeepsAt A X Z := fun k hk => (h' k hk).trans (h k hk)
theorem KeepsAt.mono {A A' : Nat → Prop} {X Y : World} (h : KeepsAt A X Y) (hA : ∀ k, A' k → A k) : KeepsAt A' X Y := fun k hk => h k (hA k hk)
theorem KeepsAt.put {A : Nat → Prop} {W : World} {l : Nat} {o : Obj} (h : ¬ A l) : KeepsAt A W (W.putObj l o) := fun k hk => World.putObj_heap_other (fun e => h (e ▸ hk))
theorem KeepsAt.below {A : Nat → Prop} {X Y : World} (h : Below X.heap.size X Y) (hA : ∀ k, A k → k < X.heap.size) : KeepsAt A X Y := fun k hk => h.block k (hA k hk)
theorem KeepsAt.refl {A : Nat → Prop} (X : World) : KeepsAt A X X := fun _ _ => rfl
/-- A round: what is the iterator's own lies as it lay, and the loop's own two objects. -/
def winPost {α : Type} (A : Nat → Prop) (D : Nat) (I : List α → World → Prop) (Ix : Code → List α → World → Prop) (pre : List α) (W : World) : Exit → Act → World → Prop
  | .normal, _, Y => KeepsAt (fun k => A k ∨ k = D ∨ k = D + 1) W Y ∧ I pre Y
  | .ret, _, Y => KeepsAt (fun k => k = D ∨ k = D + 1) W Y ∧ Ix .ret pre Y
  | .exit id, _, Y => KeepsAt (fun k => k = D ∨ k = D + 1) W Y ∧ Ix (.exit id) pre Y
  | .goto t, _, Y => KeepsAt (fun k => k = D ∨ k = D + 1) W Y ∧ Ix (.goto t) pre Y
  | _, _, _ => False

/-- What the iterator gives: it may write the blocks of its own between two rounds; a round leaves them be. 'stops': may a round say 'no more'? -/
def SeqOwn {α : Type} (F : Fence) (n : Nat) (P : Program) (g : Nat) (lb : Array Value) (encs : α → Array Value) (A : Nat → Nat → Prop) (K : Nat) (stops : Prop) (S Sp : List α → Prop) (N : Nat) (w : World) : Prop :=
  ∀ (l : Nat) (J Jx : List α → World → Prop) (W : World), Below w.heap.size w W → (∀ s X, Jx s X → stops) →
    (∀ s b X Y, A W.heap.size b → J s X → X.grownBy Y (some b) → J s Y) → (∀ s b X Y, A W.heap.size b → Jx s X → X.grownBy Y (some b) → Jx s Y) →
    (∀ pre x X, J pre X → pre.length < N → (0 < K → W.heap.size + K ≤ X.heap.size) → YieldAt F (n - 1) P l (encs x) X fun e Y =>
      (e = .returned (.bool true) ∧ J (pre ++ [x]) Y ∧ KeepsAt (A W.heap.size) X Y) ∨ (e = .returned (.bool false) ∧ Jx (pre ++ [x]) Y)) → J [] W →
      CallsIn F n P g (#[.func (.yield l) #[] #[]] ++ lb) W fun e Y => (∃ v, e = .returned v) ∧ ((∃ xs, S xs ∧ J xs Y) ∨ (∃ pre, Sp pre ∧ Jx pre Y))

variable {F : Fence} {n : Nat} {P : Program}
theorem wpIn_rangeFunc_win {α : Type} {g : Operand} {ps : Array Tmp} {assign body : Code} {Q : Exit → Act → World → Prop} {a : Act} {w : World}
    (hro : F.round = none) (h1 : 1 ≤ n) {gf : Nat} {lb : Array Value} (hg : a.eval g = .func (.func gf) #[] lb) (hF : F.fn gf) (eg : ∀ args w, (callFunc gf args).run P w = .ok (.enter gf args) w)
    {encs : α → Array Value} {A : Nat → Nat → Prop} {K : Nat} {stops : Prop} {S Sp : List α → Prop} {N : Nat} {w0 : World} (hseq : SeqOwn F (n - 1) P gf lb encs A K stops S Sp N w0)
    (hb0 : Below w0.heap.size w0 w) (hps : ∀ x, (encs x).size = ps.size)
    (hA : ∀ b, A (w.heap.size + 2) b → b ≠ w.heap.size ∧ b ≠ w.heap.size + 1)
    (I : List α → World → Prop) (Ix : Code → List α → World → Prop)
    (hI : ∀ s b X Y, (A (w.heap.size + 2) b ∨ b = w.heap.size ∨ b = w.heap.size + 1) → I s X → X.grownBy Y (some b) → I s Y)
    (hIx : ∀ c s b X Y, (A (w.heap.size + 2) b ∨ b = w.heap.size ∨ b = w.heap.size + 1) → Ix c s X → X.grownBy Y (some b) → Ix c s Y)
    (hst : ∀ c s X, Ix c s X → stops)
    (hI0 : ∀ o, I [] ((w.alloc (.deferred (some []))).alloc (.loop o)))
    (a₁ : α → Act)
    (hassign : ∀ (l : Nat) (x : α) (W : World) (K : Act → World → Prop), K (a₁ x) W →
      assign.wpIn (F.inRound l) (n - 1 - 1) P (Exit.then K (fun _ _ _ => False)) { tmps := (ps.zip (encs x)).foldl (fun t (p, v) => t.setIfInBounds p v) a.tmps, defers := [] } W)
    (hbody : ∀ (l : Nat) (pre : List α) (x : α) (W : World), I pre W → pre.length < N → (0 < K → w.heap.size + 2 + K ≤ W.heap.size) → body.wpIn (F.inRound l) (n - 1 - 1) P (winPost (A (w.heap.size + 2)) w.heap.size I Ix (pre ++ [x]) W) (a₁ x) W)
    (hdone : ∀ (xs : List α) (W : World), S xs → I xs W → W.heap[w.heap.size]? = some (.deferred (some [])) → Q .normal { a with defers := { target := .collected w.heap.size, args := #[] } :: a.defers } W)
    (hstop : ∀ (c : Code) (pre : List α) (W : World), Sp pre → Ix c pre W → W.heap[w.heap.size]? = some (.deferred (some [])) → c.wpIn F n P Q { a with defers := { target := .collected w.heap.size, args := #[] } :: a.defers } W) :
    (Code.rangeFunc g ps assign body).wpIn F n P Q a w := by
  refine wpIn_rangeFunc fun fn hfn => ?_
  rw [hro]
  obtain ⟨rec, hrec⟩ : ∃ rec : LoopState → Option Code → Loop, rec = fun st pe => { state := st, pending := pe, fn, tmps := a.tmps, params := ps, assign, body, defers := w.heap.size } := ⟨_, rfl⟩
  obtain ⟨W1, hW1⟩ : ∃ W1, (w.alloc (.deferred (some []))).alloc (.loop (rec .ready none)) = W1 := ⟨_, rfl⟩
  have hL1 : W1.heap[w.heap.size + 1]? = some (.loop (rec .ready none)) := by
    rw [← hW1]; have := World.alloc_heap_new (w.alloc (.deferred (some []))) (.loop (rec .ready none)); rwa [World.size_alloc] at this
  have hK1 : W1.heap[w.heap.size]? = some (.deferred (some [])) := by
    rw [← hW1]; exact (Below.heap_alloc _ _ _ (by simp)).trans (World.alloc_heap_new w _)
  have hs1 : W1.heap.size = w.heap.size + 2 := by rw [← hW1]; simp
  have hI1 : I [] W1 := by rw [← hW1]; exact hI0 _
  have hb1 : Below w0.heap.size w0 W1 := by
    rw [← hW1]; exact hb0.trans ((((Below.refl _ w).alloc (Nat.le_refl _) _).alloc (by simp) _).mono hb0.size)
  refine ⟨w.heap.size + 1, [{ target := .collected w.heap.size, args := #[] }], W1, { target := .fn (.func gf) lb, args := #[.func (.yield (w.heap.size + 1)) #[] #[]] }, W1, gf,
    #[.func (.yield (w.heap.size + 1)) #[] #[]] ++ lb, W1, ?_, ?_, ?_, ?_, fun _ => h1, ?_⟩
  · rw [← hW1, hrec]; exact run_enterLoop_outer _ _ _ _ _
  · simp only [resolve, hg]
    simp [go_sem]
  · intro f' hf'; simp [Target.leads] at hf'; subst hf'; exact hF
  · simp [invoke, go_sem, eg]
  · have keep : ∀ {X Y : World} {b k : Nat} {o : Obj}, X.heap[k]? = some o → X.grownBy Y (some b) → b ≠ k → Y.heap[k]? = some o :=
      fun hx hg hne => (hg.block _ (Array.getElem?_eq_some_iff.1 hx).1 (fun e => hne (by cases e; rfl))).trans hx
    refine (hseq (w.heap.size + 1)
      (fun pre W => I pre W ∧ W.heap[w.heap.size + 1]? = some (.loop (rec .ready none)) ∧ W.heap[w.heap.size]? = some (.deferred (some [])))
      (fun pre W => ∃ c, Ix c pre W ∧ W.heap[w.heap.size + 1]? = some (.loop (rec .done (some c))) ∧ W.heap[w.heap.size]? = some (.deferred (some [])))
      W1 hb1 (fun s X h => by obtain ⟨c, hc, _⟩ := h; exact hst c s X hc)
      (fun s b X Y hb hs hg' => by
        rw [hs1] at hb
        exact ⟨hI s b X Y (.inl hb) hs.1 hg', keep hs.2.1 hg' (hA b hb).2, keep hs.2.2 hg' (hA b hb).1⟩)
      (fun s b X Y hb hs hg' => by
        rw [hs1] at hb
        obtain ⟨c, hc, hl, hk⟩ := hs
        exact ⟨c, hIx c s b X Y (.inl hb) hc hg', keep hl hg' (hA b hb).2, keep hk hg' (hA b hb).1⟩)
      ?_ ⟨hI1, hL1, hK1⟩).mono ?_
    · rintro pre x W ⟨hi, hl, hk⟩ hlen hsz
      rw [hs1] at hsz ⊢
      have hlt : w.heap.size + 1 < W.heap.size := (Array.getElem?_eq_some_iff.1 hl).1
      have hy := run_yield (P := P) (args := encs x) hl (by rw [hrec]; exact hps x)
      rw [hrec] at hy
      refine ⟨fn, _, assign, body, hy, roundIn_of_wpIn hfn (hassign _ x W _ ⟨_, run_beginRound hl (by rw [hrec]), ?_⟩)⟩
      have hl2 : (W.putObj (w.heap.size + 1) (.loop { rec .ready none with state := .busy })).heap[w.heap.size + 1]? = some (.loop { rec .ready none with state := .busy }) := World.putObj_heap_same hlt
      have hk2 : (W.putObj (w.heap.size + 1) (.loop { rec .ready none with state := .busy })).heap[w.heap.size]? = some (.deferred (some [])) := (World.putObj_heap_other (by omega)).trans hk
      have hkA : ∀ (W : World) (o : Obj), KeepsAt (A (w.heap.size + 2)) W (W.putObj (w.heap.size + 1) o) := fun W o => KeepsAt.put (fun h => (hA _ h).2 rfl)
      refine wpIn_mono (hbody _ pre x _ (hI _ _ _ _ (.inr (.inr rfl)) hi (grownBy_putObj' _ _ _)) hlen (fun hK => Nat.le_trans (hsz hK) (grownBy_putObj' W _ _).size)) ?_
      have fin : ∀ (jump : Option Code) (W3 : World), W3.heap[w.heap.size + 1]? = some (.loop { rec .ready none with state := .busy }) → W3.heap[w.heap.size]? = some (.deferred (some [])) →
          (Instr.endRound (w.heap.size + 1) jump).run P W3 = .ok (.bool jump.isNone) (W3.putObj (w.heap.size + 1) (.loop (rec (if jump.isNone then .ready else .done) jump))) ∧
          (W3.putObj (w.heap.size + 1) (.loop (rec (if jump.isNone then .ready else .done) jump))).heap[w.heap.size + 1]? = some (.loop (rec (if jump.isNone then .ready else .done) jump)) ∧
          (W3.putObj (w.heap.size + 1) (.loop (rec (if jump.isNone then .ready else .done) jump))).heap[w.heap.size]? = some (.deferred (some [])) := fun jump W3 hl3 hk3 => by
        have := run_endRound (P := P) jump hl3
        rw [hrec] at this ⊢
        exact ⟨this, World.putObj_heap_same (Array.getElem?_eq_some_iff.1 hl3).1, (World.putObj_heap_other (by omega)).trans hk3⟩
      rintro e a3 W3 hp
      have hL3 : ∀ {B : Nat → Prop}, KeepsAt B (W.putObj (w.heap.size + 1) (.loop { rec .ready none with state := .busy })) W3 → B (w.heap.size + 1) → W3.heap[w.heap.size + 1]? = some (.loop { rec .ready none with state := .busy }) := fun h hB => (h _ hB).trans hl2
      have hD3 : ∀ {B : Nat → Prop}, KeepsAt B (W.putObj (w.heap.size + 1) (.loop { rec .ready none with state := .busy })) W3 → B w.heap.size → W3.heap[w.heap.size]? = some (.deferred (some [])) := fun h hB => (h _ hB).trans hk2
      cases e with
      | normal =>
        obtain ⟨hk3, hi3⟩ := hp
        obtain ⟨hr, hl4, hk4⟩ := fin none W3 (hL3 hk3 (.inr (.inr rfl))) (hD3 hk3 (.inr (.inl rfl)))
        exact ⟨_, _, hr, .inl ⟨rfl, ⟨hI _ _ _ _ (.inr (.inr rfl)) hi3 (grownBy_putObj' _ _ _), hl4, hk4⟩, ((hkA W _).trans (hk3.mono (fun k h => .inl h))).trans (hkA W3 _)⟩⟩
      | ret =>
        obtain ⟨hk3, hi3⟩ := hp
        obtain ⟨hr, hl4, hk4⟩ := fin (some .ret) W3 (hL3 hk3 (.inr rfl)) (hD3 hk3 (.inl rfl))
        exact ⟨_, _, hr, .inr ⟨rfl, .ret, hIx _ _ _ _ _ (.inr (.inr rfl)) hi3 (grownBy_putObj' _ _ _), hl4, hk4⟩⟩
      | exit id =>
        obtain ⟨hk3, hi3⟩ := hp
        obtain ⟨hr, hl4, hk4⟩ := fin (some (.exit id)) W3 (hL3 hk3 (.inr rfl)) (hD3 hk3 (.inl rfl))
        exact ⟨_, _, hr, .inr ⟨rfl, .exit id, hIx _ _ _ _ _ (.inr (.inr rfl)) hi3 (grownBy_putObj' _ _ _), hl4, hk4⟩⟩
      | goto t =>
        obtain ⟨hk3, hi3⟩ := hp
        obtain ⟨hr, hl4, hk4⟩ := fin (some (.goto t)) W3 (hL3 hk3 (.inr rfl)) (hD3 hk3 (.inl rfl))
        exact ⟨_, _, hr, .inr ⟨rfl, .goto t, hIx _ _ _ _ _ (.inr (.inr rfl)) hi3 (grownBy_putObj' _ _ _), hl4, hk4⟩⟩
      | panic ch => exact hp.elim
      | outgrown => exact hp.elim
    · rintro e W2 ⟨⟨v, rfl⟩, (⟨xs, hS, hi, hl, hk⟩ | ⟨pre, hSp, c, hi, hl, hk⟩)⟩
      · exact ⟨none, _, by have := run_endLoop (P := P) hl (by rw [hrec]; simp); rw [hrec] at this; exact this, hdone xs _ hS (hI _ _ _ _ (.inr (.inr rfl)) hi (grownBy_putObj' _ _ _)) ((World.putObj_heap_other (by omega)).trans hk)⟩
      · exact ⟨some c, _, by have := run_endLoop (P := P) hl (by rw [hrec]; simp); rw [hrec] at this; exact this, hstop c pre _ hSp (hIx _ _ _ _ _ (.inr (.inr rfl)) hi (grownBy_putObj' _ _ _)) ((World.putObj_heap_other (by omega)).trans hk)⟩
end Go.Proofs.YtelaamchafocpaaDoor
/-
  Contracts over this translation: strings.IndexRune of a rune that is no ASCII byte in "/\x00".
-/
set_option linter.unusedVariables false
namespace Go.Proofs.YtelaamchafocpaaDoor
open Go.RowKit Go.Shelf
attribute [local go_sem] Oper.semAt_some

abbrev badS : ByteArray := ⟨#[47, 0]⟩

set_option maxRecDepth 100000 in
theorem IndexByte_any (s : ByteArray) (c : UInt8) (w : World) : Calls Tryd.prog 100 #[.string s, .int .u8 c.toNat] w fun e w' => e = .returned (.int .i64 (Lib.indexByte s.data.toList c)) ∧ w = w' := by
  have C := Any.strings_IndexByte Tryd.lays137 s (c.toNat : Int) w
  change Calls Tryd.prog 100 _ _ _ at C
  refine C.mono ?_
  rintro e w' ⟨rfl, rfl⟩
  exact ⟨by simp, rfl⟩

/-- A rune is valid. -/
def runeB (c : Int) : Bool := (decide (0 ≤ c) && decide (c < 55296)) || (decide (57343 < c) && decide (c ≤ 1114111))
theorem ValidRune_any (c : Int) (h0 : 128 ≤ c) (w : World) : Calls Tryd.prog 101 #[.int .i32 c] w fun e w' => e = .returned (.bool (runeB c)) ∧ w = w' := by
  have a0 : decide ((0 : Int) ≤ c) = true := decide_eq_true (by omega)
  by_cases h1 : c < 55296
  · have a1 : decide (c < 55296) = true := decide_eq_true h1
    have HN : Hid (runeB c = true) := by show _ = _; simp [runeB, a0, a1]
    go_enter Tryd.func101, Tryd.ntmps101
    go_wp2
    go_ret
    exact ⟨ret_val (congrArg Value.bool HN.out.symm), rfl⟩
  · have a1 : decide (c < 55296) = false := decide_eq_false h1
    by_cases h2 : 57343 < c
    · have a2 : decide (57343 < c) = true := decide_eq_true h2
      by_cases h3 : c ≤ 1114111
      · have a3 : decide (c ≤ 1114111) = true := decide_eq_true h3
        have HN : Hid (runeB c = true) := by show _ = _; simp [runeB, a2, a3]
        go_enter Tryd.func101, Tryd.ntmps101
        go_wp2
        go_ret
        exact ⟨ret_val (congrArg Value.bool HN.out.symm), rfl⟩
      · have a3 : decide (c ≤ 1114111) = false := decide_eq_false h3
        have HN : Hid (runeB c = false) := by show _ = _; simp [runeB, a1, a3]
        go_enter Tryd.func101, Tryd.ntmps101
        go_wp2
        go_ret
        exact ⟨ret_val (congrArg Value.bool HN.out.symm), rfl⟩
    · have a2 : decide (57343 < c) = false := decide_eq_false h2
      have HN : Hid (runeB c = false) := by show _ = _; simp [runeB, a1, a2]
      go_enter Tryd.func101, Tryd.ntmps101
      go_wp2
      go_ret
      exact ⟨ret_val (congrArg Value.bool HN.out.symm), rfl⟩

/-- A rune's bytes. -/
theorem encode_high {c : Int} (h : 128 ≤ c) : 2 ≤ (Utf8.encode c).size ∧ (Utf8.encode c).size ≤ 4 ∧ ∀ k (hk : k < (Utf8.encode c).size), k + 1 = (Utf8.encode c).size → ((Utf8.encode c)[k].toNat : Int) ≠ 0 := by
  obtain ⟨n, hn⟩ : ∃ n, n = if Utf8.valid c then c.toNat else Utf8.runeError := ⟨_, rfl⟩
  have hn1 : 128 ≤ n := by rw [hn]; split; omega; decide
  have key : ∀ m : Nat, ((UInt8.ofNat (128 + m % 64)).toNat : Int) ≠ 0 := fun m => by
    rw [UInt8.toNat_ofNat']; omega
  have two : ∀ a b : UInt8, (⟨#[a, b]⟩ : ByteArray).size = 2 := fun _ _ => rfl
  have three : ∀ a b c : UInt8, (⟨#[a, b, c]⟩ : ByteArray).size = 3 := fun _ _ _ => rfl
  have four : ∀ a b c d : UInt8, (⟨#[a, b, c, d]⟩ : ByteArray).size = 4 := fun _ _ _ _ => rfl
  unfold Utf8.encode
  rw [← hn]
  simp only
  split
  · omega
  · split
    · refine ⟨by rw [two]; omega, by rw [two]; omega, fun k hk e => ?_⟩
      rw [two] at e; obtain rfl : k = 1 := by omega
      exact key n
    · split
      · refine ⟨by rw [three]; omega, by rw [three]; omega, fun k hk e => ?_⟩
        rw [three] at e; obtain rfl : k = 2 := by omega
        exact key n
      · refine ⟨by rw [four]; omega, by rw [four]; omega, fun k hk e => ?_⟩
        rw [four] at e; obtain rfl : k = 3 := by omega
        exact key n

set_option maxRecDepth 100000 in
set_option maxHeartbeats 4000000 in
theorem IndexRune_high (c : Int) (h : 128 ≤ c) (hc : c ≤ 2147483647) (w : World) : Calls Tryd.prog 88 #[.string badS, .int .i32 c] w fun e w' => e = .returned (.int .i64 (-1)) ∧ Below w.heap.size w w' := by
  have a0 : decide (c < 128) = false := decide_eq_false (by omega)
  have a00 : decide ((0 : Int) ≤ c) = true := decide_eq_true (by omega)
  by_cases he : c = 65533
  · subst he
    go_enter Tryd.func88, Tryd.ntmps88
    go_wp2
    go_loopg [5, 6] 2 (fun g _ _ wx => ∃ i : Nat, i + g = 2 ∧ wx = w.iter badS i)
    case atStart => exact ⟨0, by omega, rfl⟩
    case round =>
      obtain ⟨i, hig, rfl⟩ := hrel
      cases gk with
      | zero =>
        obtain rfl : i = 2 := by omega
        have hnx := run_next_end (P := Tryd.prog) w badS 2
        go_wp2
        go_ret
        exact ⟨rfl, (Below.refl _ _).alloc (Nat.le_refl _) _⟩
      | succ g =>
        have hi : i < badS.size := by show i < 2; omega
        have hx : (badS[i]'hi).toNat < 128 := by
          rcases (show i = 0 ∨ i = 1 by omega) with rfl | rfl
          · exact (by decide : 47 < 128)
          · exact (by decide : 0 < 128)
        have hnx := fun ty => run_next_ascii (P := Tryd.prog) w badS i ty hi hx
        obtain ⟨x, hxx⟩ : ∃ x, x = (badS[i]'hi).toNat := ⟨_, rfl⟩
        rw [← hxx] at hnx hx
        have hne : ((x : Int) == 65533) = false := beq_eq_false_iff_ne.2 (by omega)
        clear hxx
        go_wp2
        go_roundg g
        case measure => omega
        case rel => exact ⟨i + 1, by omega, rfl⟩
  · have a1 : (c == 65533) = false := beq_eq_false_iff_ne.2 he
    have V := Lib.hid (ValidRune_any c h)
    rcases hv : runeB c with _ | _
    · rw [hv] at V
      go_enter Tryd.func88, Tryd.ntmps88
      go_wp2_with fail
      refine (V.out _).mono ?_
      rintro e w1 ⟨rfl, rfl⟩
      go_wp2
      go_ret
      exact ⟨rfl, Below.refl _ _⟩
    · rw [hv] at V
      obtain ⟨hz1, hz2, hlast⟩ := encode_high h
      clear hv
      by_cases hz : (Utf8.encode c).size = 2
      · have hl := hlast 1 (by omega) (by omega)
        have hu0 : (((badS[1]'(by decide)).toNat : Int) != (((Utf8.encode c)[1]'(by omega)).toNat : Int)) = true := bne_iff_ne.2 (fun e => hl e.symm)
        have hw2 : IntKind.i64.wrap 2 = 2 := by rw [IntKind.wrap_i64]; decide
        have hs2 := fun W => run_slice_from (P := Tryd.prog) Tryd.underlying9 badS 2 (by decide) W
        have CI := Lib.hid (fun (x : ByteArray) (hx : x.data.toList = []) (u : UInt8) W => show Calls Tryd.prog 100 #[.string x, .int .u8 u.toNat] W fun e w' => e = .returned (.int .i64 (-1)) ∧ w' = W from (IndexByte_any x u W).mono fun e w' h => ⟨by rw [h.1, hx]; rfl, h.2.symm⟩)
        clear hlast hl
        go_enter Tryd.func88, Tryd.ntmps88
        go_wp2_with fail
        refine (V.out _).mono ?_
        rintro e w1 ⟨rfl, rfl⟩
        go_wp2_with fail
        apply wp_scope_straight
        go_wp2_with fail
        go_loopw [9, 10] (fun i f wx => i = .int .i64 1 ∧ f = .int .i64 0 ∧ wx = w) (fun _ _ _ => 0)
        case atStart => exact ⟨rfl, rfl, rfl⟩
        case round =>
          obtain ⟨rfl, rfl, rfl⟩ := hrel
          go_wp2_with fail
          apply wp_scope_straight
          go_wp2_with fail
          go_quiet (fail)
          go_wp2_with fail
          have hBw := below_drewN (Below.refl wr.heap.size wr) nq
          generalize wr.drewN nq = wq at hBw ⊢
          go_quiet ((go_at_call 100; exact Calls.quiet_of_same (CI.out ByteArray.empty (by rfl) _ _)))
          go_wp2_with fail
          rw [Exit.noGoto_ret]
          go_wp2_with fail
          rw [Exit.noGoto_ret]
          go_wp2
          go_ret
          exact ⟨rfl, below_drewN hBw _⟩
      · have hz3 : 3 ≤ (Utf8.encode c).size := by omega
        obtain ⟨rs, hrs⟩ : ∃ rs, rs = Utf8.encode c := ⟨_, rfl⟩
        have HZ3 := Lib.hid hz3
        clear hlast hz
        go_enter Tryd.func88, Tryd.ntmps88
        go_wp2_with fail
        refine (V.out _).mono ?_
        rintro e w1 ⟨rfl, rfl⟩
        go_wp2_with fail
        apply wp_scope_straight
        go_wp2_with fail
        rw [← hrs] at hz3 hz1 hz2 ⊢
        clear hrs
        have hlt : decide ((rs.size : Int) - 1 < 2) = false := decide_eq_false (by omega)
        go_loopw [9, 10] (fun i f wx => i = .int .i64 ((rs.size : Int) - 1) ∧ f = .int .i64 0 ∧ wx = w) (fun _ _ _ => 0)
        case atStart => exact ⟨rfl, rfl, rfl⟩
        case round =>
          obtain ⟨rfl, rfl, rfl⟩ := hrel
          go_wp2_with fail
          rw [Exit.noGoto_ret]
          go_wp2
          go_ret
          exact ⟨rfl, Below.refl _ _⟩
end Go.Proofs.YtelaamchafocpaaDoor
/-
  Contracts over this translation: strings.IndexAny and strings.ContainsAny of any short text in "/\x00"; path.Name.
-/
set_option linter.unusedVariables false
namespace Go.Proofs.YtelaamchafocpaaDoor
open Go.RowKit Go.Shelf
attribute [local go_sem] Oper.semAt_some

/-- A 0 or a slash is there. -/
def dirtyB (l : List UInt8) : Bool := decide ((0 : UInt8) ∈ l ∨ (47 : UInt8) ∈ l)
theorem index_ge (l c : List UInt8) : -1 ≤ Lib.indexAny l c := by
  induction l with
  | nil => simp [Lib.indexAny]
  | cons b l ih =>
    simp only [Lib.indexAny]
    split
    · omega
    · split <;> omega
theorem index_dirty (l : List UInt8) : decide (0 ≤ Lib.indexAny l [47, 0]) = dirtyB l := by
  unfold dirtyB
  refine decide_eq_decide.2 ?_
  induction l with
  | nil => simp [Lib.indexAny]
  | cons b l ih =>
    have hg := index_ge l [47, 0]
    simp only [Lib.indexAny]
    by_cases hb : b = 0 ∨ b = 47
    · have hc : ([47, 0] : List UInt8).contains b = true := by rcases hb with rfl | rfl <;> decide
      rw [if_pos hc]
      constructor
      · intro _; rcases hb with rfl | rfl <;> simp
      · intro _; omega
    · have hc : ([47, 0] : List UInt8).contains b = false := by
        simp only [List.contains_cons, List.contains_nil, Bool.or_false]
        simp only [not_or] at hb
        simp [hb.1, hb.2]
      rw [hc, if_neg (by decide)]
      have e : ((0 : UInt8) ∈ b :: l ∨ (47 : UInt8) ∈ b :: l) ↔ ((0 : UInt8) ∈ l ∨ (47 : UInt8) ∈ l) := by
        simp only [not_or] at hb
        simp [Ne.symm hb.1, Ne.symm hb.2]
      rw [e, ← ih]
      by_cases h1 : Lib.indexAny l [47, 0] = -1
      · rw [h1]; simp
      · have : (Lib.indexAny l [47, 0] == -1) = false := beq_eq_false_iff_ne.2 h1
        rw [this, if_neg (by decide)]; omega

theorem cont_high (b : Nat) (h : (b / 64 == 2) = true) : 128 ≤ b := by
  have : b / 64 = 2 := by simpa using h
  omega
theorem decode_span (s : ByteArray) (pos : Nat) (h : pos < s.size) (ha : 128 ≤ (s[pos]'h).toNat) :
    1 ≤ (Utf8.decode s pos).2 ∧ pos + (Utf8.decode s pos).2 ≤ s.size ∧ ∀ j (hj : j < s.size), pos ≤ j → j < pos + (Utf8.decode s pos).2 → 128 ≤ (s[j]'hj).toNat := by
  have cont : ∀ k, (decide (pos + k < s.size) && (s.get! (pos + k)).toNat / 64 == 2) = true → ∃ hk : pos + k < s.size, 128 ≤ (s[pos + k]'hk).toNat := fun k hk => by
    rw [Bool.and_eq_true] at hk
    have h1 : pos + k < s.size := of_decide_eq_true hk.1
    refine ⟨h1, ?_⟩
    have := cont_high _ hk.2
    rwa [show s.get! (pos + k) = s[pos + k]'h1 by simp [ByteArray.get!, getElem!_pos, h1]; rfl] at this
  have one : ∀ j (hj : j < s.size), pos ≤ j → j < pos + 1 → 128 ≤ (s[j]'hj).toNat := fun j hj h1 h2 => by
    obtain rfl : j = pos := by omega
    exact ha
  have hn : ¬ (s[pos]'h).toNat < 128 := by omega
  simp only [Utf8.decode, get_at s pos h, hn, if_false]
  split
  · rename_i hc
    split
    · rw [Bool.and_eq_true] at hc
      obtain ⟨k1, h1⟩ := cont 1 hc.2
      refine ⟨by omega, by show pos + 2 ≤ _; omega, fun j hj a b => ?_⟩
      change j < pos + 2 at b
      rcases (show j = pos ∨ j = pos + 1 by omega) with rfl | rfl
      · exact ha
      · exact h1
    · exact ⟨Nat.le_refl _, by show pos + 1 ≤ _; omega, one⟩
  · split
    · rename_i hc
      split
      · simp only [Bool.and_eq_true] at hc
        obtain ⟨k1, h1⟩ := cont 1 (by simp only [Bool.and_eq_true]; exact hc.1.2)
        obtain ⟨k2, h2⟩ := cont 2 (by simp only [Bool.and_eq_true]; exact hc.2)
        refine ⟨by show 1 ≤ 3; omega, by show pos + 3 ≤ _; omega, fun j hj a b => ?_⟩
        change j < pos + 3 at b
        rcases (show j = pos ∨ j = pos + 1 ∨ j = pos + 2 by omega) with rfl | rfl | rfl
        · exact ha
        · exact h1
        · exact h2
      · exact ⟨Nat.le_refl _, by show pos + 1 ≤ _; omega, one⟩
    · split
      · rename_i hc
        split
        · simp only [Bool.and_eq_true] at hc
          obtain ⟨k1, h1⟩ := cont 1 (by simp only [Bool.and_eq_true]; exact hc.1.1.2)
          obtain ⟨k2, h2⟩ := cont 2 (by simp only [Bool.and_eq_true]; exact hc.1.2)
          obtain ⟨k3, h3⟩ := cont 3 (by simp only [Bool.and_eq_true]; exact hc.2)
          refine ⟨by show 1 ≤ 4; omega, by show pos + 4 ≤ _; omega, fun j hj a b => ?_⟩
          change j < pos + 4 at b
          rcases (show j = pos ∨ j = pos + 1 ∨ j = pos + 2 ∨ j = pos + 3 by omega) with rfl | rfl | rfl | rfl
          · exact ha
          · exact h1
          · exact h2
          · exact h3
        · exact ⟨Nat.le_refl _, by show pos + 1 ≤ _; omega, one⟩
      · exact ⟨Nat.le_refl _, by show pos + 1 ≤ _; omega, one⟩

theorem clean_more {s : ByteArray} {k : Nat} (h : CleanTo s.data.toList k) : ∀ n, k + n ≤ s.size → (∀ j (hj : j < s.size), k ≤ j → j < k + n → 128 ≤ (s[j]'hj).toNat) → CleanTo s.data.toList (k + n)
  | 0, _, _ => h
  | n + 1, hn, hh => by
    have := clean_more h n (by omega) (fun j hj a b => hh j hj a (by omega))
    have hb := hh (k + n) (by omega) (by omega) (by omega)
    have hlt : k + n < s.size := by omega
    exact clean_step this hlt (fun (e : s[k + n] = 0) => by rw [e] at hb; exact absurd hb (by decide)) (fun (e : s[k + n] = 47) => by rw [e] at hb; exact absurd hb (by decide))

def RetIx (l : List UInt8) (w : World) (e : Ending) (w' : World) : Prop := ∃ r : Int, e = .returned (.int .i64 r) ∧ decide (0 ≤ r) = dirtyB l ∧ Below w.heap.size w w'

theorem dirty_at {s : ByteArray} {k : Nat} (hk : k < s.size) (h : s[k] = 0 ∨ s[k] = 47) : dirtyB s.data.toList = true := decide_eq_true (by
  rcases h with h | h
  · exact .inl (h ▸ mem_at hk)
  · exact .inr (h ▸ mem_at hk))
theorem dirty_not {s : ByteArray} (h : CleanTo s.data.toList s.size) : dirtyB s.data.toList = false := decide_eq_false (fun hh => by
  rcases hh with e | e
  · exact (clean_all h).1 e
  · exact (clean_all h).2 e)

theorem useSet (n : Nat) (w : World) : Calls Tryd.prog 89 #[.int .i64 n] w fun e w' => e = .returned (.bool (decide ((8 : Int) < (n : Int)))) ∧ w = w' := by
  go_enter Tryd.func89, Tryd.ntmps89
  go_wp2
  go_ret
  exact ⟨rfl, rfl⟩
theorem runeAscii (x : UInt8) (h : x.toNat < 128) (w : World) : Calls Tryd.prog 88 #[.string badS, .int .i32 x.toNat] w fun e w' => e = .returned (.int .i64 (Lib.indexByte [47, 0] x)) ∧ w = w' := by
  have C := Any.strings_IndexRune_ascii Tryd.lays152 badS (x.toNat : Int) w (by omega) (by omega)
  change Calls Tryd.prog 88 _ _ _ at C
  refine C.mono ?_
  rintro e w' ⟨rfl, rfl⟩
  exact ⟨by simp, rfl⟩
theorem index_no {u : UInt8} (h0 : ¬ u = 0) (h47 : ¬ u = 47) : Lib.indexByte [47, 0] u = -1 := by
  have a : ((47 : UInt8) == u) = false := beq_eq_false_iff_ne.2 (fun e => h47 e.symm)
  have b : ((0 : UInt8) == u) = false := beq_eq_false_iff_ne.2 (fun e => h0 e.symm)
  simp [Lib.indexByte, a, b]
theorem badS_list : badS.data.toList = [47, 0] := rfl

set_option maxRecDepth 100000 in
set_option maxHeartbeats 4000000 in
theorem IndexAny_short (s : ByteArray) (h8 : s.size ≤ 8) (w : World) : Calls Tryd.prog 80 #[.string s, .string badS] w (RetIx s.data.toList w) := by
  have h8z : decide ((8 : Int) < (s.size : Int)) = false := decide_eq_false (by omega)
  have US := Lib.hid (useSet s.size)
  rw [h8z] at US
  have RA := Lib.hid runeAscii
  have RH := Lib.hid IndexRune_high
  clear h8z
  go_enter Tryd.func80, Tryd.ntmps80
  go_wp2_with fail
  refine (US.out _).mono ?_
  rintro e w1 ⟨rfl, rfl⟩
  go_wp2_with fail
  go_loopg [9, 10] s.size (fun g _ _ wx => ∃ i : Nat, i ≤ s.size ∧ i + g = s.size ∧ wx.heap[w.heap.size]? = some (.stringIter s i) ∧ CleanTo s.data.toList i ∧ Below w.heap.size w wx)
  case atStart => exact ⟨0, Nat.zero_le _, by omega, World.iter_heap _ _ _, clean_zero _, (Below.refl _ _).alloc (Nat.le_refl _) _⟩
  case round =>
    obtain ⟨i, hi0, hig, hk, hc, hb⟩ := hrel
    have HC := Lib.hid hc; have HK := Lib.hid hk
    clear hc
    by_cases hi : i < s.size
    · by_cases hx : (s[i]'hi).toNat < 128
      · have hnx := fun ty => Lib.run_next_ascii_at (P := Tryd.prog) wr w.heap.size s i ty hk hi hx
        have HK2 := Lib.hid (Lib.iterAt_heap wr w.heap.size s i (i + 1) hk)
        have hb2 := Lib.below_iterAt hb (Nat.le_refl _) s (i + 1)
        have R := Lib.hid (RA.out (s[i]'hi) hx)
        clear hk
        by_cases hbad : s[i] = 0 ∨ s[i] = 47
        · have HD := Lib.hid (dirty_at hi hbad)
          have hr : ∃ r : Int, Lib.indexByte [47, 0] (s[i]'hi) = r ∧ 0 ≤ r := by
            rcases hbad with e | e <;> rw [e]
            · exact ⟨1, by decide, by decide⟩
            · exact ⟨0, by decide, by decide⟩
          obtain ⟨r, hr1, hr2⟩ := hr
          rw [hr1] at R
          have hr3 : decide ((0 : Int) ≤ r) = true := decide_eq_true hr2
          obtain ⟨x, hxx⟩ : ∃ x, x = (s[i]'hi) := ⟨_, rfl⟩
          rw [← hxx] at hnx R hx
          clear hxx hbad hr1
          go_wp2_with ((with_reducible refine (R.out _).mono ?_); rintro e w2 ⟨rfl, rfl⟩)
          go_ret
          exact ⟨_, rfl, by rw [HD.out]; exact decide_eq_true (by omega), hb2⟩
        · have hr : Lib.indexByte [47, 0] (s[i]'hi) = -1 := by
            simp only [not_or] at hbad
            exact index_no hbad.1 hbad.2
          rw [hr] at R
          have HS := Lib.hid (clean_step HC.out hi (fun e => hbad (.inl e)) (fun e => hbad (.inr e)))
          obtain ⟨x, hxx⟩ : ∃ x, x = (s[i]'hi) := ⟨_, rfl⟩
          rw [← hxx] at hnx R hx
          clear hxx hbad hr
          go_wp2_with ((with_reducible refine (R.out _).mono ?_); rintro e w2 ⟨rfl, rfl⟩)
          go_roundg (s.size - (i + 1))
          case measure => omega
          case rel => exact ⟨i + 1, by omega, by omega, HK2.out, HS.out, hb2⟩
      · have hnx := fun ty => Lib.run_next_any_at (P := Tryd.prog) wr w.heap.size s i ty hk hi
        obtain ⟨hd1, hd2⟩ := decode_high s i hi (by omega)
        have hd3 := decode_le s i
        obtain ⟨_, hd4, hd5⟩ := decode_span s i hi (by omega)
        have HS := Lib.hid (clean_more HC.out _ hd4 hd5)
        obtain ⟨r, hr⟩ : ∃ r, r = (Utf8.decode s i).1 := ⟨_, rfl⟩
        obtain ⟨n, hn⟩ : ∃ n, n = (Utf8.decode s i).2 := ⟨_, rfl⟩
        rw [← hr] at hnx hd1 hd3
        rw [← hn] at hnx hd2 hd4 HS
        have HK2 := Lib.hid (Lib.iterAt_heap wr w.heap.size s i (i + n) hk)
        have hb2 := Lib.below_iterAt hb (Nat.le_refl _) s (i + n)
        have R := Lib.hid (RH.out (r : Int) (by omega) (by omega))
        clear hk hr hn hd5 hx
        go_wp2_with ((with_reducible refine (R.out _).mono ?_); rintro e w2 ⟨rfl, hb3⟩)
        have hb4 := hb2.trans (hb3.mono hb2.size)
        have HK3 := Lib.hid ((hb3.block w.heap.size (Array.getElem?_eq_some_iff.1 HK2.out).1).trans HK2.out)
        clear hb3
        go_roundg (s.size - (i + n))
        case measure => omega
        case rel => exact ⟨i + n, by omega, by omega, HK3.out, HS.out, hb4⟩
    · obtain rfl : i = s.size := by omega
      have hnx := fun ty => Lib.run_next_end_at (P := Tryd.prog) wr w.heap.size s s.size ty hk (Nat.lt_irrefl _)
      have HD := Lib.hid (dirty_not HC.out)
      clear hk
      go_wp2
      go_ret
      exact ⟨-1, rfl, by rw [HD.out]; decide, hb⟩

theorem zeroSet : (Tryd.prog.info? 99).map (fun i => (i.zero, i.size)) = some (some (.agg (Array.replicate 256 (.bool false))), 256) := by kernel_rfl
set_option maxRecDepth 100000 in
theorem IndexAny_any (s : ByteArray) (hs : s.size ≤ 1000) (w : World) : Calls Tryd.prog 80 #[.string s, .string badS] w (RetIx s.data.toList w) := by
  by_cases h8 : s.size ≤ 8
  · exact IndexAny_short s h8 w
  · have C := Any.strings_IndexAny_long Tryd.lays153 (zero_of_info zeroSet).1 (zero_of_info zeroSet).2 s badS w (by decide) (by omega) (by omega) (by decide) (fun j b hb => by
      rw [badS_list] at hb
      match j, hb with
      | 0, hb => cases hb; decide
      | 1, hb => cases hb; decide)
    change Calls Tryd.prog 80 _ _ _ at C
    refine C.mono ?_
    rintro e w' ⟨rfl, rfl⟩
    exact ⟨_, rfl, index_dirty _, ((Below.refl _ _).alloc (Nat.le_refl _) _).alloc (by simp) _⟩

set_option maxRecDepth 100000 in
theorem ContainsAny_any (s : ByteArray) (hs : s.size ≤ 1000) (w : World) : Calls Tryd.prog 70 #[.string s, .string badS] w fun e w' => e = .returned (.bool (dirtyB s.data.toList)) ∧ Below w.heap.size w w' := by
  have C := Lib.hid (IndexAny_any s hs)
  go_enter Tryd.func70, Tryd.ntmps70
  go_wp2_with fail
  refine (C.out _).mono ?_
  rintro e w1 ⟨r, rfl, hr, hb⟩
  have HR := Lib.hid hr
  clear hr
  go_wp2
  go_ret
  exact ⟨ret_val (congrArg Value.bool HR.out), hb⟩

theorem name_dirty {l : List UInt8} (h : dirtyB l = true) : nameB l = false := nameB_no fun hh => by
  rcases of_decide_eq_true h with e | e
  · exact hh.2.2.2.2.1 e
  · exact hh.2.2.2.2.2 e
theorem name_clean {l : List UInt8} (h : dirtyB l = false) (h1 : 1 ≤ l.length) (h2 : l.length ≤ 31) (h3 : l ≠ [46]) (h4 : l ≠ [46, 46]) : nameB l = true := by
  have := of_decide_eq_false h
  exact nameB_mk ⟨h1, h2, h3, h4, fun e => this (.inl e), fun e => this (.inr e)⟩
set_option maxRecDepth 100000 in
set_option maxHeartbeats 1000000 in
theorem Name_any (s : ByteArray) (w : World) : Calls Tryd.prog 61 #[.string s] w fun e w' => e = .returned (.bool (nameB s.data.toList)) ∧ Below w.heap.size w w' := by
  by_cases hd : s.data.toList = [46]
  · have e2 : (s.toList == [46]) = true := by rw [one_dot]; exact decide_eq_true hd
    have HN : Hid (nameB s.data.toList = false) := nameB_no (fun hh => hh.2.2.1 hd)
    clear hd
    go_enter Tryd.func61, Tryd.ntmps61
    go_wp2
    go_ret
    exact ⟨ret_val (congrArg Value.bool HN.out.symm), Below.refl _ _⟩
  · have e2 : (s.toList == [46]) = false := by rw [one_dot]; exact decide_eq_false hd
    by_cases hd2 : s.data.toList = [46, 46]
    · have e3 : (s.toList == [46, 46]) = true := by rw [two_dots]; exact decide_eq_true hd2
      have HN : Hid (nameB s.data.toList = false) := nameB_no (fun hh => hh.2.2.2.1 hd2)
      clear hd hd2
      go_enter Tryd.func61, Tryd.ntmps61
      go_wp2
      go_ret
      exact ⟨ret_val (congrArg Value.bool HN.out.symm), Below.refl _ _⟩
    · have e3 : (s.toList == [46, 46]) = false := by rw [two_dots]; exact decide_eq_false hd2
      have HD := Lib.hid hd; have HD2 := Lib.hid hd2
      clear hd hd2
      by_cases h0 : 0 < s.size
      · have z0 : decide ((0 : Int) < (s.size : Int)) = true := decide_eq_true (by omega)
        by_cases h31 : s.size ≤ 31
        · have z1 : decide ((s.size : Int) ≤ 31) = true := decide_eq_true (by omega)
          have C := Lib.hid (ContainsAny_any s (by omega))
          rcases hb : dirtyB s.data.toList with _ | _
          · have HN : Hid (nameB s.data.toList = true) := name_clean hb (by rw [← Lib.size_eq]; omega) (by rw [← Lib.size_eq]; omega) HD.out HD2.out
            rw [hb] at C; clear hb
            go_enter Tryd.func61, Tryd.ntmps61
            go_wp2_with fail
            refine (C.out _).mono ?_
            rintro e w1 ⟨rfl, hb1⟩
            go_wp2
            go_ret
            exact ⟨ret_val (congrArg Value.bool HN.out.symm), hb1⟩
          · have HN : Hid (nameB s.data.toList = false) := name_dirty hb
            rw [hb] at C; clear hb
            go_enter Tryd.func61, Tryd.ntmps61
            go_wp2_with fail
            refine (C.out _).mono ?_
            rintro e w1 ⟨rfl, hb1⟩
            go_wp2
            go_ret
            exact ⟨ret_val (congrArg Value.bool HN.out.symm), hb1⟩
        · have z1 : decide ((s.size : Int) ≤ 31) = false := decide_eq_false (by omega)
          have HN : Hid (nameB s.data.toList = false) := nameB_no (fun hh => by rw [← Lib.size_eq] at hh; omega)
          clear h31
          go_enter Tryd.func61, Tryd.ntmps61
          go_wp2
          go_ret
          exact ⟨ret_val (congrArg Value.bool HN.out.symm), Below.refl _ _⟩
      · have z0 : decide ((0 : Int) < (s.size : Int)) = false := decide_eq_false (by omega)
        have HN : Hid (nameB s.data.toList = false) := nameB_no (fun hh => by rw [← Lib.size_eq] at hh; omega)
        have h0' : ¬ 0 < s.size := h0
        go_enter Tryd.func61, Tryd.ntmps61
        go_wp2
        go_ret
        exact ⟨ret_val (congrArg Value.bool HN.out.symm), Below.refl _ _⟩
end Go.Proofs.YtelaamchafocpaaDoor
/-
  Contracts of strings.Builder's copyCheck, WriteByte and String over this translation: a builder that the call itself has made, read or not. The world: what lies below the builder stands, and every block that is no row of bytes stands.
-/
set_option linter.unusedVariables false
namespace Go.Proofs.YtelaamchafocpaaDoor
open Go.RowKit Go.Shelf

theorem sizeBuilder : (Tryd.prog.info? 85).map (fun i => i.size) = some 2 := by kernel_rfl
theorem infoByte : (Tryd.prog.info? 5).map (fun i => (i.zero, i.size, i.bytes)) = some (some (.int .u8 0), 1, 1) := by kernel_rfl
theorem liesBuilder : liesAt Tryd.prog Tryd.prog.depth 85 (2 / Tryd.prog.cellsOf 85) 0 85 1 = true := by kernel_rfl

set_option maxHeartbeats 1000000 in
set_option maxRecDepth 100000 in
theorem copyCheck_used (b : Nat) (w : World) (h0 : w.cell? ⟨b, 0, none⟩ = some (.pointer (some ⟨b, 0, none⟩))) :
    Calls Tryd.prog 81 #[.pointer (some ⟨b, 0, none⟩)] w fun e w' => e = .returned (.tuple #[]) ∧ w' = w := by
  obtain ⟨j, hj, _⟩ := Option.map_eq_some_iff.1 sizeBuilder
  go_enter Tryd.func81, Tryd.ntmps81
  go_wp2
  rw [Lib.run_neq_ptr_same w _ Tryd.underlying83 hj]
  go_wp2
  go_end0
  exact ⟨rfl, rfl⟩

set_option maxHeartbeats 1000000 in
set_option maxRecDepth 100000 in
theorem copyCheck_fresh (b : Nat) (w : World) (h0 : w.cell? ⟨b, 0, none⟩ = some (.pointer none)) (hsh : w.shape? b = some (85, 2)) (hfz : w.frozen? ⟨b, 0, none⟩ = false) :
    Calls Tryd.prog 81 #[.pointer (some ⟨b, 0, none⟩)] w fun e w' => e = .returned (.tuple #[]) ∧ w' = w.setCell ⟨b, 0, none⟩ (.pointer (some ⟨b, 0, none⟩)) := by
  obtain ⟨j, hj, hjs⟩ := Option.map_eq_some_iff.1 sizeBuilder
  have hl := liesBuilder
  go_enter Tryd.func81, Tryd.ntmps81
  go_wp2
  rw [Lib.run_to_unsafe w ⟨b, 0, none⟩ Tryd.underlying83 Tryd.underlying104 hj (by rw [hjs]; decide) hsh (Nat.zero_lt_succ 1)]
  simp only [Result.andThen]
  rw [Oper.upon_value]
  go_wp2
  rw [run_callFunc_extern Tryd.func92 (by kernel_rfl) (by kernel_rfl) (by kernel_rfl) (e := Extern.AbiNoEscape.same) (by kernel_rfl)]
  rw [Lib.run_noEscape]
  simp only [Result.andThen]
  rw [Oper.upon_value]
  go_wp2
  rw [Lib.run_from_unsafe w ⟨b, 0, none⟩ Tryd.underlying104 Tryd.underlying83 hj hsh hl]
  simp only [Result.andThen]
  rw [Oper.upon_value]
  go_wp2
  go_end0
  exact ⟨rfl, rfl⟩

theorem copyCheck_k (B b : Nat) (bs : List Value) (w : World) (h : Lib.IsBuilderF 85 5 B b bs w) :
    Calls Tryd.prog 81 #[.pointer (some ⟨b, 0, none⟩)] w fun e w' => e = .returned (.tuple #[]) ∧ (Lib.BuilderAtF 85 5 B b (.pointer (some ⟨b, 0, none⟩)) bs w' ∧ Below B w w' ∧ Lib.OthersKept 5 (some b) w w') := by
  rcases h with h | h
  · refine (copyCheck_fresh b w h.cell0 h.shape h.frozen0).mono ?_
    rintro e w' ⟨rfl, rfl⟩
    exact ⟨rfl, h.used _, (Below.refl B w).setCell (p := ⟨b, 0, none⟩) h.1 _, (Lib.OthersKept.refl _ _ w).setCell ⟨b, 0, none⟩ rfl _⟩
  · refine (copyCheck_used b w h.cell0).mono ?_
    rintro e w' ⟨rfl, rfl⟩
    exact ⟨rfl, h, Below.refl B _, Lib.OthersKept.refl _ _ _⟩

theorem cellsByte : Tryd.prog.cellsOf 5 = 1 := by kernel_rfl

set_option maxHeartbeats 2000000 in
set_option maxRecDepth 100000 in
theorem String_full_k (B b : Nat) (l : List UInt8) (w : World) (h : Lib.IsBuilderF 85 5 B b (Lib.byteCells l) w) (h0 : l ≠ []) :
    Calls Tryd.prog 73 #[.pointer (some ⟨b, 0, none⟩)] w fun e w' => e = .returned (.string ⟨l.toArray⟩) ∧ (Lib.IsBuilderF 85 5 B b (Lib.byteCells l) w' ∧ Below B w w' ∧ Lib.OthersKept 5 (some b) w w') := by
  obtain ⟨p, hp, hAt⟩ : ∃ p, (p = .pointer none ∨ p = .pointer (some ⟨b, 0, none⟩)) ∧ Lib.BuilderAtF 85 5 B b p (Lib.byteCells l) w := by
    rcases h with h | h
    · exact ⟨_, .inl rfl, h⟩
    · exact ⟨_, .inr rfl, h⟩
  obtain ⟨hB, v, hbk, hown, hne⟩ := hAt
  have hl0 : l.length ≠ 0 := by simpa using h0
  rw [Lib.byteCells_length] at hown
  obtain ⟨g, cap, cur, fz, rfl, hbg, hg, hfz, hnc, hcm, hcs, htake⟩ : ∃ g cap cur fz, v = .slice (some ⟨g, 0, none⟩) l.length cap ∧ B ≤ g ∧ w.heap[g]? = some (.cells cur 5 fz) ∧ fz.2 ≤ l.length * 1 ∧ l.length ≤ cap ∧ cap ≤ maxLen ∧ cur.size = cap * 1 ∧ cur.toList.take (l.length * 1) = Lib.byteCells l := by
    rcases hown.2 with ⟨_, hz⟩ | ⟨g, cap, cur, fz, hv, r⟩
    · exact absurd hz hl0
    · exact ⟨g, cap, cur, fz, hv, r⟩
  have c1 : w.drew.cell? ⟨b, 1, none⟩ = some (.slice (some ⟨g, 0, none⟩) l.length cap) := by
    have : w.drew.heap[b]? = some (.cells #[p, .slice (some ⟨g, 0, none⟩) l.length cap] 85 (0, 0)) := hbk
    rw [Lib.cell_of_heap this]; rfl
  have hSD : (Builtin.unsafeSliceData_ #[81] 82 #[.slice (some ⟨g, 0, none⟩) l.length cap]).run Tryd.prog w.drew = .ok (.pointer (some ⟨g, 0, none⟩)) w.drew :=
    Lib.run_unsafeSliceData_row _ _ _ _ _ _ (by omega)
  have hUS : (Builtin.unsafeString_ #[82, 3] 9 #[.pointer (some ⟨g, 0, none⟩), .int .i64 l.length]).run Tryd.prog w.drew = .ok (.string ⟨l.toArray⟩) (w.drew.freeze ⟨g, 0, none⟩ l.length) := by
    refine Lib.run_unsafeString_row w.drew 82 3 9 5 Tryd.underlying82 cellsByte g cur.size (by have hg' : w.drew.heap[g]? = some (.cells cur 5 fz) := hg; simp [World.shape?, hg']) l h0 (by omega) (by unfold maxLen at hcm; omega) ?_
    intro j x hx
    have := hown.cells (g := g) rfl j (.int .u8 x.toNat) (by simp [Lib.byteCells, hx])
    exact this
  have hkeep : Lib.IsBuilderF 85 5 B b (Lib.byteCells l) (w.drew.freeze ⟨g, 0, none⟩ l.length) := by
    have hA : Lib.BuilderAtF 85 5 B b p (Lib.byteCells l) w.drew := ⟨hB, _, hbk, by rw [Lib.byteCells_length]; exact hown, hne⟩
    have hF := hA.froze (g := g) (cap := cap) (by rw [Lib.byteCells_length]; exact c1)
    rw [Lib.byteCells_length] at hF
    rcases hp with rfl | rfl
    · exact .inl hF
    · exact .inr hF
  go_enter Tryd.func73, Tryd.ntmps73
  go_wp2
  go_region
  all_goals (go_wp2; go_ret; exact ⟨rfl, hkeep, Lib.below_freeze (Below.drew (Below.refl B w)) (p := ⟨g, 0, none⟩) hbg _, ((Lib.OthersKept.refl _ _ w).drew).freeze ⟨g, 0, none⟩ _ ⟨cur, fz, hg⟩⟩)

set_option maxHeartbeats 2000000 in
set_option maxRecDepth 100000 in
/-- Of a builder that nothing was written to. -/
theorem String_nil_k (B b : Nat) (p : Value) (w : World) (hbk : w.heap[b]? = some (.cells #[p, .slice none 0 0] 85 (0, 0))) :
    Calls Tryd.prog 73 #[.pointer (some ⟨b, 0, none⟩)] w fun e w' => e = .returned (.string ⟨#[]⟩) ∧ Below B w w' := by
  have hUS : ∀ W q, (Builtin.unsafeString_ #[82, 3] 9 #[.pointer q, .int .i64 0]).run Tryd.prog W = .ok (.string .empty) W := fun W q => Lib.run_unsafeString_none W _ _ _ q
  have c1 : w.drew.cell? ⟨b, 1, none⟩ = some (.slice none 0 0) := by
    have : w.drew.heap[b]? = some (.cells #[p, .slice none 0 0] 85 (0, 0)) := hbk
    rw [Lib.cell_of_heap this]; rfl
  have hSD : (Builtin.unsafeSliceData_ #[81] 82 #[.slice none 0 0]).run Tryd.prog w.drew = .ok (.pointer none) w.drew := rfl
  go_enter Tryd.func73, Tryd.ntmps73
  go_wp2
  go_region
  all_goals (go_wp2; go_ret; exact ⟨rfl, Below.drew (Below.refl B w)⟩)

end Go.Proofs.YtelaamchafocpaaDoor

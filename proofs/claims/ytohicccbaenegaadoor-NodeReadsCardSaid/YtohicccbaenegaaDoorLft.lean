/-
  From a reading of the arguments to a walk's facts, and back behind it: of no program.
-/
import Derived.WideKeyArgs
import Derived.Below
import Derived.OpenShut
import Derived.Deep.Slices
import Derived.ProofKit
import Derived.Laws.Rows
import Derived.DataReads
namespace Go.Proofs.YtohicccbaenegaaDoor
open Go.ChangeShapes Go.WideShapes Go.RowKit Go.Deep

section
variable {H : Type} {enc : TypeId × Value → H} {P : Program}

/-- What reads read on, whatever was made behind it. -/
theorem trodAll_stays (hl : laidOutB P = true) {W W' : World} {sp' : Nat → Bool} (hb : Below W.heap.size W W') : ∀ {ts : List TypeId} {vs : List Value} {ds : List (DataW H)} {ps : List MemPlace},
    (ts.all fun t => P.readableRec t && decide (t < P.types.size)) = true → DataW.TrodAll enc P W 0 (fun _ => true) true ts vs ds ps → (∀ p ∈ ps, p.block < W.heap.size) → (∀ p ∈ ps, sp' p.block = true) →
    DataW.TrodAll enc P W' 0 sp' true ts vs ds ps
  | [], _, _, _, _, h, _, _ => by
    obtain ⟨rfl, rfl, rfl⟩ := trodAll_nil h
    exact trodAll_mk0
  | t :: ts, _, _, _, hr, h, hlt, hsp => by
    obtain ⟨v, vs1, d, ds1, a, b, rfl, rfl, rfl, h1, h2⟩ := trodAll_cons h
    simp only [List.all_cons, Bool.and_eq_true, decide_eq_true_eq] at hr
    obtain ⟨⟨hr1, hr2⟩, hr3⟩ := hr
    exact trodAll_cons_mk (WideElems.Trod_stays hl hr1 hr2 h1 (fun p hp => hb.same (hlt p (List.mem_append.2 (.inl hp)))) (fun p hp => hsp p (List.mem_append.2 (.inl hp))))
      (trodAll_stays hl hb hr3 h2 (fun p hp => hlt p (List.mem_append.2 (.inr hp))) (fun p hp => hsp p (List.mem_append.2 (.inr hp))))

variable {w : World} {base : Nat} {spare : Nat → Bool} {held : Bool} {fuel : Nat} {t e : TypeId} {cs : List Value} {x : DataW H × List MemPlace}
/-- An array of numbers, as cells. -/
theorem trod_ints_arr {n : Nat} {q : IntKind} (ht : P.underlying t = some (.array n e)) (he : P.underlying e = some (.int q)) (hce : P.cellsOf e = 1) (hct : P.cellsOf t = n)
    (h : DataW.trod enc P w base spare held fuel t cs = some x) : ∃ ns : List Int, ns.length = n ∧ cs = ns.map (Value.int q) ∧ ∀ z ∈ ns, (Lit.int q z).wf = true := by
  obtain ⟨xs, m, _, _, hl, hxl, hi⟩ := DataW.trod_array ht h
  rw [hct] at hl
  have one : ∀ i (hin : i < cs.length), ∃ z, cs[i] = .int q z ∧ (Lit.int q z).wf = true := fun i hin => by
    have h1 := hi i (by omega)
    rw [hce, Nat.mul_one, show (cs.drop i).take 1 = [cs[i]] by rw [List.drop_eq_getElem_cons hin]; rfl, List.getElem?_eq_getElem (by omega)] at h1
    obtain ⟨z, hz, _, hw⟩ := DataW.trod_int he h1
    exact ⟨z, by simpa using hz, hw⟩
  refine ⟨cs.map fun v => match v with | .int _ z => z | _ => 0, by simpa using hl, ?_, ?_⟩
  · apply List.ext_getElem
    · simp
    · intro i h1 h2
      obtain ⟨z, hz, _⟩ := one i h1
      simp [hz]
  · intro z hz
    rw [List.mem_map] at hz
    obtain ⟨v, hv, rfl⟩ := hz
    obtain ⟨i, hin, rfl⟩ := List.getElem_of_mem hv
    obtain ⟨z, hz, hw⟩ := one i hin
    rw [hz]; exact hw
/-- An array of numbers by value. -/
theorem open_ints_arr {n : Nat} {q : IntKind} {r : Reach} {b0 : Nat} {v : Value} {d : DataW H} {ps : List MemPlace} (ht : P.underlying t = some (.array n e)) (he : P.underlying e = some (.int q)) (hce : P.cellsOf e = 1) (hct : P.cellsOf t = n)
    (hval : Value.okWide P w r b0 t v) (h : DataW.Trod enc P w base spare held t v d ps) : ∃ ns : List Int, ns.length = n ∧ v = .agg (ns.map (Value.int q)).toArray ∧ ∀ z ∈ ns, (Lit.int q z).wf = true := by
  simp only [Value.okWide, ht] at hval
  obtain ⟨c, rfl, _⟩ := hval
  obtain ⟨fuel, hf⟩ := h
  obtain ⟨ns, h1, h2, h3⟩ := trod_ints_arr ht he hce hct hf
  refine ⟨ns, h1, ?_, h3⟩
  rw [← h2]
  simp [Value.cells]
/-- A slice of arrays of numbers. -/
theorem open_slice_ints_arr {n : Nat} {q : IntKind} {r : Reach} {ts : TypeId} {v : Value} {d : DataW H} {ps : List MemPlace} (hts : P.underlying ts = some (.slice t)) (ht : P.underlying t = some (.array n e)) (he : P.underlying e = some (.int q)) (hce : P.cellsOf e = 1) (hct : P.cellsOf t = n) (hn : 0 < n) {b0 : Nat}
    (hval : Value.okWide P w r b0 ts v) (h : DataW.Trod enc P w 0 spare held ts v d ps) : ∃ (a : Option Addr) (cap : Nat) (L : List (List Int)), v = .slice a L.length cap ∧ L.length ≤ cap ∧ (∀ z ∈ L, z.length = n ∧ ∀ y ∈ z, (Lit.int q y).wf = true) ∧
      (0 < L.length → ∃ b off, a = some ⟨b, off, none⟩ ∧ b < w.heap.size ∧ ∀ i (hi : i < L.length) j (hj : j < L[i].length), w.cell? ⟨b, off + i * n + j, none⟩ = some (.int q (L[i][j]))) := by
  obtain ⟨a, len, cap, rfl⟩ := okWide_slice hts hval
  obtain ⟨fuel, hf⟩ := h
  rcases open_slice hts hf with ⟨hcs, _⟩ | ⟨a', len', cap', m, k, D, Pl, hcs, _, hl, _, hm, _, hx⟩
  · simp [Value.cells] at hcs
    obtain ⟨rfl, rfl, rfl⟩ := hcs
    exact ⟨none, 0, [], rfl, Nat.le_refl _, fun z hz => (by cases hz), fun h0 => absurd h0 (by simp)⟩
  · simp [Value.cells] at hcs
    obtain ⟨rfl, rfl, rfl⟩ := hcs
    have hlm : len ≤ m := by rw [hm]; split <;> omega
    rw [hct] at hx
    have one : ∀ i, i < len → ∃ ns : List Int, ns.length = n ∧ (∀ z ∈ ns, (Lit.int q z).wf = true) ∧ ∀ j (hj : j < ns.length), w.cell? ((a'.add (i * n)).add j) = some (.int q ns[j]) := fun i hi => by
      obtain ⟨cs', h1, h2⟩ := hx i (by omega)
      obtain ⟨ns, h3, rfl, h4⟩ := trod_ints_arr ht he hce hct h2
      refine ⟨ns, h3, h4, fun j hj => ?_⟩
      have := (World.cells?_some h1).2.2 j (by omega)
      rw [this]; simp [hj]
    refine ⟨some a', cap, (List.range len).attach.map fun i => (one i.1 (List.mem_range.1 i.2)).choose, by simp, by simpa using hl, ?_, fun h0 => ?_⟩
    · intro z hz
      rw [List.mem_map] at hz
      obtain ⟨i, _, rfl⟩ := hz
      exact ⟨(one i.1 (List.mem_range.1 i.2)).choose_spec.1, (one i.1 (List.mem_range.1 i.2)).choose_spec.2.1⟩
    · have h0' : 0 < len := by simpa using h0
      obtain ⟨b, off, spot⟩ := a'
      obtain ⟨ns, h3, _, h5⟩ := one 0 h0'
      have hc0 := h5 0 (by omega)
      have hspot : spot = none := by simpa [Addr.add] using World.cell?_spot hc0
      subst hspot
      refine ⟨b, off, rfl, ?_, ?_⟩
      · have := block_lt_of_cell hc0
        simpa [Addr.add] using this
      · intro i hi j hj
        have hi' : i < len := by simpa using hi
        have h7 := (one i hi').choose_spec.2.2 j (by simpa using hj)
        have e : ((⟨b, off, none⟩ : Addr).add (i * n)).add j = ⟨b, off + i * n + j, none⟩ := by rw [add_plain, add_plain]
        rw [e] at h7
        rw [h7]
        simp
end
theorem u8_of_wf' {a : Int} (h : (Lit.int .u8 a).wf = true) : ∃ u : UInt8, a = u.toNat := by
  simp [Lit.wf, IntKind.min, IntKind.max, IntKind.signed, IntKind.bits] at h
  exact ⟨UInt8.ofNat a.toNat, by simp; omega⟩
theorem bytes_of_wf : ∀ {ns : List Int}, (∀ z ∈ ns, (Lit.int .u8 z).wf = true) → ∃ l : List UInt8, ns = l.map fun u => (u.toNat : Int)
  | [], _ => ⟨[], rfl⟩
  | z :: ns, h => by
    obtain ⟨u, rfl⟩ := u8_of_wf' (h z List.mem_cons_self)
    obtain ⟨l, rfl⟩ := bytes_of_wf (fun y hy => h y (List.mem_cons_of_mem _ hy))
    exact ⟨u :: l, rfl⟩
end Go.Proofs.YtohicccbaenegaaDoor

/-
  Mathematics of layer 10's statements: what was put is found, what was dropped is not; two files in either order.
-/
import Derived.Test.YtelaamchafocpaaDoorQ1
set_option linter.unusedVariables false
namespace Go.Proofs.YtelaamchafocpaaDoor

theorem few_put {L : List It} (h : TFit L) {x : It} (hf : fewB L = true) (hx : x.p.size ≤ 400) (hc : x.c.size ≤ 40000) : fewB (putT L x) = true := by
  refine few_mk (Nat.le_trans (fit_putT h x).len (by decide)) fun y hy => ?_
  unfold putT at hy
  split at hy
  · rcases mem_withT.1 hy with e | ⟨e, _⟩
    · rw [e]; exact ⟨hx, hc⟩
    · exact few_mem hf y e
  · exact few_mem hf y hy
theorem few_gone {L : List It} (hf : fewB L = true) (t : List UInt8) : fewB (goneT L t) = true := by
  refine few_mk ?_ fun y hy => ?_
  · unfold goneT; split
    · exact Nat.le_trans (List.length_filter_le _ _) (few_len hf)
    · exact few_len hf
  · unfold goneT at hy; split at hy
    · exact few_mem hf y (mem_drop.1 hy).1
    · exact few_mem hf y hy
theorem few_at {L : List It} (hf : fewB L = true) {k : Nat} (hk : k < L.length) : L[k].p.size ≤ 400 ∧ L[k].c.size ≤ 40000 := few_mem hf _ (List.getElem_mem hk)

/-! ## found -/
theorem put_finds {L : List It} (h : TFit L) {x : It} (hw : wrongT L x = 0) : findT (putT L x) x.t = some x := by
  rw [put_yes hw]; exact (findT_some (rise_withT h.rise x)).2 ⟨mem_withT.2 (.inl rfl), rfl⟩
theorem put_keeps {L : List It} (h : TFit L) {x y : It} (hw : wrongT L x = 0) (hy : y ∈ L) (hne : y.t ≠ x.t) : findT (putT L x) y.t = some y := by
  rw [put_yes hw]; exact (findT_some (rise_withT h.rise x)).2 ⟨mem_withT.2 (.inr ⟨hy, hne⟩), rfl⟩
theorem gone_put {L : List It} (h : TFit L) {x : It} (hw : wrongT L x = 0) : goneT (putT L x) x.t = dropT (putT L x) x.t := by
  unfold goneT; rw [put_finds h hw]; rfl
theorem gone_finds {L : List It} (h : TFit L) {x : It} (hw : wrongT L x = 0) : findT (goneT (putT L x) x.t) x.t = none := by
  rw [gone_put h hw]; exact findT_none.2 fun y hy => (mem_drop.1 hy).2.1
theorem gone_keeps {L : List It} (h : TFit L) {x y : It} (hw : wrongT L x = 0) (hy : y ∈ L) : (findT (goneT (putT L x) x.t) y.t).isSome = !(decide (y.t = x.t) || belowB y.t x.t) := by
  rw [gone_put h hw]
  by_cases hne : y.t = x.t
  · have : findT (dropT (putT L x) x.t) y.t = none := findT_none.2 fun z hz e => (mem_drop.1 hz).2.1 (e.trans hne)
    rw [this, decide_eq_true hne]; rfl
  · have hm : y ∈ putT L x := (findT_mem (put_keeps h hw hy hne)).1
    rw [decide_eq_false hne, Bool.false_or]
    cases hb : belowB y.t x.t with
    | true =>
      have : findT (dropT (putT L x) x.t) y.t = none := findT_none.2 fun z hz e => by
        have := (mem_drop.1 hz).2.2
        rw [e, hb] at this; cases this
      rw [this]; rfl
    | false =>
      have hr : Rise (dropT (putT L x) x.t) := rise_filter (fit_putT h x).rise _
      rw [(findT_some hr).2 ⟨mem_drop.2 ⟨hm, hne, hb⟩, rfl⟩]; rfl
theorem put_len {L : List It} (h : TFit L) (x : It) : L.length ≤ (putT L x).length ∧ (putT L x).length ≤ L.length + 1 := by
  unfold putT; split
  · rw [len_withT h.rise]; split <;> omega
  · omega

/-! ## in either order -/
theorem put_two {L : List It} (h : TFit L) {x y : It} (hne : x.t ≠ y.t) (h1 : wrongT L x = 0) (h2 : wrongT (putT L x) y = 0) (h3 : wrongT L y = 0) (h4 : wrongT (putT L y) x = 0) : putT (putT L x) y = putT (putT L y) x := by
  have ra := (fit_putT h x).rise
  have rb := (fit_putT h y).rise
  rw [put_yes h2, put_yes h4]
  refine rise_ext (rise_withT ra y) (rise_withT rb x) fun z => ?_
  rw [mem_withT, mem_withT, put_yes h1, put_yes h3, mem_withT, mem_withT]
  constructor
  · rintro (rfl | ⟨rfl | ⟨a, b⟩, c⟩)
    · exact .inr ⟨.inl rfl, fun e => hne e.symm⟩
    · exact .inl rfl
    · exact .inr ⟨.inr ⟨a, c⟩, b⟩
  · rintro (rfl | ⟨rfl | ⟨a, b⟩, c⟩)
    · exact .inr ⟨.inl rfl, hne⟩
    · exact .inl rfl
    · exact .inr ⟨.inr ⟨a, c⟩, b⟩
theorem put_size {L : List It} (h : TFit L) {x : It} (h1 : wrongT L x = 0) : (sizeT (putT L x) : Int) = (sizeT L : Int) - ((foundI L x.t).c.size : Int) + (x.c.size : Int) := by
  have := size_withT h.rise x
  rw [put_yes h1]; omega
end Go.Proofs.YtelaamchafocpaaDoor

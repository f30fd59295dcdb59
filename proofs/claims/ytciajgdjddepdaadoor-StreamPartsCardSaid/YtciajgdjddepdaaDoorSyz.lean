/-
  What the frames of layer 8 share: a struct of one string as an argument.
-/
import Derived.Test.YtciajgdjddepdaaDoorCyz
import Derived.ChangeSame
import Derived.ChangeMaps5
import Derived.Test.YtciajgdjddepdaaDoorStr
set_option linter.unusedVariables false
namespace Go.Proofs.YtciajgdjddepdaaDoor
open Go.ChangeShapes Go.WideShapes Go.ChangeAt Go.RowKit Go.Joins

theorem open_stream {H : Type} {enc : TypeId × Value → H} {W : World} {r : Reach} {b0 : Nat} {base : Nat} {spare : Nat → Bool} {held : Bool} {v : Value} {d : DataW H} {p : List MemPlace}
    (hv : Value.okWide Tryd.prog W r b0 25 v) (h : DataW.Trod enc Tryd.prog W base spare held 25 v d p) : ∃ s : ByteArray, v = .agg #[.string s] ∧ s.size ≤ maxLen := by
  obtain ⟨cs, rfl, hsz⟩ := okWide_struct Tryd.underlying25 hv
  have h1 : cs.size = 1 := hsz.trans (by kernel_rfl)
  obtain ⟨l⟩ := cs
  match l, h1 with
  | [c0], _ =>
    obtain ⟨fuel, hf⟩ := h
    obtain ⟨y0, n, hx, hl, h0⟩ := trod_struct1 Tryd.underlying25 hf
    have h2 : DataW.trod enc Tryd.prog W base spare held n 9 [c0] = some y0 := h0
    obtain ⟨s', e, _, hs⟩ := DataW.trod_string Tryd.underlying9 h2
    simp at e
    subst e
    exact ⟨s', rfl, hs⟩
end Go.Proofs.YtciajgdjddepdaaDoor

/-
  Contracts over this translation: the statement ShaJoins as a walk; ShaFolds as it comes.
-/
import Derived.WalkKit
import Derived.LoopTactic
import Derived.Outline
import Derived.Laws.BitsAllLaws
import Derived.Lib.Hide
import Derived.Below
import Derived.Laws.Rows
import Derived.Laws.CopyOwn
import Derived.Test.YtmaipdlioehigaaProg
import Derived.Test.YtmaipdlioehigaaShm
import Derived.Test.YtmaipdlioehigaaSwe
import Derived.Test.YtmaipdlioehigaaOps
import Derived.Great.BuildSlice
import Derived.BigRegion
import Derived.Deep.QuietTactic
import Derived.BigQuiet
import Derived.StillTailTactics
import Derived.IntWalk
import Derived.WalkSmall
import Derived.RegionTactic
set_option linter.unusedVariables false
set_option pp.maxSteps 200000
namespace Go.Proofs.Ytmaipdlioehigaa
open Go.RowKit Go.Sort Go.ChangeShapes Go.WideShapes

theorem blks_of {n : Nat} : ∀ {L : List (List Int)}, (∀ z ∈ L, z.length = n ∧ ∀ y ∈ z, (Lit.int .u8 y).wf = true) → ∃ M : List (List UInt8), L = M.map (fun b => b.map fun u : UInt8 => (u.toNat : Int)) ∧ ∀ b ∈ M, b.length = n
  | [], _ => ⟨[], rfl, fun _ h => by cases h⟩
  | z :: L, h => by
    obtain ⟨b, rfl⟩ := bytes_of_wf (h z List.mem_cons_self).2
    have hb : b.length = n := by simpa using (h _ List.mem_cons_self).1
    obtain ⟨M, rfl, hM⟩ := blks_of (L := L) (fun y hy => h y (List.mem_cons_of_mem _ hy))
    exact ⟨b :: M, rfl, by simp only [List.mem_cons, forall_eq_or_imp]; exact ⟨hb, hM⟩⟩
/-- ShaFolds, of a slice as it comes. -/
theorem ShaFolds_walk' {H : Type} {enc : TypeId × Value → H} {spare : Nat → Bool} {held : Bool} {r : Reach} {b0 : Nat} (v : Value) (d : DataW H) (p : List MemPlace) {W : World} (hval : Value.okWide Try.prog W r b0 40 v) (h : DataW.Trod enc Try.prog W 0 spare held 40 v d p) (w : World) (hw : w = W) :
    Calls Try.prog 7 #[v] w fun e w' => e = .returned (.bool true) ∧ RowKit.Below w.heap.size w w' := by
  subst hw
  obtain ⟨a, cap, L, rfl, _, hL, hc⟩ := open_slice_ints_arr Try.underlying40 Try.underlying25 Try.underlying5 (by kernel_rfl) (by kernel_rfl) (by decide) hval h
  obtain ⟨M, rfl, hM⟩ := blks_of hL
  refine ShaFolds_walk _ M w ⟨a, cap, by simp, hM, fun h0 => ?_⟩
  obtain ⟨b, off, e, hb, hcell⟩ := hc (by simpa using h0)
  refine ⟨b, off, e, hb, fun i hi j u hu => ?_⟩
  have hj : j < M[i].length := by
    have := (List.getElem?_eq_some_iff.1 hu).1
    simpa [bytV] using this
  have k0 := hcell i (by simpa using hi) j (by simpa using hj)
  simp only [List.getElem_map] at k0
  rw [k0, ← hu]
  simp [bytV, hj]
end Go.Proofs.Ytmaipdlioehigaa

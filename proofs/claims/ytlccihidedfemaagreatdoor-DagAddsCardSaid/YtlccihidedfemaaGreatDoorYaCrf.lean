/-
  Contracts over this translation: the document's Fit, Cut and Pieces of layer 7.
-/
import Derived.WalkKit
import Derived.LoopTactic
import Derived.Outline
import Derived.Laws.BitsAllLaws
import Derived.Laws.ShiftsVarLaws
import Derived.Lib.Hide
import Derived.Below
import Derived.Lib.IndexBytes
import Derived.RegionTactic
import Derived.StillTailTactics
import Derived.Test.YtlccihidedfemaaGreatDoorProg
import Derived.Test.YtlccihidedfemaaGreatDoorQa0
set_option linter.unusedVariables false
namespace Go.Proofs.YtlccihidedfemaaGreatDoor
open Go.RowKit
theorem ext_take (s : ByteArray) (c : Nat) : (s.extract 0 c).data.toList = s.data.toList.take c := by simp
theorem take_min (s : ByteArray) (m : Nat) : s.data.toList.take (min s.size m) = s.data.toList.take m := by
  rw [Lib.size_eq]
  by_cases h : s.data.toList.length ≤ m
  · rw [Nat.min_eq_left h, List.take_length, List.take_of_length_le h]
  · rw [Nat.min_eq_right (by omega)]
def isP (n : Nat) : Bool := (List.range 13).any fun b => n == 2 ^ b
abbrev pV (mn av mx : Int) : Value := .agg #[.int .i64 mn, .int .i64 av, .int .i64 mx]
theorem isP_iff {n : Nat} (h : isP n = true) : ∃ b, b < 13 ∧ n = 2 ^ b := by
  simp only [isP, List.any_eq_true, List.mem_range, beq_iff_eq] at h
  exact h
theorem upTo_on (s : ByteArray) (p j : Nat) (h0 : p ≤ j) (h : j < s.size) :
    (hs p (s.data.toList.drop p)).take (j + 1 - p) = (hs p (s.data.toList.drop p)).take (j - p) ++ [(j, rollN (hashF 0 ((s.data.toList.drop p).take (j - p))) (s[j]'h).toNat)] ∧ hashF 0 ((s.data.toList.drop p).take (j + 1 - p)) = rollN (hashF 0 ((s.data.toList.drop p).take (j - p))) (s[j]'h).toNat := by
  have hl : j - p < (s.data.toList.drop p).length := by rw [List.length_drop, ← Lib.size_eq]; omega
  have e1 : j + 1 - p = j - p + 1 := by omega
  have hx : (s.data.toList.drop p).take (j - p + 1) = (s.data.toList.drop p).take (j - p) ++ [s[j]'h] := by
    rw [List.take_succ_eq_append_getElem hl]
    congr 2
    simp only [List.getElem_drop]
    have : p + (j - p) = j := by omega
    simp only [this]; rfl
  have h2 : hashF 0 ((s.data.toList.drop p).take (j - p + 1)) = rollN (hashF 0 ((s.data.toList.drop p).take (j - p))) (s[j]'h).toNat := by rw [hx, hashF_snoc]
  rw [e1]
  refine ⟨?_, h2⟩
  have := hs_snoc p (s.data.toList.drop p) (j - p) hl
  rw [hs_take, hs_take, this, h2, show p + (j - p) = j by omega]
def lenOf : Value → Nat
  | .string x => x.size
  | _ => 0
theorem str_nonempty (x : ByteArray) : (x.toList.isEmpty = false) = (0 < x.size) := by
  rw [eq_iff_iff]
  have : x.toList = x.data.toList := ByteArray.toList_eq x
  rw [this, Lib.size_eq]
  cases x.data.toList <;> simp
def OnWay (c : List UInt8 → Nat) (l : List UInt8) (M : List (List UInt8)) (x : ByteArray) : Prop := M ++ pcs c x.data.toList = pcs c l
theorem onWay_step {mn mx : Nat} {c : List UInt8 → Nat} (H : CutOk mn mx c) {l : List UInt8} {M : List (List UInt8)} {x : ByteArray} (h : OnWay c l M x) (hx : 0 < x.size) :
    OnWay c l (M ++ [(x.extract 0 (c x.data.toList)).data.toList]) (x.extract (c x.data.toList) x.size) := by
  have hne : x.data.toList ≠ [] := fun e => by rw [Lib.size_eq, e] at hx; exact absurd hx (by simp)
  unfold OnWay at h ⊢
  rw [← h, pcs_cons H.pos hne, Lib.extract_to_end, ext_take, List.append_assoc]; rfl
theorem onWay_len {mn mx : Nat} {c : List UInt8 → Nat} (H : CutOk mn mx c) {l : List UInt8} {M : List (List UInt8)} {x : ByteArray} (h : OnWay c l M x) : M.length ≤ l.length := by
  have h1 := pcs_len H.pos l.length l (Nat.le_refl _)
  have h2 := congrArg List.length h
  rw [List.length_append] at h2
  omega
theorem onWay_end {c : List UInt8 → Nat} {l : List UInt8} {M : List (List UInt8)} {x : ByteArray} (h : OnWay c l M x) (hx : x.size = 0) : M = pcs c l := by
  have e : x.data.toList = [] := List.length_eq_zero_iff.1 (by rw [← Lib.size_eq]; exact hx)
  unfold OnWay at h
  rw [e, pcs_nil, List.append_nil] at h
  exact h
def RetPcsO (c : List UInt8 → Nat) (l : List UInt8) (w : World) (e : Ending) (w' : World) : Prop := ∃ v, e = .returned v ∧ OwnTxt w w' v (pcs c l) ∧ Below w.heap.size w w'
theorem OwnTxt.low {W V w : World} {v : Value} {M : List (List UInt8)} (h : OwnTxt V w v M) (hb : W.heap.size ≤ V.heap.size) : OwnTxt W w v M := by
  refine ⟨h.1, ?_⟩
  rcases h.2 with h2 | ⟨g, cap, cur, h3, h4, h5⟩
  · exact .inl h2
  · exact .inr ⟨g, cap, cur, h3, Nat.le_trans hb h4, h5⟩
end Go.Proofs.YtlccihidedfemaaGreatDoor

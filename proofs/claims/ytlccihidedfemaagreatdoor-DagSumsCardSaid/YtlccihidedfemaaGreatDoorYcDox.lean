/-
  Contracts over this translation: the document's dir (a directory's objects are added).
-/
import Derived.Test.YtlccihidedfemaaGreatDoorYcDow
import Derived.Test.YtlccihidedfemaaGreatDoorQc2
import Derived.Test.YtlccihidedfemaaGreatDoorYcTif
import Derived.IntWalk
set_option linter.unusedVariables false
namespace Go.Proofs.YtlccihidedfemaaGreatDoor
open Go.RowKit
attribute [local go_sem] Oper.semAt_some
def sqT (c : List UInt8 → Nat) (I : List It) (k : Nat) (x : It) : List Nd := if x.d then seqD c I k x.t else seqF c x.b
def preS (c : List UInt8 → Nat) (I : List It) (k : Nat) (d : List UInt8) (i : Nat) : List Nd := (inD (I.take i) d).flatMap (sqT c I k)
def preE (c : List UInt8 → Nat) (I : List It) (k : Nat) (d : List UInt8) (i : Nat) : List En := (inD (I.take i) d).map fun x => entE x (keyN (subN c I k x))
theorem inD_step {I : List It} {d : List UInt8} {i : Nat} (hi : i < I.length) : inD (I.take (i + 1)) d = inD (I.take i) d ++ if dirS I[i].t = d then [I[i]] else [] := by
 unfold inD
 rw [List.take_succ_eq_append_getElem hi, List.filter_append, List.filter_cons, List.filter_nil]
 congr 1
 by_cases h : dirS I[i].t = d
 ·rw [if_pos h, decide_eq_true h]; rfl
 ·rw [if_neg h, decide_eq_false h]; rfl
theorem preS_in {c : List UInt8 → Nat} {I : List It} {k : Nat} {d : List UInt8} {i : Nat} (hi : i < I.length) (h : dirS I[i].t = d) : preS c I k d (i + 1) = preS c I k d i ++ sqT c I k I[i] := by
 unfold preS; rw [inD_step hi, if_pos h, List.flatMap_append]; simp
theorem preS_out {c : List UInt8 → Nat} {I : List It} {k : Nat} {d : List UInt8} {i : Nat} (hi : i < I.length) (h : dirS I[i].t ≠ d) : preS c I k d (i + 1) = preS c I k d i := by
 unfold preS; rw [inD_step hi, if_neg h, List.append_nil]
theorem preE_in {c : List UInt8 → Nat} {I : List It} {k : Nat} {d : List UInt8} {i : Nat} (hi : i < I.length) (h : dirS I[i].t = d) : preE c I k d (i + 1) = preE c I k d i ++ [entE I[i] (keyN (subN c I k I[i]))] := by
 unfold preE; rw [inD_step hi, if_pos h, List.map_append]; rfl
theorem preE_out {c : List UInt8 → Nat} {I : List It} {k : Nat} {d : List UInt8} {i : Nat} (hi : i < I.length) (h : dirS I[i].t ≠ d) : preE c I k d (i + 1) = preE c I k d i := by
 unfold preE; rw [inD_step hi, if_neg h, List.append_nil]
theorem preE_len (c : List UInt8 → Nat) (I : List It) (k : Nat) (d : List UInt8) (i : Nat) : (preE c I k d i).length ≤ i := by
 unfold preE inD; rw [List.length_map]
 exact Nat.le_trans (List.length_filter_le _ _) (by rw [List.length_take]; omega)
theorem pre_all (c : List UInt8 → Nat) (I : List It) (k : Nat) (d : List UInt8) {i : Nat} (h : I.length ≤ i) : seqD c I (k + 1) d = preS c I k d i ++ [dirN c I (k + 1) d] ∧ (dirN c I (k + 1) d) = ⟨3, ⟨#[]⟩, [], preE c I k d i⟩ := by
 unfold preS preE
 rw [List.take_of_length_le h]
 exact ⟨rfl, rfl⟩
theorem pre_less {c : List UInt8 → Nat} {I : List It} {k : Nat} {d : List UInt8} {i : Nat} (hi : i < I.length) (h : dirS I[i].t = d) : (preS c I k d i).length + (sqT c I k I[i]).length ≤ (seqD c I (k + 1) d).length := by
 have e : (seqD c I (k + 1) d) = preS c I k d I.length ++ [dirN c I (k + 1) d] := (pre_all c I k d (Nat.le_refl _)).1
 have h2 : I = I.take (i + 1) ++ I.drop (i + 1) := (List.take_append_drop _ _).symm
 have h3 : preS c I k d I.length = preS c I k d (i + 1) ++ (inD (I.drop (i + 1)) d).flatMap (sqT c I k) := by
  unfold preS
  rw [List.take_length]
  conv => lhs; rw [show inD I d = inD (I.take (i + 1)) d ++ inD (I.drop (i + 1)) d by unfold inD; rw [← List.filter_append, List.take_append_drop]]
  rw [List.flatMap_append]
 rw [e, h3, preS_in hi h]
 simp only [List.length_append]
 omega
theorem pre_le (c : List UInt8 → Nat) (I : List It) (k : Nat) (d : List UInt8) {i : Nat} (hi : i ≤ I.length) : (preS c I k d i).length ≤ (seqD c I (k + 1) d).length := by
 have e : (seqD c I (k + 1) d) = preS c I k d I.length ++ [dirN c I (k + 1) d] := (pre_all c I k d (Nat.le_refl _)).1
 have h3 : preS c I k d I.length = preS c I k d i ++ (inD (I.drop i) d).flatMap (sqT c I k) := by
  unfold preS
  rw [List.take_length]
  conv => lhs; rw [show inD I d = inD (I.take i) d ++ inD (I.drop i) d by unfold inD; rw [← List.filter_append, List.take_append_drop]]
  rw [List.flatMap_append]
 rw [e, h3]
 simp only [List.length_append]
 omega
end Go.Proofs.YtlccihidedfemaaGreatDoor

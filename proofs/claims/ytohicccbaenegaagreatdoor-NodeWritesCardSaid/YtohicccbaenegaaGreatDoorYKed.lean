/-
  Contracts over this translation: the document's sets of keys, and what the laws ask of lists.
-/
import Derived.Test.YtohicccbaenegaaGreatDoorYStq
import Derived.WalkKit
import Derived.LoopTactic
import Derived.RegionTactic
import Derived.BigRegionIn
import Derived.Sort.CutIn
import Derived.Deep.QuietTactic
import Derived.BigQuiet
import Derived.Outline
import Derived.Laws.Cover1
set_option linter.unusedVariables false
namespace Go.Proofs.YtohicccbaenegaaGreatDoor
open Go.RowKit
attribute [local go_sem] Oper.semAt_some

/-! ## Same -/
set_option maxRecDepth 100000 in
set_option maxHeartbeats 1000000 in
theorem Same_eq (v1 v2 : Value) (L : List ByteArray) (w : World) (h1 : IsStrs w v1 L) (h2 : IsStrs w v2 L) :
    Calls Tryz.prog 39 #[v1, v2] w fun e w' => e = .returned (.bool true) ∧ Below w.heap.size w w' := by
  obtain ⟨hm, a1, c1, rfl, _, hc1⟩ := h1
  obtain ⟨_, a2, c2, rfl, _, hc2⟩ := h2
  have hmm : L.length ≤ 9223372036854775807 := by unfold maxLen at hm; omega
  have H1 := Lib.hid hc1; have H2 := Lib.hid hc2
  clear hc1 hc2 hm
  go_enter Tryz.func39, Tryz.ntmps39
  go_wp2
  go_loopw [5] (fun i wr => ∃ k m : Nat, k ≤ L.length ∧ i = .int .i64 k ∧ wr = w.drewN m) (fun i _ => L.length - (intOf i).toNat)
  case atStart => exact ⟨0, 0, Nat.zero_le _, rfl, rfl⟩
  case round =>
    obtain ⟨k, m, hk, rfl, rfl⟩ := hrel
    by_cases hlt : k < L.length
    · obtain ⟨b1, o1, rfl, _, g1⟩ := H1.out (by omega)
      obtain ⟨b2, o2, rfl, _, g2⟩ := H2.out (by omega)
      have q1 := g1 k hlt
      have q2 := g2 k hlt
      clear g1 g2
      have hbk : decide ((k : Int) < (L.length : Int)) = true := by simpa using (show (k : Int) < L.length by omega)
      go_wp2_with fail
      go_quiet (fail)
      go_wp2
      go_roundw
      case rel => exact ⟨k + 1, m + nq, by omega, by go_num, by simp [World.drewN]⟩
      case measure => simp [intOf]; omega
    · go_wp2
      go_ret
      exact ⟨rfl, below_drewN (Below.refl _ _) _⟩

/-! ## Has -/
def hasB (l : List Txt) (x : Txt) : Bool := decide (x ∈ l)
def NotIn (l : List Txt) (x : Txt) (k : Nat) : Prop := x ∉ l.take k
theorem notIn_step {l : List Txt} {x : Txt} {k : Nat} (h : NotIn l x k) (hk : k < l.length) (hne : l[k] ≠ x) : NotIn l x (k + 1) := fun hx => by
  rw [List.take_succ_eq_append_getElem hk, List.mem_append] at hx
  rcases hx with e | e
  · exact h e
  · exact hne (List.mem_singleton.1 e).symm

set_option maxRecDepth 100000 in
set_option maxHeartbeats 1000000 in
theorem refHas_any (v : Value) (L : List ByteArray) (x : ByteArray) (w : World) (hv : IsStrs w v L) :
    Calls Tryz.prog 23 #[v, .string x] w fun e w' => e = .returned (.bool (hasB (txts L) x.data.toList)) ∧ w = w' := by
  obtain ⟨hm, a, cap, rfl, _, hc⟩ := hv
  have hmm : L.length ≤ 9223372036854775807 := by unfold maxLen at hm; omega
  have HC := Lib.hid hc
  clear hc hm
  go_enter Tryz.func23, Tryz.ntmps23
  go_wp2
  go_loop [5] (fun i => ∃ k : Nat, k ≤ L.length ∧ i = .int .i64 k ∧ NotIn (txts L) x.data.toList k) (fun i => L.length - (intOf i).toNat)
  case atStart => exact ⟨0, Nat.zero_le _, rfl, fun h => by cases h⟩
  case round =>
    obtain ⟨k, hk, rfl, hn⟩ := hrel
    have HN := Lib.hid hn; clear hn
    by_cases hlt : k < L.length
    · obtain ⟨b1, o1, rfl, _, g1⟩ := HC.out (by omega)
      have q1 := g1 k hlt
      clear g1
      obtain ⟨y, hy⟩ : ∃ y, y = L[k] := ⟨_, rfl⟩
      rw [← hy] at q1
      have HY := Lib.hid hy; clear hy
      have hbk : decide ((k : Int) < (L.length : Int)) = true := by simpa using (show (k : Int) < L.length by omega)
      by_cases e : y = x
      · have hb := beq_true e
        have HE := Lib.hid e; clear e
        go_wp2
        go_ret
        refine ⟨ret_val (congrArg Value.bool ?_), rfl⟩
        refine (decide_eq_true ?_).symm
        rw [← HE.out, HY.out, ← txts_get hlt]; exact List.getElem_mem ..
      · have hb := beq_false e
        have HE := Lib.hid e; clear e
        go_wp2
        go_round
        case rel => exact ⟨k + 1, by omega, by go_num, notIn_step HN.out (by rw [txts_len]; exact hlt) (fun h => HE.out (str_eq' (by rw [HY.out, ← txts_get hlt]; exact h)))⟩
        case measure => simp [intOf]; omega
    · have hge : decide ((k : Int) < (L.length : Int)) = false := by simp; omega
      go_wp2
      go_ret
      refine ⟨ret_val (congrArg Value.bool ?_), rfl⟩
      refine (decide_eq_false fun h => HN.out ?_).symm
      rw [List.take_of_length_le (by rw [txts_len]; omega)]; exact h

end Go.Proofs.YtohicccbaenegaaGreatDoor

/-
  Contracts over this translation: strings.Repeat of one byte 0.
-/
import Derived.Test.YtohicccbaenegaaGreatDoorYBum
import Derived.Test.YtohicccbaenegaaGreatDoorQ0
import Derived.Laws.BitsAllLaws
import Derived.LoopTactic
import Derived.Deep.LoopGhost
import Derived.Outline
set_option linter.unusedVariables false
namespace Go.Proofs.YtohicccbaenegaaGreatDoor
open Go.RowKit Go.Shelf

theorem run_min3 {P : Program} {w : World} (ts : Array TypeId) (t : TypeId) (x y z : Int) :
    (Builtin.min_ ts t #[.int .i64 x, .int .i64 y, .int .i64 z]).run P w = .ok (.int .i64 (if z < (if y < x then y else x) then z else (if y < x then y else x))) w := by
  simp [Builtin.min_, Builtin.min2]

set_option maxHeartbeats 2000000 in
set_option maxRecDepth 100000 in
theorem Mul64_one (c : Nat) (hc : c < 4294967296) (w : World) : Calls Tryz.prog 133 #[.int .u64 1, .int .u64 c] w fun e w' => e = .returned (.tuple #[.int .u64 0, .int .u64 c]) ∧ w = w' := by
  have e1 : bits .and .u64 1 4294967295 = 1 := by decide
  have e2 : bits .and .u64 (c : Int) 4294967295 = (c : Int) := by
    have := u64_and_nat c 4294967295 (by omega) (by decide)
    rw [nat_mask32, Nat.mod_eq_of_lt hc] at this
    exact this
  have e3 : (c : Int) / 4294967296 = 0 := by omega
  have e4 : bits .and .u64 0 4294967295 = 0 := by decide
  go_enter Tryz.func133, Tryz.ntmps133
  go_wp2
  go_ret2
  exact ⟨rfl, rfl⟩
set_option maxHeartbeats 2000000 in
set_option maxRecDepth 100000 in
theorem Mul_one (c : Nat) (hc : c < 4294967296) (w : World) : Calls Tryz.prog 113 #[.int .u64 1, .int .u64 c] w fun e w' => e = .returned (.tuple #[.int .u64 0, .int .u64 c]) ∧ w = w' := by
  go_enter Tryz.func113, Tryz.ntmps113
  go_wp2_with fail
  refine (Mul64_one c hc _).mono ?_
  rintro e w1 ⟨rfl, rfl⟩
  go_wp2_with fail
  go_ret2
  exact ⟨rfl, rfl⟩

def zeros (c : Nat) : ByteArray := ⟨(List.replicate c (0 : UInt8)).toArray⟩
set_option maxHeartbeats 4000000 in
set_option maxRecDepth 100000 in
theorem Repeat_zero (c : Nat) (hc : c ≤ 64) (w : World) : Calls Tryz.prog 94 #[.string ⟨#[0]⟩, .int .i64 c] w fun e w' => e = .returned (.string (zeros c)) ∧ Below w.heap.size w w' := by
  by_cases h0 : c = 0
  · subst h0
    go_enter Tryz.func94, Tryz.ntmps94
    go_wp2
    go_ret
    exact ⟨rfl, Below.refl _ _⟩
  · by_cases h1 : c = 1
    · subst h1
      go_enter Tryz.func94, Tryz.ntmps94
      go_wp2
      go_ret
      exact ⟨rfl, Below.refl _ _⟩
    · have hb0 : ((c : Int) == 0) = false := by rw [beq_eq_false_iff_ne]; omega
      have hb1 : ((c : Int) == 1) = false := by rw [beq_eq_false_iff_ne]; omega
      have hb2 : ¬ (c : Int) < 0 := by omega
      have hb3 : ¬ (9223372036854775807 : Int) < (c : Int) := by omega
      have hb4 : ¬ (8192 : Int) < (c : Int) := by omega
      have hb5 : decide ((9223372036854775807 : Int) < (c : Int)) = false := by simpa using (show ¬ (9223372036854775807 : Int) < (c : Int) by omega)
      have hb6 : decide ((8192 : Int) < (c : Int)) = false := by simpa using (show ¬ (8192 : Int) < (c : Int) by omega)
      have hb7 : decide ((c : Int) < 0) = false := by simp
      have hu : IntKind.u64.wrap (c : Int) = (c : Int) := by show (c : Int) % 18446744073709551616 = _; omega
      have hi : IntKind.i64.wrap (c : Int) = (c : Int) := by rw [IntKind.wrap_i64]; omega
      go_enter Tryz.func94, Tryz.ntmps94
      go_wp2_with fail
      refine (Mul_one c (by omega) _).mono ?_
      rintro e w1 ⟨rfl, rfl⟩
      go_wp2_with fail
      have b0 : Below w.heap.size w (w.alloc (.cells #[.pointer none, .slice none 0 0] 77)) := (Below.refl _ w).alloc (Nat.le_refl _) _
      refine (Grow_fresh w.heap.size w.heap.size c _ (Nat.le_refl _) (heap_alloc_new _ _) b0.size (by omega) (by omega)).mono ?_
      rintro e W1 ⟨rfl, hA, hbg⟩
      have b1 := b0.trans hbg
      have HA := Lib.hid hA
      clear hA b0 hbg
      go_wp2_with fail
      refine (WriteString_k w.heap.size w.heap.size [] ⟨#[0]⟩ _ (Lib.IsBuilderF.of (Or.inr HA.out)) (by decide) b1.size).mono ?_
      rintro e W2 ⟨rfl, h2, hb2', _⟩
      have b2 := b1.trans hb2'
      have h2' : Lib.IsBuilderF 77 5 w.heap.size w.heap.size (Lib.byteCells (List.replicate 1 (0 : UInt8))) W2 := Or.inr h2
      have H2 := Lib.hid h2'
      clear HA b1 hb2' h2 h2'
      go_wp2_with fail
      go_loopg [] (c - 1) (fun g wx => ∃ q : Nat, 1 ≤ q ∧ q + g = c ∧ Lib.IsBuilderF 77 5 w.heap.size w.heap.size (Lib.byteCells (List.replicate q (0 : UInt8))) wx ∧ Below w.heap.size w wx)
      case atStart => exact ⟨1, Nat.le_refl _, by omega, H2.out, b2⟩
      case round =>
        obtain ⟨q, hq1, hqg, hB, hbx⟩ := hrel
        clear H2 b2
        have hlen : (Lib.byteCells (List.replicate q (0 : UInt8))).length = q := by rw [Lib.byteCells_length, List.length_replicate]
        have CL := Lib.hid (Len_k w.heap.size w.heap.size _ wr hB)
        rw [hlen] at CL
        have hne : List.replicate q (0 : UInt8) ≠ [] := by
          intro e
          have := congrArg List.length e
          rw [List.length_replicate] at this
          simp at this; omega
        have CS := Lib.hid (String_full_k w.heap.size w.heap.size (List.replicate q (0 : UInt8)) wr hB hne)
        obtain ⟨S, hS⟩ : ∃ S : ByteArray, S = ⟨(List.replicate q (0 : UInt8)).toArray⟩ := ⟨_, rfl⟩
        have hSs : S.size = q := by rw [hS]; simp [ByteArray.size]
        rw [← hS] at CS
        have HS := Lib.hid hS
        have HB := Lib.hid hB
        clear hB hne hlen hS
        cases gk with
        | zero =>
          obtain rfl : q = c := by omega
          have hlt : decide ((q : Int) < (q : Int)) = false := by simp
          go_wp2_with fail
          refine CL.out.mono ?_
          rintro e W3 ⟨rfl, rfl⟩
          go_wp2_with fail
          refine CS.out.mono ?_
          rintro e W4 ⟨rfl, h4, hb4, _⟩
          go_wp2_with fail
          go_ret
          exact ⟨congrArg (fun x => Ending.returned (.string x)) HS.out, hbx.trans hb4⟩
        | succ g =>
          have hqc : q < c := by omega
          have hlt : decide ((q : Int) < (c : Int)) = true := by simpa using hqc
          obtain ⟨k, hk⟩ : ∃ k, k = min (c - q) q := ⟨_, rfl⟩
          have hk1 : 1 ≤ k := by omega
          have hk2 : k ≤ q := by omega
          have hk3 : q + k ≤ c := by omega
          have hmin : ∀ (ts : Array TypeId) (t : TypeId) (W : World), (Builtin.min_ ts t #[.int .i64 ((c : Int) - (q : Int)), .int .i64 (q : Int), .int .i64 (c : Int)]).run Tryz.prog W = .ok (.int .i64 (k : Int)) W := fun ts t W => by
            rw [run_min3]
            congr 2
            split <;> split <;> omega
          have hsub : IntKind.i64.wrap ((c : Int) - (q : Int)) = (c : Int) - (q : Int) := by rw [IntKind.wrap_i64]; omega
          have hd := fun W => run_slice_to (P := Tryz.prog) Tryz.underlying9 S k (by omega) W
          clear hk
          go_wp2_with fail
          refine CL.out.mono ?_
          rintro e W3 ⟨rfl, rfl⟩
          go_wp2_with fail
          refine CL.out.mono ?_
          rintro e W3 ⟨rfl, rfl⟩
          go_wp2_with fail
          refine CL.out.mono ?_
          rintro e W3 ⟨rfl, rfl⟩
          go_wp2_with fail
          refine CS.out.mono ?_
          rintro e W4 ⟨rfl, h4, hb4, _⟩
          go_wp2_with fail
          refine (WriteString_k w.heap.size w.heap.size _ (S.extract 0 k) _ h4 ?_ (Nat.le_trans hbx.size hb4.size)).mono ?_
          · rw [Lib.byteCells_length, List.length_replicate, ByteArray.size_extract]; omega
          rintro e W5 ⟨rfl, h5, hb5', _⟩
          go_wp2_with fail
          go_roundg (c - (q + k))
          case measure => omega
          case rel =>
            refine ⟨q + k, by omega, by omega, Or.inr ?_, (hbx.trans hb4).trans hb5'⟩
            have e : Lib.byteCells (List.replicate q (0 : UInt8)) ++ Lib.strCells (S.extract 0 k) = Lib.byteCells (List.replicate (q + k) (0 : UInt8)) := by
              rw [Lib.strCells_eq, ← Lib.byteCells_append, Lib.extract_data, HS.out]
              simp only [List.drop_zero, Nat.sub_zero]
              rw [List.take_replicate, Nat.min_eq_left hk2, List.replicate_append_replicate]
            rw [e] at h5
            exact h5
end Go.Proofs.YtohicccbaenegaaGreatDoor

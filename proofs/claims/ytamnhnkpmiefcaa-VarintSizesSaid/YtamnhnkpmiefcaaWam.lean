/-
  The statements of layer 1 as walks over this translation, the second half: there and back; sizes.
-/
import Derived.Lib.QuietBelow
import Derived.BigQuiet
import Derived.WalkSmall
import Derived.Test.YtamnhnkpmiefcaaAwa
set_option linter.unusedVariables false
namespace Go.Proofs.Ytamnhnkpmiefcaa
open Go.RowKit Go.BigFrame

/-- A string that came in takes at most this many bytes. -/
def Reach (s : ByteArray) : Prop := s.size ≤ 140737488351232
theorem Reach.le {s : ByteArray} (h : Reach s) : s.size ≤ maxLen := by unfold Reach at h; unfold maxLen; omega

theorem size_mk (l : List UInt8) : (⟨l.toArray⟩ : ByteArray).size = l.length := by simp [ByteArray.size]
theorem Take_put (n : Nat) (hn : U64 n) (b : ByteArray) (hb : Reach b) (w : World) :
    Calls Try.prog 9 #[.string (⟨(vput n).toArray⟩ ++ b)] w fun e w' => e = .returned (.tuple #[.int .u64 n, .int .i64 ((vput n).length : Nat), .int .i64 0]) ∧ Below w.heap.size w w' := by
  have hl := vput_len n
  refine (Take_any _ ?_ w).mono fun e w' ⟨he, hb⟩ => ⟨?_, hb⟩
  · rw [ByteArray.size_append, size_mk]; unfold Reach at hb; unfold maxLen; omega
  · rw [he, bytes_append]
    simp only []
    rw [take_put hn]; rfl

theorem TakeText_put (s : ByteArray) (hs : s.size ≤ 65536) (b : ByteArray) (hb : b.size ≤ 1000000) (w : World) :
    Calls Try.prog 14 #[.string (⟨(vputText s.data.toList).toArray⟩ ++ b)] w fun e w' => e = .returned (.tuple #[.string s, .int .i64 ((vputText s.data.toList).length : Nat), .int .i64 0]) ∧ Below w.heap.size w w' := by
  have hsl : s.data.toList.length ≤ 65536 := by rw [← Lib.size_eq]; exact hs
  have hl : (vputText s.data.toList).length ≤ 10 + 65536 := by
    rw [vputText, if_neg (by omega), List.length_append]
    have := vput_len s.data.toList.length
    omega
  refine (TakeText_any _ ?_ w).mono fun e w' ⟨he, hb⟩ => ⟨?_, hb⟩
  · rw [ByteArray.size_append, size_mk]; unfold maxLen; omega
  · rw [he, bytes_append]
    simp only []
    rw [takeText_putText hsl]; rfl

set_option maxRecDepth 100000 in
set_option maxHeartbeats 2000000 in
theorem VarintBack_walk (n : Nat) (hn : U64 n) (m : Nat) (hm : U64 m) (b : ByteArray) (hb : Reach b) (s : ByteArray) (hs : Reach s) (w : World) :
    Calls Try.prog 5 #[.int .u64 n, .int .u64 m, .string b, .string s] w fun e w' => e = .returned (.bool true) ∧ Below w.heap.size w w' := by
  have l1 := vput_len n
  have l2 := vput_pos n
  have hbr := hb
  unfold Reach at hbr
  have hsum : ¬ 9223372036854775807 < (vput n).length + b.size := by omega
  obtain ⟨v, j, e, hv⟩ : ∃ v j e, vtake s.data.toList = (v, j, e) := ⟨_, _, _, rfl⟩
  have hT := fun w => Take_any s hs.le w
  rw [hv] at hT
  have HT := Lib.hid hT
  have hmono : n ≤ m → (vput n).length ≤ (vput m).length := vput_len_mono
  have HM := Lib.hid hmono
  clear hT hmono hbr
  by_cases he : e = 0
  · subst he
    obtain ⟨h1, h2, h3, h4, h5⟩ := put_take hv
    rw [← Lib.size_eq] at h3
    have hsl := fun W => run_slice_to (P := Try.prog) Try.underlying9 s j h3 W
    have heq : (⟨(vput v).toArray⟩ : ByteArray) = s.extract 0 j := by
      rw [Lib.extract_eq, ← h1]; simp
    have hcp := fun W => Put_any v h5 W
    rw [heq] at hcp
    have HP := Lib.hid hcp
    clear h1 hv heq hcp
    by_cases hnm : m < n
    · go_enter Try.func5, Try.ntmps5
      go_wp2_with fail
      refine (Put_any n hn _).mono ?_
      rintro e w1 ⟨rfl, hb1⟩
      go_wp2_with fail
      refine (Take_put n hn b hb _).mono ?_
      rintro e w2 ⟨rfl, hb2⟩
      go_wp2_with fail
      refine (HT.out _).mono ?_
      rintro e w3 ⟨rfl, hb3⟩
      go_wp2_with fail
      refine wp_region_quiet_below (by kernel_rfl) (by kernel_rfl) ?_
      repeat (first | go_big_quiet_step ((exact Calls.regrown_of (HP.out _))) | quiet_step ((exact Calls.regrown_of (HP.out _))))
      refine wpQuiet_nil ?_
      intro wq hwq
      have hb4 : Below w3.heap.size w3 wq := by obtain ⟨p, rfl⟩ := hwq; exact below_regrown _ _ _
      clear hwq
      go_wp2_with fail
      refine (awake_any _).mono ?_
      rintro e w5 ⟨rfl, hb5⟩
      go_wp2_with fail
      go_ret
      exact ⟨rfl, below_step (below_step (below_step (below_step hb1 hb2) hb3) hb4) hb5⟩
    · have hle := HM.out (by omega)
      go_enter Try.func5, Try.ntmps5
      go_wp2_with fail
      refine (Put_any n hn _).mono ?_
      rintro e w1 ⟨rfl, hb1⟩
      go_wp2_with fail
      refine (Take_put n hn b hb _).mono ?_
      rintro e w2 ⟨rfl, hb2⟩
      go_wp2_with fail
      refine (HT.out _).mono ?_
      rintro e w3 ⟨rfl, hb3⟩
      go_wp2_with fail
      refine wp_region_quiet_below (by kernel_rfl) (by kernel_rfl) ?_
      repeat (first | go_big_quiet_step ((exact Calls.regrown_of (HP.out _))) | quiet_step ((exact Calls.regrown_of (HP.out _))))
      refine wpQuiet_nil ?_
      intro wq hwq
      have hb4 : Below w3.heap.size w3 wq := by obtain ⟨p, rfl⟩ := hwq; exact below_regrown _ _ _
      clear hwq
      go_wp2_with fail
      refine (Put_any m hm _).mono ?_
      rintro e w5 ⟨rfl, hb5⟩
      go_wp2_with fail
      refine (awake_any _).mono ?_
      rintro e w6 ⟨rfl, hb6⟩
      go_wp2_with fail
      go_ret
      exact ⟨rfl, below_step (below_step (below_step (below_step (below_step hb1 hb2) hb3) hb4) hb5) hb6⟩
  · clear hv
    have he1 : ((e : Int) == 0) = false := beq_eq_false_iff_ne.2 (by omega)
    by_cases hnm : m < n
    · go_enter Try.func5, Try.ntmps5
      go_wp2_with fail
      refine (Put_any n hn _).mono ?_
      rintro e w1 ⟨rfl, hb1⟩
      go_wp2_with fail
      refine (Take_put n hn b hb _).mono ?_
      rintro e w2 ⟨rfl, hb2⟩
      go_wp2_with fail
      refine (HT.out _).mono ?_
      rintro e w3 ⟨rfl, hb3⟩
      go_wp2_with fail
      go_quiet (fail)
      have hb4 : Below w3.heap.size w3 (w3.drewN nq) := below_drewN (Below.refl _ _) _
      go_wp2_with fail
      refine (awake_any _).mono ?_
      rintro e w5 ⟨rfl, hb5⟩
      go_wp2_with fail
      go_ret
      exact ⟨rfl, below_step (below_step (below_step (below_step hb1 hb2) hb3) hb4) hb5⟩
    · have hle := HM.out (by omega)
      go_enter Try.func5, Try.ntmps5
      go_wp2_with fail
      refine (Put_any n hn _).mono ?_
      rintro e w1 ⟨rfl, hb1⟩
      go_wp2_with fail
      refine (Take_put n hn b hb _).mono ?_
      rintro e w2 ⟨rfl, hb2⟩
      go_wp2_with fail
      refine (HT.out _).mono ?_
      rintro e w3 ⟨rfl, hb3⟩
      go_wp2_with fail
      go_quiet (fail)
      have hb4 : Below w3.heap.size w3 (w3.drewN nq) := below_drewN (Below.refl _ _) _
      go_wp2_with fail
      refine (Put_any m hm _).mono ?_
      rintro e w5 ⟨rfl, hb5⟩
      go_wp2_with fail
      refine (awake_any _).mono ?_
      rintro e w6 ⟨rfl, hb6⟩
      go_wp2_with fail
      go_ret
      exact ⟨rfl, below_step (below_step (below_step (below_step (below_step hb1 hb2) hb3) hb4) hb5) hb6⟩
end Go.Proofs.Ytamnhnkpmiefcaa

/-
  Contracts over this translation: PutText and TakeText, varint's and the document's; Zig and Zag.
-/
import Derived.Test.YtohicccbaenegaaDoorVat
import Derived.Test.YtohicccbaenegaaDoorVan
import Derived.Test.YtohicccbaenegaaDoorLaw
set_option linter.unusedVariables false
namespace Go.Proofs.YtohicccbaenegaaDoor
open Go.RowKit

theorem ret_string {a b : List UInt8} (h : a = b) : Ending.returned (.string ⟨a.toArray⟩) = .returned (.string ⟨b.toArray⟩) := by rw [h]

theorem bytes_append (a : List UInt8) (s : ByteArray) : (⟨a.toArray⟩ : ByteArray) ++ s = ⟨(a ++ s.data.toList).toArray⟩ := by
  apply ByteArray.ext
  rw [ByteArray.data_append]
  simp

set_option maxRecDepth 100000 in
theorem PutText_any (s : ByteArray) (hs : s.size ≤ maxLen) (w : World) :
    Calls Tryd.prog 40 #[.string s] w fun e w' => e = .returned (.string ⟨(vputText s.data.toList).toArray⟩) ∧ Below w.heap.size w w' := by
  have hsm : s.size ≤ 9223372036854775807 := by unfold maxLen at hs; omega
  have HS := Lib.hid (Lib.size_eq s)
  by_cases h : s.size ≤ 65536
  · have hu : U64 s.size := by unfold U64; omega
    have hv : vputText s.data.toList = vput s.size ++ s.data.toList := by rw [vputText, if_neg (by rw [← HS.out]; omega), ← HS.out]
    have HV := Lib.hid hv; clear hv
    have hl := vput_len s.size
    have hsum : ¬ 9223372036854775807 < (vput s.size).length + s.size := by omega
    go_enter Tryd.func40, Tryd.ntmps40
    go_wp2_with (go_at_call 38; refine (Put_any _ hu _).mono ?_; rintro e w' ⟨rfl, hb⟩)
    go_ret
    exact ⟨by rw [HV.out]; exact congrArg (fun x => Ending.returned (.string x)) (bytes_append _ s), hb⟩
  · have hv : vputText s.data.toList = [] := by rw [vputText, if_pos (by rw [← HS.out]; omega)]
    have HV := Lib.hid hv; clear hv
    go_enter Tryd.func40, Tryd.ntmps40
    go_wp2
    go_ret
    exact ⟨by rw [HV.out]; rfl, Below.refl _ _⟩

set_option maxRecDepth 100000 in
theorem refPutText_any (s : ByteArray) (hs : s.size ≤ maxLen) (w : World) :
    Calls Tryd.prog 36 #[.string s] w fun e w' => e = .returned (.string ⟨(vputText s.data.toList).toArray⟩) ∧ Below w.heap.size w w' := by
  have hsm : s.size ≤ 9223372036854775807 := by unfold maxLen at hs; omega
  have HS := Lib.hid (Lib.size_eq s)
  by_cases h : s.size ≤ 65536
  · have hu : U64 s.size := by unfold U64; omega
    have hv : vputText s.data.toList = vput s.size ++ s.data.toList := by rw [vputText, if_neg (by rw [← HS.out]; omega), ← HS.out]
    have HV := Lib.hid hv; clear hv
    have hl := vput_len s.size
    have hsum : ¬ 9223372036854775807 < (vput s.size).length + s.size := by omega
    go_enter Tryd.func36, Tryd.ntmps36
    go_wp2_with (go_at_call 35; refine (refPut_any _ hu _).mono ?_; rintro e w' ⟨rfl, hb⟩)
    go_ret
    exact ⟨by rw [HV.out]; exact congrArg (fun x => Ending.returned (.string x)) (bytes_append _ s), hb⟩
  · have hv : vputText s.data.toList = [] := by rw [vputText, if_pos (by rw [← HS.out]; omega)]
    have HV := Lib.hid hv; clear hv
    go_enter Tryd.func36, Tryd.ntmps36
    go_wp2
    go_ret
    exact ⟨by rw [HV.out]; rfl, Below.refl _ _⟩


/-- What TakeText is told, spelled by what Take tells. -/
theorem takeText_of {l : List UInt8} {n k e : Nat} (h : vtake l = (n, k, e)) :
    vtakeText l = if e ≠ 0 then ([], 0, e) else if 65536 < n then ([], 0, 4) else if l.length < k + n then ([], 0, 1) else ((l.drop k).take n, k + n, 0) := by
  rw [vtakeText, h]

theorem three_of {a b c d e f : Value} (h1 : b = e ∧ c = f) (h : a = d) : Ending.returned (.tuple #[a, b, c]) = .returned (.tuple #[d, e, f]) := by rw [h, h1.1, h1.2]
theorem piece_eq (s : ByteArray) (k n : Nat) : Value.string (s.extract k (k + n)) = .string ⟨((s.data.toList.drop k).take n).toArray⟩ := by
  rw [Lib.extract_eq]; congr 4; omega
theorem run_slice_nat {P : Program} {t : TypeId} (ht : P.underlying t = some .string) (s : ByteArray) (k n : Nat) (h : k + n ≤ s.size) (w : World) :
    (Instr.slice t (.string s) (some (.int .i64 (k : Int))) (some (.int .i64 ((k : Int) + (n : Int)))) none).run P w = .ok (.string (s.extract k (k + n))) w := by
  have := run_slice_str ht s k ((k : Int) + n) (by omega) (by omega) (by omega) w
  rw [this]; congr 3 <;> omega

set_option maxRecDepth 100000 in
set_option maxHeartbeats 1000000 in
theorem TakeText_any (s : ByteArray) (hs : s.size ≤ maxLen) (w : World) :
    Calls Tryd.prog 66 #[.string s] w fun e w' => e = .returned (.tuple #[.string ⟨(vtakeText s.data.toList).1.toArray⟩, .int .i64 ((vtakeText s.data.toList).2.1 : Nat), .int .i64 ((vtakeText s.data.toList).2.2 : Nat)]) ∧ Below w.heap.size w w' := by
  have hsm : s.size ≤ 9223372036854775807 := by unfold maxLen at hs; omega
  have HS := Lib.hid (Lib.size_eq s)
  have hc := Take_any s hs w
  obtain ⟨n, k, e, hv⟩ : ∃ n k e, vtake s.data.toList = (n, k, e) := ⟨_, _, _, rfl⟩
  rw [hv] at hc
  have HV := Lib.hid (takeText_of hv)
  by_cases he : e = 0
  · subst he
    obtain ⟨h1, h2, h3, h4, h5⟩ := put_take hv
    clear h1
    rw [← HS.out] at h3
    by_cases hn : n ≤ 65536
    · by_cases hl : s.size < k + n
      · have HR := Lib.hid (show vtakeText s.data.toList = ([], 0, 1) by rw [HV.out, if_neg (by simp), if_neg (by omega), if_pos (by rw [← HS.out]; exact hl)])
        clear hv
        go_enter Tryd.func66, Tryd.ntmps66
        go_wp2_with (go_at_call 58; refine hc.mono ?_; rintro e w' ⟨rfl, hb⟩)
        go_ret3
        exact ⟨by rw [HR.out]; rfl, hb⟩
      · have HR := Lib.hid (show vtakeText s.data.toList = ((s.data.toList.drop k).take n, k + n, 0) by rw [HV.out, if_neg (by simp), if_neg (by omega), if_neg (by rw [← HS.out]; exact hl)])
        clear hv
        have hpc : (s.extract k (k + n)).size ≤ 281474976710656 := by rw [ByteArray.size_extract]; omega
        have hsl := fun W => run_slice_nat (P := Tryd.prog) Tryd.underlying9 s k n (by omega) W
        go_enter Tryd.func66, Tryd.ntmps66
        go_wp2_with (first | (go_at_call 58; refine hc.mono ?_; rintro e w' ⟨rfl, hb⟩) | (go_at_call 57; refine (Clone_any _ _ hpc).mono ?_; rintro e w2 ⟨rfl, hb2⟩))
        go_ret3
        exact ⟨by rw [HR.out]; exact three_of ⟨congrArg (Value.int .i64) (Int.natCast_add k n).symm, rfl⟩ (piece_eq s k n), hb.trans (hb2.mono hb.size)⟩
    · have HR := Lib.hid (show vtakeText s.data.toList = ([], 0, 4) by rw [HV.out, if_neg (by simp), if_pos (by omega)])
      clear hv
      have hn' : (65536 : Int) < (n : Int) := by omega
      go_enter Tryd.func66, Tryd.ntmps66
      go_wp2_with (go_at_call 58; refine hc.mono ?_; rintro e w' ⟨rfl, hb⟩)
      go_ret3
      exact ⟨by rw [HR.out]; rfl, hb⟩
  · obtain ⟨rfl, rfl, he4⟩ := vtake_err hv he
    have HR := Lib.hid (show vtakeText s.data.toList = ([], 0, e) by rw [HV.out, if_pos he])
    clear hv
    have he' : (!((e : Int) == 0)) = true := by simp; omega
    have he2 : ((e : Int) != 0) = true := by simp; omega
    go_enter Tryd.func66, Tryd.ntmps66
    go_wp2_with (go_at_call 58; refine hc.mono ?_; rintro e w' ⟨rfl, hb⟩)
    go_ret3
    exact ⟨by rw [HR.out]; rfl, hb⟩
end Go.Proofs.YtohicccbaenegaaDoor

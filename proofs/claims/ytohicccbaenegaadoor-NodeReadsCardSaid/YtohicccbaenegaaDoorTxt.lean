/-
  Contracts over this translation: texts with their lengths; the document's TakeText.
-/
import Derived.Test.YtohicccbaenegaaDoorTxu
import Derived.Test.YtohicccbaenegaaDoorRet
namespace Go.Proofs.YtohicccbaenegaaDoor
open Go.RowKit

set_option maxRecDepth 100000 in
set_option maxHeartbeats 1000000 in
theorem refTakeText_any (s : ByteArray) (hs : s.size ≤ maxLen) (w : World) :
    Calls Tryd.prog 32 #[.string s] w fun e w' => e = .returned (.tuple #[.string ⟨(vtakeText s.data.toList).1.toArray⟩, .int .i64 ((vtakeText s.data.toList).2.1 : Nat), .int .i64 ((vtakeText s.data.toList).2.2 : Nat)]) ∧ w' = w := by
  have hsm : s.size ≤ 9223372036854775807 := by unfold maxLen at hs; omega
  have HS := Lib.hid (Lib.size_eq s)
  have hc := refTake_any s hs w
  obtain ⟨n, k, e, hv⟩ : ∃ n k e, vtake s.data.toList = (n, k, e) := ⟨_, _, _, rfl⟩
  rw [hv] at hc
  have HV := Lib.hid (takeText_of hv)
  by_cases he : e = 0
  · subst he
    obtain ⟨h1, h2, h3, h4, h5⟩ := put_take hv
    clear h1
    rw [← HS.out] at h3
    by_cases hn : n ≤ 65536
    · by_cases hl : s.size < k + n
      · have HR := Lib.hid (show vtakeText s.data.toList = ([], 0, 1) by rw [HV.out, if_neg (by simp), if_neg (by omega), if_pos (by rw [← HS.out]; exact hl)])
        clear hv
        go_enter Tryd.func32, Tryd.ntmps32
        go_wp2_with (go_at_call 12; refine hc.mono ?_; rintro e w' ⟨rfl, rfl⟩)
        go_ret3
        exact ⟨by rw [HR.out]; rfl, rfl⟩
      · have HR := Lib.hid (show vtakeText s.data.toList = ((s.data.toList.drop k).take n, k + n, 0) by rw [HV.out, if_neg (by simp), if_neg (by omega), if_neg (by rw [← HS.out]; exact hl)])
        clear hv
        have hsl := fun W => run_slice_nat (P := Tryd.prog) Tryd.underlying9 s k n (by omega) W
        go_enter Tryd.func32, Tryd.ntmps32
        go_wp2_with (go_at_call 12; refine hc.mono ?_; rintro e w' ⟨rfl, rfl⟩)
        go_ret3
        exact ⟨by rw [HR.out]; exact three_of ⟨congrArg (Value.int .i64) (Int.natCast_add k n).symm, rfl⟩ (piece_eq s k n), rfl⟩
    · have HR := Lib.hid (show vtakeText s.data.toList = ([], 0, 4) by rw [HV.out, if_neg (by simp), if_pos (by omega)])
      clear hv
      have hn' : (65536 : Int) < (n : Int) := by omega
      go_enter Tryd.func32, Tryd.ntmps32
      go_wp2_with (go_at_call 12; refine hc.mono ?_; rintro e w' ⟨rfl, rfl⟩)
      go_ret3
      exact ⟨by rw [HR.out]; rfl, rfl⟩
  · obtain ⟨rfl, rfl, he4⟩ := vtake_err hv he
    have HR := Lib.hid (show vtakeText s.data.toList = ([], 0, e) by rw [HV.out, if_pos he])
    clear hv
    have he' : (!((e : Int) == 0)) = true := by simp; omega
    have he2 : ((e : Int) != 0) = true := by simp; omega
    go_enter Tryd.func32, Tryd.ntmps32
    go_wp2_with (go_at_call 12; refine hc.mono ?_; rintro e w' ⟨rfl, rfl⟩)
    go_ret3
    exact ⟨by rw [HR.out]; rfl, rfl⟩
end Go.Proofs.YtohicccbaenegaaDoor

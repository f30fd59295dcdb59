/-
  The statements of layer 3 as walks over this translation: each law answers true, and nothing that was there is written.
-/
import Derived.Test.YtnoacceihaedbaaFrs
set_option linter.unusedVariables false
namespace Go.Proofs.Ytnoacceihaedbaa
open Go.RowKit

theorem wrap_ex : fwrap [97] = [1, 97, 196, 255, 110, 113] := by decide +kernel
theorem ex_wrap (w : World) : Calls Try.prog 12 #[.string ⟨#[97]⟩] w fun e w' => e = .returned (.string ⟨#[1, 97, 196, 255, 110, 113]⟩) ∧ Below w.heap.size w w' :=
  (Wrap_any ⟨#[97]⟩ (by decide) w).mono fun e w' ⟨he, hb⟩ => ⟨by rw [he]; exact congrArg (fun l : List UInt8 => Ending.returned (.string ⟨l.toArray⟩)) wrap_ex, hb⟩
theorem ex_scan (w : World) : Calls Try.prog 10 #[.string ⟨#[]⟩] w fun e w' => ∃ a cap, e = .returned (.tuple #[.slice a 0 cap, .int .i64 0]) ∧ Below w.heap.size w w' :=
  (Scan_any ⟨#[]⟩ (by decide) w).mono fun e w' ⟨v, he, ⟨_, a, cap, hv, _⟩, hb⟩ => ⟨a, cap, by rw [he, hv]; rfl, hb⟩

set_option maxRecDepth 100000 in
set_option maxHeartbeats 1000000 in
theorem awake_any (w : World) : Calls Try.prog 7 #[] w fun e w' => e = .returned (.bool true) ∧ Below w.heap.size w w' := by
  have hx : ((⟨#[1, 97, 196, 255, 110, 113]⟩ : ByteArray).extract 0 2).toList = [1, 97] := by decide +kernel
  go_enter Try.func7, Try.ntmps7
  go_wp2_with fail
  refine (ex_wrap _).mono ?_
  rintro e w1 ⟨rfl, hb1⟩
  go_wp2_with fail
  refine (ex_scan _).mono ?_
  rintro e w2 ⟨a, cap, rfl, hb2⟩
  go_wp2
  go_ret
  exact ⟨rfl, below_step hb1 hb2⟩

theorem one_bool {a b : Bool} (h : a = b) : Ending.returned (.bool a) = .returned (.bool b) := by rw [h]

set_option maxRecDepth 100000 in
set_option maxHeartbeats 2000000 in
theorem FrameDoes_walk (s : ByteArray) (hs : s.size ≤ maxLen) (t : ByteArray) (ht : t.size ≤ maxLen) (w : World) :
    Calls Try.prog 3 #[.string s, .string t] w fun e w' => e = .returned (.bool true) ∧ Below w.heap.size w w' := by
  by_cases g1 : s.size ≤ 70000
  · by_cases g2 : t.size ≤ 5000
    · go_enter Try.func3, Try.ntmps3
      go_wp2_with fail
      refine (Open_any t ht _).mono ?_
      rintro e w1 ⟨rfl, hb1⟩
      go_wp2_with fail
      refine (refOpen_any t ht _).mono ?_
      rintro e w2 ⟨rfl, hb2⟩
      go_wp2_with fail
      refine (Scan_any t (by omega) _).mono ?_
      rintro e w3 ⟨v1, rfl, hv1, hb3⟩
      go_wp2_with fail
      refine (refScan_any t (by omega) _).mono ?_
      rintro e w4 ⟨v2, rfl, hv2, hb4⟩
      go_wp2_with fail
      refine (Wrap_any s hs _).mono ?_
      rintro e w5 ⟨rfl, hb5⟩
      go_wp2_with fail
      refine (refWrap_any s hs _).mono ?_
      rintro e w6 ⟨rfl, hb6⟩
      have hv1' := ((hv1.stays hb4).stays hb5).stays hb6
      have hv2' := (hv2.stays hb5).stays hb6
      go_wp2_with fail
      refine (Same_eq _ _ _ _ hv1' hv2').mono ?_
      rintro e w7 ⟨rfl, hb7⟩
      go_wp2_with fail
      refine (awake_any _).mono ?_
      rintro e w8 ⟨rfl, hb8⟩
      go_wp2_with fail
      go_ret
      exact ⟨rfl, below_step (below_step (below_step (below_step (below_step (below_step (below_step hb1 hb2) hb3) hb4) hb5) hb6) hb7) hb8⟩
    · go_enter Try.func3, Try.ntmps3
      go_wp2_with fail
      refine (awake_any _).mono ?_
      rintro e w5 ⟨rfl, hb5⟩
      go_wp2_with fail
      go_ret
      exact ⟨rfl, hb5⟩
  · go_enter Try.func3, Try.ntmps3
    go_wp2_with fail
    refine (awake_any _).mono ?_
    rintro e w5 ⟨rfl, hb5⟩
    go_wp2_with fail
    go_ret
    exact ⟨rfl, hb5⟩
end Go.Proofs.Ytnoacceihaedbaa

/-
  The statements of layer 1 as walks over this translation, the last two: texts there and back; sizes.
-/
import Derived.Test.YtamnhnkpmiefcaaWam
set_option linter.unusedVariables false
namespace Go.Proofs.Ytamnhnkpmiefcaa
open Go.RowKit Go.BigFrame

theorem vputText_len (l : List UInt8) (h : l.length ≤ 65536) : (vputText l).length ≤ 65546 ∧ l.length < (vputText l).length := by
  rw [vputText, if_neg (by omega), List.length_append]
  have := vput_len l.length
  have := vput_pos l.length
  omega

theorem takeText_len {l v : List UInt8} {j e : Nat} (h : vtakeText l = (v, j, e)) : v.length ≤ l.length := by
  rw [vtakeText] at h
  split at h
  · simp only [Prod.mk.injEq] at h; rw [← h.1]; simp
  · split at h
    · simp only [Prod.mk.injEq] at h; rw [← h.1]; simp
    · split at h
      · simp only [Prod.mk.injEq] at h; rw [← h.1]; simp
      · simp only [Prod.mk.injEq] at h; rw [← h.1, List.length_take, List.length_drop]; omega

set_option maxRecDepth 100000 in
set_option maxHeartbeats 2000000 in
theorem VarintWhole_walk (s : ByteArray) (hs : Reach s) (b : ByteArray) (hb : Reach b) (t : ByteArray) (ht : Reach t) (w : World) :
    Calls Try.prog 7 #[.string s, .string b, .string t] w fun e w' => e = .returned (.bool true) ∧ Below w.heap.size w w' := by
  by_cases hg : s.size ≤ 65536 ∧ b.size ≤ 1000 ∧ t.size ≤ 70000
  · obtain ⟨g1, g2, g3⟩ := hg
    have hl := vputText_len s.data.toList (by rw [← Lib.size_eq]; exact g1)
    have hl1 := hl.1
    have hsum : ¬ 9223372036854775807 < (vputText s.data.toList).length + b.size := by omega
    have hP := fun w => PutText_any s hs.le w
    have hT := fun w => TakeText_put s g1 b (by omega) w
    obtain ⟨v, j, e, hv⟩ : ∃ v j e, vtakeText t.data.toList = (v, j, e) := ⟨_, _, _, rfl⟩
    have hU := fun w => TakeText_any t ht.le w
    rw [hv] at hU
    obtain ⟨L, hL⟩ : ∃ L, L = (vputText s.data.toList).length := ⟨_, rfl⟩
    obtain ⟨u, hu⟩ : ∃ u : ByteArray, u = ⟨(vputText s.data.toList).toArray⟩ := ⟨_, rfl⟩
    have hus : u.size = L := by rw [hu, size_mk, hL]
    rw [← hu] at hP hT
    rw [← hL] at hT hsum
    have HP := Lib.hid hP; have HT := Lib.hid hT; have HU := Lib.hid hU
    have hsum' : ¬ 9223372036854775807 < u.size + b.size := by rw [hus]; exact hsum
    clear hP hT hU hl hl1 hL hu hsum
    by_cases he : e = 0
    · subst he
      obtain ⟨h1, h2⟩ := putText_takeText hv
      rw [← Lib.size_eq] at h1
      have hsl := fun W => run_slice_to (P := Try.prog) Try.underlying9 t j h1 W
      have hvl : v.length ≤ 70000 := by
        have : v.length ≤ t.data.toList.length := by
          exact takeText_len hv
        rw [← Lib.size_eq] at this; omega
      have hQ := fun W => PutText_any ⟨v.toArray⟩ (by rw [size_mk]; unfold maxLen; omega) W
      have heq : (⟨(vputText v).toArray⟩ : ByteArray) = t.extract 0 j := by
        rw [Lib.extract_eq, h2]; simp
      simp only [] at hQ
      rw [heq] at hQ
      have HQ := Lib.hid hQ
      clear hQ heq h2 hv hvl
      have HUS := Lib.hid hus; clear hus
      go_enter Try.func7, Try.ntmps7
      go_wp2_with fail
      refine (HP.out _).mono ?_
      rintro e w1 ⟨rfl, hb1⟩
      go_wp2_with fail
      refine (HT.out _).mono ?_
      rintro e w2 ⟨rfl, hb2⟩
      have hul : u.size = L := HUS.out
      go_wp2_with fail
      refine (HU.out _).mono ?_
      rintro e w3 ⟨rfl, hb3⟩
      go_wp2_with fail
      have hd : decide ((j : Int) ≤ (t.size : Int)) = true := by simp; exact h1
      refine wp_region_quiet_below (by kernel_rfl) (by kernel_rfl) ?_
      repeat (first
        | go_big_quiet_step ((first | (go_at_call 16; exact Calls.regrown_of (HQ.out _)) | (go_at_call 13; exact Calls.regrown_of (awake_any _))))
        | quiet_step ((first | (go_at_call 16; exact Calls.regrown_of (HQ.out _)) | (go_at_call 13; exact Calls.regrown_of (awake_any _)))))
      refine wpQuiet_nil ?_
      intro wq hwq
      have hb4 : Below w3.heap.size w3 wq := by obtain ⟨p, rfl⟩ := hwq; exact below_regrown _ _ _
      clear hwq
      go_wp2_with fail
      go_ret
      exact ⟨rfl, below_step (below_step (below_step hb1 hb2) hb3) hb4⟩
    · obtain ⟨rfl, rfl⟩ := takeText_err hv he
      have he1 : (!((e : Int) == 0)) = true := by simp; omega
      have he2 : ((e : Int) != 0) = true := by simp; omega
      have HUS := Lib.hid hus; clear hus hv
      go_enter Try.func7, Try.ntmps7
      go_wp2_with fail
      refine (HP.out _).mono ?_
      rintro e w1 ⟨rfl, hb1⟩
      go_wp2_with fail
      refine (HT.out _).mono ?_
      rintro e w2 ⟨rfl, hb2⟩
      have hul : u.size = L := HUS.out
      go_wp2_with fail
      refine (HU.out _).mono ?_
      rintro e w3 ⟨rfl, hb3⟩
      go_wp2_with fail
      refine (awake_any _).mono ?_
      rintro e w4 ⟨rfl, hb4⟩
      go_wp2_with fail
      go_ret
      exact ⟨rfl, below_step (below_step (below_step hb1 hb2) hb3) hb4⟩
  · by_cases g1 : s.size ≤ 65536
    · by_cases g2 : b.size ≤ 1000
      · have g3 : ¬ t.size ≤ 70000 := fun h => hg ⟨g1, g2, h⟩
        clear hg
        go_enter Try.func7, Try.ntmps7
        go_wp2_with fail
        refine (awake_any _).mono ?_
        rintro e w4 ⟨rfl, hb4⟩
        go_wp2_with fail
        go_ret
        exact ⟨rfl, hb4⟩
      · clear hg
        go_enter Try.func7, Try.ntmps7
        go_wp2_with fail
        refine (awake_any _).mono ?_
        rintro e w4 ⟨rfl, hb4⟩
        go_wp2_with fail
        go_ret
        exact ⟨rfl, hb4⟩
    · clear hg
      go_enter Try.func7, Try.ntmps7
      go_wp2_with fail
      refine (awake_any _).mono ?_
      rintro e w4 ⟨rfl, hb4⟩
      go_wp2_with fail
      go_ret
      exact ⟨rfl, hb4⟩
end Go.Proofs.Ytamnhnkpmiefcaa

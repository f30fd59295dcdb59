/-
  Layer 3: the statement FrameScans as a walk over this translation.
-/
import Derived.Test.YtnoacceihaedbaaFwb
set_option linter.unusedVariables false
namespace Go.Proofs.Ytnoacceihaedbaa
open Go.RowKit

set_option maxRecDepth 100000 in
set_option maxHeartbeats 2000000 in
theorem FrameScans_walk (v : Value) (L : List ByteArray) (s : ByteArray) (hs : s.size ≤ maxLen) (w : World) (hv : IsStrs w v L) :
    Calls Try.prog 6 #[v, .string s] w fun e w' => e = .returned (.bool true) ∧ Below w.heap.size w w' := by
  have HV := Lib.hid hv
  obtain ⟨hm, a, cap, rfl, _, hc⟩ := hv
  have hmm : L.length ≤ 9223372036854775807 := by unfold maxLen at hm; omega
  have HC := Lib.hid hc; clear hc hm
  by_cases g1 : L.length ≤ 20
  · by_cases g2 : s.size ≤ 1000
    · go_enter Try.func6, Try.ntmps6
      go_wp2_with fail
      go_loopw [5, 25] (fun q i wr => ∃ k : Nat, k ≤ L.length ∧ i = .int .i64 k ∧ q = .string ⟨(wraps (listsOf (L.take k))).toArray⟩ ∧ (∀ t ∈ L.take k, t.size ≤ 300) ∧ Below w.heap.size w wr) (fun _ i _ => L.length - (intOf i).toNat)
      case atStart => exact ⟨0, Nat.zero_le _, rfl, rfl, fun t ht => (by cases ht), Below.refl _ _⟩
      case round =>
        obtain ⟨k, hk, rfl, rfl, hall, hB⟩ := hrel
        have HALL := Lib.hid hall
        have hwl : (wraps (listsOf (L.take k))).length ≤ 314 * 20 := by
          have := wraps_len (L := listsOf (L.take k)) (m := 300) (fun t ht => by
            obtain ⟨y, hy, rfl⟩ := List.mem_map.1 ht
            rw [← Lib.size_eq]; exact hall y hy)
          have h2 : (listsOf (L.take k)).length ≤ 20 := by unfold listsOf; rw [List.length_map, List.length_take]; omega
          have h3 := Nat.mul_le_mul_left 314 h2
          omega
        obtain ⟨A, hA⟩ : ∃ A : ByteArray, A = ⟨(wraps (listsOf (L.take k))).toArray⟩ := ⟨_, rfl⟩
        have hAs : A.size ≤ 6280 := by rw [hA, size_mk]; exact hwl
        rw [← hA]
        have HA := Lib.hid hA
        clear hall hwl hA
        by_cases hlt : k < L.length
        · obtain ⟨b, off, rfl, hbl, hcell⟩ := HC.out (by omega)
          have c0 := hcell k hlt
          rw [← hB.cell (p := ⟨b, off + k, none⟩) hbl] at c0
          have hws := wraps_take L k hlt
          have hpt : ∀ t ∈ L.take (k + 1), t ∈ L.take k ∨ t = L[k] := fun t ht => by
            rw [List.take_succ_eq_append_getElem hlt] at ht
            rcases List.mem_append.1 ht with h | h
            · exact .inl h
            · exact .inr (List.mem_singleton.1 h)
          obtain ⟨t, ht⟩ : ∃ t, t = L[k] := ⟨_, rfl⟩
          rw [← ht] at c0 hws hpt
          have HT := Lib.hid ht; have HW := Lib.hid hws; have HPT := Lib.hid hpt
          clear hcell ht hws hpt
          have hbk : decide ((k : Int) < (L.length : Int)) = true := by simpa using (show (k : Int) < L.length by omega)
          by_cases g3 : t.size ≤ 300
          · have hts : t.size ≤ maxLen := by unfold maxLen; omega
            have hl := (fwrap_len (l := t.data.toList) (by rw [← Lib.size_eq]; omega)).2
            rw [← Lib.size_eq] at hl
            obtain ⟨x, hx⟩ : ∃ x : ByteArray, x = ⟨(fwrap t.data.toList).toArray⟩ := ⟨_, rfl⟩
            have hxs : x.size ≤ 1014 := by rw [hx, size_mk]; omega
            have hP := fun W => Wrap_any t hts W
            rw [← hx] at hP
            have HX := Lib.hid hx; have HP := Lib.hid hP
            have hs2 : ¬ 9223372036854775807 < A.size + x.size := by omega
            clear hl hx hP hts
            go_wp2_with fail
            refine (HP.out _).mono ?_
            rintro e w1 ⟨rfl, hb1⟩
            go_wp2
            go_roundw
            case rel => exact ⟨k + 1, by omega, by go_num, by rw [HW.out, ← app_mk, ← HA.out, ← HX.out], fun y hy => by
              rcases HPT.out y hy with h | h
              · exact HALL.out y h
              · rw [h]; exact g3, below_step hB hb1⟩
            case measure => simp [intOf]; omega
          · go_wp2_with fail
            refine (awake_any _).mono ?_
            rintro e w5 ⟨rfl, hb5⟩
            go_wp2_with fail
            go_ret
            exact ⟨rfl, below_step hB hb5⟩
        · have hke : L.take k = L := List.take_of_length_le (by omega)
          obtain ⟨i0, hi, hz0, hz1, hz2⟩ := info_parts infoStr
          have hL6 : ∀ t ∈ listsOf L, t.length ≤ 65536 := fun t ht => by
            obtain ⟨y, hy, rfl⟩ := List.mem_map.1 ht
            rw [← Lib.size_eq]
            have := HALL.out y (by rw [hke]; exact hy)
            omega
          have hAl : A.data.toList = wraps (listsOf L) := by rw [HA.out, hke]
          have hAz : A.size = (wraps (listsOf L)).length := by rw [Lib.size_eq, hAl]
          obtain ⟨f1, f2⟩ := textsOf_wraps hL6 []
          obtain ⟨f3, f4⟩ := textsOf_wraps hL6 s.data.toList
          rw [List.append_nil, show textsOf [] = [] from rfl, List.append_nil] at f1
          rw [List.append_nil, show scanEnd [] = 0 from rfl, Nat.add_zero] at f2
          have hS1 := fun W => Scan_any A (by omega) W
          have hS2 := fun W => Scan_any s (by omega) W
          have hS3 := fun W => Scan_any (A ++ s) (by rw [ByteArray.size_append]; omega) W
          have hdl : (A ++ s).data.toList = wraps (listsOf L) ++ s.data.toList := by
            rw [ByteArray.data_append, Array.toList_append, hAl]
          rw [hdl] at hS3
          rw [hAl] at hS1
          have hse := scanEnd_le s.data.toList
          have htl := texts_len s.data.toList
          rw [← Lib.size_eq] at hse htl
          unfold RetScan at hS1 hS2 hS3
          rw [f1, f2, strsOf_lists, ← hAz] at hS1
          rw [f3, f4, ← hAz] at hS3
          obtain ⟨M, hM⟩ : ∃ M, M = strsOf (textsOf s.data.toList) := ⟨_, rfl⟩
          obtain ⟨m, hmm2⟩ : ∃ m, m = scanEnd s.data.toList := ⟨_, rfl⟩
          have hMl : M.length ≤ 1000 := by rw [hM, strsOf_len]; omega
          rw [show strsOf (listsOf L ++ textsOf s.data.toList) = L ++ M by rw [hM]; unfold strsOf; rw [List.map_append]; congr 1; exact strsOf_lists L] at hS3
          rw [← hM] at hS2
          rw [← hmm2] at hS2 hS3 hse
          rw [Int.natCast_add] at hS3
          have H1 := Lib.hid hS1; have H2 := Lib.hid hS2; have H3 := Lib.hid hS3
          have hge : decide ((k : Int) < (L.length : Int)) = false := by simp; omega
          have hs1 : ¬ 9223372036854775807 < A.size + s.size := by omega
          have hsz := hB.size
          clear hS1 hS2 hS3 hL6 f1 f2 f3 f4 hAl hdl hAz hke hM hmm2 htl
          go_wp2_with fail
          refine (H1.out _).mono ?_
          rintro e w1 ⟨v1, rfl, hv1, hb1⟩
          go_wp2_with fail
          refine (H2.out _).mono ?_
          rintro e w2 ⟨v2, rfl, hv2, hb2⟩
          go_wp2_with fail
          refine (H3.out _).mono ?_
          rintro e w3 ⟨v3, rfl, hv3, hb3⟩
          have k1 := (hv1.stays hb2).stays hb3
          have k2 := hv2.stays hb3
          have kL := HV.out.stays (below_step (below_step (below_step hB hb1) hb2) hb3)
          go_wp2_with fail
          refine (Same_eq _ _ _ _ k1 kL).mono ?_
          rintro e w4 ⟨rfl, hb4⟩
          have k1' := (k1.stays hb4).stays ((Below.refl _ _).alloc (Nat.le_refl _) (.cells #[] 9))
          have hMe : Below w4.heap.size w4 w4 := Below.refl _ _
          go_wp2_with (at_builtin; refine wpList_append_strs rfl (.tmp 66) (.tmp 67) 28 rfl w4.heap.size 9 i0 (.string ⟨#[]⟩) 16 Try.underlying28 hi hz0 hz1 hz2 rfl _ [] rfl (World.ownsRow_made w4 #[] 0 (Nat.le_refl _) (by decide) rfl) _ L rfl k1' ?c1 ?c2 ?c3 ?_)
          case c1 => simp; unfold maxLen; omega
          case c2 => simp; omega
          case c3 => simp
          intro v5 w5 hown5 hg5
          have hb5 : Below w4.heap.size w4 w5 := (hMe.alloc (Nat.le_refl _) _).grown hg5 (by simp) (fun j hj => by cases hj; exact Nat.le_refl _)
          have k2' := (k2.stays hb4).stays hb5
          clear k1' hg5
          go_wp2_with (at_builtin; refine wpList_append_strs rfl (.tmp 68) (.tmp 69) 28 rfl w4.heap.size 9 i0 (.string ⟨#[]⟩) 16 Try.underlying28 hi hz0 hz1 hz2 rfl _ L rfl hown5 _ M rfl k2' ?d1 ?d2 ?d3 ?_)
          case d1 => unfold maxLen; omega
          case d2 => omega
          case d3 => exact hb5.size
          intro v6 w6 hown6 hg6
          have hb6 : Below w4.heap.size w4 w6 := hb5.grown hg6 hb5.size (fun j hj => (hown5.lt j hj).1)
          have k3' := (hv3.stays hb4).stays hb6
          have k6 : IsStrs w6 v6 (L ++ M) := IsStrs.of_owns (by simpa using hown6)
          clear hown5 hown6 hg6 k2' hb5
          go_wp2_with fail
          refine (Same_eq _ _ _ _ k3' k6).mono ?_
          rintro e w7 ⟨rfl, hb7⟩
          go_wp2_with fail
          refine (awake_any _).mono ?_
          rintro e w8 ⟨rfl, hb8⟩
          go_wp2_with fail
          go_ret
          exact ⟨rfl, below_step (below_step (below_step (below_step (below_step (below_step (below_step hB hb1) hb2) hb3) hb4) hb6) hb7) hb8⟩
    · go_enter Try.func6, Try.ntmps6
      go_wp2_with fail
      refine (awake_any _).mono ?_
      rintro e w5 ⟨rfl, hb5⟩
      go_wp2_with fail
      go_ret
      exact ⟨rfl, hb5⟩
  · go_enter Try.func6, Try.ntmps6
    go_wp2_with fail
    refine (awake_any _).mono ?_
    rintro e w5 ⟨rfl, hb5⟩
    go_wp2_with fail
    go_ret
    exact ⟨rfl, hb5⟩
end Go.Proofs.Ytnoacceihaedbaa

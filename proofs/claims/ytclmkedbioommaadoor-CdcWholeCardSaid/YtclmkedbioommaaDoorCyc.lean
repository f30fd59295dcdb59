/-
  Layer 7: the statement CdcWhole as a walk over this translation.
-/
import Derived.Test.YtclmkedbioommaaDoorCya
set_option linter.unusedVariables false
namespace Go.Proofs.YtclmkedbioommaaDoor
open Go.RowKit Go.Shelf

theorem mk_app (A : ByteArray) (l m : List UInt8) (h : A.data.toList = l) : A ++ (⟨m.toArray⟩ : ByteArray) = ⟨(l ++ m).toArray⟩ := by
  apply ByteArray.ext
  apply Array.ext'
  simp [h]
theorem flat_on (ps : List (List UInt8)) (k : Nat) (h : k < ps.length) : (ps.take (k + 1)).flatten = (ps.take k).flatten ++ ps[k] := by
  rw [List.take_succ_eq_append_getElem h, List.flatten_append, List.flatten_singleton]
theorem flat_le (ps : List (List UInt8)) (k : Nat) : (ps.take k).flatten.length ≤ ps.flatten.length := by
  have : ps.flatten = (ps.take k).flatten ++ (ps.drop k).flatten := by rw [← List.flatten_append, List.take_append_drop]
  rw [this, List.length_append]; omega

set_option maxRecDepth 100000 in
set_option maxHeartbeats 4000000 in
theorem CdcWhole_walk (mn av mx : Int) (s : ByteArray) (hs : s.size ≤ maxLen) (w : World) (hT : Tabs w) :
    Calls Tryd.prog 4 #[pV mn av mx, .string s] w fun e w' => e = .returned (.bool true) ∧ Below w.heap.size w w' := by
  simp only [maxLen] at hs
  obtain ⟨V, hV⟩ : ∃ V, V = w.alloc (.cells #[.int .i64 mn, .int .i64 av, .int .i64 mx] 23) := ⟨_, rfl⟩
  have hRV : Row V w.heap.size #[.int .i64 mn, .int .i64 av, .int .i64 mx] 23 := by rw [hV]; exact Row.made _ _ _
  have hBV : Below w.heap.size w V := by rw [hV]; exact (Below.refl _ _).alloc (Nat.le_refl _) _
  have HG := Lib.hid (show TwoG w w.heap.size mn av mx V from ⟨hRV, hT.stays hBV, hBV⟩)
  have HV := Lib.hid hV
  have A := Lib.hid awake_any
  clear hV hRV hT hBV
  by_cases g1 : s.size ≤ 5000
  · have d1 : decide ((5000 : Int) < (s.size : Int)) = false := by simp; omega
    have F2 := Lib.hid (refFit_any mn av mx)
    obtain ⟨f, hf⟩ : ∃ f, f = fitB mn av mx := ⟨_, rfl⟩
    rw [← hf] at F2
    have HF := Lib.hid hf
    clear hf
    obtain ⟨c0, c1, c2⟩ := HG.out.cells
    go_enter Tryd.func4, Tryd.ntmps4
    go_wp2_with fail
    rw [← HV.out]
    refine (F2.out _).mono ?_
    rintro e w1 ⟨rfl, hb1⟩
    have HG2 := Lib.hid (HG.out.on hb1)
    clear HG HV hb1 c0 c1 c2 F2
    rcases f with _ | _
    · go_wp2_with fail
      refine (A.out _ HG2.out.tabs).mono ?_
      rintro e w2 ⟨rfl, hb2⟩
      go_wp2
      go_ret
      exact ⟨rfl, below_step HG2.out.below hb2⟩
    · obtain ⟨m, a, x, b, rfl, rfl, rfl, hfit⟩ := fit_nats HF.out.symm
      have FT := Lib.hid hfit
      have OK := Lib.hid (cutN_ok (mn := m) (b := b) (mx := x) (by have := hfit.h1; omega) (by have := hfit.h2; have := hfit.h3; omega))
      clear hfit HF
      obtain ⟨ps, hps⟩ : ∃ ps, ps = pcs (cutN m b x) s.data.toList := ⟨_, rfl⟩
      have P1 := Lib.hid (Pieces_any m a b x FT.out s (by omega) w1 HG2.out.tabs)
      have hflat := pcs_flat OK.out.pos s.data.toList.length s.data.toList (Nat.le_refl _)
      have heach := pcs_each OK.out s.data.toList.length s.data.toList (Nat.le_refl _)
      unfold RetPcs at P1
      rw [← hps] at P1 hflat heach
      have HFL := Lib.hid hflat; have HEA := Lib.hid heach
      clear hps hflat heach
      obtain ⟨c0, c1, c2⟩ := HG2.out.cells
      go_wp2_with fail
      refine P1.out.mono ?_
      rintro e w2 ⟨v, rfl, hv, hb2⟩
      have HG3 := Lib.hid (HG2.out.on hb2)
      have HVS := Lib.hid hv
      obtain ⟨hm, a5, cap5, rfl, _, hc5⟩ := hv
      have hLl : (strsOf ps).length ≤ 9223372036854775807 := by unfold maxLen at hm; omega
      have HLN := Lib.hid (strsOf_len ps)
      clear HG2 hb2 c0 c1 c2 hc5 hm P1
      obtain ⟨N, hN⟩ : ∃ N, N = (strsOf ps).length := ⟨_, rfl⟩
      rw [← hN] at hLl ⊢
      have HN := Lib.hid hN
      clear hN
      go_wp2_with fail
      go_loop [6, 23] (fun t i => ∃ k : Nat, k ≤ N ∧ i = .int .i64 k ∧ t = .string ⟨((ps.take k).flatten).toArray⟩) (fun _ i => N - (intOf i).toNat)
      case atStart => exact ⟨0, Nat.zero_le _, rfl, rfl⟩
      case round =>
        obtain ⟨k, hk, rfl, rfl⟩ := hrel
        obtain ⟨c0, c1, c2⟩ := HG3.out.cells
        obtain ⟨B, hB⟩ : ∃ B : ByteArray, B = ⟨((ps.take k).flatten).toArray⟩ := ⟨_, rfl⟩
        have hBl : B.data.toList = (ps.take k).flatten := by rw [hB]
        have hBs : B.size ≤ 5000 := by
          have := flat_le ps k
          rw [HFL.out, ← Lib.size_eq] at this
          rw [Lib.size_eq, hBl]; omega
        rw [← hB]
        by_cases hlt : k < N
        · obtain ⟨_, _, _, e5, _, hc5⟩ := HVS.out
          obtain ⟨b5, o5, r5, _, g5⟩ := hc5 (by rw [← HN.out]; omega)
          simp only [Value.slice.injEq] at e5
          rw [← e5.1] at r5
          subst r5
          have q5 := g5 k (by rw [← HN.out]; exact hlt)
          have hkp : k < ps.length := by rw [← HLN.out, ← HN.out]; exact hlt
          have hx : (strsOf ps)[k]'(by rw [← HN.out]; exact hlt) = ⟨ps[k].toArray⟩ := strsOf_get hkp
          rw [hx] at q5
          obtain ⟨z1, z2, z3⟩ := HEA.out k ps[k] (by rw [List.getElem?_eq_getElem hkp])
          have hnext : B ++ (⟨ps[k].toArray⟩ : ByteArray) = ⟨((ps.take (k + 1)).flatten).toArray⟩ := by rw [mk_app B _ _ hBl, flat_on ps k hkp]
          obtain ⟨y, hy⟩ : ∃ y : ByteArray, y = ⟨ps[k].toArray⟩ := ⟨_, rfl⟩
          have hys : y.size = ps[k].length := by rw [hy, Lib.size_eq]
          rw [← hys] at z1 z2 z3
          rw [← hy] at q5 hnext
          rw [← HLN.out, ← HN.out] at z3
          have hsum : ¬ 9223372036854775807 < B.size + y.size := by have := FT.out.h4; omega
          have t1 : ((y.size : Int) == 0) = false := beq_eq_false_iff_ne.2 (by omega)
          have t2 : decide ((x : Int) < (y.size : Int)) = false := by simp; omega
          have t0 : decide ((k : Int) < (N : Int)) = true := by simpa using hlt
          have HNX := Lib.hid hnext
          clear g5 hc5 e5 hx hnext hy hys hB hBl hkp
          by_cases hlast : k + 1 < N
          · have t3 : decide ((k : Int) < (N : Int) - 1) = true := by simp; omega
            have z4 : ¬ y.size < m := by have := z3 hlast; omega
            have t4 : decide ((y.size : Int) < (m : Int)) = false := by simp; omega
            have z5 : ¬ x < y.size := by omega
            clear z1 z3
            go_wp2
            go_round
            case rel => exact ⟨k + 1, by omega, by go_num, by rw [HNX.out]⟩
            case measure => simp [intOf]; omega
          · have t3 : decide ((k : Int) < (N : Int) - 1) = false := by simp; omega
            have z5 : ¬ x < y.size := by omega
            clear z1 z3
            go_wp2
            go_round
            case rel => exact ⟨k + 1, by omega, by go_num, by rw [HNX.out]⟩
            case measure => simp [intOf]; omega
        · have hkk : (ps.take k) = ps := List.take_of_length_le (by rw [← HLN.out, ← HN.out]; omega)
          have hBS : B = s := by
            rw [hB, hkk, HFL.out]
          have q : (s.toList == s.toList) = true := beq_self_eq_true _
          clear hB hBl hkk hBs
          subst hBS
          go_wp2_with fail
          refine (A.out _ HG3.out.tabs).mono ?_
          rintro e w3 ⟨rfl, hb3⟩
          go_wp2
          go_ret
          exact ⟨rfl, below_step HG3.out.below hb3⟩
  · have d1 : decide ((5000 : Int) < (s.size : Int)) = true := by simp; omega
    go_enter Tryd.func4, Tryd.ntmps4
    go_wp2_with fail
    rw [← HV.out]
    refine (A.out _ HG.out.tabs).mono ?_
    rintro e w1 ⟨rfl, hb1⟩
    go_wp2
    go_ret
    exact ⟨rfl, below_step HG.out.below hb1⟩
end Go.Proofs.YtclmkedbioommaaDoor

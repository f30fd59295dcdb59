/-
  Layer 7: the statement CdcStep as a walk over this translation.
-/
import Derived.Test.YtclmkedbioommaaDoorCya
import Derived.IntWalk
set_option linter.unusedVariables false
namespace Go.Proofs.YtclmkedbioommaaDoor
open Go.RowKit Go.Shelf

set_option maxRecDepth 100000 in
set_option maxHeartbeats 4000000 in
theorem CdcStep_walk (mn av mx : Int) (a b : ByteArray) (hsa : a.size ≤ maxLen) (hsb : b.size ≤ maxLen) (w : World) (hT : Tabs w) :
    Calls Tryd.prog 5 #[pV mn av mx, .string a, .string b] w fun e w' => e = .returned (.bool true) ∧ Below w.heap.size w w' := by
  simp only [maxLen] at hsa hsb
  obtain ⟨V, hV⟩ : ∃ V, V = w.alloc (.cells #[.int .i64 mn, .int .i64 av, .int .i64 mx] 23) := ⟨_, rfl⟩
  have hRV : Row V w.heap.size #[.int .i64 mn, .int .i64 av, .int .i64 mx] 23 := by rw [hV]; exact Row.made _ _ _
  have hBV : Below w.heap.size w V := by rw [hV]; exact (Below.refl _ _).alloc (Nat.le_refl _) _
  have HG := Lib.hid (show TwoG w w.heap.size mn av mx V from ⟨hRV, hT.stays hBV, hBV⟩)
  have HV := Lib.hid hV
  have A := Lib.hid awake_any
  clear hV hRV hT hBV
  by_cases g1 : a.size ≤ 3000
  · have d1 : decide ((3000 : Int) < (a.size : Int)) = false := by simp; omega
    by_cases g2 : b.size ≤ 3000
    · have d2 : decide ((3000 : Int) < (b.size : Int)) = false := by simp; omega
      have F2 := Lib.hid (refFit_any mn av mx)
      obtain ⟨f, hf⟩ : ∃ f, f = fitB mn av mx := ⟨_, rfl⟩
      rw [← hf] at F2
      have HF := Lib.hid hf
      clear hf
      obtain ⟨c0, c1, c2⟩ := HG.out.cells
      go_enter Tryd.func5, Tryd.ntmps5
      go_wp2_with fail
      rw [← HV.out]
      refine (F2.out _).mono ?_
      rintro e w1 ⟨rfl, hb1⟩
      have HG2 := Lib.hid (HG.out.on hb1)
      clear HG HV hb1 c0 c1 c2 F2
      rcases f with _ | _
      · go_wp2_with fail
        refine (A.out _ HG2.out.tabs).mono ?_
        rintro e w2 ⟨rfl, hb2⟩
        go_wp2
        go_ret
        exact ⟨rfl, below_step HG2.out.below hb2⟩
      · obtain ⟨m, av', x, bb, rfl, rfl, rfl, hfit⟩ := fit_nats HF.out.symm
        have FT := Lib.hid hfit
        have OK := Lib.hid (cutN_ok (mn := m) (b := bb) (mx := x) (by have := hfit.h1; omega) (by have := hfit.h2; have := hfit.h3; omega))
        have hx4 : x ≤ 4096 := by have := hfit.h4; omega
        clear hfit HF
        have K1 := Lib.hid (fun w hw => Cut_any m av' bb x FT.out a (by unfold maxLen; omega) w hw)
        have hle := OK.out.le a.data.toList
        rw [← Lib.size_eq] at hle
        have hpos := OK.out.pos a.data.toList
        have K2 : Hid (x ≤ a.size → ∀ w, Tabs w → Calls Tryd.prog 12 #[pV m av' x, .string (a ++ b)] w fun e w' => e = .returned (.int .i64 (cutN m bb x a.data.toList : Nat)) ∧ Below w.heap.size w w') := by
          intro hxa w hw
          have := Cut_any m av' bb x FT.out (a ++ b) (by rw [ByteArray.size_append]; unfold maxLen; omega) w hw
          rwa [bytes_app, cutN_app_max _ (by rw [← Lib.size_eq]; exact hxa)] at this
        have K3 : Hid (∀ w, Tabs w → Calls Tryd.prog 12 #[pV m av' x, .string (a.extract 0 x)] w fun e w' => e = .returned (.int .i64 (cutN m bb x a.data.toList : Nat)) ∧ Below w.heap.size w w') := by
          intro w hw
          have := Cut_any m av' bb x FT.out (a.extract 0 x) (by rw [ByteArray.size_extract]; unfold maxLen; omega) w hw
          rwa [ext_take, cutN_take] at this
        have P1 := Lib.hid (fun w hw => Pieces_any m av' bb x FT.out a (by omega) w hw)
        have P2 := Lib.hid (fun w hw => Pieces_any m av' bb x FT.out (a.extract (cutN m bb x a.data.toList) a.size) (by rw [ByteArray.size_extract]; omega) w hw)
        obtain ⟨L1, hL1⟩ : ∃ L, L = strsOf (pcs (cutN m bb x) a.data.toList) := ⟨_, rfl⟩
        obtain ⟨L2, hL2⟩ : ∃ L, L = strsOf (pcs (cutN m bb x) (a.extract (cutN m bb x a.data.toList) a.size).data.toList) := ⟨_, rfl⟩
        unfold RetPcs at P1 P2
        rw [← hL1] at P1
        rw [← hL2] at P2
        have hL2s : L2.length ≤ 3000 := by
          have := pcs_len OK.out.pos _ (a.extract (cutN m bb x a.data.toList) a.size).data.toList (Nat.le_refl _)
          rw [← strsOf_len, ← hL2, Lib.extract_to_end, List.length_drop, ← Lib.size_eq] at this
          omega
        have hcase : (a.size = 0 ∧ L1 = [] ∧ L2 = []) ∨ (0 < a.size ∧ ∃ y, L1 = y :: L2) := by
          by_cases h0 : a.size = 0
          · have e : a.data.toList = [] := List.length_eq_zero_iff.1 (by rw [← Lib.size_eq]; exact h0)
            refine .inl ⟨h0, ?_, ?_⟩
            · rw [hL1, e, pcs_nil]; rfl
            · rw [hL2, Lib.extract_to_end, e, List.drop_nil, pcs_nil]; rfl
          · have hne : a.data.toList ≠ [] := fun e => h0 (by rw [Lib.size_eq, e]; rfl)
            refine .inr ⟨by omega, ⟨(a.data.toList.take (cutN m bb x a.data.toList)).toArray⟩, ?_⟩
            rw [hL1, pcs_cons OK.out.pos hne, hL2, Lib.extract_to_end]; rfl
        have hnz : a.size ≠ 0 → 1 ≤ cutN m bb x a.data.toList := fun h => hpos (fun e => h (by rw [Lib.size_eq, e]; rfl))
        have hd := fun W => run_slice_from (P := Tryd.prog) Tryd.underlying9 a (cutN m bb x a.data.toList) hle W
        obtain ⟨n, hn⟩ : ∃ n, n = cutN m bb x a.data.toList := ⟨_, rfl⟩
        rw [← hn] at K1 K2 K3 P2 hnz hle hd
        obtain ⟨t, ht⟩ : ∃ t, t = a.extract n a.size := ⟨_, rfl⟩
        rw [← ht] at P2 hd
        clear hL1 hL2 hn ht hpos OK
        obtain ⟨c0, c1, c2⟩ := HG2.out.cells
        go_wp2_with fail
        refine (K1.out _ HG2.out.tabs).mono ?_
        rintro e w2 ⟨rfl, hb2⟩
        have HG3 := Lib.hid (HG2.out.on hb2)
        clear HG2 hb2 c0 c1 c2 K1
        obtain ⟨c0, c1, c2⟩ := HG3.out.cells
        have HD := Lib.hid hd
        clear hd
        have n0 : decide ((n : Int) < 0) = false := by simp
        have n1 : ¬ a.size < n := by omega
        have n2 : decide ((a.size : Int) < (n : Int)) = false := by simp; omega
        have hem : (a.toList.isEmpty = true ∧ ((n : Int) == 0) = true ∧ ((L1.length : Int) != 0) = false) ∨ (a.toList.isEmpty = false ∧ ((n : Int) == 0) = false ∧ ((L1.length : Int) != (L2.length : Int) + 1) = false) := by
          rcases hcase with ⟨h0, h1, h2⟩ | ⟨h0, y, h1⟩
          · refine .inl ⟨?_, by rw [beq_iff_eq]; omega, by rw [h1]; rfl⟩
            rcases h : a.toList.isEmpty with _ | _
            · rw [str_nonempty] at h; omega
            · rfl
          · refine .inr ⟨by rw [str_nonempty]; exact h0, beq_eq_false_iff_ne.2 (by have := hnz (by omega); omega), by rw [h1]; simp⟩
        have SAME : Hid (∀ (k : Nat) (h2 : k < L2.length), ∃ h1 : k + 1 < L1.length, L1[k + 1] = L2[k]) := fun k h2 => by
          rcases hcase with ⟨h0, h1, h3⟩ | ⟨h0, y, h1⟩
          · rw [h3] at h2; cases h2
          · subst h1; exact ⟨by simpa using h2, by simp⟩
        clear hcase hnz
        rcases hem with ⟨hem, nz, hlen⟩ | ⟨hem, nz, hlen⟩
        all_goals
          go_wp2_with fail
          refine (P1.out _ HG3.out.tabs).mono ?_
          rintro e w3 ⟨v1, rfl, hv1, hb3⟩
          have HG4 := Lib.hid (HG3.out.on hb3)
          have H1 := Lib.hid hv1
          obtain ⟨hm1, a5, cap5, rfl, _, hc5⟩ := hv1
          clear hb3 c0 c1 c2 hc5 HG3 P1
          obtain ⟨c0, c1, c2⟩ := HG4.out.cells
          have hd := HD.out
          go_wp2_with fail
          go_still_tail 4, (by kernel_rfl)
          change wpList _ _ _ _ _ w3.drew
          clear hd
          go_wp2_with fail
          refine (P2.out _ (HG4.out.on ((Below.refl _ _).drew)).tabs).mono ?_
          rintro e w4 ⟨v2, rfl, hv2, hb4⟩
          have HG5 := Lib.hid ((HG4.out.on ((Below.refl _ _).drew)).on hb4)
          have H2 := Lib.hid hv2
          have H1' := Lib.hid ((H1.out.stays ((Below.refl _ _).drew)).stays hb4)
          obtain ⟨hm2, a6, cap6, rfl, _, hc6⟩ := hv2
          clear hb4 c0 c1 c2 hc6 HG4 P2 H1
          have l1 : L1.length ≤ 9223372036854775807 := by unfold maxLen at hm1; omega
          clear hm1 hm2
          go_wp2_with fail
          go_loopw [73] (fun i wr => ∃ k md : Nat, k ≤ L2.length ∧ i = .int .i64 k ∧ wr = w4.drewN md) (fun i _ => L2.length - (intOf i).toNat)
          case atStart => exact ⟨0, 0, Nat.zero_le _, rfl, rfl⟩
          case round =>
            obtain ⟨k, md, hk, rfl, rfl⟩ := hrel
            by_cases hlt : k < L2.length
            · obtain ⟨_, _, _, e5, _, hc5⟩ := H1'.out
              obtain ⟨_, _, _, e6, _, hc6⟩ := H2.out
              obtain ⟨hk1, hsm⟩ := SAME.out k hlt
              obtain ⟨b5, o5, r5, _, g5⟩ := hc5 (by omega)
              obtain ⟨b6, o6, r6, _, g6⟩ := hc6 (by omega)
              simp only [Value.slice.injEq] at e5 e6
              rw [← e5.1] at r5
              rw [← e6.1] at r6
              subst r5 r6
              have q5 := g5 (k + 1) hk1
              have q6 := g6 k hlt
              rw [hsm] at q5
              have s1 : IntKind.i64.wrap ((k : Int) + 1) = (k : Int) + 1 := IntWalk.i64_in _ (by omega)
              have s2 : 0 ≤ (k : Int) + 1 := by omega
              have s3 : ((k : Int) + 1).toNat = k + 1 := by omega
              have s4 : (k : Int) + 1 < (L1.length : Int) := by omega
              have hbk : decide ((k : Int) < (L2.length : Int)) = true := by simpa using hlt
              clear g5 g6 hc5 hc6 e5 e6 hsm
              go_wp2_with fail
              go_quiet (fail)
              clear s1 s2 s3
              go_wp2
              go_roundw
              case rel => exact ⟨k + 1, md + nq, by omega, by go_num, by simp [World.drewN]⟩
              case measure => simp [intOf]; omega
            · obtain ⟨W6, hW6⟩ : ∃ W6, W6 = w4.drewN md := ⟨_, rfl⟩
              have HG6 := Lib.hid (show TwoG w w.heap.size m av' x W6 by rw [hW6]; exact HG5.out.on (below_drewN (Below.refl _ _) md))
              rw [← hW6]
              clear hW6 HG5 H1' H2
              obtain ⟨c0, c1, c2⟩ := HG6.out.cells
              have k0 := fun d os => cell_regrown c0 d os
              have k1 := fun d os => cell_regrown c1 d os
              have k2 := fun d os => cell_regrown c2 d os
              have hbk : decide ((k : Int) < (L2.length : Int)) = false := by simp; omega
              have hsum : ¬ 9223372036854775807 < a.size + b.size := by omega
              by_cases hax : a.size < x
              · have hbx : decide ((a.size : Int) < (x : Int)) = true := by simpa using hax
                go_wp2_with fail
                refine wp_region_quiet_below (by kernel_rfl) (by kernel_rfl) ?_
                repeat (first | go_big_quiet_step ((exact Calls.regrown_of (A.out _ (HG6.out.tabs.stays (below_regrown _ _ _))))) | quiet_step ((exact Calls.regrown_of (A.out _ (HG6.out.tabs.stays (below_regrown _ _ _))))))
                refine wpQuiet_nil ?_
                intro wq hwq
                have hbq : Below W6.heap.size W6 wq := by obtain ⟨p, rfl⟩ := hwq; exact below_regrown _ _ _
                have HG7 := Lib.hid (HG6.out.on hbq)
                clear hwq hbq k0 k1 k2 c0 c1 c2
                go_wp2
                go_ret
                exact ⟨rfl, HG7.out.below⟩
              · have hbx : decide ((a.size : Int) < (x : Int)) = false := by simp; omega
                have K2' := Lib.hid (K2.out (by omega))
                have hd2 := fun W => run_slice_to (P := Tryd.prog) Tryd.underlying9 a x (by omega) W
                obtain ⟨y, hy⟩ : ∃ y, y = a.extract 0 x := ⟨_, rfl⟩
                rw [← hy] at hd2 K3
                clear hy
                go_wp2_with fail
                refine wp_region_quiet_below (by kernel_rfl) (by kernel_rfl) ?_
                repeat (first | go_big_quiet_step ((first | (go_at_call 9; exact Calls.regrown_of (A.out _ (HG6.out.tabs.stays (below_regrown _ _ _)))) | with_reducible exact Calls.regrown_of (K2'.out _ (HG6.out.tabs.stays (below_regrown _ _ _))) | exact Calls.regrown_of (K3.out _ (HG6.out.tabs.stays (below_regrown _ _ _))))) | quiet_step ((first | (go_at_call 9; exact Calls.regrown_of (A.out _ (HG6.out.tabs.stays (below_regrown _ _ _)))) | with_reducible exact Calls.regrown_of (K2'.out _ (HG6.out.tabs.stays (below_regrown _ _ _))) | exact Calls.regrown_of (K3.out _ (HG6.out.tabs.stays (below_regrown _ _ _))))))
                refine wpQuiet_nil ?_
                intro wq hwq
                have hbq : Below W6.heap.size W6 wq := by obtain ⟨p, rfl⟩ := hwq; exact below_regrown _ _ _
                have HG7 := Lib.hid (HG6.out.on hbq)
                clear hwq hbq k0 k1 k2 c0 c1 c2 hd2
                go_wp2
                go_ret
                exact ⟨rfl, HG7.out.below⟩
    · have d2 : decide ((3000 : Int) < (b.size : Int)) = true := by simp; omega
      go_enter Tryd.func5, Tryd.ntmps5
      go_wp2_with fail
      rw [← HV.out]
      refine (A.out _ HG.out.tabs).mono ?_
      rintro e w1 ⟨rfl, hb1⟩
      go_wp2
      go_ret
      exact ⟨rfl, below_step HG.out.below hb1⟩
  · have d1 : decide ((3000 : Int) < (a.size : Int)) = true := by simp; omega
    go_enter Tryd.func5, Tryd.ntmps5
    go_wp2_with fail
    rw [← HV.out]
    refine (A.out _ HG.out.tabs).mono ?_
    rintro e w1 ⟨rfl, hb1⟩
    go_wp2
    go_ret
    exact ⟨rfl, below_step HG.out.below hb1⟩
end Go.Proofs.YtclmkedbioommaaDoor

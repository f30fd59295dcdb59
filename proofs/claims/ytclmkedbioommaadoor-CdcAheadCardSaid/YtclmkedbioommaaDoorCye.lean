/-
  Layer 7: the statement CdcAhead as a walk over this translation.
-/
import Derived.Test.YtclmkedbioommaaDoorCya
set_option linter.unusedVariables false
namespace Go.Proofs.YtclmkedbioommaaDoor
open Go.RowKit Go.Shelf

/-- What is said of each operation of the region of two calls. -/
def ahU (mn av mx : Int) (a b : ByteArray) (L1 L2 : List ByteArray) : Nat → Value → World → Prop
  | 0 | 3 => fun v _ => v = pV mn av mx
  | 1 | 4 => fun v _ => v = .string a
  | 5 => fun v _ => v = .string b
  | 6 => fun v _ => v = .string (a ++ b)
  | 2 | 8 => fun v w => IsStrs w v L1
  | 7 | 9 => fun v w => IsStrs w v L2
  | _ => fun _ _ => True
def ahN : List (List Nat) := [[], [], [0, 1], [], [], [], [4, 5], [3, 6], [2], [7]]
theorem ah_T (mn av mx : Int) (a b : ByteArray) (L1 L2 : List ByteArray) (i k : Nat) (v : Value) (w w' : World) (hk : k < 10) (hU : ahU mn av mx a b L1 L2 k v w) (hT : twoT i w w') : ahU mn av mx a b L1 L2 k v w' := by
  match k, hk with
  | 0, _ | 1, _ | 3, _ | 4, _ | 5, _ | 6, _ => exact hU
  | 2, _ | 7, _ | 8, _ | 9, _ => exact IsStrs.stays hU hT

set_option maxRecDepth 100000 in
set_option maxHeartbeats 4000000 in
theorem CdcAhead_walk (mn av mx : Int) (a b : ByteArray) (hsa : a.size ≤ maxLen) (hsb : b.size ≤ maxLen) (w : World) (hT : Tabs w) :
    Calls Tryd.prog 6 #[pV mn av mx, .string a, .string b] w fun e w' => e = .returned (.bool true) ∧ Below w.heap.size w w' := by
  simp only [maxLen] at hsa hsb
  obtain ⟨V, hV⟩ : ∃ V, V = w.alloc (.cells #[.int .i64 mn, .int .i64 av, .int .i64 mx] 23) := ⟨_, rfl⟩
  have hRV : Row V w.heap.size #[.int .i64 mn, .int .i64 av, .int .i64 mx] 23 := by rw [hV]; exact Row.made _ _ _
  have hBV : Below w.heap.size w V := by rw [hV]; exact (Below.refl _ _).alloc (Nat.le_refl _) _
  have HG := Lib.hid (show TwoG w w.heap.size mn av mx V from ⟨hRV, hT.stays hBV, hBV⟩)
  have HV := Lib.hid hV
  have A := Lib.hid awake_any
  clear hV hRV hT hBV
  by_cases g1 : a.size ≤ 3000
  · have d1 : decide ((3000 : Int) < (a.size : Int)) = false := by simp; omega
    by_cases g2 : b.size ≤ 3000
    · have d2 : decide ((3000 : Int) < (b.size : Int)) = false := by simp; omega
      have F2 := Lib.hid (refFit_any mn av mx)
      obtain ⟨f, hf⟩ : ∃ f, f = fitB mn av mx := ⟨_, rfl⟩
      rw [← hf] at F2
      have HF := Lib.hid hf
      clear hf
      obtain ⟨c0, c1, c2⟩ := HG.out.cells
      go_enter Tryd.func6, Tryd.ntmps6
      go_wp2_with fail
      rw [← HV.out]
      refine (F2.out _).mono ?_
      rintro e w1 ⟨rfl, hb1⟩
      have HG2 := Lib.hid (HG.out.on hb1)
      clear HG HV hb1 c0 c1 c2 F2
      rcases f with _ | _
      · go_wp2_with fail
        refine (A.out _ HG2.out.tabs).mono ?_
        rintro e w2 ⟨rfl, hb2⟩
        go_wp2
        go_ret
        exact ⟨rfl, below_step HG2.out.below hb2⟩
      · obtain ⟨m, av', x, bb, rfl, rfl, rfl, hfit⟩ := fit_nats HF.out.symm
        have FT := Lib.hid hfit
        have OK := Lib.hid (cutN_ok (mn := m) (b := bb) (mx := x) (by have := hfit.h1; omega) (by have := hfit.h2; have := hfit.h3; omega))
        clear hfit HF
        obtain ⟨hah1, hah2⟩ := pcs_ahead OK.out a.data.toList.length a.data.toList b.data.toList (Nat.le_refl _)
        rw [← bytes_app] at hah1 hah2
        have hsum : ¬ 9223372036854775807 < a.size + b.size := by omega
        have hss : (a ++ b).size ≤ 6000 := by rw [ByteArray.size_append]; omega
        obtain ⟨L1, hL1⟩ : ∃ L, L = strsOf (pcs (cutN m bb x) a.data.toList) := ⟨_, rfl⟩
        obtain ⟨L2, hL2⟩ : ∃ L, L = strsOf (pcs (cutN m bb x) (a ++ b).data.toList) := ⟨_, rfl⟩
        have hle : L1.length ≤ L2.length := by rw [hL1, hL2, strsOf_len, strsOf_len]; exact hah1
        have hsame : Hid (∀ (k : Nat) (h1 : k < L1.length) (h2 : k < L2.length), k + 1 < L1.length → L1[k] = L2[k]) := fun k h1 h2 h3 => by
          subst hL1 hL2
          rw [strsOf_len] at h1 h2 h3
          rw [strsOf_get h1, strsOf_get h2]
          have := hah2 k h3
          rw [List.getElem?_eq_getElem h1, List.getElem?_eq_getElem h2] at this
          rw [Option.some.inj this]
        have P1 : Hid (∀ w, Tabs w → Calls Tryd.prog 10 #[pV m av' x, .string a] w fun e w' => ∃ v, e = .returned v ∧ (IsStrs w' v L1 ∧ Below w.heap.size w w')) := by
          intro w hw
          rw [hL1]
          exact (Pieces_any m av' bb x FT.out a (by omega) w hw)
        have P2 : Hid (∀ w, Tabs w → Calls Tryd.prog 10 #[pV m av' x, .string (a ++ b)] w fun e w' => ∃ v, e = .returned v ∧ (IsStrs w' v L2 ∧ Below w.heap.size w w')) := by
          intro w hw
          rw [hL2]
          exact (Pieces_any m av' bb x FT.out (a ++ b) (by omega) w hw)
        clear hL1 hL2 hah1 hah2 hss
        go_wp2_with fail
        refine wp_region_words (by kernel_rfl) (by kernel_rfl) twoT (TwoG w w.heap.size m av' x) (ahU m av' x a b L1 L2) 10 ahN [8, 9] (by kernel_rfl) (by kernel_rfl)
          [] (by kernel_rfl) (fun i k v w w' hi hk hne hke hU hT => ah_T _ _ _ _ _ _ _ i k v w w' hk hU hT) (HG2.out.on ((Below.refl _ _).drew)) (fun k hk hge => absurd hk (Nat.not_lt.2 (show 10 ≤ k from hge))) [24, 25, 26, 27, 28, 29, 30, 31, 7, 8] (by kernel_rfl) (forall_ops ?_) ?_
        · refine ⟨?_, ?_, ?_, ?_, ?_, ?_, ?_, ?_, ?_, ?_, trivial⟩
          · exact stepW_value (t := 24) (pV m av' x) rfl (twoT_refl _) (fun ac w hG hN hO => by
              have e : slot ac 3 = .pointer (some ⟨_, 0, none⟩) := hO 3 (by kernel_rfl)
              obtain ⟨c0, c1, c2⟩ := hG.cells
              have e' := slot_at e; unfold execOp; go_simp) (fun w hG => rfl)
          · exact stepW_value (t := 25) (.string a) rfl (twoT_refl _) (fun ac w hG hN hO => by
              have e : slot ac 1 = .string a := hO 1 (by kernel_rfl)
              exact run_move_slot (.inl rfl) e) (fun w hG => rfl)
          · intro ac w hG hN hO
            have e : slot ac 24 = pV m av' x := hN 0 (by decide)
            have e2 : slot ac 25 = .string a := hN 1 (by decide)
            refine wp_callx 10 _ _ rfl (enters_of Tryd.func10 (by kernel_rfl) rfl) #[pV m av' x, .string a] (by simp [slotE e, slotE e2]) (P1.out w hG.tabs) ?_
            rintro v w'' ⟨hv, hb⟩
            exact ⟨v, rfl, hb, hG.on hb, hv⟩
          · exact stepW_value (t := 27) (pV m av' x) rfl (twoT_refl _) (fun ac w hG hN hO => by
              have e : slot ac 3 = .pointer (some ⟨_, 0, none⟩) := hO 3 (by kernel_rfl)
              obtain ⟨c0, c1, c2⟩ := hG.cells
              have e' := slot_at e; unfold execOp; go_simp) (fun w hG => rfl)
          · exact stepW_value (t := 28) (.string a) rfl (twoT_refl _) (fun ac w hG hN hO => by
              have e : slot ac 1 = .string a := hO 1 (by kernel_rfl)
              exact run_move_slot (.inl rfl) e) (fun w hG => rfl)
          · exact stepW_value (t := 29) (.string b) rfl (twoT_refl _) (fun ac w hG hN hO => by
              have e : slot ac 2 = .string b := hO 2 (by kernel_rfl)
              exact run_move_slot (.inl rfl) e) (fun w hG => rfl)
          · exact stepW_value (t := 30) (.string (a ++ b)) rfl (twoT_refl _) (fun ac w hG hN hO => by
              have e : slot ac 28 = .string a := hN 4 (by decide)
              have e2 : slot ac 29 = .string b := hN 5 (by decide)
              have e' := slot_at e; have e2' := slot_at e2; unfold execOp; go_simp) (fun w hG => rfl)
          · intro ac w hG hN hO
            have e : slot ac 27 = pV m av' x := hN 3 (by decide)
            have e2 : slot ac 30 = .string (a ++ b) := hN 6 (by decide)
            refine wp_callx 10 _ _ rfl (enters_of Tryd.func10 (by kernel_rfl) rfl) #[pV m av' x, .string (a ++ b)] (by simp [slotE e, slotE e2]) (P2.out w hG.tabs) ?_
            rintro v w'' ⟨hv, hb⟩
            exact ⟨v, rfl, hb, hG.on hb, hv⟩
          · intro ac w hG hN hO
            have e : IsStrs w (slot ac 26) L1 := hN 2 (by decide)
            refine wp_value (run_move_slot (v := slot ac 26) (.inr rfl) rfl) ⟨_, rfl, twoT_refl _ _, hG, e⟩
          · intro ac w hG hN hO
            have e : IsStrs w (slot ac 31) L2 := hN 7 (by decide)
            refine wp_value (run_move_slot (v := slot ac 31) (.inr rfl) rfl) ⟨_, rfl, twoT_refl _ _, hG, e⟩
        · intro ac w5 hG hV hS ha
          have h5 : IsStrs w5 (slot ac 7) L1 := hV 8 (by decide) (by decide)
          have h6 : IsStrs w5 (slot ac 8) L2 := hV 9 (by decide) (by decide)
          generalize slot ac = sl at ha h5 h6
          subst ha
          simp only [patchL, List.contains_cons, List.contains_nil, Nat.reduceBEq, Bool.or_false, Bool.or_true, if_true, Bool.false_eq_true, if_false, Nat.reduceAdd]
          generalize sl 24 = s24
          generalize sl 25 = s25
          generalize sl 26 = s26
          generalize sl 27 = s27
          generalize sl 28 = s28
          generalize sl 29 = s29
          generalize sl 30 = s30
          generalize sl 31 = s31
          generalize sl 7 = s7 at h5 ⊢
          generalize sl 8 = s8 at h6 ⊢
          clear hV hS
          have H5 := Lib.hid h5; have H6 := Lib.hid h6
          obtain ⟨hm1, a5, cap5, rfl, _, hc5⟩ := h5
          obtain ⟨hm2, a6, cap6, rfl, _, hc6⟩ := h6
          have hLl1 : L1.length ≤ 9223372036854775807 := by unfold maxLen at hm1; omega
          have hLl2 : L2.length ≤ 9223372036854775807 := by unfold maxLen at hm2; omega
          have HG5 := Lib.hid hG
          clear hG hc5 hc6 hm1 hm2 P1 P2
          have dl : decide ((L2.length : Int) < (L1.length : Int)) = false := by simp; omega
          have dl2 : decide (L2.length < L1.length) = false := by simp; omega
          have dl3 : ¬ L2.length < L1.length := by omega
          go_wp2_with fail
          go_loopw [9] (fun i wr => ∃ k md : Nat, k ≤ L1.length ∧ i = .int .i64 k ∧ wr = w5.drewN md) (fun i _ => L1.length - (intOf i).toNat)
          case atStart => exact ⟨0, 0, Nat.zero_le _, rfl, rfl⟩
          case round =>
            obtain ⟨k, md, hk, rfl, rfl⟩ := hrel
            by_cases hlt : k + 1 < L1.length
            · obtain ⟨_, _, _, e5, _, hc5⟩ := H5.out
              obtain ⟨_, _, _, e6, _, hc6⟩ := H6.out
              obtain ⟨b5, o5, r5, _, g5⟩ := hc5 (by omega)
              obtain ⟨b6, o6, r6, _, g6⟩ := hc6 (by omega)
              simp only [Value.slice.injEq] at e5 e6
              rw [← e5.1] at r5
              rw [← e6.1] at r6
              subst r5 r6
              have q5 := g5 k (by omega)
              have q6 := g6 k (by omega)
              rw [hsame.out k (by omega) (by omega) hlt] at q5
              clear g5 g6 hc5 hc6 e5 e6
              have hbk : decide ((k : Int) < (L1.length : Int) - 1) = true := by simp; omega
              go_wp2_with fail
              go_quiet (fail)
              go_wp2
              go_roundw
              case rel => exact ⟨k + 1, md + nq, by omega, by go_num, by simp [World.drewN]⟩
              case measure => simp [intOf]; omega
            · have HG7 := Lib.hid (HG5.out.on (below_drewN (Below.refl _ _) md))
              have hbk : decide ((k : Int) < (L1.length : Int) - 1) = false := by simp; omega
              go_wp2_with fail
              refine (A.out _ HG7.out.tabs).mono ?_
              rintro e w2 ⟨rfl, hb2⟩
              go_wp2
              go_ret
              exact ⟨rfl, below_step HG7.out.below hb2⟩
    · have d2 : decide ((3000 : Int) < (b.size : Int)) = true := by simp; omega
      go_enter Tryd.func6, Tryd.ntmps6
      go_wp2_with fail
      rw [← HV.out]
      refine (A.out _ HG.out.tabs).mono ?_
      rintro e w1 ⟨rfl, hb1⟩
      go_wp2
      go_ret
      exact ⟨rfl, below_step HG.out.below hb1⟩
  · have d1 : decide ((3000 : Int) < (a.size : Int)) = true := by simp; omega
    go_enter Tryd.func6, Tryd.ntmps6
    go_wp2_with fail
    rw [← HV.out]
    refine (A.out _ HG.out.tabs).mono ?_
    rintro e w1 ⟨rfl, hb1⟩
    go_wp2
    go_ret
    exact ⟨rfl, below_step HG.out.below hb1⟩
end Go.Proofs.YtclmkedbioommaaDoor

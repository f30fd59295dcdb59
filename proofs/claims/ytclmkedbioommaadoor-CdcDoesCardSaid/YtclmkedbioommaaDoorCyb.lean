/-
  Layer 7: the statement CdcDoes as a walk over this translation.
-/
import Derived.Test.YtclmkedbioommaaDoorCya
set_option linter.unusedVariables false
namespace Go.Proofs.YtclmkedbioommaaDoor
open Go.RowKit Go.Shelf

/-- What is said of each operation of the region of two calls. -/
def doU (P : Nat) (mn av mx : Int) (s : ByteArray) (L : List ByteArray) : Nat → Value → World → Prop
  | 0 | 3 => fun v _ => v = pV mn av mx
  | 1 | 4 => fun v _ => v = .string s
  | 2 | 5 | 6 | 7 => fun v w => IsStrs w v L
  | _ => fun _ _ => True
def doN : List (List Nat) := [[], [], [0, 1], [], [], [3, 4], [2], [5]]
theorem do_T (P : Nat) (mn av mx : Int) (s : ByteArray) (L : List ByteArray) (i k : Nat) (v : Value) (w w' : World) (hk : k < 8) (hU : doU P mn av mx s L k v w) (hT : twoT i w w') : doU P mn av mx s L k v w' := by
  match k, hk with
  | 0, _ | 1, _ | 3, _ | 4, _ => exact hU
  | 2, _ | 5, _ | 6, _ | 7, _ => exact IsStrs.stays hU hT

set_option maxRecDepth 100000 in
set_option maxHeartbeats 4000000 in
theorem CdcDoes_walk (mn av mx : Int) (s : ByteArray) (hs : s.size ≤ maxLen) (w : World) (hT : Tabs w) :
    Calls Tryd.prog 3 #[pV mn av mx, .string s] w fun e w' => e = .returned (.bool true) ∧ Below w.heap.size w w' := by
  simp only [maxLen] at hs
  obtain ⟨V, hV⟩ : ∃ V, V = w.alloc (.cells #[.int .i64 mn, .int .i64 av, .int .i64 mx] 23) := ⟨_, rfl⟩
  have hRV : Row V w.heap.size #[.int .i64 mn, .int .i64 av, .int .i64 mx] 23 := by rw [hV]; exact Row.made _ _ _
  have hBV : Below w.heap.size w V := by rw [hV]; exact (Below.refl _ _).alloc (Nat.le_refl _) _
  have HTV := Lib.hid (hT.stays hBV)
  have HV := Lib.hid hV; have HRV := Lib.hid hRV
  have A := Lib.hid awake_any
  clear hV hRV hT
  by_cases g1 : s.size ≤ 5000
  · have d1 : decide ((5000 : Int) < (s.size : Int)) = false := by simp; omega
    have c0 := HRV.out.cell 0; have c1 := HRV.out.cell 1; have c2 := HRV.out.cell 2
    simp only [List.getElem?_toArray, List.getElem?_cons_zero, List.getElem?_cons_succ] at c0 c1 c2
    have k0 := fun d os => cell_regrown c0 d os
    have k1 := fun d os => cell_regrown c1 d os
    have k2 := fun d os => cell_regrown c2 d os
    have F1 := Lib.hid (Fit_any mn av mx)
    have F2 := Lib.hid (refFit_any mn av mx)
    obtain ⟨f, hf⟩ : ∃ f, f = fitB mn av mx := ⟨_, rfl⟩
    rw [← hf] at F1 F2
    have HF := Lib.hid hf
    clear hf
    go_enter Tryd.func3, Tryd.ntmps3
    go_wp2_with fail
    rw [← HV.out]
    refine wp_region_quiet_below (by kernel_rfl) (by kernel_rfl) ?_
    repeat (first | go_big_quiet_step ((first | (go_at_call 7; exact Calls.regrown_of (F1.out _)) | exact Calls.regrown_of (F2.out _))) | quiet_step ((first | (go_at_call 7; exact Calls.regrown_of (F1.out _)) | exact Calls.regrown_of (F2.out _))))
    refine wpQuiet_nil ?_
    intro wq hwq
    have hbq : Below V.heap.size V wq := by obtain ⟨p, rfl⟩ := hwq; exact below_regrown _ _ _
    clear hwq
    have G1 : TwoG w w.heap.size mn av mx wq := ⟨HRV.out.step hbq, HTV.out.stays hbq, hBV.trans (hbq.mono hBV.size)⟩
    clear c0 c1 c2 k0 k1 k2 hbq hBV HTV HRV HV F1
    obtain ⟨c0, c1, c2⟩ := G1.cells
    have HG1 := Lib.hid G1
    clear G1
    go_wp2_with fail
    refine (F2.out _).mono ?_
    rintro e w1 ⟨rfl, hb1⟩
    have HG2 := Lib.hid (HG1.out.on hb1)
    clear HG1 hb1 c0 c1 c2 F2
    rcases f with _ | _
    · go_wp2_with fail
      refine (A.out _ HG2.out.tabs).mono ?_
      rintro e w2 ⟨rfl, hb2⟩
      go_wp2
      go_ret
      exact ⟨rfl, below_step HG2.out.below hb2⟩
    · obtain ⟨m, a, x, b, rfl, rfl, rfl, hfit⟩ := fit_nats HF.out.symm
      have FT := Lib.hid hfit
      clear hfit HF
      obtain ⟨L, hL⟩ : ∃ L, L = strsOf (pcs (cutN m b x) s.data.toList) := ⟨_, rfl⟩
      have P1 : Hid (∀ w, Tabs w → Calls Tryd.prog 10 #[pV m a x, .string s] w fun e w' => ∃ v, e = .returned v ∧ (IsStrs w' v L ∧ Below w.heap.size w w')) := by
        intro w hw
        rw [hL]
        exact (Pieces_any m a b x FT.out s (by omega) w hw)
      have P2 : Hid (∀ w, Calls Tryd.prog 11 #[pV m a x, .string s] w fun e w' => ∃ v, e = .returned v ∧ (IsStrs w' v L ∧ Below w.heap.size w w')) := by
        intro w
        rw [hL]
        exact (refPieces_any m a b x FT.out s (by omega) w)
      clear hL
      go_wp2_with fail
      refine wp_region_words (by kernel_rfl) (by kernel_rfl) twoT (TwoG w w.heap.size m a x) (doU w.heap.size m a x s L) 8 doN [6, 7] (by kernel_rfl) (by kernel_rfl)
        [] (by kernel_rfl) (fun i k v w w' hi hk hne hke hU hT => do_T _ _ _ _ _ _ i k v w w' hk hU hT) (HG2.out.on ((Below.refl _ _).drew)) (fun k hk hge => absurd hk (Nat.not_lt.2 (show 8 ≤ k from hge))) [28, 29, 30, 31, 32, 33, 5, 6] (by kernel_rfl) (forall_ops ?_) ?_
      · refine ⟨?_, ?_, ?_, ?_, ?_, ?_, ?_, ?_, trivial⟩
        · exact stepW_value (t := 28) (pV m a x) rfl (twoT_refl 0) (fun ac w hG hN hO => by
            have e : slot ac 2 = .pointer (some ⟨_, 0, none⟩) := hO 2 (by kernel_rfl)
            obtain ⟨c0, c1, c2⟩ := hG.cells
            have e' := slot_at e; unfold execOp; go_simp) (fun w hG => rfl)
        · exact stepW_value (t := 29) (.string s) rfl (twoT_refl 1) (fun ac w hG hN hO => by
            have e : slot ac 1 = .string s := hO 1 (by kernel_rfl)
            exact run_move_slot (.inl rfl) e) (fun w hG => rfl)
        · intro ac w hG hN hO
          have e : slot ac 28 = pV m a x := hN 0 (by decide)
          have e2 : slot ac 29 = .string s := hN 1 (by decide)
          refine wp_callx 10 _ _ rfl (enters_of Tryd.func10 (by kernel_rfl) rfl) #[pV m a x, .string s] (by simp [slotE e, slotE e2]) (P1.out w hG.tabs) ?_
          rintro v w'' ⟨hv, hb⟩
          exact ⟨v, rfl, hb, hG.on hb, hv⟩
        · exact stepW_value (t := 31) (pV m a x) rfl (twoT_refl 3) (fun ac w hG hN hO => by
            have e : slot ac 2 = .pointer (some ⟨_, 0, none⟩) := hO 2 (by kernel_rfl)
            obtain ⟨c0, c1, c2⟩ := hG.cells
            have e' := slot_at e; unfold execOp; go_simp) (fun w hG => rfl)
        · exact stepW_value (t := 32) (.string s) rfl (twoT_refl 4) (fun ac w hG hN hO => by
            have e : slot ac 1 = .string s := hO 1 (by kernel_rfl)
            exact run_move_slot (.inl rfl) e) (fun w hG => rfl)
        · intro ac w hG hN hO
          have e : slot ac 31 = pV m a x := hN 3 (by decide)
          have e2 : slot ac 32 = .string s := hN 4 (by decide)
          refine wp_callx 11 _ _ rfl (enters_of Tryd.func11 (by kernel_rfl) rfl) #[pV m a x, .string s] (by simp [slotE e, slotE e2]) (P2.out w) ?_
          rintro v w'' ⟨hv, hb⟩
          exact ⟨v, rfl, hb, hG.on hb, hv⟩
        · intro ac w hG hN hO
          have e : IsStrs w (slot ac 30) L := hN 2 (by decide)
          refine wp_value (run_move_slot (v := slot ac 30) (.inr rfl) rfl) ⟨_, rfl, twoT_refl _ _, hG, e⟩
        · intro ac w hG hN hO
          have e : IsStrs w (slot ac 33) L := hN 5 (by decide)
          refine wp_value (run_move_slot (v := slot ac 33) (.inr rfl) rfl) ⟨_, rfl, twoT_refl _ _, hG, e⟩
      · intro ac w5 hG hV hS ha
        have h5 : IsStrs w5 (slot ac 5) L := hV 6 (by decide) (by decide)
        have h6 : IsStrs w5 (slot ac 6) L := hV 7 (by decide) (by decide)
        generalize slot ac = sl at ha h5 h6
        subst ha
        simp only [patchL, List.contains_cons, List.contains_nil, Nat.reduceBEq, Bool.or_false, Bool.or_true, if_true, Bool.false_eq_true, if_false, Nat.reduceAdd]
        generalize sl 28 = s28
        generalize sl 29 = s29
        generalize sl 30 = s30
        generalize sl 31 = s31
        generalize sl 32 = s32
        generalize sl 33 = s33
        generalize sl 5 = s5 at h5 ⊢
        generalize sl 6 = s6 at h6 ⊢
        clear hV hS
        have H5 := Lib.hid h5; have H6 := Lib.hid h6
        obtain ⟨hm, a5, cap5, rfl, _, hc5⟩ := h5
        obtain ⟨_, a6, cap6, rfl, _, hc6⟩ := h6
        have hLl : L.length ≤ 9223372036854775807 := by unfold maxLen at hm; omega
        obtain ⟨c0, c1, c2⟩ := hG.cells
        have k0 := fun d os => cell_regrown c0 d os
        have k1 := fun d os => cell_regrown c1 d os
        have k2 := fun d os => cell_regrown c2 d os
        have K1 := Lib.hid (fun w hw => Cut_any m a b x FT.out s (by unfold maxLen; omega) w hw)
        have K2 := Lib.hid (fun w => refCut_any m a b x FT.out s (by unfold maxLen; omega) w)
        have HG5 := Lib.hid hG
        obtain ⟨n, hn⟩ : ∃ n, n = cutN m b x s.data.toList := ⟨_, rfl⟩
        rw [← hn] at K1 K2
        clear hG hc5 hc6 hm hn P1 P2
        go_wp2_with fail
        refine wp_region_quiet_below (by kernel_rfl) (by kernel_rfl) ?_
        repeat (first | go_big_quiet_step ((first | (go_at_call 12; exact Calls.regrown_of (K1.out _ (HG5.out.tabs.stays (below_regrown _ _ _)))) | exact Calls.regrown_of (K2.out _))) | quiet_step ((first | (go_at_call 12; exact Calls.regrown_of (K1.out _ (HG5.out.tabs.stays (below_regrown _ _ _)))) | exact Calls.regrown_of (K2.out _))))
        refine wpQuiet_nil ?_
        intro wq hwq
        have hbq : Below w5.heap.size w5 wq := by obtain ⟨p, rfl⟩ := hwq; exact below_regrown _ _ _
        have HG6 := Lib.hid (HG5.out.on hbq)
        have H5' := Lib.hid (H5.out.stays hbq)
        have H6' := Lib.hid (H6.out.stays hbq)
        clear hwq hbq c0 c1 c2 k0 k1 k2 HG5 H5 H6 K1 K2
        go_wp2_with fail
        go_loopw [50] (fun i wr => ∃ k m : Nat, k ≤ L.length ∧ i = .int .i64 k ∧ wr = wq.drewN m) (fun i _ => L.length - (intOf i).toNat)
        case atStart => exact ⟨0, 0, Nat.zero_le _, rfl, rfl⟩
        case round =>
          obtain ⟨k, md, hk, rfl, rfl⟩ := hrel
          by_cases hlt : k < L.length
          · obtain ⟨_, _, _, e5, _, hc5⟩ := H5'.out
            obtain ⟨_, _, _, e6, _, hc6⟩ := H6'.out
            obtain ⟨b5, o5, r5, _, g5⟩ := hc5 (by omega)
            obtain ⟨b6, o6, r6, _, g6⟩ := hc6 (by omega)
            simp only [Value.slice.injEq] at e5 e6
            rw [← e5.1] at r5
            rw [← e6.1] at r6
            subst r5 r6
            have q5 := g5 k hlt
            have q6 := g6 k hlt
            clear g5 g6 hc5 hc6 e5 e6
            have hbk : decide ((k : Int) < (L.length : Int)) = true := by simpa using (show (k : Int) < L.length by omega)
            go_wp2_with fail
            go_quiet (fail)
            go_wp2
            go_roundw
            case rel => exact ⟨k + 1, md + nq, by omega, by go_num, by simp [World.drewN]⟩
            case measure => simp [intOf]; omega
          · have HG7 := Lib.hid (HG6.out.on (below_drewN (Below.refl _ _) md))
            go_wp2_with fail
            refine (A.out _ HG7.out.tabs).mono ?_
            rintro e w2 ⟨rfl, hb2⟩
            go_wp2
            go_ret
            exact ⟨rfl, below_step HG7.out.below hb2⟩
  · have d1 : decide ((5000 : Int) < (s.size : Int)) = true := by simp; omega
    go_enter Tryd.func3, Tryd.ntmps3
    go_wp2_with fail
    rw [← HV.out]
    go_quiet (fail)
    go_wp2_with fail
    refine (A.out _ (HTV.out.stays (below_drewN (Below.refl _ _) _))).mono ?_
    rintro e w1 ⟨rfl, hb1⟩
    go_wp2
    go_ret
    exact ⟨rfl, below_step (below_drewN hBV _) hb1⟩
end Go.Proofs.YtclmkedbioommaaDoor

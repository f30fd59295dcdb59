/-
  Layer 8: the statement StreamDoes as a walk over this translation.
-/
import Derived.Test.YtciajgdjddepdaaDoorSya
set_option linter.unusedVariables false
namespace Go.Proofs.YtciajgdjddepdaaDoor
open Go.RowKit Go.Shelf

/-- What is said of each operation of a region of StreamDoes. -/
def sdU (m av x : Nat) (r y : ByteArray) (v1 v2 : Value) (L E : List ByteArray) : Nat → Value → Value → World → Prop
  | 0 => fun v _ _ => v = sV y
  | 1 => fun v _ _ => v = sV y
  | 2 => fun v _ _ => v = .bool true
  | 3 => fun v _ _ => v = .bool true
  | 4 => fun v _ w => IsStrs w v L
  | 5 => fun v _ w => IsStrs w v L
  | 6 => fun v _ _ => v = .bool true
  | 7 => fun v _ _ => v = .bool true
  | 8 => fun v _ _ => v = .bool true
  | 9 => fun v _ _ => v = pV m av x
  | 10 => fun v _ _ => v = sV r
  | 11 => fun v _ w => IsStrs w v E
  | 12 => fun v _ _ => v = pV m av x
  | 13 => fun v _ _ => v = sV r
  | 14 => fun v _ w => IsStrs w v E
  | 15 => fun v _ _ => v = .bool true
  | 16 => fun v _ _ => v = .bool true
  | 17 => fun v _ _ => v = .bool true
  | 18 => fun v _ _ => v = .bool true
  | 19 => fun v _ _ => v = .bool true
  | 20 => fun v _ _ => v = .bool true
  | 21 => fun _ _ w => IsStrs w v1 L
  | 22 => fun _ _ w => IsStrs w v2 L
  | _ => fun _ _ _ => True
def sdN : List (List Nat) := [[], [], [0, 1], [2], [3, 21], [3, 22], [4, 5, 3], [3, 6], [7], [8], [8], [9, 10, 8], [8], [8], [12, 13, 8], [11, 14, 8], [8, 15], [16], [17], [17, 18], [19]]
def sdE : Nat → Option Tmp
  | _ => none
def sdB : List (Nat × Nat) := []
theorem sd_T (m av x : Nat) (r y : ByteArray) (v1 v2 : Value) (L E : List ByteArray) (i k : Nat) (v e : Value) (w w' : World) (hk : k < 23) (hne : k ≠ i) (hbd : (i, k) ∉ sdB) (hU : (sdU m av x r y v1 v2 L E) k v e w) (hT : allT i w w') : (sdU m av x r y v1 v2 L E) k v e w' := by
  have hb : Below w.heap.size w w' := hT
  rcases (show k = 0 ∨ k = 1 ∨ k = 2 ∨ k = 3 ∨ k = 4 ∨ k = 5 ∨ k = 6 ∨ k = 7 ∨ k = 8 ∨ k = 9 ∨ k = 10 ∨ k = 11 ∨ k = 12 ∨ k = 13 ∨ k = 14 ∨ k = 15 ∨ k = 16 ∨ k = 17 ∨ k = 18 ∨ k = 19 ∨ k = 20 ∨ k = 21 ∨ k = 22 by omega) with rfl | rfl | rfl | rfl | rfl | rfl | rfl | rfl | rfl | rfl | rfl | rfl | rfl | rfl | rfl | rfl | rfl | rfl | rfl | rfl | rfl | rfl | rfl
  · exact hU
  · exact hU
  · exact hU
  · exact hU
  · exact IsStrs.stays hU hb
  · exact IsStrs.stays hU hb
  · exact hU
  · exact hU
  · exact hU
  · exact hU
  · exact hU
  · exact IsStrs.stays hU hb
  · exact hU
  · exact hU
  · exact IsStrs.stays hU hb
  · exact hU
  · exact hU
  · exact hU
  · exact hU
  · exact hU
  · exact hU
  · exact IsStrs.stays hU hb
  · exact IsStrs.stays hU hb

set_option maxRecDepth 100000 in
set_option maxHeartbeats 4000000 in
theorem StreamDoes_walk (mn av mx : Int) (r s : ByteArray) (hr : r.size ≤ maxLen) (hs : s.size ≤ maxLen) (w : World) (hT : Tabs w) :
    Calls Tryd.prog 3 #[pV mn av mx, sV r, .string s] w fun e w' => e = .returned (.bool true) ∧ Below w.heap.size w w' := by
  simp only [maxLen] at hr hs
  obtain ⟨V, hV⟩ : ∃ V, V = (w.alloc (.cells #[.int .i64 mn, .int .i64 av, .int .i64 mx] 23)).alloc (.cells #[.string r] 25) := ⟨_, rfl⟩
  have hR0 : Row V w.heap.size #[.int .i64 mn, .int .i64 av, .int .i64 mx] 23 := by rw [hV]; exact (Row.made _ _ _).alloc _
  have hR1 : Row V (w.heap.size + 1) #[.string r] 25 := by
    rw [hV]; have := Row.made (w.alloc (.cells #[.int .i64 mn, .int .i64 av, .int .i64 mx] 23)) #[.string r] 25; simpa using this
  have hBV : Below w.heap.size w V := by rw [hV]; exact ((Below.refl _ _).alloc (Nat.le_refl _) _).alloc (by simp) _
  have HTV := Lib.hid (hT.stays hBV)
  have HV := Lib.hid hV
  have A := Lib.hid awake_any
  clear hV hT
  by_cases g1 : r.size ≤ 3000
  · have d1 : decide ((3000 : Int) < (r.size : Int)) = false := by simp; omega
    by_cases g2 : s.size ≤ 3000
    · have d2 : decide ((3000 : Int) < (s.size : Int)) = false := by simp; omega
      have F2 := Lib.hid (sFit_any mn av mx)
      obtain ⟨f, hf⟩ : ∃ f, f = fitB mn av mx := ⟨_, rfl⟩
      rw [← hf] at F2
      have HF := Lib.hid hf
      clear hf
      have c0 := hR0.cell 0; have c1 := hR0.cell 1; have c2 := hR0.cell 2; have c3 := hR1.cell 0
      simp only [List.getElem?_toArray, List.getElem?_cons_zero, List.getElem?_cons_succ] at c0 c1 c2 c3
      go_enter Tryd.func3, Tryd.ntmps3
      go_wp2_with fail
      rw [← HV.out]
      refine (F2.out _).mono ?_
      rintro e w1 ⟨rfl, hb1⟩
      replace hR0 := hR0.step hb1; replace hR1 := hR1.step hb1
      have HT1 := Lib.hid (HTV.out.stays hb1)
      have hB1 := hBV.trans (hb1.mono hBV.size)
      clear hb1 HTV HV hBV c0 c1 c2 c3 F2
      rcases f with _ | _
      · go_wp2_with fail
        refine (A.out _ HT1.out).mono ?_
        rintro e w2 ⟨rfl, hb2⟩
        go_wp2
        go_ret
        exact ⟨rfl, below_step hB1 hb2⟩
      · obtain ⟨m, av, x, bb, rfl, rfl, rfl, hfit⟩ := fit_nats HF.out.symm
        obtain ⟨y, hy⟩ : ∃ y : ByteArray, y = ⟨(left (cutN m bb x) x (r ++ s).data.toList).toArray⟩ := ⟨_, rfl⟩
        obtain ⟨L, hL⟩ : ∃ L, L = strsOf (fed (cutN m bb x) x (r ++ s).data.toList) := ⟨_, rfl⟩
        obtain ⟨E, hE⟩ : ∃ E, E = strsOf (pcs (cutN m bb x) r.data.toList) := ⟨_, rfl⟩
        have FD : Hid (∀ W, Tabs W → Calls Tryd.prog 9 #[pV m av x, sV r, .string s] W fun e w' => ∃ v, e = .returned (.tuple #[sV y, v]) ∧ IsStrs w' v L ∧ Below W.heap.size W w') := by
          intro W hW; rw [hy, hL]; exact (Feed_any m av bb x hfit r s (r ++ s) rfl (by omega) W hW).mono (fun e w' ⟨v, a, b, c⟩ => ⟨v, a, b.strs, c⟩)
        have RD : Hid (∀ W, Calls Tryd.prog 10 #[pV m av x, sV r, .string s] W fun e w' => ∃ v, e = .returned (.tuple #[sV y, v]) ∧ IsStrs w' v L ∧ Below W.heap.size W w') := by
          intro W; rw [hy, hL]; exact (refFeed_any m av bb x hfit r s (r ++ s) rfl (by omega) W).mono (fun e w' ⟨v, a, b, c⟩ => ⟨v, a, b.strs, c⟩)
        have C1 : Hid (∀ W, Tabs W → Calls Tryd.prog 12 #[pV m av x, sV r] W fun e w' => ∃ v, e = .returned v ∧ IsStrs w' v E ∧ Below W.heap.size W w') := by
          intro W hW; rw [hE]; exact End_any m av bb x hfit r (by omega) W hW
        have C2 : Hid (∀ W, Calls Tryd.prog 13 #[pV m av x, sV r] W fun e w' => ∃ v, e = .returned v ∧ IsStrs w' v E ∧ Below W.heap.size W w') := by
          intro W; rw [hE]; exact refEnd_any m av bb x hfit r (by omega) W
        clear hy hL hE hfit HF
        have c0 := hR0.cell 0; have c1 := hR0.cell 1; have c2 := hR0.cell 2; have c3 := hR1.cell 0
        simp only [List.getElem?_toArray, List.getElem?_cons_zero, List.getElem?_cons_succ] at c0 c1 c2 c3
        go_wp2_with fail
        refine (FD.out _ HT1.out).mono ?_
        rintro e w2 ⟨v1, rfl, h1, hb2⟩
        replace hR0 := hR0.step hb2; replace hR1 := hR1.step hb2
        have HT2 := Lib.hid (HT1.out.stays hb2)
        have hB2 := below_step hB1 hb2
        clear hb2 HT1 hB1 c0 c1 c2 c3 FD
        have c0 := hR0.cell 0; have c1 := hR0.cell 1; have c2 := hR0.cell 2; have c3 := hR1.cell 0
        simp only [List.getElem?_toArray, List.getElem?_cons_zero, List.getElem?_cons_succ] at c0 c1 c2 c3
        have z1 := hR1.lt
        have z0 := hR0.lt
        go_wp2_with fail
        obtain ⟨A1, hA1⟩ : ∃ A1, A1 = w2.heap.size := ⟨_, rfl⟩
        rw [← hA1]
        obtain ⟨V2, hV2⟩ : ∃ V2, V2 = w2.alloc (.cells #[.string y] 25) := ⟨_, rfl⟩
        have hb2 : Below w2.heap.size w2 V2 := by rw [hV2]; exact (Below.refl _ _).alloc (Nat.le_refl _) _
        have hR2 : Row V2 A1 #[.string y] 25 := by rw [hV2, hA1]; exact Row.made _ _ _
        rw [← hV2]
        replace hR0 := hR0.step hb2; replace hR1 := hR1.step hb2; replace h1 := h1.stays hb2
        have HT3 := Lib.hid (HT2.out.stays hb2)
        have hB3 := below_step hB2 hb2
        clear hb2 HT2 hB2 c0 c1 c2 c3 hV2 hA1 z0 z1
        refine (RD.out _).mono ?_
        rintro e w3 ⟨v2, rfl, h2, hb3⟩
        replace hR0 := hR0.step hb3; replace hR1 := hR1.step hb3; replace hR2 := hR2.step hb3; replace h1 := h1.stays hb3
        have HT4 := Lib.hid (HT3.out.stays hb3)
        have hB4 := below_step hB3 hb3
        clear hb3 HT3 hB3 RD
        go_wp2_with fail
        obtain ⟨A2, hA2⟩ : ∃ A2, A2 = w3.heap.size := ⟨_, rfl⟩
        rw [← hA2]
        obtain ⟨V4, hV4⟩ : ∃ V4, V4 = w3.alloc (.cells #[.string y] 25) := ⟨_, rfl⟩
        have hb4 : Below w3.heap.size w3 V4 := by rw [hV4]; exact (Below.refl _ _).alloc (Nat.le_refl _) _
        have hR3 : Row V4 A2 #[.string y] 25 := by rw [hV4, hA2]; exact Row.made _ _ _
        rw [← hV4]
        replace hR0 := hR0.step hb4; replace hR1 := hR1.step hb4; replace hR2 := hR2.step hb4; replace h1 := h1.stays hb4; replace h2 := h2.stays hb4
        have hB5 := below_step hB4 hb4
        have hT5 := HT4.out.stays hb4
        clear hb4 hB4 HT4 hV4 hA2
        obtain ⟨b0, hb0⟩ : ∃ b0, b0 = w.heap.size := ⟨_, rfl⟩
        obtain ⟨b1, hb1⟩ : ∃ b1, b1 = w.heap.size + 1 := ⟨_, rfl⟩
        rw [← hb1] at hR1 ⊢
        rw [← hb0] at hR0 ⊢
        clear hb0 hb1
        have HG := Lib.hid (show Held w [(b0, #[.int .i64 m, .int .i64 av, .int .i64 x], 23), (b1, #[.string r], 25), (A1, #[.string y], 25), (A2, #[.string y], 25)] V4 from ⟨by
          intro z hz
          simp only [List.mem_cons, List.not_mem_nil, or_false] at hz
          rcases hz with rfl | rfl | rfl | rfl
          · exact hR0
          · exact hR1
          · exact hR2
          · exact hR3, hT5, hB5⟩)
        have H1 := Lib.hid h1; have H2 := Lib.hid h2
        clear h1 h2 hR0 hR1 hR2 hR3 hT5 hB5
        refine wp_region_wordsG (by kernel_rfl) (by kernel_rfl) allT (Held w [(b0, #[.int .i64 m, .int .i64 av, .int .i64 x], 23), (b1, #[.string r], 25), (A1, #[.string y], 25), (A2, #[.string y], 25)]) sdE (sdU m av x r y v1 v2 L E) 23 sdN [20] (by kernel_rfl) (by kernel_rfl) (by kernel_rfl)
          sdB (by kernel_rfl) (fun i k v e w w' hi hk hne hb hU hT => sd_T _ _ _ _ _ _ _ _ _  i k v e w w' hk hne hb hU hT) (by decide) (HG.out.on ((Below.refl _ _).drew)) (fun k hk hge => ?hv0)
          [40, 41, 42, 43, 44, 45, 46, 47, 48, 49, 50, 51, 52, 53, 54, 55, 56, 57, 58, 59, 6] (by kernel_rfl) (forall_ops ?steps) ?behind
        case hv0 =>
          have hge' : 21 ≤ k := hge
          rcases (show k = 21 ∨ k = 22 by omega) with rfl | rfl
          · exact H1.out.stays (Below.refl _ _).drew
          · exact H2.out.stays (Below.refl _ _).drew
        case steps =>
          refine ⟨?_, ?_, ?_, ?_, ?_, ?_, ?_, ?_, ?_, ?_, ?_, ?_, ?_, ?_, ?_, ?_, ?_, ?_, ?_, ?_, ?_, trivial⟩
          · refine stepG_of rfl ?_
            exact stepR_value (t := 40) (sV y) rfl (fun _ => Below.refl _ _) (fun ac w hG hN hO => by
              have e7 : slot ac 7 = .pointer (some ⟨A1, 0, none⟩) := hO 7 (by kernel_rfl)
              have q0 := hG.rows (b0, #[.int .i64 m, .int .i64 av, .int .i64 x], 23) (by simp)
              have q1 := hG.rows (b1, #[.string r], 25) (by simp)
              have q2 := hG.rows (A1, #[.string y], 25) (by simp)
              have q3 := hG.rows (A2, #[.string y], 25) (by simp)
              have c0 := q0.cell 0; have c1 := q0.cell 1; have c2 := q0.cell 2; have c3 := q1.cell 0; have c4 := q2.cell 0; have c5 := q3.cell 0
              simp only [List.getElem?_toArray, List.getElem?_cons_zero, List.getElem?_cons_succ] at c0 c1 c2 c3 c4 c5
              have f7 := slot_at e7
              unfold execOp; go_simp) (fun ac w hG hN => rfl)
          · refine stepG_of rfl ?_
            exact stepR_value (t := 41) (sV y) rfl (fun _ => Below.refl _ _) (fun ac w hG hN hO => by
              have e9 : slot ac 9 = .pointer (some ⟨A2, 0, none⟩) := hO 9 (by kernel_rfl)
              have q0 := hG.rows (b0, #[.int .i64 m, .int .i64 av, .int .i64 x], 23) (by simp)
              have q1 := hG.rows (b1, #[.string r], 25) (by simp)
              have q2 := hG.rows (A1, #[.string y], 25) (by simp)
              have q3 := hG.rows (A2, #[.string y], 25) (by simp)
              have c0 := q0.cell 0; have c1 := q0.cell 1; have c2 := q0.cell 2; have c3 := q1.cell 0; have c4 := q2.cell 0; have c5 := q3.cell 0
              simp only [List.getElem?_toArray, List.getElem?_cons_zero, List.getElem?_cons_succ] at c0 c1 c2 c3 c4 c5
              have f9 := slot_at e9
              unfold execOp; go_simp) (fun ac w hG hN => rfl)
          · refine stepG_of rfl ?_
            exact stepR_value (t := 42) (.bool true) rfl (fun _ => Below.refl _ _) (fun ac w hG hN hO => by
              have e40 : slot ac 40 = sV y := hN 0 (by decide)
              have e41 : slot ac 41 = sV y := hN 1 (by decide)
              have f40 := slot_at e40
              have f41 := slot_at e41
              unfold execOp; go_simp) (fun ac w hG hN => rfl)
          · refine stepG_of rfl ?_
            exact stepR_value (t := 43) (.bool true) rfl (fun _ => Below.refl _ _) (fun ac w hG hN hO => by
              have e42 : slot ac 42 = .bool true := hN 2 (by decide)
              exact run_move_slot (.inl rfl) e42) (fun ac w hG hN => rfl)
          · refine stepG_on (j := 3) (b := true) rfl (by decide) (fun v e w h => h) ?_
            intro ac w hG hN hO
            have e8 : slot ac 8 = v1 := hO 8 (by kernel_rfl)
            have hx := hN 21 (by decide)
            exact wp_value (run_move_slot (.inl rfl) e8) ⟨_, rfl, (fun _ => Below.refl _ _) w, hG, hx⟩
          · refine stepG_on (j := 3) (b := true) rfl (by decide) (fun v e w h => h) ?_
            intro ac w hG hN hO
            have e10 : slot ac 10 = v2 := hO 10 (by kernel_rfl)
            have hx := hN 22 (by decide)
            exact wp_value (run_move_slot (.inl rfl) e10) ⟨_, rfl, (fun _ => Below.refl _ _) w, hG, hx⟩
          · refine stepG_on (j := 3) (b := true) rfl (by decide) (fun v e w h => h) ?_
            intro ac w hG hN hO
            have e44 : IsStrs w (slot ac 44) L := hN 4 (by decide)
            have e45 : IsStrs w (slot ac 45) L := hN 5 (by decide)
            refine wp_callx 11 _ _ rfl (enters_of Tryd.func11 (by kernel_rfl) rfl) #[slot ac 44, slot ac 45] (by simp [eval_slot]) (calls_val (Same_eq _ _ L w e44 e45)) ?_
            rintro v w'' ⟨hv, hb⟩
            exact ⟨v, rfl, hb, hG.on hb, hv⟩
          · refine stepG_of rfl ?_
            exact stepR_value (t := 47) (.bool true) rfl (fun _ => Below.refl _ _) (fun ac w hG hN hO => by
              have e43 : slot ac 43 = .bool true := hN 3 (by decide)
              have e46 : slot ac 46 = .bool true := hN 6 (by decide)
              have f43 := slot_at e43
              have f46 := slot_at e46
              unfold execOp; go_simp) (fun ac w hG hN => rfl)
          · refine stepG_of rfl ?_
            exact stepR_value (t := 48) (.bool true) rfl (fun _ => Below.refl _ _) (fun ac w hG hN hO => by
              have e47 : slot ac 47 = .bool true := hN 7 (by decide)
              exact run_move_slot (.inl rfl) e47) (fun ac w hG hN => rfl)
          · refine stepG_on (j := 8) (b := true) rfl (by decide) (fun v e w h => h) ?_
            exact stepR_value (t := 49) (pV m av x) rfl (fun _ => Below.refl _ _) (fun ac w hG hN hO => by
              have e3 : slot ac 3 = .pointer (some ⟨b0, 0, none⟩) := hO 3 (by kernel_rfl)
              have q0 := hG.rows (b0, #[.int .i64 m, .int .i64 av, .int .i64 x], 23) (by simp)
              have q1 := hG.rows (b1, #[.string r], 25) (by simp)
              have q2 := hG.rows (A1, #[.string y], 25) (by simp)
              have q3 := hG.rows (A2, #[.string y], 25) (by simp)
              have c0 := q0.cell 0; have c1 := q0.cell 1; have c2 := q0.cell 2; have c3 := q1.cell 0; have c4 := q2.cell 0; have c5 := q3.cell 0
              simp only [List.getElem?_toArray, List.getElem?_cons_zero, List.getElem?_cons_succ] at c0 c1 c2 c3 c4 c5
              have f3 := slot_at e3
              unfold execOp; go_simp) (fun ac w hG hN => rfl)
          · refine stepG_on (j := 8) (b := true) rfl (by decide) (fun v e w h => h) ?_
            exact stepR_value (t := 50) (sV r) rfl (fun _ => Below.refl _ _) (fun ac w hG hN hO => by
              have e4 : slot ac 4 = .pointer (some ⟨b1, 0, none⟩) := hO 4 (by kernel_rfl)
              have q0 := hG.rows (b0, #[.int .i64 m, .int .i64 av, .int .i64 x], 23) (by simp)
              have q1 := hG.rows (b1, #[.string r], 25) (by simp)
              have q2 := hG.rows (A1, #[.string y], 25) (by simp)
              have q3 := hG.rows (A2, #[.string y], 25) (by simp)
              have c0 := q0.cell 0; have c1 := q0.cell 1; have c2 := q0.cell 2; have c3 := q1.cell 0; have c4 := q2.cell 0; have c5 := q3.cell 0
              simp only [List.getElem?_toArray, List.getElem?_cons_zero, List.getElem?_cons_succ] at c0 c1 c2 c3 c4 c5
              have f4 := slot_at e4
              unfold execOp; go_simp) (fun ac w hG hN => rfl)
          · refine stepG_on (j := 8) (b := true) rfl (by decide) (fun v e w h => h) ?_
            intro ac w hG hN hO
            have e49 : slot ac 49 = pV m av x := hN 9 (by decide)
            have e50 : slot ac 50 = sV r := hN 10 (by decide)
            refine wp_callx 12 _ _ rfl (enters_of Tryd.func12 (by kernel_rfl) rfl) #[pV m av x, sV r] (by simp [eval_slot, e49, e50]) ((C1.out w hG.tabs)) ?_
            rintro v w'' ⟨hv, hb⟩
            exact ⟨v, rfl, hb, hG.on hb, hv⟩
          · refine stepG_on (j := 8) (b := true) rfl (by decide) (fun v e w h => h) ?_
            exact stepR_value (t := 52) (pV m av x) rfl (fun _ => Below.refl _ _) (fun ac w hG hN hO => by
              have e3 : slot ac 3 = .pointer (some ⟨b0, 0, none⟩) := hO 3 (by kernel_rfl)
              have q0 := hG.rows (b0, #[.int .i64 m, .int .i64 av, .int .i64 x], 23) (by simp)
              have q1 := hG.rows (b1, #[.string r], 25) (by simp)
              have q2 := hG.rows (A1, #[.string y], 25) (by simp)
              have q3 := hG.rows (A2, #[.string y], 25) (by simp)
              have c0 := q0.cell 0; have c1 := q0.cell 1; have c2 := q0.cell 2; have c3 := q1.cell 0; have c4 := q2.cell 0; have c5 := q3.cell 0
              simp only [List.getElem?_toArray, List.getElem?_cons_zero, List.getElem?_cons_succ] at c0 c1 c2 c3 c4 c5
              have f3 := slot_at e3
              unfold execOp; go_simp) (fun ac w hG hN => rfl)
          · refine stepG_on (j := 8) (b := true) rfl (by decide) (fun v e w h => h) ?_
            exact stepR_value (t := 53) (sV r) rfl (fun _ => Below.refl _ _) (fun ac w hG hN hO => by
              have e4 : slot ac 4 = .pointer (some ⟨b1, 0, none⟩) := hO 4 (by kernel_rfl)
              have q0 := hG.rows (b0, #[.int .i64 m, .int .i64 av, .int .i64 x], 23) (by simp)
              have q1 := hG.rows (b1, #[.string r], 25) (by simp)
              have q2 := hG.rows (A1, #[.string y], 25) (by simp)
              have q3 := hG.rows (A2, #[.string y], 25) (by simp)
              have c0 := q0.cell 0; have c1 := q0.cell 1; have c2 := q0.cell 2; have c3 := q1.cell 0; have c4 := q2.cell 0; have c5 := q3.cell 0
              simp only [List.getElem?_toArray, List.getElem?_cons_zero, List.getElem?_cons_succ] at c0 c1 c2 c3 c4 c5
              have f4 := slot_at e4
              unfold execOp; go_simp) (fun ac w hG hN => rfl)
          · refine stepG_on (j := 8) (b := true) rfl (by decide) (fun v e w h => h) ?_
            intro ac w hG hN hO
            have e52 : slot ac 52 = pV m av x := hN 12 (by decide)
            have e53 : slot ac 53 = sV r := hN 13 (by decide)
            refine wp_callx 13 _ _ rfl (enters_of Tryd.func13 (by kernel_rfl) rfl) #[pV m av x, sV r] (by simp [eval_slot, e52, e53]) ((C2.out w)) ?_
            rintro v w'' ⟨hv, hb⟩
            exact ⟨v, rfl, hb, hG.on hb, hv⟩
          · refine stepG_on (j := 8) (b := true) rfl (by decide) (fun v e w h => h) ?_
            intro ac w hG hN hO
            have e51 : IsStrs w (slot ac 51) E := hN 11 (by decide)
            have e54 : IsStrs w (slot ac 54) E := hN 14 (by decide)
            refine wp_callx 11 _ _ rfl (enters_of Tryd.func11 (by kernel_rfl) rfl) #[slot ac 51, slot ac 54] (by simp [eval_slot]) (calls_val (Same_eq _ _ E w e51 e54)) ?_
            rintro v w'' ⟨hv, hb⟩
            exact ⟨v, rfl, hb, hG.on hb, hv⟩
          · refine stepG_of rfl ?_
            exact stepR_value (t := 56) (.bool true) rfl (fun _ => Below.refl _ _) (fun ac w hG hN hO => by
              have e48 : slot ac 48 = .bool true := hN 8 (by decide)
              have e55 : slot ac 55 = .bool true := hN 15 (by decide)
              have f48 := slot_at e48
              have f55 := slot_at e55
              unfold execOp; go_simp) (fun ac w hG hN => rfl)
          · refine stepG_of rfl ?_
            exact stepR_value (t := 57) (.bool true) rfl (fun _ => Below.refl _ _) (fun ac w hG hN hO => by
              have e56 : slot ac 56 = .bool true := hN 16 (by decide)
              exact run_move_slot (.inl rfl) e56) (fun ac w hG hN => rfl)
          · refine stepG_on (j := 17) (b := true) rfl (by decide) (fun v e w h => h) ?_
            intro ac w hG hN hO
            refine wp_callx 8 _ _ rfl (enters_of Tryd.func8 (by kernel_rfl) rfl) #[] (by simp) (calls_val (A.out w hG.tabs)) ?_
            rintro v w'' ⟨hv, hb⟩
            exact ⟨v, rfl, hb, hG.on hb, hv⟩
          · refine stepG_of rfl ?_
            exact stepR_value (t := 59) (.bool true) rfl (fun _ => Below.refl _ _) (fun ac w hG hN hO => by
              have e57 : slot ac 57 = .bool true := hN 17 (by decide)
              have e58 : slot ac 58 = .bool true := hN 18 (by decide)
              have f57 := slot_at e57
              have f58 := slot_at e58
              unfold execOp; go_simp) (fun ac w hG hN => rfl)
          · refine stepG_of rfl ?_
            exact stepR_value (t := 6) (.bool true) rfl (fun _ => Below.refl _ _) (fun ac w hG hN hO => by
              have e59 : slot ac 59 = .bool true := hN 19 (by decide)
              exact run_move_slot (.inr rfl) e59) (fun ac w hG hN => rfl)
        case behind =>
          intro ac w5 hG hV hS ha
          have h20 : slot ac 6 = .bool true := hV 20 (by decide) (by decide)
          generalize slot ac = sl at ha h20
          subst ha
          simp only [patchL, List.contains_cons, List.contains_nil, Nat.reduceBEq, Bool.or_false, Bool.or_true, if_true, Bool.false_eq_true, if_false, Nat.reduceAdd]
          generalize sl 40 = s40
          generalize sl 41 = s41
          generalize sl 42 = s42
          generalize sl 43 = s43
          generalize sl 44 = s44
          generalize sl 45 = s45
          generalize sl 46 = s46
          generalize sl 47 = s47
          generalize sl 48 = s48
          generalize sl 49 = s49
          generalize sl 50 = s50
          generalize sl 51 = s51
          generalize sl 52 = s52
          generalize sl 53 = s53
          generalize sl 54 = s54
          generalize sl 55 = s55
          generalize sl 56 = s56
          generalize sl 57 = s57
          generalize sl 58 = s58
          generalize sl 59 = s59
          generalize sl 6 = s6 at h20 ⊢
          subst h20
          clear hV hS
          have HB := Lib.hid hG.below
          clear hG
          go_wp2
          go_ret
          exact ⟨rfl, HB.out⟩
    · have d2 : decide ((3000 : Int) < (s.size : Int)) = true := by simp; omega
      have c3 := hR1.cell 0
      simp only [List.getElem?_toArray, List.getElem?_cons_zero] at c3
      go_enter Tryd.func3, Tryd.ntmps3
      go_wp2_with fail
      rw [← HV.out]
      refine (A.out _ HTV.out).mono ?_
      rintro e w1 ⟨rfl, hb1⟩
      go_wp2
      go_ret
      exact ⟨rfl, below_step hBV hb1⟩
  · have d1 : decide ((3000 : Int) < (r.size : Int)) = true := by simp; omega
    go_enter Tryd.func3, Tryd.ntmps3
    go_wp2_with fail
    rw [← HV.out]
    refine (A.out _ HTV.out).mono ?_
    rintro e w1 ⟨rfl, hb1⟩
    go_wp2
    go_ret
    exact ⟨rfl, below_step hBV hb1⟩
end Go.Proofs.YtciajgdjddepdaaDoor

/-
  Layer 8: the statement StreamBytes as a walk over this translation.
-/
import Derived.Test.YtciajgdjddepdaaDoorSyd
set_option linter.unusedVariables false
namespace Go.Proofs.YtciajgdjddepdaaDoor
open Go.RowKit Go.Shelf

/-- What is said of each operation of a region of StreamBytes. -/
def sbaU (m av x : Nat) (s y y' t : ByteArray) (kc : Nat) (gv : Value) (M L' : List ByteArray) (A B : Nat) : Nat → Value → Value → World → Prop
  | 0 => fun v _ _ => v = pV m av x
  | 1 => fun v _ _ => v = sV y
  | 2 => fun v _ _ => v = .string s
  | 3 => fun v _ _ => v = .int .i64 kc
  | 4 => fun v _ _ => v = .int .i64 kc
  | 5 => fun v _ _ => v = .int .i64 ((kc : Int) + 1)
  | 6 => fun v _ _ => v = .string t
  | 7 => fun v _ w => ∃ u, v = .tuple #[sV y', u] ∧ OwnS w u L'
  | 8 => fun v _ w => ∃ u, v = .tuple #[sV y', u] ∧ OwnS w u L'
  | 9 => fun v _ _ => v = sV y'
  | 10 => fun v _ w => OwnS w v L'
  | 11 => fun _ _ w => Row w A #[.string y'] 25
  | 12 => fun v _ w => OwnS w v L'
  | 13 => fun _ _ w => Row w A #[.string y] 25
  | 14 => fun _ _ w => OwnB B w gv M
  | _ => fun _ _ _ => True
def sbaN : List (List Nat) := [[], [13], [], [], [], [4], [2, 3, 5], [0, 1, 6], [7], [8], [8], [9, 13], [10]]
def sbaE : Nat → Option Tmp
  | _ => none
def sbaB : List (Nat × Nat) := [(11, 12), (11, 13)]
theorem sba_T (m av x : Nat) (s y y' t : ByteArray) (kc : Nat) (gv : Value) (M L' : List ByteArray) (A B : Nat) (ix kx : Nat) (v e : Value) (w w' : World) (hk : kx < 15) (hne : kx ≠ ix) (hbd : (ix, kx) ∉ sbaB) (hU : (sbaU m av x s y y' t kc gv M L' A B) kx v e w) (hT : (appT 11 (setA A)) ix w w') : (sbaU m av x s y y' t kc gv M L' A B) kx v e w' := by
  by_cases hi : ix = 11
  · subst hi
    have hR := appT_in hT
    rcases (show kx = 0 ∨ kx = 1 ∨ kx = 2 ∨ kx = 3 ∨ kx = 4 ∨ kx = 5 ∨ kx = 6 ∨ kx = 7 ∨ kx = 8 ∨ kx = 9 ∨ kx = 10 ∨ kx = 11 ∨ kx = 12 ∨ kx = 13 ∨ kx = 14 by omega) with rfl | rfl | rfl | rfl | rfl | rfl | rfl | rfl | rfl | rfl | rfl | rfl | rfl | rfl | rfl
    · exact hU
    · exact hU
    · exact hU
    · exact hU
    · exact hU
    · exact hU
    · exact hU
    · exact (by obtain ⟨u, a, b⟩ := hU; exact ⟨u, a, setA_own hR b⟩)
    · exact (by obtain ⟨u, a, b⟩ := hU; exact ⟨u, a, setA_own hR b⟩)
    · exact hU
    · exact setA_own hR hU
    · exact absurd rfl hne
    · exact absurd (by decide) hbd
    · exact absurd (by decide) hbd
    · exact setA_ownB hR hU
  have hb : Below w.heap.size w w' := appT_out hi hT
  rcases (show kx = 0 ∨ kx = 1 ∨ kx = 2 ∨ kx = 3 ∨ kx = 4 ∨ kx = 5 ∨ kx = 6 ∨ kx = 7 ∨ kx = 8 ∨ kx = 9 ∨ kx = 10 ∨ kx = 11 ∨ kx = 12 ∨ kx = 13 ∨ kx = 14 by omega) with rfl | rfl | rfl | rfl | rfl | rfl | rfl | rfl | rfl | rfl | rfl | rfl | rfl | rfl | rfl
  · exact hU
  · exact hU
  · exact hU
  · exact hU
  · exact hU
  · exact hU
  · exact hU
  · exact (by obtain ⟨u, a, b⟩ := hU; exact ⟨u, a, b.stays hb⟩)
  · exact (by obtain ⟨u, a, b⟩ := hU; exact ⟨u, a, b.stays hb⟩)
  · exact hU
  · exact OwnS.stays hU hb
  · exact Row.step hU hb
  · exact OwnS.stays hU hb
  · exact Row.step hU hb
  · exact OwnB.stays hU hb
/-- What is said of each operation of a region of StreamBytes. -/
def sbbU (m av x : Nat) (s y : ByteArray) (an : Option Addr) (capn : Nat) (gv : Value) (M E : List ByteArray) (B : Nat) : Nat → Value → Value → World → Prop
  | 0 => fun v _ _ => v = gv
  | 1 => fun v _ _ => v = pV m av x
  | 2 => fun v _ _ => v = sV y
  | 3 => fun v _ w => IsStrs w v E
  | 4 => fun v _ w => OwnS w v (M ++ E)
  | 5 => fun v _ _ => v = pV m av x
  | 6 => fun v _ _ => v = .string s
  | 7 => fun v _ w => IsStrs w v (M ++ E)
  | 8 => fun v _ _ => v = .bool true
  | 9 => fun v _ _ => v = .bool true
  | 10 => fun v _ _ => v = sV y
  | 11 => fun v _ _ => v = sV y
  | 12 => fun v _ _ => v = .bool true
  | 13 => fun v _ _ => v = .bool true
  | 14 => fun v _ _ => v = .bool true
  | 15 => fun v _ _ => v = .slice an 0 capn
  | 16 => fun v _ _ => v = .int .i64 0
  | 17 => fun v _ _ => v = .bool true
  | 18 => fun v _ _ => v = .bool true
  | 19 => fun v _ _ => v = .bool true
  | 20 => fun v _ _ => v = .bool true
  | 21 => fun v _ _ => v = .bool true
  | 22 => fun v _ _ => v = .bool true
  | 23 => fun _ _ w => OwnB B w gv M
  | _ => fun _ _ _ => True
def sbbN : List (List Nat) := [[], [], [], [1, 2], [0, 3, 23], [], [], [5, 6], [4, 7], [8], [9], [9], [10, 11, 9], [9, 12], [13], [14], [15, 14], [16, 14], [14, 17], [18], [19], [19, 20], [21]]
def sbbE : Nat → Option Tmp
  | _ => none
def sbbB : List (Nat × Nat) := [(4, 3), (4, 7), (4, 23)]
theorem sbb_T (m av x : Nat) (s y : ByteArray) (an : Option Addr) (capn : Nat) (gv : Value) (M E : List ByteArray) (B : Nat) (ix kx : Nat) (v e : Value) (w w' : World) (hk : kx < 24) (hne : kx ≠ ix) (hbd : (ix, kx) ∉ sbbB) (hU : (sbbU m av x s y an capn gv M E B) kx v e w) (hT : (appT 4 (fun w w' => w.grownBy w' gv.ownBlock)) ix w w') : (sbbU m av x s y an capn gv M E B) kx v e w' := by
  by_cases hi : ix = 4
  · subst hi
    have hR := appT_in hT
    rcases (show kx = 0 ∨ kx = 1 ∨ kx = 2 ∨ kx = 3 ∨ kx = 4 ∨ kx = 5 ∨ kx = 6 ∨ kx = 7 ∨ kx = 8 ∨ kx = 9 ∨ kx = 10 ∨ kx = 11 ∨ kx = 12 ∨ kx = 13 ∨ kx = 14 ∨ kx = 15 ∨ kx = 16 ∨ kx = 17 ∨ kx = 18 ∨ kx = 19 ∨ kx = 20 ∨ kx = 21 ∨ kx = 22 ∨ kx = 23 by omega) with rfl | rfl | rfl | rfl | rfl | rfl | rfl | rfl | rfl | rfl | rfl | rfl | rfl | rfl | rfl | rfl | rfl | rfl | rfl | rfl | rfl | rfl | rfl | rfl
    · exact hU
    · exact hU
    · exact hU
    · exact absurd (by decide) hbd
    · exact absurd rfl hne
    · exact hU
    · exact hU
    · exact absurd (by decide) hbd
    · exact hU
    · exact hU
    · exact hU
    · exact hU
    · exact hU
    · exact hU
    · exact hU
    · exact hU
    · exact hU
    · exact hU
    · exact hU
    · exact hU
    · exact hU
    · exact hU
    · exact hU
    · exact absurd (by decide) hbd
  have hb : Below w.heap.size w w' := appT_out hi hT
  rcases (show kx = 0 ∨ kx = 1 ∨ kx = 2 ∨ kx = 3 ∨ kx = 4 ∨ kx = 5 ∨ kx = 6 ∨ kx = 7 ∨ kx = 8 ∨ kx = 9 ∨ kx = 10 ∨ kx = 11 ∨ kx = 12 ∨ kx = 13 ∨ kx = 14 ∨ kx = 15 ∨ kx = 16 ∨ kx = 17 ∨ kx = 18 ∨ kx = 19 ∨ kx = 20 ∨ kx = 21 ∨ kx = 22 ∨ kx = 23 by omega) with rfl | rfl | rfl | rfl | rfl | rfl | rfl | rfl | rfl | rfl | rfl | rfl | rfl | rfl | rfl | rfl | rfl | rfl | rfl | rfl | rfl | rfl | rfl | rfl
  · exact hU
  · exact hU
  · exact hU
  · exact IsStrs.stays hU hb
  · exact OwnS.stays hU hb
  · exact hU
  · exact hU
  · exact IsStrs.stays hU hb
  · exact hU
  · exact hU
  · exact hU
  · exact hU
  · exact hU
  · exact hU
  · exact hU
  · exact hU
  · exact hU
  · exact hU
  · exact hU
  · exact hU
  · exact hU
  · exact hU
  · exact hU
  · exact OwnB.stays hU hb

set_option maxRecDepth 100000 in
set_option maxHeartbeats 4000000 in
theorem StreamBytes_walk (mn av mx : Int) (s : ByteArray) (hs : s.size ≤ maxLen) (w : World) (hT : Tabs w) :
    Calls Tryd.prog 6 #[pV mn av mx, .string s] w fun e w' => e = .returned (.bool true) ∧ Below w.heap.size w w' := by
  simp only [maxLen] at hs
  obtain ⟨V, hV⟩ : ∃ V, V = w.alloc (.cells #[.int .i64 mn, .int .i64 av, .int .i64 mx] 23) := ⟨_, rfl⟩
  have hR0 : Row V w.heap.size #[.int .i64 mn, .int .i64 av, .int .i64 mx] 23 := by rw [hV]; exact Row.made _ _ _
  have hBV : Below w.heap.size w V := by rw [hV]; exact (Below.refl _ _).alloc (Nat.le_refl _) _
  have hw1 : 1 < w.heap.size := World.block_lt_of_cell? _ _ (hT 0 (by decide))
  have HTV := Lib.hid (hT.stays hBV)
  have HV := Lib.hid hV
  have A_ := Lib.hid awake_any
  clear hV hT
  by_cases g1 : s.size ≤ 600
  · have d1 : decide ((600 : Int) < (s.size : Int)) = false := by simp; omega
    have F2 := Lib.hid (sFit_any mn av mx)
    obtain ⟨f, hf⟩ : ∃ f, f = fitB mn av mx := ⟨_, rfl⟩
    rw [← hf] at F2
    have HF := Lib.hid hf
    clear hf
    have c0 := hR0.cell 0; have c1 := hR0.cell 1; have c2 := hR0.cell 2
    simp only [List.getElem?_toArray, List.getElem?_cons_zero, List.getElem?_cons_succ] at c0 c1 c2
    go_enter Tryd.func6, Tryd.ntmps6
    go_wp2_with fail
    rw [← HV.out]
    refine (F2.out _).mono ?_
    rintro e w1 ⟨rfl, hb1⟩
    replace hR0 := hR0.step hb1
    have HT1 := Lib.hid (HTV.out.stays hb1)
    have hB1 := hBV.trans (hb1.mono hBV.size)
    clear hb1 HTV HV hBV c0 c1 c2 F2
    rcases f with _ | _
    · go_wp2_with fail
      refine (A_.out _ HT1.out).mono ?_
      rintro e w2 ⟨rfl, hb2⟩
      go_wp2
      go_ret
      exact ⟨rfl, below_step hB1 hb2⟩
    · obtain ⟨m, av, x, bb, rfl, rfl, rfl, hfit⟩ := fit_nats HF.out.symm
      have FT := Lib.hid hfit
      have OK := Lib.hid (cutN_sure (mn := m) (b := bb) (mx := x) (by have := hfit.h1; omega) (by have := hfit.h2; have := hfit.h3; omega))
      clear hfit HF
      go_wp2_with fail
      obtain ⟨A, hA⟩ : ∃ A, A = w1.heap.size := ⟨_, rfl⟩
      rw [← hA]
      obtain ⟨V2, hV2⟩ : ∃ V2, V2 = w1.alloc (.cells #[.string ⟨#[]⟩] 25) := ⟨_, rfl⟩
      have hb2 : Below w1.heap.size w1 V2 := by rw [hV2]; exact (Below.refl _ _).alloc (Nat.le_refl _) _
      have hR1 : Row V2 A #[.string ⟨#[]⟩] 25 := by rw [hV2, hA]; exact Row.made _ _ _
      rw [← hV2]
      have hlt0 : w.heap.size < A := by rw [hA]; exact hR0.lt
      replace hR0 := hR0.step hb2
      have hT5 := HT1.out.stays hb2
      have hB5 := below_step hB1 hb2
      clear hb2 HT1 hB1 hV2 hA
      obtain ⟨b0, hb0⟩ : ∃ b0, b0 = w.heap.size := ⟨_, rfl⟩
      have HW0 : Hid (w.heap.size < A ∧ b0 < A ∧ 1 < A) := ⟨hlt0, by omega, by omega⟩
      rw [← hb0] at hR0 ⊢
      clear hb0 hlt0 hw1
      obtain ⟨B, hB⟩ : ∃ B, B = A + 1 := ⟨_, rfl⟩
      have HAB : Hid (B = A + 1) := hB
      clear hB
      have HG0 := Lib.hid (show Held w [(b0, #[.int .i64 m, .int .i64 av, .int .i64 x], 23)] V2 from ⟨by
        intro z hz
        simp only [List.mem_cons, List.not_mem_nil, or_false] at hz
        subst hz
        exact hR0, hT5, hB5⟩)
      have HR1 := Lib.hid hR1
      clear hR0 hR1 hT5 hB5
      go_loopw [22, 6] (fun i gv wr => ∃ (k : Nat) (M : List ByteArray) (y : ByteArray), k ≤ s.size ∧ i = .int .i64 k ∧ Sofar (cutN m bb x) x (s.data.toList.take k) M y ∧ OwnB B wr gv M ∧ Held w [(b0, #[.int .i64 m, .int .i64 av, .int .i64 x], 23)] wr ∧ Row wr A #[.string y] 25) (fun i _ _ => s.size - (intOf i).toNat)
      case atStart => exact ⟨0, [], ⟨#[]⟩, Nat.zero_le _, rfl, Sofar.start _ _, ownB_nil _ _, HG0.out, HR1.out⟩
      case round =>
        obtain ⟨k, M, y, hk, rfl, hso, hown, hG, hrow⟩ := hrel
        clear HG0 HR1
        obtain ⟨gv, hgv⟩ : ∃ gv, gv = u6 := ⟨_, rfl⟩
        rw [← hgv] at hown ⊢
        clear hgv
        obtain ⟨_, hys, hMs⟩ := hso.small OK.out
        rw [List.length_take, ← Lib.size_eq] at hys hMs
        have HML : Hid (M.length ≤ 600) := by show _ ≤ _; omega
        have HO := Lib.hid hown; have HG := Lib.hid hG; have HRA := Lib.hid hrow; have HSO := Lib.hid hso
        clear hown hG hrow hso
        by_cases hlt : k < s.size
        · obtain ⟨hct, ht1⟩ := take_byte s k hlt
          have hd1 := fun W => run_slice_str (P := Tryd.prog) Tryd.underlying9 s (k : Int) ((k : Int) + 1) (by omega) (by omega) (by omega) W
          rw [show ((k : Int)).toNat = k by omega, show ((k : Int) + 1).toNat = k + 1 by omega] at hd1
          obtain ⟨t, ht⟩ : ∃ t, t = s.extract k (k + 1) := ⟨_, rfl⟩
          rw [← ht] at hct ht1 hd1
          have hone := HSO.out.one OK.out t ht1
          have hso2 := HSO.out.step OK.out t
          rw [← hct] at hso2
          obtain ⟨y', hy'⟩ : ∃ y' : ByteArray, y' = ⟨(left (cutN m bb x) x (y ++ t).data.toList).toArray⟩ := ⟨_, rfl⟩
          obtain ⟨L', hL'⟩ : ∃ L', L' = strsOf (fed (cutN m bb x) x (y ++ t).data.toList) := ⟨_, rfl⟩
          rw [← hy', ← hL'] at hso2
          rw [← hL'] at hone
          have FDk : Hid (∀ W, Tabs W → Calls Tryd.prog 9 #[pV m av x, sV y, .string t] W fun e w' => ∃ v, e = .returned v ∧ ((∃ u, v = .tuple #[sV y', u] ∧ OwnS w' u L') ∧ Below W.heap.size W w')) := by
            intro W hW; rw [hy', hL']; exact (Feed_any m av bb x FT.out y t (y ++ t) rfl (by omega) W hW).mono (fun e w' ⟨v, a, b, c⟩ => ⟨_, a, ⟨v, rfl, b⟩, c⟩)
          have HSO2 := Lib.hid hso2
          have HL1 : Hid (L'.length ≤ 1) := hone
          have HWR : Hid (IntKind.i64.wrap ((k : Int) + 1) = (k : Int) + 1) := IntWalk.i64_in _ (by omega)
          have hbk : decide ((k : Int) < (s.size : Int)) = true := by simpa using hlt
          clear hct ht1 ht hone hso2 hy' hL' HSO
          go_wp2_with fail
          refine wp_region_wordsG (by kernel_rfl) (by kernel_rfl) (appT 11 (setA A)) (Held w [(b0, #[.int .i64 m, .int .i64 av, .int .i64 x], 23)]) sbaE (sbaU m av x s y y' t k gv M L' A B) 15 sbaN [11, 12, 14] (by kernel_rfl) (by kernel_rfl) (by kernel_rfl)
            sbaB (by kernel_rfl) (fun ix kx v e w w' hi hk hne hb hU hT => sba_T _ _ _ _ _ _ _ _ _ _ _ _ _  ix kx v e w w' hk hne hb hU hT) (by decide) (HG.out.on ((Below.refl _ _).drew)) (fun kx hk hge => ?hv0)
            [26, 27, 28, 29, 30, 31, 32, 33, 25, 34, 35, 7] (by kernel_rfl) (forall_ops ?steps) ?behind
          case hv0 =>
            have hge' : 13 ≤ kx := hge
            rcases (show kx = 13 ∨ kx = 14 by omega) with rfl | rfl
            · exact HRA.out
            · exact HO.out.stays (Below.refl _ _).drew
          case steps =>
            refine ⟨?_, ?_, ?_, ?_, ?_, ?_, ?_, ?_, ?_, ?_, ?_, ?_, ?_, trivial⟩
            · refine stepG_of rfl ?_
              exact stepR_value (t := 26) (pV m av x) rfl (fun _ => appT_other (by decide) (Below.refl _ _)) (fun ac w hG hN hO => by
                have e2 : slot ac 2 = .pointer (some ⟨b0, 0, none⟩) := hO 2 (by kernel_rfl)
                have q0 := hG.rows (b0, #[.int .i64 m, .int .i64 av, .int .i64 x], 23) (by simp)
                have c0 := q0.cell 0; have c1 := q0.cell 1; have c2 := q0.cell 2
                simp only [List.getElem?_toArray, List.getElem?_cons_zero, List.getElem?_cons_succ] at c0 c1 c2
                have f2 := slot_at e2
                unfold execOp; go_simp) (fun ac w hG hN => rfl)
            · refine stepG_of rfl ?_
              exact stepR_value (t := 27) (sV y) rfl (fun _ => appT_other (by decide) (Below.refl _ _)) (fun ac w hG hN hO => by
                have e5 : slot ac 5 = .pointer (some ⟨A, 0, none⟩) := hO 5 (by kernel_rfl)
                have hx : Row w A #[.string y] 25 := hN 13 (by decide)
                have c3 := hx.cell 0
                simp only [List.getElem?_toArray, List.getElem?_cons_zero] at c3
                have f5 := slot_at e5
                unfold execOp; go_simp) (fun ac w hG hN => rfl)
            · refine stepG_of rfl ?_
              exact stepR_value (t := 28) (.string s) rfl (fun _ => appT_other (by decide) (Below.refl _ _)) (fun ac w hG hN hO => by
                have e1 : slot ac 1 = .string s := hO 1 (by kernel_rfl)
                exact run_move_slot (.inl rfl) e1) (fun ac w hG hN => rfl)
            · refine stepG_of rfl ?_
              exact stepR_value (t := 29) (.int .i64 k) rfl (fun _ => appT_other (by decide) (Below.refl _ _)) (fun ac w hG hN hO => by
                have e8 : slot ac 8 = .int .i64 k := hO 8 (by kernel_rfl)
                exact run_move_slot (.inl rfl) e8) (fun ac w hG hN => rfl)
            · refine stepG_of rfl ?_
              exact stepR_value (t := 30) (.int .i64 k) rfl (fun _ => appT_other (by decide) (Below.refl _ _)) (fun ac w hG hN hO => by
                have e8 : slot ac 8 = .int .i64 k := hO 8 (by kernel_rfl)
                exact run_move_slot (.inl rfl) e8) (fun ac w hG hN => rfl)
            · refine stepG_of rfl ?_
              exact stepR_value (t := 31) (.int .i64 ((k : Int) + 1)) rfl (fun _ => appT_other (by decide) (Below.refl _ _)) (fun ac w hG hN hO => by
                have e30 : slot ac 30 = .int .i64 k := hN 4 (by decide)
                have f30 := slot_at e30
                have hw := HWR.out
                unfold execOp; go_simp) (fun ac w hG hN => rfl)
            · refine stepG_of rfl ?_
              exact stepR_value (t := 32) (.string t) rfl (fun _ => appT_other (by decide) (Below.refl _ _)) (fun ac w hG hN hO => by
                have e28 : slot ac 28 = .string s := hN 2 (by decide)
                have e29 : slot ac 29 = .int .i64 k := hN 3 (by decide)
                have e31 : slot ac 31 = .int .i64 ((k : Int) + 1) := hN 5 (by decide)
                exact yields_slice Tryd.underlying9 rfl (slotE e28) (by simp [eval_slot, e29]) (by simp [eval_slot, e31]) (hd1 w)) (fun ac w hG hN => rfl)
            · refine stepG_of rfl ?_
              intro ac w hG hN hO
              have e26 : slot ac 26 = pV m av x := hN 0 (by decide)
              have e27 : slot ac 27 = sV y := hN 1 (by decide)
              have e32 : slot ac 32 = .string t := hN 6 (by decide)
              refine wp_callx 9 _ _ rfl (enters_of Tryd.func9 (by kernel_rfl) rfl) #[pV m av x, sV y, .string t] (by simp [eval_slot, e26, e27, e32]) ((FDk.out w hG.tabs)) ?_
              rintro v w'' ⟨hv, hb⟩
              exact ⟨v, rfl, (appT_other (by decide) hb), hG.on hb, hv⟩
            · refine stepG_of rfl ?_
              intro ac w hG hN hO
              have e33 : ∃ u, slot ac 33 = .tuple #[sV y', u] ∧ OwnS w u L' := hN 7 (by decide)
              exact wp_value (run_move_slot (v := slot ac 33) (.inl rfl) rfl) ⟨_, rfl, (fun _ => appT_other (by decide) (Below.refl _ _)) w, hG, e33⟩
            · refine stepG_of rfl ?_
              intro ac w hG hN hO
              obtain ⟨u, e, h⟩ : ∃ u, slot ac 25 = .tuple #[sV y', u] ∧ OwnS w u L' := hN 8 (by decide)
              have f := slot_at e
              exact wp_value (v := sV y') (by unfold execOp; go_simp) ⟨_, rfl, appT_other (by decide) (Below.refl _ _), hG, rfl⟩
            · refine stepG_of rfl ?_
              intro ac w hG hN hO
              obtain ⟨u, e, h⟩ : ∃ u, slot ac 25 = .tuple #[sV y', u] ∧ OwnS w u L' := hN 8 (by decide)
              have f := slot_at e
              exact wp_value (v := u) (by unfold execOp; go_simp) ⟨_, rfl, appT_other (by decide) (Below.refl _ _), hG, h⟩
            · refine stepG_of rfl ?_
              intro ac w hG hN hO
              have e : slot ac 5 = .pointer (some ⟨A, 0, none⟩) := hO 5 (by kernel_rfl)
              have hrow : Row w A #[.string y] 25 := hN 13 (by decide)
              have e2 : slot ac 34 = sV y' := hN 9 (by decide)
              have hc := hrow.cell 0
              have hf := hrow.free 0
              simp only [List.getElem?_toArray, List.getElem?_cons_zero] at hc
              have f1 := slot_at e; have f2 := slot_at e2
              have hR : setA A w (w.setCell ⟨A, 0, none⟩ (.string y')) := ⟨_, _, hrow, rfl⟩
              have hab := HAB.out
              have hw0 := HW0.out
              exact wp_skip (w' := w.setCell ⟨A, 0, none⟩ (.string y')) (by unfold execOp; go_simp) ⟨undef, rfl, appT_at hR, hG.onG (grownBy_setCell' _ _ _) (fun j e => by cases e; omega) (fun e => by cases e; omega) (by
                intro z hz
                simp only [List.mem_cons, List.not_mem_nil, or_false] at hz
                subst hz
                intro e; cases e; omega), hrow.set 0 _⟩
            · refine stepG_of rfl ?_
              intro ac w hG hN hO
              have e35 : OwnS w (slot ac 35) L' := hN 10 (by decide)
              exact wp_value (run_move_slot (v := slot ac 35) (.inr rfl) rfl) ⟨_, rfl, (fun _ => appT_other (by decide) (Below.refl _ _)) w, hG, e35⟩
          case behind =>
            intro ac w5 hG hV hS ha
            have h11 : Row w5 A #[.string y'] 25 := hV 11 (by decide) (by decide)
            have h12 : OwnS w5 (slot ac 7) L' := hV 12 (by decide) (by decide)
            have h14 : OwnB B w5 gv M := hV 14 (by decide) (by decide)
            generalize slot ac = sl at ha h12
            subst ha
            simp only [patchL, List.contains_cons, List.contains_nil, Nat.reduceBEq, Bool.or_false, Bool.or_true, if_true, Bool.false_eq_true, if_false, Nat.reduceAdd]
            generalize sl 26 = s26
            generalize sl 27 = s27
            generalize sl 28 = s28
            generalize sl 29 = s29
            generalize sl 30 = s30
            generalize sl 31 = s31
            generalize sl 32 = s32
            generalize sl 33 = s33
            generalize sl 25 = s25
            generalize sl 34 = s34
            generalize sl 35 = s35
            generalize sl 7 = s7 at h12 ⊢
            clear hV hS
            have hst := h12.strs
            have hown : OwnB B w5 gv M := h14
            have hRA : Row w5 A #[.string y'] 25 := h11
            have HGq := Lib.hid hG
            clear h11 h12 h14 hG
            obtain ⟨i0, hi, hz0, hz1, hz2⟩ := info_parts infoStr
            have hst2 := hst
            obtain ⟨_, a7, cap7, rfl, _, _⟩ := hst2
            have hml := HML.out
            have hl1 := HL1.out
            have hsz0 : B ≤ w5.heap.size := by have := hRA.lt; have := HAB.out; omega
            go_wp2_with (at_builtin; refine wpList_append_strs rfl (.tmp 36) (.tmp 37) 28 rfl B 9 i0 (.string ⟨#[]⟩) 16 Tryd.underlying28 hi hz0 hz1 hz2 rfl _ M rfl hown _ L' rfl hst ?c1 ?c2 ?c3 ?_)
            case c1 => unfold maxLen; omega
            case c2 => omega
            case c3 => exact hsz0
            intro v6 w6 hown6 hg6
            have hab := HAB.out
            have hw0 := HW0.out
            replace hg6 : w5.grownBy w6 gv.ownBlock := hg6
            have hfr := fun j (hj : gv.ownBlock = some j) => hown.from j hj
            have hG6 : Held w [(b0, #[.int .i64 m, .int .i64 av, .int .i64 x], 23)] w6 := HGq.out.onG hg6 (fun j hj => by have := hfr j hj; omega) (fun e => by have := hfr 1 e; omega) (by
              intro z hz
              simp only [List.mem_cons, List.not_mem_nil, or_false] at hz
              subst hz
              intro e; have := hfr b0 e; omega)
            have hRA6 : Row w6 A #[.string y'] 25 := (hg6.block A hRA.lt (fun e => by have := hfr A e.symm; omega)).trans hRA
            have HG6 := Lib.hid hG6; have HO6 : Hid (OwnB B w6 v6 (M ++ L')) := (by show World.ownsRow _ _ _ _ _ _ _; rw [List.length_append]; exact hown6); have HR6 := Lib.hid hRA6
            clear hG6 hown6 hRA6 hg6 hown hst hRA HGq hfr
            have dl : decide ((1 : Int) < (L'.length : Int)) = false := by simp; omega
            have dl2 : ¬ 1 < L'.length := by omega
            have dl3 : decide (1 < L'.length) = false := by simp; omega
            go_wp2
            go_roundw
            case rel => exact ⟨k + 1, M ++ L', y', by omega, by go_num, HSO2.out, HO6.out, HG6.out, HR6.out⟩
            case measure => simp [intOf]; omega
        · have hke : s.data.toList.take k = s.data.toList := take_all s k (by omega)
          have hso := HSO.out
          rw [hke] at hso
          obtain ⟨hn1, hn2⟩ := hso.none OK.out
          have hfin := hso.fin OK.out
          obtain ⟨E, hE⟩ : ∃ E, E = strsOf (pcs (cutN m bb x) y.data.toList) := ⟨_, rfl⟩
          rw [← hE] at hfin
          have HLEN : Hid (M.length + E.length ≤ 1300) := by
            have := pcs_len OK.out.pos y.data.toList.length y.data.toList (Nat.le_refl _)
            rw [← Lib.size_eq] at this
            show _ ≤ _
            rw [hE, strsOf_len]; omega
          have FDn : Hid (∀ W, Tabs W → Calls Tryd.prog 9 #[pV m av x, sV y, .string ⟨#[]⟩] W fun e w' => ∃ an capn, e = .returned (.tuple #[sV y, .slice an 0 capn]) ∧ Below W.heap.size W w') := by
            intro W hW
            refine (Feed_any m av bb x FT.out y ⟨#[]⟩ (y ++ ⟨#[]⟩) rfl (by show y.size + 0 ≤ 1000000; omega) W hW).mono ?_
            rintro e w' ⟨v, rfl, hv, hb⟩
            rw [hn1] at hv
            rw [hn2]
            obtain ⟨_, a, cap, rfl, _, _⟩ := hv.strs
            exact ⟨a, cap, rfl, hb⟩
          have C1 : Hid (∀ W, Tabs W → Calls Tryd.prog 12 #[pV m av x, sV y] W fun e w' => ∃ v, e = .returned v ∧ IsStrs w' v E ∧ Below W.heap.size W w') := by
            intro W hW; rw [hE]; exact End_any m av bb x FT.out y (by omega) W hW
          have C2 : Hid (∀ W, Calls Tryd.prog 14 #[pV m av x, .string s] W fun e w' => ∃ v, e = .returned v ∧ IsStrs w' v (M ++ E) ∧ Below W.heap.size W w') := by
            intro W; rw [hfin]; exact Whole_any m av bb x FT.out s (by omega) W
          have hbk : decide ((k : Int) < (s.size : Int)) = false := by simp; omega
          have q0 := HG.out.rows (b0, #[.int .i64 m, .int .i64 av, .int .i64 x], 23) (by simp)
          have c0 := q0.cell 0; have c1 := q0.cell 1; have c2 := q0.cell 2; have c3 := HRA.out.cell 0
          simp only [List.getElem?_toArray, List.getElem?_cons_zero, List.getElem?_cons_succ] at c0 c1 c2 c3
          clear hke hso hn1 hn2 hfin hE HSO FT q0
          go_wp2_with fail
          refine (FDn.out _ HG.out.tabs).mono ?_
          rintro e w2 ⟨an, capn, rfl, hb2⟩
          have hG2 := HG.out.on hb2
          have hrow2 := HRA.out.step hb2
          have hown2 := HO.out.stays hb2
          clear hb2 HG HRA HO c0 c1 c2 c3 FDn
          go_wp2_with fail
          obtain ⟨A2, hA2⟩ : ∃ A2, A2 = w2.heap.size := ⟨_, rfl⟩
          rw [← hA2]
          obtain ⟨V4, hV4⟩ : ∃ V4, V4 = w2.alloc (.cells #[.string y] 25) := ⟨_, rfl⟩
          have hb4 : Below w2.heap.size w2 V4 := by rw [hV4]; exact (Below.refl _ _).alloc (Nat.le_refl _) _
          have hR3 : Row V4 A2 #[.string y] 25 := by rw [hV4, hA2]; exact Row.made _ _ _
          rw [← hV4]
          replace hG2 := hG2.on hb4; replace hrow2 := hrow2.step hb4; replace hown2 := hown2.stays hb4
          have HG := Lib.hid (show Held w [(b0, #[.int .i64 m, .int .i64 av, .int .i64 x], 23), (A, #[.string y], 25), (A2, #[.string y], 25)] V4 from ⟨by
            intro z hz
            simp only [List.mem_cons, List.not_mem_nil, or_false] at hz
            rcases hz with rfl | rfl | rfl
            · exact hG2.rows _ (by simp)
            · exact hrow2
            · exact hR3, hG2.tabs, hG2.below⟩)
          have HAP : Hid (gv.ownBlock ≠ some A2) := hown2.apart hR3 (by decide)
          have HO := Lib.hid hown2
          obtain ⟨i0, hi, hz0, hz1, hz2⟩ := info_parts infoStr
          clear hb4 hG2 hrow2 hown2 hR3 hV4 hA2
          refine wp_region_wordsG (by kernel_rfl) (by kernel_rfl) (appT 4 (fun w w' => w.grownBy w' gv.ownBlock)) (Held w [(b0, #[.int .i64 m, .int .i64 av, .int .i64 x], 23), (A, #[.string y], 25), (A2, #[.string y], 25)]) sbbE (sbbU m av x s y an capn gv M E B) 24 sbbN [22] (by kernel_rfl) (by kernel_rfl) (by kernel_rfl)
            sbbB (by kernel_rfl) (fun ix kx v e w w' hi hk hne hb hU hT => sbb_T _ _ _ _ _ _ _ _ _ _ _  ix kx v e w w' hk hne hb hU hT) (by decide) (HG.out.on ((Below.refl _ _).drew)) (fun kx hk hge => ?hv0)
            [49, 50, 51, 52, 53, 54, 55, 56, 57, 58, 59, 60, 61, 62, 63, 64, 65, 66, 67, 68, 69, 70, 4] (by kernel_rfl) (forall_ops ?steps) ?behind
          case hv0 =>
            have hge' : 23 ≤ kx := hge
            rcases (show kx = 23 by omega) with rfl
            · exact HO.out.stays (Below.refl _ _).drew
          case steps =>
            refine ⟨?_, ?_, ?_, ?_, ?_, ?_, ?_, ?_, ?_, ?_, ?_, ?_, ?_, ?_, ?_, ?_, ?_, ?_, ?_, ?_, ?_, ?_, ?_, trivial⟩
            · refine stepG_of rfl ?_
              exact stepR_value (t := 49) (gv) rfl (fun _ => appT_other (by decide) (Below.refl _ _)) (fun ac w hG hN hO => by
                have e6 : slot ac 6 = gv := hO 6 (by kernel_rfl)
                exact run_move_slot (.inl rfl) e6) (fun ac w hG hN => rfl)
            · refine stepG_of rfl ?_
              exact stepR_value (t := 50) (pV m av x) rfl (fun _ => appT_other (by decide) (Below.refl _ _)) (fun ac w hG hN hO => by
                have e2 : slot ac 2 = .pointer (some ⟨b0, 0, none⟩) := hO 2 (by kernel_rfl)
                have q0 := hG.rows (b0, #[.int .i64 m, .int .i64 av, .int .i64 x], 23) (by simp)
                have q1 := hG.rows (A, #[.string y], 25) (by simp)
                have q2 := hG.rows (A2, #[.string y], 25) (by simp)
                have c0 := q0.cell 0; have c1 := q0.cell 1; have c2 := q0.cell 2; have c3 := q1.cell 0; have c4 := q2.cell 0
                simp only [List.getElem?_toArray, List.getElem?_cons_zero, List.getElem?_cons_succ] at c0 c1 c2 c3 c4
                have f2 := slot_at e2
                unfold execOp; go_simp) (fun ac w hG hN => rfl)
            · refine stepG_of rfl ?_
              exact stepR_value (t := 51) (sV y) rfl (fun _ => appT_other (by decide) (Below.refl _ _)) (fun ac w hG hN hO => by
                have e5 : slot ac 5 = .pointer (some ⟨A, 0, none⟩) := hO 5 (by kernel_rfl)
                have q0 := hG.rows (b0, #[.int .i64 m, .int .i64 av, .int .i64 x], 23) (by simp)
                have q1 := hG.rows (A, #[.string y], 25) (by simp)
                have q2 := hG.rows (A2, #[.string y], 25) (by simp)
                have c0 := q0.cell 0; have c1 := q0.cell 1; have c2 := q0.cell 2; have c3 := q1.cell 0; have c4 := q2.cell 0
                simp only [List.getElem?_toArray, List.getElem?_cons_zero, List.getElem?_cons_succ] at c0 c1 c2 c3 c4
                have f5 := slot_at e5
                unfold execOp; go_simp) (fun ac w hG hN => rfl)
            · refine stepG_of rfl ?_
              intro ac w hG hN hO
              have e50 : slot ac 50 = pV m av x := hN 1 (by decide)
              have e51 : slot ac 51 = sV y := hN 2 (by decide)
              refine wp_callx 12 _ _ rfl (enters_of Tryd.func12 (by kernel_rfl) rfl) #[pV m av x, sV y] (by simp [eval_slot, e50, e51]) ((C1.out w hG.tabs)) ?_
              rintro v w'' ⟨hv, hb⟩
              exact ⟨v, rfl, (appT_other (by decide) hb), hG.on hb, hv⟩
            · refine stepG_of rfl ?_
              intro ac w hG hN hO
              have e49 : slot ac 49 = gv := hN 0 (by decide)
              have e52 : IsStrs w (slot ac 52) E := hN 3 (by decide)
              have hown : OwnB B w gv M := hN 23 (by decide)
              have hlen := HLEN.out
              have hq := hG.rows (A, #[.string y], 25) (by simp)
              have hab := HAB.out
              have hw0 := HW0.out
              refine wp_append_strs (.tmp 49) (.tmp 52) 28 rfl B 9 i0 (.string ⟨#[]⟩) 16 Tryd.underlying28 hi hz0 hz1 hz2 rfl gv M (slotE e49) hown (slot ac 52) E rfl e52 (by unfold maxLen; omega) (by omega) (by have := hq.lt; omega) ?_
              intro v' w' hown' hg
              exact ⟨v', rfl, appT_at hg, hG.onG hg (fun j hj => by have := hown.from j hj; omega) (fun e => by have := hown.from 1 e; omega) (by
                intro z hz
                simp only [List.mem_cons, List.not_mem_nil, or_false] at hz
                rcases hz with rfl | rfl | rfl
                · intro e; have := hown.from b0 e; omega
                · intro e; have := hown.from A e; omega
                · exact HAP.out), OwnS.of hown'⟩
            · refine stepG_of rfl ?_
              exact stepR_value (t := 54) (pV m av x) rfl (fun _ => appT_other (by decide) (Below.refl _ _)) (fun ac w hG hN hO => by
                have e2 : slot ac 2 = .pointer (some ⟨b0, 0, none⟩) := hO 2 (by kernel_rfl)
                have q0 := hG.rows (b0, #[.int .i64 m, .int .i64 av, .int .i64 x], 23) (by simp)
                have q1 := hG.rows (A, #[.string y], 25) (by simp)
                have q2 := hG.rows (A2, #[.string y], 25) (by simp)
                have c0 := q0.cell 0; have c1 := q0.cell 1; have c2 := q0.cell 2; have c3 := q1.cell 0; have c4 := q2.cell 0
                simp only [List.getElem?_toArray, List.getElem?_cons_zero, List.getElem?_cons_succ] at c0 c1 c2 c3 c4
                have f2 := slot_at e2
                unfold execOp; go_simp) (fun ac w hG hN => rfl)
            · refine stepG_of rfl ?_
              exact stepR_value (t := 55) (.string s) rfl (fun _ => appT_other (by decide) (Below.refl _ _)) (fun ac w hG hN hO => by
                have e1 : slot ac 1 = .string s := hO 1 (by kernel_rfl)
                exact run_move_slot (.inl rfl) e1) (fun ac w hG hN => rfl)
            · refine stepG_of rfl ?_
              intro ac w hG hN hO
              have e54 : slot ac 54 = pV m av x := hN 5 (by decide)
              have e55 : slot ac 55 = .string s := hN 6 (by decide)
              refine wp_callx 14 _ _ rfl (enters_of Tryd.func14 (by kernel_rfl) rfl) #[pV m av x, .string s] (by simp [eval_slot, e54, e55]) ((C2.out w)) ?_
              rintro v w'' ⟨hv, hb⟩
              exact ⟨v, rfl, (appT_other (by decide) hb), hG.on hb, hv⟩
            · refine stepG_of rfl ?_
              intro ac w hG hN hO
              have e53 : OwnS w (slot ac 53) (M ++ E) := hN 4 (by decide)
              have e56 : IsStrs w (slot ac 56) (M ++ E) := hN 7 (by decide)
              refine wp_callx 11 _ _ rfl (enters_of Tryd.func11 (by kernel_rfl) rfl) #[slot ac 53, slot ac 56] (by simp [eval_slot]) (calls_val (Same_eq _ _ (M ++ E) w e53.strs e56)) ?_
              rintro v w'' ⟨hv, hb⟩
              exact ⟨v, rfl, (appT_other (by decide) hb), hG.on hb, hv⟩
            · refine stepG_of rfl ?_
              exact stepR_value (t := 58) (.bool true) rfl (fun _ => appT_other (by decide) (Below.refl _ _)) (fun ac w hG hN hO => by
                have e57 : slot ac 57 = .bool true := hN 8 (by decide)
                exact run_move_slot (.inl rfl) e57) (fun ac w hG hN => rfl)
            · refine stepG_on (j := 9) (b := true) rfl (by decide) (fun v e w h => h) ?_
              exact stepR_value (t := 59) (sV y) rfl (fun _ => appT_other (by decide) (Below.refl _ _)) (fun ac w hG hN hO => by
                have e9 : slot ac 9 = .pointer (some ⟨A2, 0, none⟩) := hO 9 (by kernel_rfl)
                have q0 := hG.rows (b0, #[.int .i64 m, .int .i64 av, .int .i64 x], 23) (by simp)
                have q1 := hG.rows (A, #[.string y], 25) (by simp)
                have q2 := hG.rows (A2, #[.string y], 25) (by simp)
                have c0 := q0.cell 0; have c1 := q0.cell 1; have c2 := q0.cell 2; have c3 := q1.cell 0; have c4 := q2.cell 0
                simp only [List.getElem?_toArray, List.getElem?_cons_zero, List.getElem?_cons_succ] at c0 c1 c2 c3 c4
                have f9 := slot_at e9
                unfold execOp; go_simp) (fun ac w hG hN => rfl)
            · refine stepG_on (j := 9) (b := true) rfl (by decide) (fun v e w h => h) ?_
              exact stepR_value (t := 60) (sV y) rfl (fun _ => appT_other (by decide) (Below.refl _ _)) (fun ac w hG hN hO => by
                have e5 : slot ac 5 = .pointer (some ⟨A, 0, none⟩) := hO 5 (by kernel_rfl)
                have q0 := hG.rows (b0, #[.int .i64 m, .int .i64 av, .int .i64 x], 23) (by simp)
                have q1 := hG.rows (A, #[.string y], 25) (by simp)
                have q2 := hG.rows (A2, #[.string y], 25) (by simp)
                have c0 := q0.cell 0; have c1 := q0.cell 1; have c2 := q0.cell 2; have c3 := q1.cell 0; have c4 := q2.cell 0
                simp only [List.getElem?_toArray, List.getElem?_cons_zero, List.getElem?_cons_succ] at c0 c1 c2 c3 c4
                have f5 := slot_at e5
                unfold execOp; go_simp) (fun ac w hG hN => rfl)
            · refine stepG_on (j := 9) (b := true) rfl (by decide) (fun v e w h => h) ?_
              exact stepR_value (t := 61) (.bool true) rfl (fun _ => appT_other (by decide) (Below.refl _ _)) (fun ac w hG hN hO => by
                have e59 : slot ac 59 = sV y := hN 10 (by decide)
                have e60 : slot ac 60 = sV y := hN 11 (by decide)
                have f59 := slot_at e59
                have f60 := slot_at e60
                unfold execOp; go_simp) (fun ac w hG hN => rfl)
            · refine stepG_of rfl ?_
              exact stepR_value (t := 62) (.bool true) rfl (fun _ => appT_other (by decide) (Below.refl _ _)) (fun ac w hG hN hO => by
                have e58 : slot ac 58 = .bool true := hN 9 (by decide)
                have e61 : slot ac 61 = .bool true := hN 12 (by decide)
                have f58 := slot_at e58
                have f61 := slot_at e61
                unfold execOp; go_simp) (fun ac w hG hN => rfl)
            · refine stepG_of rfl ?_
              exact stepR_value (t := 63) (.bool true) rfl (fun _ => appT_other (by decide) (Below.refl _ _)) (fun ac w hG hN hO => by
                have e62 : slot ac 62 = .bool true := hN 13 (by decide)
                exact run_move_slot (.inl rfl) e62) (fun ac w hG hN => rfl)
            · refine stepG_on (j := 14) (b := true) rfl (by decide) (fun v e w h => h) ?_
              exact stepR_value (t := 64) (.slice an 0 capn) rfl (fun _ => appT_other (by decide) (Below.refl _ _)) (fun ac w hG hN hO => by
                have e10 : slot ac 10 = .slice an 0 capn := hO 10 (by kernel_rfl)
                exact run_move_slot (.inl rfl) e10) (fun ac w hG hN => rfl)
            · refine stepG_on (j := 14) (b := true) rfl (by decide) (fun v e w h => h) ?_
              exact stepR_value (t := 65) (.int .i64 0) rfl (fun _ => appT_other (by decide) (Below.refl _ _)) (fun ac w hG hN hO => by
                have e64 : slot ac 64 = .slice an 0 capn := hN 15 (by decide)
                have f64 := slot_at e64
                unfold execOp; go_simp) (fun ac w hG hN => rfl)
            · refine stepG_on (j := 14) (b := true) rfl (by decide) (fun v e w h => h) ?_
              exact stepR_value (t := 66) (.bool true) rfl (fun _ => appT_other (by decide) (Below.refl _ _)) (fun ac w hG hN hO => by
                have e65 : slot ac 65 = .int .i64 0 := hN 16 (by decide)
                have f65 := slot_at e65
                unfold execOp; go_simp) (fun ac w hG hN => rfl)
            · refine stepG_of rfl ?_
              exact stepR_value (t := 67) (.bool true) rfl (fun _ => appT_other (by decide) (Below.refl _ _)) (fun ac w hG hN hO => by
                have e63 : slot ac 63 = .bool true := hN 14 (by decide)
                have e66 : slot ac 66 = .bool true := hN 17 (by decide)
                have f63 := slot_at e63
                have f66 := slot_at e66
                unfold execOp; go_simp) (fun ac w hG hN => rfl)
            · refine stepG_of rfl ?_
              exact stepR_value (t := 68) (.bool true) rfl (fun _ => appT_other (by decide) (Below.refl _ _)) (fun ac w hG hN hO => by
                have e67 : slot ac 67 = .bool true := hN 18 (by decide)
                exact run_move_slot (.inl rfl) e67) (fun ac w hG hN => rfl)
            · refine stepG_on (j := 19) (b := true) rfl (by decide) (fun v e w h => h) ?_
              intro ac w hG hN hO
              refine wp_callx 8 _ _ rfl (enters_of Tryd.func8 (by kernel_rfl) rfl) #[] (by simp) (calls_val (A_.out w hG.tabs)) ?_
              rintro v w'' ⟨hv, hb⟩
              exact ⟨v, rfl, (appT_other (by decide) hb), hG.on hb, hv⟩
            · refine stepG_of rfl ?_
              exact stepR_value (t := 70) (.bool true) rfl (fun _ => appT_other (by decide) (Below.refl _ _)) (fun ac w hG hN hO => by
                have e68 : slot ac 68 = .bool true := hN 19 (by decide)
                have e69 : slot ac 69 = .bool true := hN 20 (by decide)
                have f68 := slot_at e68
                have f69 := slot_at e69
                unfold execOp; go_simp) (fun ac w hG hN => rfl)
            · refine stepG_of rfl ?_
              exact stepR_value (t := 4) (.bool true) rfl (fun _ => appT_other (by decide) (Below.refl _ _)) (fun ac w hG hN hO => by
                have e70 : slot ac 70 = .bool true := hN 21 (by decide)
                exact run_move_slot (.inr rfl) e70) (fun ac w hG hN => rfl)
          case behind =>
            intro ac w5 hG hV hS ha
            have h22 : slot ac 4 = .bool true := hV 22 (by decide) (by decide)
            generalize slot ac = sl at ha h22
            subst ha
            simp only [patchL, List.contains_cons, List.contains_nil, Nat.reduceBEq, Bool.or_false, Bool.or_true, if_true, Bool.false_eq_true, if_false, Nat.reduceAdd]
            generalize sl 49 = s49
            generalize sl 50 = s50
            generalize sl 51 = s51
            generalize sl 52 = s52
            generalize sl 53 = s53
            generalize sl 54 = s54
            generalize sl 55 = s55
            generalize sl 56 = s56
            generalize sl 57 = s57
            generalize sl 58 = s58
            generalize sl 59 = s59
            generalize sl 60 = s60
            generalize sl 61 = s61
            generalize sl 62 = s62
            generalize sl 63 = s63
            generalize sl 64 = s64
            generalize sl 65 = s65
            generalize sl 66 = s66
            generalize sl 67 = s67
            generalize sl 68 = s68
            generalize sl 69 = s69
            generalize sl 70 = s70
            generalize sl 4 = s4 at h22 ⊢
            subst h22
            clear hV hS
            have HB := Lib.hid hG.below
            clear hG
            go_wp2
            go_ret
            exact ⟨rfl, HB.out⟩
  · have d1 : decide ((600 : Int) < (s.size : Int)) = true := by simp; omega
    go_enter Tryd.func6, Tryd.ntmps6
    go_wp2_with fail
    rw [← HV.out]
    refine (A_.out _ HTV.out).mono ?_
    rintro e w1 ⟨rfl, hb1⟩
    go_wp2
    go_ret
    exact ⟨rfl, below_step hBV hb1⟩
end Go.Proofs.YtciajgdjddepdaaDoor

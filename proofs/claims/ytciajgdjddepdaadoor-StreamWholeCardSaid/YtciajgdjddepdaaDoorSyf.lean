/-
  Layer 8: the statement StreamWhole as a walk over this translation.
-/
import Derived.Test.YtciajgdjddepdaaDoorSyd
set_option linter.unusedVariables false
namespace Go.Proofs.YtciajgdjddepdaaDoor
open Go.RowKit Go.Shelf

/-- What is said of each operation of a region of StreamWhole. -/
def swaU (m av x : Nat) (a y : ByteArray) (gv : Value) (M E : List ByteArray) (B : Nat) : Nat → Value → Value → World → Prop
  | 0 => fun v _ _ => v = gv
  | 1 => fun v _ _ => v = pV m av x
  | 2 => fun v _ _ => v = sV y
  | 3 => fun v _ w => IsStrs w v E
  | 4 => fun v _ w => OwnS w v (M ++ E)
  | 5 => fun v _ _ => v = pV m av x
  | 6 => fun v _ _ => v = .string a
  | 7 => fun v _ w => IsStrs w v (M ++ E)
  | 8 => fun v _ _ => v = .bool true
  | 9 => fun v _ _ => v = .bool true
  | 10 => fun v _ _ => v = .bool true
  | 11 => fun v _ _ => v = .bool true
  | 12 => fun v _ _ => v = .bool true
  | 13 => fun _ _ w => OwnB B w gv M
  | _ => fun _ _ _ => True
def swaN : List (List Nat) := [[], [], [], [1, 2], [0, 3, 13], [], [], [5, 6], [4, 7], [8], [9], [9, 10], [11]]
def swaE : Nat → Option Tmp
  | _ => none
def swaB : List (Nat × Nat) := [(4, 3), (4, 7), (4, 13)]
theorem swa_T (m av x : Nat) (a y : ByteArray) (gv : Value) (M E : List ByteArray) (B : Nat) (ix kx : Nat) (v e : Value) (w w' : World) (hk : kx < 14) (hne : kx ≠ ix) (hbd : (ix, kx) ∉ swaB) (hU : (swaU m av x a y gv M E B) kx v e w) (hT : (appT 4 (fun w w' => w.grownBy w' gv.ownBlock)) ix w w') : (swaU m av x a y gv M E B) kx v e w' := by
  by_cases hi : ix = 4
  · subst hi
    have hR := appT_in hT
    rcases (show kx = 0 ∨ kx = 1 ∨ kx = 2 ∨ kx = 3 ∨ kx = 4 ∨ kx = 5 ∨ kx = 6 ∨ kx = 7 ∨ kx = 8 ∨ kx = 9 ∨ kx = 10 ∨ kx = 11 ∨ kx = 12 ∨ kx = 13 by omega) with rfl | rfl | rfl | rfl | rfl | rfl | rfl | rfl | rfl | rfl | rfl | rfl | rfl | rfl
    · exact hU
    · exact hU
    · exact hU
    · exact absurd (by decide) hbd
    · exact absurd rfl hne
    · exact hU
    · exact hU
    · exact absurd (by decide) hbd
    · exact hU
    · exact hU
    · exact hU
    · exact hU
    · exact hU
    · exact absurd (by decide) hbd
  have hb : Below w.heap.size w w' := appT_out hi hT
  rcases (show kx = 0 ∨ kx = 1 ∨ kx = 2 ∨ kx = 3 ∨ kx = 4 ∨ kx = 5 ∨ kx = 6 ∨ kx = 7 ∨ kx = 8 ∨ kx = 9 ∨ kx = 10 ∨ kx = 11 ∨ kx = 12 ∨ kx = 13 by omega) with rfl | rfl | rfl | rfl | rfl | rfl | rfl | rfl | rfl | rfl | rfl | rfl | rfl | rfl
  · exact hU
  · exact hU
  · exact hU
  · exact IsStrs.stays hU hb
  · exact OwnS.stays hU hb
  · exact hU
  · exact hU
  · exact IsStrs.stays hU hb
  · exact hU
  · exact hU
  · exact hU
  · exact hU
  · exact hU
  · exact OwnB.stays hU hb

set_option maxRecDepth 100000 in
set_option maxHeartbeats 4000000 in
theorem StreamWhole_walk (mn av mx : Int) (v : Value) (Ls : List ByteArray) (w : World) (hL : IsStrs w v Ls) (hm : ∀ z ∈ Ls, z.size ≤ maxLen) (hT : Tabs w) :
    Calls Tryd.prog 4 #[pV mn av mx, v] w fun e w' => e = .returned (.bool true) ∧ Below w.heap.size w w' := by
  have HM := Lib.hid hm
  clear hm
  obtain ⟨hlm, a0, cap, rfl, _, hcells⟩ := hL
  unfold maxLen at hlm
  have HC := Lib.hid hcells
  clear hcells
  obtain ⟨V, hV⟩ : ∃ V, V = w.alloc (.cells #[.int .i64 mn, .int .i64 av, .int .i64 mx] 23) := ⟨_, rfl⟩
  have hR0 : Row V w.heap.size #[.int .i64 mn, .int .i64 av, .int .i64 mx] 23 := by rw [hV]; exact Row.made _ _ _
  have hBV : Below w.heap.size w V := by rw [hV]; exact (Below.refl _ _).alloc (Nat.le_refl _) _
  have hw1 : 1 < w.heap.size := World.block_lt_of_cell? _ _ (hT 0 (by decide))
  have HTV := Lib.hid (hT.stays hBV)
  have HV := Lib.hid hV
  have A_ := Lib.hid awake_any
  clear hV hT
  by_cases g1 : Ls.length ≤ 30
  · have d1 : decide ((30 : Int) < (Ls.length : Int)) = false := by simp; omega
    have F2 := Lib.hid (sFit_any mn av mx)
    obtain ⟨f, hf⟩ : ∃ f, f = fitB mn av mx := ⟨_, rfl⟩
    rw [← hf] at F2
    have HF := Lib.hid hf
    clear hf
    have c0 := hR0.cell 0; have c1 := hR0.cell 1; have c2 := hR0.cell 2
    simp only [List.getElem?_toArray, List.getElem?_cons_zero, List.getElem?_cons_succ] at c0 c1 c2
    go_enter Tryd.func4, Tryd.ntmps4
    go_wp2_with fail
    rw [← HV.out]
    refine (F2.out _).mono ?_
    rintro e w1 ⟨rfl, hb1⟩
    replace hR0 := hR0.step hb1
    have HT1 := Lib.hid (HTV.out.stays hb1)
    have hB1 := hBV.trans (hb1.mono hBV.size)
    clear hb1 HTV HV hBV c0 c1 c2 F2
    rcases f with _ | _
    · go_wp2_with fail
      refine (A_.out _ HT1.out).mono ?_
      rintro e w2 ⟨rfl, hb2⟩
      go_wp2
      go_ret
      exact ⟨rfl, below_step hB1 hb2⟩
    · obtain ⟨m, av, x, bb, rfl, rfl, rfl, hfit⟩ := fit_nats HF.out.symm
      have FT := Lib.hid hfit
      have OK := Lib.hid (cutN_sure (mn := m) (b := bb) (mx := x) (by have := hfit.h1; omega) (by have := hfit.h2; have := hfit.h3; omega))
      clear hfit HF
      go_wp2_with fail
      obtain ⟨A, hA⟩ : ∃ A, A = w1.heap.size := ⟨_, rfl⟩
      rw [← hA]
      obtain ⟨V2, hV2⟩ : ∃ V2, V2 = w1.alloc (.cells #[.string ⟨#[]⟩] 25) := ⟨_, rfl⟩
      have hb2 : Below w1.heap.size w1 V2 := by rw [hV2]; exact (Below.refl _ _).alloc (Nat.le_refl _) _
      have hR1 : Row V2 A #[.string ⟨#[]⟩] 25 := by rw [hV2, hA]; exact Row.made _ _ _
      rw [← hV2]
      have hlt0 : w.heap.size < A := by rw [hA]; exact hR0.lt
      replace hR0 := hR0.step hb2
      have hT5 := HT1.out.stays hb2
      have hB5 := below_step hB1 hb2
      clear hb2 HT1 hB1 hV2 hA
      obtain ⟨b0, hb0⟩ : ∃ b0, b0 = w.heap.size := ⟨_, rfl⟩
      have HW0 : Hid (w.heap.size < A ∧ b0 < A ∧ 1 < A) := ⟨hlt0, by omega, by omega⟩
      rw [← hb0] at hR0 ⊢
      clear hb0 hlt0 hw1
      obtain ⟨B, hB⟩ : ∃ B, B = A + 1 := ⟨_, rfl⟩
      have HAB : Hid (B = A + 1) := hB
      clear hB
      have HG0 := Lib.hid (show Held w [(b0, #[.int .i64 m, .int .i64 av, .int .i64 x], 23)] V2 from ⟨by
        intro z hz
        simp only [List.mem_cons, List.not_mem_nil, or_false] at hz
        subst hz
        exact hR0, hT5, hB5⟩)
      have HR1 := Lib.hid hR1
      clear hR0 hR1 hT5 hB5
      go_loopw [22, 8, 6] (fun i al gv wr => ∃ (k : Nat) (M : List ByteArray) (y a : ByteArray), k ≤ Ls.length ∧ i = .int .i64 k ∧ al = .string a ∧ a.size ≤ 1000 * k ∧ Sofar (cutN m bb x) x a.data.toList M y ∧ OwnB B wr gv M ∧ Held w [(b0, #[.int .i64 m, .int .i64 av, .int .i64 x], 23)] wr ∧ Row wr A #[.string y] 25) (fun i _ _ _ => Ls.length - (intOf i).toNat)
      case atStart => exact ⟨0, [], ⟨#[]⟩, ⟨#[]⟩, Nat.zero_le _, rfl, rfl, Nat.zero_le _, Sofar.start _ _, ownB_nil _ _, HG0.out, HR1.out⟩
      case round =>
        obtain ⟨k, M, y, a, hk, rfl, rfl, has, hso, hown, hG, hrow⟩ := hrel
        clear HG0 HR1
        obtain ⟨gv, hgv⟩ : ∃ gv, gv = u6 := ⟨_, rfl⟩
        rw [← hgv] at hown ⊢
        clear hgv
        obtain ⟨_, hys, hMs⟩ := hso.small OK.out
        rw [← Lib.size_eq] at hys hMs
        have HML : Hid (M.length ≤ 30000) := by show _ ≤ _; omega
        have HO := Lib.hid hown; have HG := Lib.hid hG; have HRA := Lib.hid hrow; have HSO := Lib.hid hso
        clear hown hG hrow hso
        by_cases hlt : k < Ls.length
        · have hbk : decide ((k : Int) < (Ls.length : Int)) = true := by simpa using hlt
          obtain ⟨b, off, rfl, hbl, hcell⟩ := HC.out (by omega)
          have cl : wr.cell? ⟨b, off + k, none⟩ = some (.string Ls[k]) := (HG.out.below.cell (p := ⟨b, off + k, none⟩) hbl).trans (hcell k hlt)
          obtain ⟨t, ht⟩ : ∃ t, t = Ls[k] := ⟨_, rfl⟩
          rw [← ht] at cl
          have htm : t.size ≤ 9223372036854775807 := by
            have := HM.out Ls[k] (List.getElem_mem hlt)
            rw [← ht] at this; unfold maxLen at this; omega
          have bk : (0 : Int) ≤ (k : Int) ∧ (k : Int) < (Ls.length : Int) := by omega
          clear hcell ht
          by_cases h3 : t.size ≤ 1000
          · have d3 : decide ((1000 : Int) < (t.size : Int)) = false := by simp; omega
            have hsum : ¬ 9223372036854775807 < a.size + t.size := by omega
            have hso2 := HSO.out.step OK.out t
            rw [← bytes_app] at hso2
            obtain ⟨y', hy'⟩ : ∃ y' : ByteArray, y' = ⟨(left (cutN m bb x) x (y ++ t).data.toList).toArray⟩ := ⟨_, rfl⟩
            obtain ⟨L', hL'⟩ : ∃ L', L' = strsOf (fed (cutN m bb x) x (y ++ t).data.toList) := ⟨_, rfl⟩
            rw [← hy', ← hL'] at hso2
            have hl2 : L'.length ≤ 31000 := by
              have := fed_len OK.out (y ++ t).data.toList
              rw [← Lib.size_eq, ByteArray.size_append] at this
              rw [hL', strsOf_len]; omega
            have FDk : Hid (∀ W, Tabs W → Calls Tryd.prog 9 #[pV m av x, sV y, .string t] W fun e w' => ∃ u, e = .returned (.tuple #[sV y', u]) ∧ OwnS w' u L' ∧ Below W.heap.size W w') := by
              intro W hW; rw [hy', hL']; exact Feed_any m av bb x FT.out y t (y ++ t) rfl (by omega) W hW
            have hyx := (hso2.small OK.out).1
            have dx1 : decide (x ≤ y'.size) = false := by simp; omega
            have dx2 : decide ((x : Int) ≤ (y'.size : Int)) = false := by simp; omega
            have HSO2 := Lib.hid hso2
            have has2 : (a ++ t).size ≤ 1000 * (k + 1) := by rw [ByteArray.size_append]; omega
            have HAS := Lib.hid has2
            have q0 := HG.out.rows (b0, #[.int .i64 m, .int .i64 av, .int .i64 x], 23) (by simp)
            have c0 := q0.cell 0; have c1 := q0.cell 1; have c2 := q0.cell 2; have c3 := HRA.out.cell 0
            simp only [List.getElem?_toArray, List.getElem?_cons_zero, List.getElem?_cons_succ] at c0 c1 c2 c3
            clear hy' hL' HSO hso2 has2 q0
            go_wp2_with fail
            refine (FDk.out _ HG.out.tabs).mono ?_
            rintro e w2 ⟨u, rfl, hu, hb2⟩
            have hG2 := HG.out.on hb2
            have hrow2 := HRA.out.step hb2
            have hown2 := HO.out.stays hb2
            clear hb2 HG HRA HO c0 c1 c2 c3 FDk cl
            have q0 := hG2.rows (b0, #[.int .i64 m, .int .i64 av, .int .i64 x], 23) (by simp)
            have c0 := q0.cell 0; have c1 := q0.cell 1; have c2 := q0.cell 2; have c3 := hrow2.cell 0; have f3 := hrow2.free 0
            simp only [List.getElem?_toArray, List.getElem?_cons_zero, List.getElem?_cons_succ] at c0 c1 c2 c3
            have hab := HAB.out
            have hw0 := HW0.out
            have hne : b0 ≠ A := by omega
            have hR : setA A w2 (w2.setCell ⟨A, 0, none⟩ (.string y')) := ⟨_, _, hrow2, rfl⟩
            have hst3 := (setA_own hR hu).strs
            have hown3 := setA_ownB hR hown2
            have hrow3 : Row (w2.setCell ⟨A, 0, none⟩ (.string y')) A #[.string y'] 25 := hrow2.set 0 _
            have hG3 : Held w [(b0, #[.int .i64 m, .int .i64 av, .int .i64 x], 23)] (w2.setCell ⟨A, 0, none⟩ (.string y')) := hG2.onG (grownBy_setCell' _ _ _) (fun j e => by cases e; omega) (fun e => by cases e; omega) (by
              intro z hz
              simp only [List.mem_cons, List.not_mem_nil, or_false] at hz
              subst hz
              intro e; cases e; omega)
            have hst4 := hst3
            obtain ⟨_, a7, cap7, rfl, _, _⟩ := hst4
            have hsz3 : B ≤ (w2.setCell ⟨A, 0, none⟩ (.string y')).heap.size := by have := hrow3.lt; omega
            obtain ⟨i0, hi, hz0, hz1, hz2⟩ := info_parts infoStr
            have hml := HML.out
            have HG3 := Lib.hid hG3; have HR3 := Lib.hid hrow3
            clear hG2 hrow2 hown2 hu hR hG3 hrow3 q0 hab hw0
            go_wp2_with (at_builtin; refine wpList_append_strs rfl (.tmp 46) (.tmp 47) 28 rfl B 9 i0 (.string ⟨#[]⟩) 16 Tryd.underlying28 hi hz0 hz1 hz2 rfl _ M rfl hown3 _ L' rfl hst3 ?c1 ?c2 ?c3 ?_)
            case c1 => unfold maxLen; omega
            case c2 => omega
            case c3 => exact hsz3
            intro v6 w6 hown6 hg6
            have hab := HAB.out
            have hw0 := HW0.out
            replace hg6 : (w2.setCell ⟨A, 0, none⟩ (.string y')).grownBy w6 gv.ownBlock := hg6
            have hfr := fun j (hj : gv.ownBlock = some j) => hown3.from j hj
            have hG6 : Held w [(b0, #[.int .i64 m, .int .i64 av, .int .i64 x], 23)] w6 := HG3.out.onG hg6 (fun j hj => by have := hfr j hj; omega) (fun e => by have := hfr 1 e; omega) (by
              intro z hz
              simp only [List.mem_cons, List.not_mem_nil, or_false] at hz
              subst hz
              intro e; have := hfr b0 e; omega)
            have hRA6 : Row w6 A #[.string y'] 25 := (hg6.block A HR3.out.lt (fun e => by have := hfr A e.symm; omega)).trans HR3.out
            have HG6 := Lib.hid hG6; have HO6 : Hid (OwnB B w6 v6 (M ++ L')) := (by show World.ownsRow _ _ _ _ _ _ _; rw [List.length_append]; exact hown6); have HR6 := Lib.hid hRA6
            clear hG6 hown6 hRA6 hg6 hown3 hst3 HG3 hfr c0 c1 c2 c3 f3
            go_wp2
            go_roundw
            case rel => exact ⟨k + 1, M ++ L', y', a ++ t, by omega, by go_num, rfl, HAS.out, HSO2.out, HO6.out, HG6.out, HR6.out⟩
            case measure => simp [intOf]; omega
          · have d3 : decide ((1000 : Int) < (t.size : Int)) = true := by simp; omega
            go_wp2_with fail
            refine (A_.out _ HG.out.tabs).mono ?_
            rintro e w3 ⟨rfl, hb3⟩
            have HB := Lib.hid (HG.out.on hb3).below
            go_wp2
            go_ret
            exact ⟨rfl, HB.out⟩
        · have hso := HSO.out
          have hfin := hso.fin OK.out
          obtain ⟨E, hE⟩ : ∃ E, E = strsOf (pcs (cutN m bb x) y.data.toList) := ⟨_, rfl⟩
          rw [← hE] at hfin
          have HLEN : Hid (M.length + E.length ≤ 100000) := by
            have := pcs_len OK.out.pos y.data.toList.length y.data.toList (Nat.le_refl _)
            rw [← Lib.size_eq] at this
            show _ ≤ _
            rw [hE, strsOf_len]; omega
          have C1 : Hid (∀ W, Tabs W → Calls Tryd.prog 12 #[pV m av x, sV y] W fun e w' => ∃ v, e = .returned v ∧ IsStrs w' v E ∧ Below W.heap.size W w') := by
            intro W hW; rw [hE]; exact End_any m av bb x FT.out y (by omega) W hW
          have C2 : Hid (∀ W, Calls Tryd.prog 14 #[pV m av x, .string a] W fun e w' => ∃ v, e = .returned v ∧ IsStrs w' v (M ++ E) ∧ Below W.heap.size W w') := by
            intro W; rw [hfin]; exact Whole_any m av bb x FT.out a (by omega) W
          have hbk : decide ((k : Int) < (Ls.length : Int)) = false := by simp; omega
          have HG2 := Lib.hid (show Held w [(b0, #[.int .i64 m, .int .i64 av, .int .i64 x], 23), (A, #[.string y], 25)] wr from ⟨by
            intro z hz
            simp only [List.mem_cons, List.not_mem_nil, or_false] at hz
            rcases hz with rfl | rfl
            · exact HG.out.rows _ (by simp)
            · exact HRA.out, HG.out.tabs, HG.out.below⟩)
          obtain ⟨i0, hi, hz0, hz1, hz2⟩ := info_parts infoStr
          clear hso hfin hE HSO FT HG HRA
          go_wp2_with fail
          refine wp_region_wordsG (by kernel_rfl) (by kernel_rfl) (appT 4 (fun w w' => w.grownBy w' gv.ownBlock)) (Held w [(b0, #[.int .i64 m, .int .i64 av, .int .i64 x], 23), (A, #[.string y], 25)]) swaE (swaU m av x a y gv M E B) 14 swaN [12] (by kernel_rfl) (by kernel_rfl) (by kernel_rfl)
            swaB (by kernel_rfl) (fun ix kx v e w w' hi hk hne hb hU hT => swa_T _ _ _ _ _ _ _ _ _  ix kx v e w w' hk hne hb hU hT) (by decide) (HG2.out.on ((Below.refl _ _).drew)) (fun kx hk hge => ?hv0)
            [50, 51, 52, 53, 54, 55, 56, 57, 58, 59, 60, 61, 4] (by kernel_rfl) (forall_ops ?steps) ?behind
          case hv0 =>
            have hge' : 13 ≤ kx := hge
            rcases (show kx = 13 by omega) with rfl
            · exact HO.out.stays (Below.refl _ _).drew
          case steps =>
            refine ⟨?_, ?_, ?_, ?_, ?_, ?_, ?_, ?_, ?_, ?_, ?_, ?_, ?_, trivial⟩
            · refine stepG_of rfl ?_
              exact stepR_value (t := 50) (gv) rfl (fun _ => appT_other (by decide) (Below.refl _ _)) (fun ac w hG hN hO => by
                have e6 : slot ac 6 = gv := hO 6 (by kernel_rfl)
                exact run_move_slot (.inl rfl) e6) (fun ac w hG hN => rfl)
            · refine stepG_of rfl ?_
              exact stepR_value (t := 51) (pV m av x) rfl (fun _ => appT_other (by decide) (Below.refl _ _)) (fun ac w hG hN hO => by
                have e2 : slot ac 2 = .pointer (some ⟨b0, 0, none⟩) := hO 2 (by kernel_rfl)
                have q0 := hG.rows (b0, #[.int .i64 m, .int .i64 av, .int .i64 x], 23) (by simp)
                have q1 := hG.rows (A, #[.string y], 25) (by simp)
                have c0 := q0.cell 0; have c1 := q0.cell 1; have c2 := q0.cell 2; have c3 := q1.cell 0
                simp only [List.getElem?_toArray, List.getElem?_cons_zero, List.getElem?_cons_succ] at c0 c1 c2 c3
                have f2 := slot_at e2
                unfold execOp; go_simp) (fun ac w hG hN => rfl)
            · refine stepG_of rfl ?_
              exact stepR_value (t := 52) (sV y) rfl (fun _ => appT_other (by decide) (Below.refl _ _)) (fun ac w hG hN hO => by
                have e5 : slot ac 5 = .pointer (some ⟨A, 0, none⟩) := hO 5 (by kernel_rfl)
                have q0 := hG.rows (b0, #[.int .i64 m, .int .i64 av, .int .i64 x], 23) (by simp)
                have q1 := hG.rows (A, #[.string y], 25) (by simp)
                have c0 := q0.cell 0; have c1 := q0.cell 1; have c2 := q0.cell 2; have c3 := q1.cell 0
                simp only [List.getElem?_toArray, List.getElem?_cons_zero, List.getElem?_cons_succ] at c0 c1 c2 c3
                have f5 := slot_at e5
                unfold execOp; go_simp) (fun ac w hG hN => rfl)
            · refine stepG_of rfl ?_
              intro ac w hG hN hO
              have e51 : slot ac 51 = pV m av x := hN 1 (by decide)
              have e52 : slot ac 52 = sV y := hN 2 (by decide)
              refine wp_callx 12 _ _ rfl (enters_of Tryd.func12 (by kernel_rfl) rfl) #[pV m av x, sV y] (by simp [eval_slot, e51, e52]) ((C1.out w hG.tabs)) ?_
              rintro v w'' ⟨hv, hb⟩
              exact ⟨v, rfl, (appT_other (by decide) hb), hG.on hb, hv⟩
            · refine stepG_of rfl ?_
              intro ac w hG hN hO
              have e50 : slot ac 50 = gv := hN 0 (by decide)
              have e53 : IsStrs w (slot ac 53) E := hN 3 (by decide)
              have hown : OwnB B w gv M := hN 13 (by decide)
              have hlen := HLEN.out
              have hq := hG.rows (A, #[.string y], 25) (by simp)
              have hab := HAB.out
              have hw0 := HW0.out
              refine wp_append_strs (.tmp 50) (.tmp 53) 28 rfl B 9 i0 (.string ⟨#[]⟩) 16 Tryd.underlying28 hi hz0 hz1 hz2 rfl gv M (slotE e50) hown (slot ac 53) E rfl e53 (by unfold maxLen; omega) (by omega) (by have := hq.lt; omega) ?_
              intro v' w' hown' hg
              exact ⟨v', rfl, appT_at hg, hG.onG hg (fun j hj => by have := hown.from j hj; omega) (fun e => by have := hown.from 1 e; omega) (by
                intro z hz
                simp only [List.mem_cons, List.not_mem_nil, or_false] at hz
                rcases hz with rfl | rfl
                · intro e; have := hown.from b0 e; omega
                · intro e; have := hown.from A e; omega), OwnS.of hown'⟩
            · refine stepG_of rfl ?_
              exact stepR_value (t := 55) (pV m av x) rfl (fun _ => appT_other (by decide) (Below.refl _ _)) (fun ac w hG hN hO => by
                have e2 : slot ac 2 = .pointer (some ⟨b0, 0, none⟩) := hO 2 (by kernel_rfl)
                have q0 := hG.rows (b0, #[.int .i64 m, .int .i64 av, .int .i64 x], 23) (by simp)
                have q1 := hG.rows (A, #[.string y], 25) (by simp)
                have c0 := q0.cell 0; have c1 := q0.cell 1; have c2 := q0.cell 2; have c3 := q1.cell 0
                simp only [List.getElem?_toArray, List.getElem?_cons_zero, List.getElem?_cons_succ] at c0 c1 c2 c3
                have f2 := slot_at e2
                unfold execOp; go_simp) (fun ac w hG hN => rfl)
            · refine stepG_of rfl ?_
              exact stepR_value (t := 56) (.string a) rfl (fun _ => appT_other (by decide) (Below.refl _ _)) (fun ac w hG hN hO => by
                have e8 : slot ac 8 = .string a := hO 8 (by kernel_rfl)
                exact run_move_slot (.inl rfl) e8) (fun ac w hG hN => rfl)
            · refine stepG_of rfl ?_
              intro ac w hG hN hO
              have e55 : slot ac 55 = pV m av x := hN 5 (by decide)
              have e56 : slot ac 56 = .string a := hN 6 (by decide)
              refine wp_callx 14 _ _ rfl (enters_of Tryd.func14 (by kernel_rfl) rfl) #[pV m av x, .string a] (by simp [eval_slot, e55, e56]) ((C2.out w)) ?_
              rintro v w'' ⟨hv, hb⟩
              exact ⟨v, rfl, (appT_other (by decide) hb), hG.on hb, hv⟩
            · refine stepG_of rfl ?_
              intro ac w hG hN hO
              have e54 : OwnS w (slot ac 54) (M ++ E) := hN 4 (by decide)
              have e57 : IsStrs w (slot ac 57) (M ++ E) := hN 7 (by decide)
              refine wp_callx 11 _ _ rfl (enters_of Tryd.func11 (by kernel_rfl) rfl) #[slot ac 54, slot ac 57] (by simp [eval_slot]) (calls_val (Same_eq _ _ (M ++ E) w e54.strs e57)) ?_
              rintro v w'' ⟨hv, hb⟩
              exact ⟨v, rfl, (appT_other (by decide) hb), hG.on hb, hv⟩
            · refine stepG_of rfl ?_
              exact stepR_value (t := 59) (.bool true) rfl (fun _ => appT_other (by decide) (Below.refl _ _)) (fun ac w hG hN hO => by
                have e58 : slot ac 58 = .bool true := hN 8 (by decide)
                exact run_move_slot (.inl rfl) e58) (fun ac w hG hN => rfl)
            · refine stepG_on (j := 9) (b := true) rfl (by decide) (fun v e w h => h) ?_
              intro ac w hG hN hO
              refine wp_callx 8 _ _ rfl (enters_of Tryd.func8 (by kernel_rfl) rfl) #[] (by simp) (calls_val (A_.out w hG.tabs)) ?_
              rintro v w'' ⟨hv, hb⟩
              exact ⟨v, rfl, (appT_other (by decide) hb), hG.on hb, hv⟩
            · refine stepG_of rfl ?_
              exact stepR_value (t := 61) (.bool true) rfl (fun _ => appT_other (by decide) (Below.refl _ _)) (fun ac w hG hN hO => by
                have e59 : slot ac 59 = .bool true := hN 9 (by decide)
                have e60 : slot ac 60 = .bool true := hN 10 (by decide)
                have f59 := slot_at e59
                have f60 := slot_at e60
                unfold execOp; go_simp) (fun ac w hG hN => rfl)
            · refine stepG_of rfl ?_
              exact stepR_value (t := 4) (.bool true) rfl (fun _ => appT_other (by decide) (Below.refl _ _)) (fun ac w hG hN hO => by
                have e61 : slot ac 61 = .bool true := hN 11 (by decide)
                exact run_move_slot (.inr rfl) e61) (fun ac w hG hN => rfl)
          case behind =>
            intro ac w5 hG hV hS ha
            have h12 : slot ac 4 = .bool true := hV 12 (by decide) (by decide)
            generalize slot ac = sl at ha h12
            subst ha
            simp only [patchL, List.contains_cons, List.contains_nil, Nat.reduceBEq, Bool.or_false, Bool.or_true, if_true, Bool.false_eq_true, if_false, Nat.reduceAdd]
            generalize sl 50 = s50
            generalize sl 51 = s51
            generalize sl 52 = s52
            generalize sl 53 = s53
            generalize sl 54 = s54
            generalize sl 55 = s55
            generalize sl 56 = s56
            generalize sl 57 = s57
            generalize sl 58 = s58
            generalize sl 59 = s59
            generalize sl 60 = s60
            generalize sl 61 = s61
            generalize sl 4 = s4 at h12 ⊢
            subst h12
            clear hV hS
            have HB := Lib.hid hG.below
            clear hG
            go_wp2
            go_ret
            exact ⟨rfl, HB.out⟩
  · have d1 : decide ((30 : Int) < (Ls.length : Int)) = true := by simp; omega
    go_enter Tryd.func4, Tryd.ntmps4
    go_wp2_with fail
    rw [← HV.out]
    refine (A_.out _ HTV.out).mono ?_
    rintro e w1 ⟨rfl, hb1⟩
    go_wp2
    go_ret
    exact ⟨rfl, below_step hBV hb1⟩
end Go.Proofs.YtciajgdjddepdaaDoor

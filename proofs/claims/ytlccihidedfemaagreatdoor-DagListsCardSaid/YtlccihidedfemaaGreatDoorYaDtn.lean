/-
  Contracts over this translation: cdc's Pieces in a row of their own; dag's file.
-/
import Derived.Test.YtlccihidedfemaaGreatDoorYaDtm
import Derived.Test.YtlccihidedfemaaGreatDoorYaCdc
import Derived.Test.YtlccihidedfemaaGreatDoorQa0
import Derived.Lib.IndexBytes
import Derived.Test.YtlccihidedfemaaGreatDoorQa5
import Derived.Test.YtlccihidedfemaaGreatDoorQa2
import Derived.Test.YtlccihidedfemaaGreatDoorYaCrf
import Derived.Test.YtlccihidedfemaaGreatDoorQa3
import Derived.Test.YtlccihidedfemaaGreatDoorYaNdd
import Derived.StillTailTactics
import Derived.Test.YtlccihidedfemaaGreatDoorQa4
set_option linter.unusedVariables false
namespace Go.Proofs.YtlccihidedfemaaGreatDoor
open Go.RowKit Go.Shelf
attribute [local go_sem] Oper.semAt_some
set_option maxRecDepth 100000 in
set_option maxHeartbeats 4000000 in
theorem PiecesO_any (mn av b mx : Nat) (hF : FitAt mn av mx b) (s : ByteArray) (hs : s.size ≤ 100000) (w : World) (hT : Tabs w) :
    Calls Tryz.prog 101 #[pV mn av mx, .string s] w (RetPcsO (cutN mn b mx) s.data.toList w) := by
  have OK := Lib.hid (cutN_ok (mn := mn) (b := b) (mx := mx) (by have := hF.h1; omega) (by have := hF.h2; have := hF.h3; omega))
  have C := Lib.hid (fun (x : ByteArray) (hx : x.size ≤ maxLen) W => Cut_any mn av b mx hF x hx W)
  have fitV := Lib.hid (fitB_of hF)
  have fitT := Lib.hid (Fit_any_Cdw mn av mx)
  clear hF
  obtain ⟨V0, hV⟩ : ∃ V0, V0 = w.alloc (.cells #[.int .i64 mn, .int .i64 av, .int .i64 mx] 23) := ⟨_, rfl⟩
  have hRV : Row V0 w.heap.size #[.int .i64 mn, .int .i64 av, .int .i64 mx] 23 := by rw [hV]; exact Row.made _ _ _
  have hBV0 : Below w.heap.size w V0 := by rw [hV]; exact (Below.refl _ _).alloc (Nat.le_refl _) _
  have hTV0 : Tabs V0 := hT.stays hBV0
  have HV := Lib.hid hV; have HRV0 := Lib.hid hRV; have HTV0 := Lib.hid hTV0
  clear hV hRV hTV0
  go_enter Tryz.func101, Tryz.ntmps101
  go_wp2_with fail
  refine (fitT.out _).mono ?_
  rw [← HV.out]
  rintro e V ⟨rfl, hb0⟩
  rw [fitV.out]
  have HRV := Lib.hid (HRV0.out.step hb0)
  have HTV := Lib.hid (HTV0.out.stays hb0)
  have hBV : Below w.heap.size w V := hBV0.trans (hb0.mono hBV0.size)
  have HOW := Lib.hid (ownTxt_nil V)
  clear hb0 hBV0 HRV0 HTV0 HV
  go_wp2_with fail
  go_loopw [5, 6] (fun v q wr => ∃ (M : List (List UInt8)) (x : ByteArray), q = .string x ∧ x.size ≤ s.size ∧ OnWay (cutN mn b mx) s.data.toList M x ∧ OwnTxt V wr v M ∧ Below V.heap.size V wr) (fun _ q _ => lenOf q)
  case atStart => exact ⟨[], s, rfl, Nat.le_refl _, rfl, HOW.out, Below.refl _ _⟩
  case round =>
    obtain ⟨M, x, rfl, hxs, hway, hown, hB⟩ := hrel
    have HW := Lib.hid hway; have HO := Lib.hid hown
    have hml := onWay_len OK.out hway
    rw [← Lib.size_eq] at hml
    have hol : M.length ≤ 1000000 := by omega
    clear hway hown hml
    have hR := HRV.out.step hB
    have HT1 := Lib.hid (HTV.out.stays hB)
    have g0 := hR.cell 0; have g1 := hR.cell 1; have g2 := hR.cell 2
    simp only [List.getElem?_toArray, List.getElem?_cons_zero, List.getElem?_cons_succ] at g0 g1 g2
    clear hR
    by_cases hx : 0 < x.size
    · have hem : x.toList.isEmpty = false := by rw [str_nonempty]; exact hx
      have hstep := onWay_step OK.out HW.out hx
      have hn1 := OK.out.pos x.data.toList (fun e => by rw [Lib.size_eq, e] at hx; exact absurd hx (by simp))
      have hn2 := OK.out.le x.data.toList
      rw [← Lib.size_eq] at hn2
      have hC := C.out x (by unfold maxLen; omega)
      obtain ⟨n, hn⟩ : ∃ n, n = cutN mn b mx x.data.toList := ⟨_, rfl⟩
      rw [← hn] at hstep hn1 hn2 hC
      have hd1 := fun W => run_slice_to (P := Tryz.prog) Tryz.underlying9 x n hn2 W
      have hd2 := fun W => run_slice_from (P := Tryz.prog) Tryz.underlying9 x n hn2 W
      have hys : (x.extract n x.size).size = x.size - n := by rw [ByteArray.size_extract]; omega
      have hts : (x.extract 0 n).size ≤ 281474976710656 := by rw [ByteArray.size_extract]; omega
      obtain ⟨t, ht⟩ : ∃ t, t = x.extract 0 n := ⟨_, rfl⟩
      obtain ⟨y, hy⟩ : ∃ y, y = x.extract n x.size := ⟨_, rfl⟩
      rw [← ht] at hd1 hstep hts
      rw [← hy] at hd2 hstep hys
      have HC := Lib.hid hC; have HS := Lib.hid hstep; have HYS := Lib.hid hys
      have CL := Lib.hid (Clone_any_Cdw t hts)
      clear hC hstep hys ht hy hn hts
      go_wp2_with fail
      refine (HC.out _ HT1.out).mono ?_
      rintro e w1 ⟨rfl, hb1⟩
      have hB1 := below_step hB hb1
      have HO1 := Lib.hid (HO.out.stays hb1)
      clear HO hB hb1 g0 g1 g2 HT1
      go_wp2_with fail
      refine (CL.out _).mono ?_
      rintro e w2 ⟨rfl, hb2⟩
      have hB2 := below_step hB1 hb2
      have HO2 := Lib.hid (HO1.out.stays hb2)
      clear HO1 hB1 hb2
      go_wp2_with (at_builtin; refine wpList_append_txt rfl _ _ rfl HO2.out hB2 rfl rfl hol ?_)
      intro v' w3 hown' hb3
      have HO3 := Lib.hid hown'
      clear hown'
      go_wp2_with fail
      go_roundw
      case rel => exact ⟨_, y, rfl, by rw [HYS.out]; omega, HS.out, HO3.out, hb3⟩
      case measure => simp only [lenOf]; rw [HYS.out]; omega
    · have hem : x.toList.isEmpty = true := by
        rcases h : x.toList.isEmpty with _ | _
        · rw [str_nonempty] at h; exact absurd h hx
        · rfl
      have hfin := onWay_end HW.out (by omega)
      have hstr := HO.out
      rw [hfin] at hstr
      have hBw := hBV.trans (hB.mono hBV.size)
      have HST := Lib.hid (OwnTxt.low hstr hBV.size); have HBW := Lib.hid hBw
      clear hfin hstr HO hBw
      go_wp2
      go_ret
      exact ⟨_, rfl, HST.out, HBW.out⟩
theorem Bk.later {B Bb : Nat} {a w w' : World} {r : Option Nat} (h : Bk B Bb a w) (hg : w.grownBy w' r) (hr : ∀ g, r = some g → a.heap.size ≤ g) : Bk B Bb a w' :=
  ⟨hg.os.trans h.os, hg.tape.trans h.tape, hg.output.trans h.output, Nat.le_trans h.size hg.size, fun b hb hn hp =>
    (hg.block b (Nat.lt_of_lt_of_le hb h.size) (fun e => by have := hr b e.symm; omega)).trans (h.block b hb hn hp)⟩
theorem OwnTxt.bk {B Bb : Nat} {W w w' : World} {v : Value} {L : List (List UInt8)} (h : OwnTxt W w v L) (hk : Bk B Bb w w') (hn : Bb < W.heap.size) : OwnTxt W w' v L := by
  refine ⟨h.1, ?_⟩
  rcases h.2 with h2 | ⟨g, cap, cur, h3, h4, h5, h6⟩
  · exact .inl h2
  · exact .inr ⟨g, cap, cur, h3, h4, hk.row (xs := cur) (T := 9) h5 (by decide) (by omega), h6⟩
theorem ownTxt_row {W w : World} {v : Value} {M : List (List UInt8)} (h : OwnTxt W w v M) {g : Nat} (hg : v.ownBlock = some g) : W.heap.size ≤ g ∧ ∃ xs, Row w g xs 9 := by
  rcases h.2 with ⟨rfl, _⟩ | ⟨g', cap, cur, rfl, h4, h5, _⟩
  · cases hg
  · cases hg; exact ⟨h4, _, h5⟩
theorem ownTxt_turn {W w w' : World} {v : Value} {M : List (List UInt8)} (h : OwnTxt W w v M) {r : Option Nat} (hg : w.grownBy w' r) (hr : ∀ b, r = some b → ∃ xs T, Row w b xs T ∧ T ≠ 9) : OwnTxt W w' v M :=
  World.ownsRow.kept h hg (by
    cases hv : v.ownBlock with
    | none => exact .inl rfl
    | some k =>
      refine .inr fun e => ?_
      obtain ⟨_, xs, h1⟩ := ownTxt_row h hv
      obtain ⟨ys, T, h2, hT⟩ := hr k e.symm
      have h3 := (show w.heap[k]? = _ from h1).symm.trans (show w.heap[k]? = _ from h2)
      cases h3; exact hT rfl)
set_option maxRecDepth 100000 in
set_option maxHeartbeats 8000000 in
theorem pFile_any (W0 : World) (Bb mn av b mx : Nat) (hF : FitAt mn av mx b) (s : ByteArray) (w : World) (R : List It) (M : List Ob) (vR vB : Value) (h : Bld W0 Bb (mn, av, mx) w R M vR vB) (hs : s.size ≤ 32768) (hT : Tabs W0) (hM : M.length + s.size ≤ 800000) :
    Calls Tryz.prog 88 #[.pointer (some ⟨Bb, 0, none⟩), .string s] w (Added W0 Bb (mn, av, mx) R vR (M ++ (seqF (cutN mn b mx) s.data.toList).map obN) (keyN (fileN (cutN mn b mx) s.data.toList)) w) := by
  have OK := Lib.hid (cutN_ok (mn := mn) (b := b) (mx := mx) (by have := hF.h1; omega) (by have := hF.h2; have := hF.h3; omega))
  have CP := Lib.hid (fun (W : World) (hW : Tabs W) => PiecesO_any mn av b mx hF s (by omega) W hW)
  have CA := Lib.hid (fun (n : Nd) (pv ev : Value) (W : World) (M : List Ob) (vB : Value) (h : Bld W0 Bb (mn, av, mx) W R M vR vB) (hp : IsParts W pv n.ps) (he : IsEntries W ev n.es) (hd : n.d.size ≤ 1000000000) (hM : M.length ≤ 900000) => pAdd_any W0 Bb (mn, av, mx) n pv ev W R M vR vB h hp he hd hM)
  obtain ⟨c, hc⟩ : ∃ c, c = cutN mn b mx := ⟨_, rfl⟩
  rw [← hc] at CP OK ⊢
  have hpl : (pcs c s.data.toList).length ≤ s.size := by have := pcs_len OK.out.pos s.data.toList.length s.data.toList (Nat.le_refl _); rw [Lib.size_eq]; exact this
  have hps : ∀ t ∈ pcs c s.data.toList, t.length ≤ 1000000000 := fun t ht => by
    obtain ⟨i, hi, e⟩ := List.getElem_of_mem ht
    have := (pcs_each OK.out s.data.toList.length s.data.toList (Nat.le_refl _) i t (by rw [← e]; exact List.getElem?_eq_getElem hi)).2.1
    have h4 := hF.h4; have h1 := hF.h1; have h2 := hF.h2; have h3 := hF.h3
    omega
  obtain ⟨V, hV⟩ : ∃ V, V = w.alloc (.cells #[.int .i64 2, .string ⟨#[]⟩, .slice none 0 0, .slice none 0 0] 44) := ⟨_, rfl⟩
  have hbV : Below w.heap.size w V := by rw [hV]; exact (Below.refl _ _).alloc (Nat.le_refl _) _
  have HRN : Hid (Row V w.heap.size #[.int .i64 2, .string ⟨#[]⟩, .slice none 0 0, .slice none 0 0] 44) := Lib.hid (by rw [hV]; exact Row.made _ _ _)
  have HH := Lib.hid (h.stays hbV)
  have HTV := Lib.hid (hT.stays HH.out.below)
  have HTW := Lib.hid hT
  have hbw := h.row.lt
  have HV := Lib.hid hV; have HBV := Lib.hid hbV; have HPS := Lib.hid hps
  obtain ⟨q0, q1, q2, q3, q4⟩ := h.cells
  simp only at q2 q3 q4
  have hgt : decide ((s.size : Int) > 32768) = false := decide_eq_false (by omega)
  have hgt2 : ¬ (32768 : Int) < (s.size : Int) := by omega
  clear hV hbV h hc hF hT hps q0 q1
  go_enter Tryz.func88, Tryz.ntmps88
  go_wp2_with fail
  rw [← HV.out]
  with_reducible refine (CP.out _ HTV.out).mono ?_
  rintro e w1 ⟨v1, rfl, hs1, hb1⟩
  have HS1 := Lib.hid hs1
  obtain ⟨hlt1, a1, cap1, rfl, _, _⟩ := hs1.strs
  have HRN1 := Lib.hid (HRN.out.step hb1)
  have HH1 := Lib.hid (HH.out.stays hb1)
  have HK1 : Hid (Bk W0.heap.size Bb w w1) := Lib.hid ((Bk.of_below HBV.out).step hb1)
  have hz1 : w.heap.size < V.heap.size := HRN.out.lt
  have hbb : Bb < V.heap.size := HH.out.row.lt
  have hfr := HH.out.from_
  have hz2 := hb1.size
  clear hb1 q2 q3 q4 hs1
  obtain ⟨Ps, hPs⟩ : ∃ Ps, Ps = pcs c s.data.toList := ⟨_, rfl⟩
  rw [← hPs] at HS1 hpl HPS
  have HPE := Lib.hid hPs
  rw [← hPs]
  have hsl : (strsOf Ps).length = Ps.length := strsOf_len _
  rw [hsl]
  clear hPs hlt1 HRN HH HTV HBV HV
  obtain ⟨nb, hnb⟩ : ∃ nb, nb = w.heap.size := ⟨_, rfl⟩
  rw [← hnb] at HRN1 hz1 ⊢
  have HNB := Lib.hid hnb
  have hnn : nb ≠ Bb := by omega
  clear hnb
  have hw0 : W0.heap.size ≤ nb := by have := HNB.out; omega
  go_wp2
  go_loopw [20] (fun iv wr => ∃ (k : Nat) (vp vC : Value), k ≤ Ps.length ∧ iv = .int .i64 k ∧ Bld W0 Bb (mn, av, mx) wr R (M ++ ((Ps.take k).map pieceN).map obN) vR vC ∧ Row wr nb #[.int .i64 2, .string ⟨#[]⟩, vp, .slice none 0 0] 44 ∧ OwnP V.heap.size wr vp ((Ps.take k).map partP) ∧ OwnTxt V wr (.slice a1 (strsOf Ps).length cap1) Ps ∧ Bk W0.heap.size Bb w wr ∧ V.heap.size ≤ wr.heap.size) (fun i _ => Ps.length - (intOf i).toNat)
  case atStart => exact ⟨0, _, _, Nat.zero_le _, rfl, by simpa using HH1.out, HRN1.out, by simpa using parts_own_nil V.heap.size w1, HS1.out, HK1.out, hz2⟩
  case round =>
    clear HH1 HRN1 HS1 HK1
    obtain ⟨k, vp, vC, hk, rfl, hH, hRN, hP, hS, hK, hz⟩ := hrel
    by_cases hlt : k < Ps.length
    · have hbk : decide ((k : Int) < (Ps.length : Int)) = true := decide_eq_true (by omega)
      have hbk2 : (k : Int) < (Ps.length : Int) := by omega
      have hst : ((Ps.take (k + 1)).map pieceN).map obN = ((Ps.take k).map pieceN).map obN ++ [obN (pieceN (Ps[k]'hlt))] := by rw [List.take_succ_eq_append_getElem hlt, List.map_append, List.map_append]; rfl
      have hsp : (Ps.take (k + 1)).map partP = (Ps.take k).map partP ++ [partP (Ps[k]'hlt)] := by rw [List.take_succ_eq_append_getElem hlt, List.map_append]; rfl
      obtain ⟨tb, to, rfl, htb, c0⟩ : ∃ tb to, a1 = some ⟨tb, to, none⟩ ∧ tb < wr.heap.size ∧ wr.cell? ⟨tb, to + k, none⟩ = some (.string ⟨(Ps[k]'hlt).toArray⟩) := by
        obtain ⟨_, _, _, e, _, hc⟩ := hS.strs
        cases e
        obtain ⟨b', off, rfl, hbl, g⟩ := hc (by rw [strsOf_len]; omega)
        exact ⟨b', off, rfl, hbl, by have := g k (by rw [strsOf_len]; exact hlt); rwa [strsOf_get hlt] at this⟩
      have hpk := HPS.out (Ps[k]'hlt) (List.getElem_mem hlt)
      obtain ⟨pk, hpe⟩ : ∃ pk, pk = Ps[k]'hlt := ⟨_, rfl⟩
      rw [← hpe] at hst hsp c0 hpk
      obtain ⟨t, ht⟩ : ∃ t : ByteArray, t = ⟨pk.toArray⟩ := ⟨_, rfl⟩
      have hts : t.size = pk.length := by rw [ht, Lib.size_eq]
      obtain ⟨kk, hkk⟩ : ∃ kk : ByteArray, kk = ⟨(keyN (pieceN pk)).toArray⟩ := ⟨_, rfl⟩
      have hx : partP pk = ⟨kk, (t.size : Int)⟩ := by unfold partP; rw [hkk, hts]
      rw [hx] at hsp
      have HST := Lib.hid hst; have HSP := Lib.hid hsp
      have CA1 : Hid (Calls Tryz.prog 54 #[.pointer (some ⟨Bb, 1, none⟩), .agg #[.int .i64 1, .string t, .slice none 0 0, .slice none 0 0]] wr (fun e w' => e = .returned (.string kk) ∧ ∃ vB, Bld W0 Bb (mn, av, mx) w' R ((M ++ ((Ps.take k).map pieceN).map obN) ++ [obN (pieceN pk)]) vR vB ∧ Bk W0.heap.size Bb wr w')) := Lib.hid (by
        rw [hkk, ht]
        exact CA.out (pieceN pk) (.slice none 0 0) (.slice none 0 0) wr _ vC hH (parts_nil _) (entries_nil _) (by unfold pieceN; rw [Lib.size_eq]; exact hpk) (by rw [List.length_append, List.length_map, List.length_map, List.length_take]; omega))
      have HH0 := Lib.hid hH; have HRN0 := Lib.hid hRN; have HP0 := Lib.hid hP; have HS0 := Lib.hid hS; have HK0 := Lib.hid hK
      have HLEN : Hid (((Ps.take k).map partP).length ≤ 1000000) := Lib.hid (by rw [List.length_map, List.length_take]; omega)
      obtain ⟨Lp, hLp⟩ : ∃ Lp, Lp = (Ps.take k).map partP := ⟨_, rfl⟩
      rw [← hLp] at HP0 HLEN HSP
      rw [← ht] at c0
      clear hst hsp hpe hpk ht hkk hx hts hH hRN hP hS hK hLp
      go_wp2_with fail
      with_reducible refine CA1.out.mono ?_
      rintro e w2 ⟨rfl, vD, hH2, hK2⟩
      have HH2 := Lib.hid hH2
      have HRN2 := Lib.hid (hK2.row HRN0.out (by decide) hnn)
      have hob : ∀ g, vp.ownBlock = some g → V.heap.size ≤ g := fun g hg => (World.ownsRow.lt HP0.out g hg).1
      have HP2 := Lib.hid (HP0.out.bk hK2 (fun e => by have := hob _ e; omega))
      have HS2 := Lib.hid (HS0.out.bk hK2 hbb)
      have HK2 := Lib.hid (HK0.out.trans hK2)
      have hz3 := Nat.le_trans hz hK2.size
      have x2 := HRN2.out.cell 2
      simp only [List.getElem?_toArray, List.getElem?_cons_zero, List.getElem?_cons_succ] at x2
      have hnb2 := HRN2.out.lt
      clear hH2 hK2 c0 HH0 HRN0 HP0 HS0 HK0 CA1
      go_wp2_with (at_builtin; refine wpList_append_parts rfl _ _ rfl (y := ⟨kk, (t.size : Int)⟩) HP2.out hz3 rfl rfl HLEN.out ?_)
      intro v' w3 hown hg3
      have hne : vp.ownBlock ≠ some nb := fun e => by have := hob _ e; omega
      have HRN3 : Hid (Row w3 nb #[.int .i64 2, .string ⟨#[]⟩, vp, .slice none 0 0] 44) := Lib.hid ((hg3.block nb HRN2.out.lt (fun e => hne e.symm)).trans HRN2.out)
      have hprow : ∀ g, vp.ownBlock = some g → ∃ xs, Row w2 g xs 74 := fun g hg => HP2.out.row hg
      have HH3 := Lib.hid (HH2.out.turn hg3 (fun g hg => ⟨by have := hob g hg; omega, by have := hob g hg; omega, by obtain ⟨xs, h⟩ := hprow g hg; exact ⟨xs, _, h, by decide⟩⟩))
      have HS3 := Lib.hid (ownTxt_turn HS2.out hg3 (fun g hg => by obtain ⟨xs, h⟩ := hprow g hg; exact ⟨xs, _, h, by decide⟩))
      have HK3 := Lib.hid (HK2.out.later hg3 (fun g hg => by have := hob g hg; have := HNB.out; omega))
      have hz4 := Nat.le_trans hz3 hg3.size
      have HO3 := Lib.hid hown
      obtain ⟨_, ua, uc, hue, _, _⟩ := hown.is
      obtain ⟨nl, hnl⟩ : ∃ nl, nl = (Lp ++ [(⟨kk, (t.size : Int)⟩ : Pt)]).length := ⟨_, rfl⟩
      rw [← hnl] at hue
      clear hnl
      subst hue
      have y2 := HRN3.out.cell 2
      have yf := HRN3.out.free 2
      simp only [List.getElem?_toArray, List.getElem?_cons_zero, List.getElem?_cons_succ] at y2
      have hgs := fun u => grownBy_set w3 nb 2 u
      have HGS := Lib.hid hgs
      clear hown hg3 x2 hprow hgs
      go_wp2_with fail
      go_roundw
      case rel =>
        refine ⟨k + 1, _, vD, by omega, by go_num, ?_, HRN3.out.set 2 _, ?_, ownTxt_turn HS3.out (HGS.out _) (fun b hb => by cases hb; exact ⟨_, _, HRN3.out, by decide⟩), HK3.out.later (HGS.out _) (fun g hg => by cases hg; have := HNB.out; omega), by simpa [World.setCell] using hz4⟩
        · rw [HST.out, ← List.append_assoc]
          exact HH3.out.turn (HGS.out _) (fun g hg => by cases hg; exact ⟨hw0, hnn, _, _, HRN3.out, by decide⟩)
        · rw [HSP.out]; exact HO3.out.turned (HGS.out _) hz1
      case measure => simp [intOf]; omega
    · have hbk : decide ((k : Int) < (Ps.length : Int)) = false := decide_eq_false (by omega)
      have hbk2 : ¬ (k : Int) < (Ps.length : Int) := by omega
      have hke : Ps.take k = Ps := List.take_of_length_le (by omega)
      rw [hke] at hH hP
      obtain ⟨_, va, vc, hve, _, _⟩ := hP.is
      have hml : (Ps.map partP).length = Ps.length := List.length_map ..
      rw [hml] at hve
      subst hve
      have hbd : Below wr.heap.size wr wr.drew := (Below.refl _ _).drew
      have CA2 : Hid (Calls Tryz.prog 54 #[.pointer (some ⟨Bb, 1, none⟩), .agg #[.int .i64 2, .string ⟨#[]⟩, .slice va Ps.length vc, .slice none 0 0]] wr.drew (Added W0 Bb (mn, av, mx) R vR ((M ++ (Ps.map pieceN).map obN) ++ [obN (fileN c s.data.toList)]) (keyN (fileN c s.data.toList)) wr.drew)) := Lib.hid (by
        exact CA.out (fileN c s.data.toList) (.slice va Ps.length vc) (.slice none 0 0) wr.drew _ vC (hH.stays hbd) (by unfold fileN; rw [← HPE.out]; exact hP.is.stays hbd) (entries_nil _) (by unfold fileN; exact Nat.zero_le _) (by rw [List.length_append, List.length_map, List.length_map]; omega))
      have HE : Hid ((seqF c s.data.toList).map obN = (Ps.map pieceN).map obN ++ [obN (fileN c s.data.toList)]) := Lib.hid (by unfold seqF; rw [← HPE.out, List.map_append]; rfl)
      have x0 := hRN.cell 0; have x1 := hRN.cell 1; have x2 := hRN.cell 2; have x3 := hRN.cell 3
      simp only [List.getElem?_toArray, List.getElem?_cons_zero, List.getElem?_cons_succ] at x0 x1 x2 x3
      have HKd : Hid (Bk W0.heap.size Bb w wr.drew) := Lib.hid (hK.step hbd)
      clear hH hRN hP hS hK hke hml hbd
      go_wp2_with fail
      go_still_tail 4, (by kernel_rfl)
      change wpList _ _ _ _ _ wr.drew
      go_wp2_with fail
      with_reducible refine CA2.out.mono ?_
      rintro e w2 ⟨rfl, vD, hH2, hK2⟩
      have HH2 := Lib.hid hH2; have HK2 := Lib.hid (HKd.out.trans hK2)
      clear hH2 hK2
      go_wp2
      go_ret
      exact ⟨rfl, vD, by rw [HE.out, ← List.append_assoc]; exact HH2.out, HK2.out⟩
end Go.Proofs.YtlccihidedfemaaGreatDoor

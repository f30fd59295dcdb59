/-
  Contracts over this translation: stream.End; the document's Feed, End, Whole, Fit; Same.
-/
import Derived.Test.YtciajgdjddepdaaDoorStf
set_option linter.unusedVariables false
namespace Go.Proofs.YtciajgdjddepdaaDoor
open Go.RowKit Go.Shelf

theorem below_drewN {B : Nat} {a w : World} (h : Below B a w) (n : Nat) : Below B a (w.drewN n) := h.trans ⟨rfl, rfl, rfl, Nat.le_refl _, fun _ _ => rfl⟩
set_option maxRecDepth 100000 in
set_option maxHeartbeats 1000000 in
theorem Same_eq (v1 v2 : Value) (L : List ByteArray) (w : World) (h1 : IsStrs w v1 L) (h2 : IsStrs w v2 L) :
    Calls Tryd.prog 11 #[v1, v2] w fun e w' => e = .returned (.bool true) ∧ Below w.heap.size w w' := by
  obtain ⟨hm, a1, c1, rfl, _, hc1⟩ := h1
  obtain ⟨_, a2, c2, rfl, _, hc2⟩ := h2
  have hmm : L.length ≤ 9223372036854775807 := by unfold maxLen at hm; omega
  have H1 := Lib.hid hc1; have H2 := Lib.hid hc2
  clear hc1 hc2 hm
  go_enter Tryd.func11, Tryd.ntmps11
  go_wp2
  go_loopw [5] (fun i wr => ∃ k m : Nat, k ≤ L.length ∧ i = .int .i64 k ∧ wr = w.drewN m) (fun i _ => L.length - (intOf i).toNat)
  case atStart => exact ⟨0, 0, Nat.zero_le _, rfl, rfl⟩
  case round =>
    obtain ⟨k, m, hk, rfl, rfl⟩ := hrel
    by_cases hlt : k < L.length
    · obtain ⟨b1, o1, rfl, _, g1⟩ := H1.out (by omega)
      obtain ⟨b2, o2, rfl, _, g2⟩ := H2.out (by omega)
      have q1 := g1 k hlt
      have q2 := g2 k hlt
      clear g1 g2
      have hbk : decide ((k : Int) < (L.length : Int)) = true := by simpa using (show (k : Int) < L.length by omega)
      go_wp2_with fail
      go_quiet (fail)
      go_wp2
      go_roundw
      case rel => exact ⟨k + 1, m + nq, by omega, by go_num, by simp [World.drewN]⟩
      case measure => simp [intOf]; omega
    · go_wp2
      go_ret
      exact ⟨rfl, below_drewN (Below.refl _ _) _⟩

set_option maxRecDepth 100000 in
set_option maxHeartbeats 1000000 in
theorem End_any (mn av b mx : Nat) (hF : FitAt mn av mx b) (r : ByteArray) (hr : r.size ≤ 100000) (w : World) (hT : Tabs w) :
    Calls Tryd.prog 12 #[pV mn av mx, sV r] w (RetPcs (cutN mn b mx) r.data.toList w) := by
  have C := Lib.hid (fun W hW => Pieces_any mn av b mx hF r hr W hW)
  clear hF
  obtain ⟨V, hV⟩ : ∃ V, V = (w.alloc (.cells #[.int .i64 mn, .int .i64 av, .int .i64 mx] 23)).alloc (.cells #[.string r] 25) := ⟨_, rfl⟩
  have hBV : Below w.heap.size w V := by rw [hV]; exact ((Below.refl _ _).alloc (Nat.le_refl _) _).alloc (by simp) _
  have HT := Lib.hid (hT.stays hBV)
  have HV := Lib.hid hV
  clear hV hT
  go_enter Tryd.func12, Tryd.ntmps12
  go_wp2_with fail
  rw [← HV.out]
  refine (C.out _ HT.out).mono ?_
  rintro e w1 ⟨v, rfl, hv, hb⟩
  have HS := Lib.hid hv; have HB := Lib.hid (below_step hBV hb)
  clear hv hb hBV
  go_wp2
  go_ret
  exact ⟨v, rfl, HS.out, HB.out⟩

set_option maxRecDepth 100000 in
set_option maxHeartbeats 1000000 in
theorem refEnd_any (mn av b mx : Nat) (hF : FitAt mn av mx b) (r : ByteArray) (hr : r.size ≤ 100000) (w : World) :
    Calls Tryd.prog 13 #[pV mn av mx, sV r] w (RetPcs (cutN mn b mx) r.data.toList w) := by
  have C := Lib.hid (fun W => refPieces_any mn av b mx hF r hr W)
  clear hF
  obtain ⟨V, hV⟩ : ∃ V, V = (w.alloc (.cells #[.int .i64 mn, .int .i64 av, .int .i64 mx] 23)).alloc (.cells #[.string r] 25) := ⟨_, rfl⟩
  have hBV : Below w.heap.size w V := by rw [hV]; exact ((Below.refl _ _).alloc (Nat.le_refl _) _).alloc (by simp) _
  have HV := Lib.hid hV
  clear hV
  go_enter Tryd.func13, Tryd.ntmps13
  go_wp2_with fail
  rw [← HV.out]
  refine (C.out _).mono ?_
  rintro e w1 ⟨v, rfl, hv, hb⟩
  have HS := Lib.hid hv; have HB := Lib.hid (below_step hBV hb)
  clear hv hb hBV
  go_wp2
  go_ret
  exact ⟨v, rfl, HS.out, HB.out⟩

set_option maxRecDepth 100000 in
set_option maxHeartbeats 1000000 in
theorem Whole_any (mn av b mx : Nat) (hF : FitAt mn av mx b) (r : ByteArray) (hr : r.size ≤ 100000) (w : World) :
    Calls Tryd.prog 14 #[pV mn av mx, .string r] w (RetPcs (cutN mn b mx) r.data.toList w) := by
  have C := Lib.hid (fun W => refPieces_any mn av b mx hF r hr W)
  clear hF
  obtain ⟨V, hV⟩ : ∃ V, V = w.alloc (.cells #[.int .i64 mn, .int .i64 av, .int .i64 mx] 23) := ⟨_, rfl⟩
  have hBV : Below w.heap.size w V := by rw [hV]; exact (Below.refl _ _).alloc (Nat.le_refl _) _
  have HV := Lib.hid hV
  clear hV
  go_enter Tryd.func14, Tryd.ntmps14
  go_wp2_with fail
  rw [← HV.out]
  refine (C.out _).mono ?_
  rintro e w1 ⟨v, rfl, hv, hb⟩
  have HS := Lib.hid hv; have HB := Lib.hid (below_step hBV hb)
  clear hv hb hBV
  go_wp2
  go_ret
  exact ⟨v, rfl, HS.out, HB.out⟩

set_option maxRecDepth 100000 in
set_option maxHeartbeats 1000000 in
theorem sFit_any (mn av mx : Int) (w : World) : Calls Tryd.prog 7 #[pV mn av mx] w fun e w' => e = .returned (.bool (fitB mn av mx)) ∧ Below w.heap.size w w' := by
  have C := Lib.hid (fun W => refFit_any mn av mx W)
  obtain ⟨f, hf⟩ : ∃ f, f = fitB mn av mx := ⟨_, rfl⟩
  rw [← hf] at C ⊢
  clear hf
  obtain ⟨V, hV⟩ : ∃ V, V = w.alloc (.cells #[.int .i64 mn, .int .i64 av, .int .i64 mx] 23) := ⟨_, rfl⟩
  have hBV : Below w.heap.size w V := by rw [hV]; exact (Below.refl _ _).alloc (Nat.le_refl _) _
  have HV := Lib.hid hV
  clear hV
  go_enter Tryd.func7, Tryd.ntmps7
  go_wp2_with fail
  rw [← HV.out]
  refine (C.out _).mono ?_
  rintro e w1 ⟨rfl, hb⟩
  have HB := Lib.hid (below_step hBV hb)
  clear hb hBV
  go_wp2
  go_ret
  exact ⟨rfl, HB.out⟩

set_option maxRecDepth 100000 in
set_option maxHeartbeats 4000000 in
theorem refFeed_any (mn av b mx : Nat) (hF : FitAt mn av mx b) (r s : ByteArray) (q : ByteArray) (hq : q = r ++ s) (hs : r.size + s.size ≤ 1000000) (w : World) :
    Calls Tryd.prog 10 #[pV mn av mx, sV r, .string s] w (RetFeed (cutN mn b mx) mx q.data.toList w) := by
  have hqs : q.size ≤ 1000000 := by rw [hq, ByteArray.size_append]; exact hs
  have HQ := Lib.hid hq
  have OK := Lib.hid (cutN_sure (mn := mn) (b := b) (mx := mx) (by have := hF.h1; omega) (by have := hF.h2; have := hF.h3; omega))
  have C := Lib.hid (fun (x : ByteArray) (hx : x.size ≤ maxLen) W => refCut_any mn av b mx hF x hx W)
  have hsum : ¬ 9223372036854775807 < r.size + s.size := by omega
  clear hq hF
  obtain ⟨V, hV⟩ : ∃ V, V = ((w.alloc (.cells #[.int .i64 mn, .int .i64 av, .int .i64 mx] 23)).alloc (.cells #[.string r] 25)).alloc (.cells #[.string ⟨#[]⟩] 25) := ⟨_, rfl⟩
  obtain ⟨hR0, _, hR2, hBV, _⟩ := alloc3 w #[.int .i64 mn, .int .i64 av, .int .i64 mx] #[.string r] #[.string ⟨#[]⟩] 23 25 25
  rw [← hV] at hR0 hR2 hBV
  have HV := Lib.hid hV; have HR0 := Lib.hid hR0; have HR2 := Lib.hid hR2
  have HOW := Lib.hid (ownTxt_nil V)
  clear hV hR0 hR2
  go_enter Tryd.func10, Tryd.ntmps10
  go_wp2_with fail
  rw [← HV.out, ← HQ.out]
  go_loopw [8, 9] (fun v qv wr => ∃ (M : List ByteArray) (x : ByteArray), qv = .string x ∧ Came (cutN mn b mx) mx q.data.toList M x ∧ OwnTxt V wr v (txts M) ∧ Below V.heap.size V wr) (fun _ qv _ => lenOf qv)
  case atStart => exact ⟨[], q, rfl, Came.start _ _ _, HOW.out, Below.refl _ _⟩
  case round =>
    obtain ⟨M, x, rfl, hC, hown, hB⟩ := hrel
    have hsm := hC.small
    rw [← Lib.size_eq] at hsm
    have hml := hC.len OK.out
    rw [← Lib.size_eq] at hml
    have hol : (txts M).length ≤ 1000000 := by rw [txts_len]; omega
    have HC := Lib.hid hC; have HO := Lib.hid hown
    have hR0 := HR0.out.step hB
    have hR2 := HR2.out.step hB
    have g0 := hR0.cell 0; have g1 := hR0.cell 1; have g2 := hR0.cell 2; have r2 := hR2.cell 0; have f2 := hR2.free 0
    simp only [List.getElem?_toArray, List.getElem?_cons_zero, List.getElem?_cons_succ] at g0 g1 g2 r2
    have H2 := Lib.hid hR2
    clear hR0 hR2 hC hown hml
    by_cases hlt : mx ≤ x.size
    · have e1 : decide (mx ≤ x.size) = true := decide_eq_true hlt
      have e2 : decide ((mx : Int) ≤ (x.size : Int)) = true := by simpa using hlt
      have hstep := HC.out.step OK.out hlt
      have hn1 := OK.out.pos x.data.toList (long_ne OK.out (by rw [← Lib.size_eq]; exact hlt))
      have hn2 := OK.out.le x.data.toList
      have hmx := OK.out.one
      rw [← Lib.size_eq] at hn2
      have hC := C.out x (by unfold maxLen; omega)
      obtain ⟨n, hn⟩ : ∃ n, n = cutN mn b mx x.data.toList := ⟨_, rfl⟩
      rw [← hn] at hstep hn1 hn2 hC
      have hd1 := fun W => run_slice_to (P := Tryd.prog) Tryd.underlying9 x n hn2 W
      have hd2 := fun W => run_slice_from (P := Tryd.prog) Tryd.underlying9 x n hn2 W
      have hys : (x.extract n x.size).size = x.size - n := by rw [ByteArray.size_extract]; omega
      obtain ⟨t, ht⟩ : ∃ t, t = x.extract 0 n := ⟨_, rfl⟩
      obtain ⟨y, hy⟩ : ∃ y, y = x.extract n x.size := ⟨_, rfl⟩
      rw [← ht] at hd1 hstep
      rw [← hy] at hd2 hstep hys
      have HCC := Lib.hid hC; have HS := Lib.hid hstep; have HYS := Lib.hid hys
      clear hC hstep hys ht hy hn r2 f2
      go_wp2_with fail
      refine (HCC.out _).mono ?_
      rintro e w1 ⟨rfl, hb1⟩
      have hB1 := below_step hB hb1
      have HO1 := Lib.hid (HO.out.stays hb1)
      clear HO hB hb1 g0 g1 g2
      go_wp2_with (at_builtin; refine wpList_append_txt rfl _ _ rfl HO1.out hB1 rfl rfl hol ?_)
      intro v' w2 hown' hb2
      have HO2 : Hid (OwnTxt V w2 v' (txts (M ++ [t]))) := by
        have : OwnTxt V w2 v' (txts M ++ [t.data.toList]) := hown'
        show OwnTxt V w2 v' _
        simpa [txts] using this
      clear hown'
      go_wp2_with fail
      go_roundw
      case rel => exact ⟨_, y, rfl, HS.out, HO2.out, hb2⟩
      case measure => simp only [lenOf]; rw [HYS.out]; omega
    · have e1 : decide (mx ≤ x.size) = false := decide_eq_false hlt
      have e2 : decide ((mx : Int) ≤ (x.size : Int)) = false := by simp; omega
      obtain ⟨h1, h2⟩ := HC.out.fin OK.out (by omega)
      have hBw := hBV.trans (hB.mono hBV.size)
      have hlt2 := HR2.out.lt
      have ho2 : OwnTxt V (wr.setCell ⟨w.heap.size + 1 + 1, 0, none⟩ (.string x)) u8 (txts M) := World.ownsRow.kept HO.out (grownBy_setCell' _ _ _) (.inr fun e => by have := (World.ownsRow.lt HO.out _ e).1; omega)
      have hst2 : OwnS _ _ _ := OwnS.of ho2
      rw [h1] at hst2
      have HST := Lib.hid hst2
      have HBW := Lib.hid (hBw.setCell (p := ⟨w.heap.size + 1 + 1, 0, none⟩) (by show w.heap.size ≤ w.heap.size + 1 + 1; omega) (.string x))
      have HX := Lib.hid h2
      clear h1 h2 ho2 hlt2 hBw hst2
      go_wp2
      have cx := (H2.out.set 0 (.string x)).cell 0
      simp only [List.getElem?_toArray, List.setIfInBounds_toArray, List.set_cons_zero, List.getElem?_cons_zero] at cx
      refine bodyPost_ret (v := .tuple #[sV x, u8]) (by simp [results, Tryd.f10, go_sem, cx]) rfl ?_
      exact ⟨u8, by rw [HX.out], HST.out, HBW.out⟩
end Go.Proofs.YtciajgdjddepdaaDoor

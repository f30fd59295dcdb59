/-
  Contracts over this translation: cdc's Pieces, and the document's.
-/
import Derived.Test.YtciajgdjddepdaaDoorCdr
import Derived.Test.YtciajgdjddepdaaDoorSls
import Derived.Lib.IndexBytes
set_option linter.unusedVariables false
namespace Go.Proofs.YtciajgdjddepdaaDoor
open Go.RowKit Go.Shelf

def lenOf : Value → Nat
  | .string x => x.size
  | _ => 0
theorem str_nonempty (x : ByteArray) : (x.toList.isEmpty = false) = (0 < x.size) := by
  rw [eq_iff_iff]
  have : x.toList = x.data.toList := ByteArray.toList_eq x
  rw [this, Lib.size_eq]
  cases x.data.toList <;> simp
/-- What pieces come to. -/
def RetPcs (c : List UInt8 → Nat) (l : List UInt8) (w : World) (e : Ending) (w' : World) : Prop := ∃ v, e = .returned v ∧ IsStrs w' v (strsOf (pcs c l)) ∧ Below w.heap.size w w'
/-- On the way: the pieces so far, and what is left. -/
def OnWay (c : List UInt8 → Nat) (l : List UInt8) (M : List (List UInt8)) (x : ByteArray) : Prop := M ++ pcs c x.data.toList = pcs c l

theorem onWay_step {mn mx : Nat} {c : List UInt8 → Nat} (H : CutOk mn mx c) {l : List UInt8} {M : List (List UInt8)} {x : ByteArray} (h : OnWay c l M x) (hx : 0 < x.size) :
    OnWay c l (M ++ [(x.extract 0 (c x.data.toList)).data.toList]) (x.extract (c x.data.toList) x.size) := by
  have hne : x.data.toList ≠ [] := fun e => by rw [Lib.size_eq, e] at hx; exact absurd hx (by simp)
  unfold OnWay at h ⊢
  rw [← h, pcs_cons H.pos hne, Lib.extract_to_end, ext_take, List.append_assoc]; rfl
theorem onWay_len {mn mx : Nat} {c : List UInt8 → Nat} (H : CutOk mn mx c) {l : List UInt8} {M : List (List UInt8)} {x : ByteArray} (h : OnWay c l M x) : M.length ≤ l.length := by
  have h1 := pcs_len H.pos l.length l (Nat.le_refl _)
  have h2 := congrArg List.length h
  rw [List.length_append] at h2
  omega
theorem onWay_end {c : List UInt8 → Nat} {l : List UInt8} {M : List (List UInt8)} {x : ByteArray} (h : OnWay c l M x) (hx : x.size = 0) : M = pcs c l := by
  have e : x.data.toList = [] := List.length_eq_zero_iff.1 (by rw [← Lib.size_eq]; exact hx)
  unfold OnWay at h
  rw [e, pcs_nil, List.append_nil] at h
  exact h

set_option maxRecDepth 100000 in
set_option maxHeartbeats 4000000 in
theorem refPieces_any (mn av b mx : Nat) (hF : FitAt mn av mx b) (s : ByteArray) (hs : s.size ≤ 100000) (w : World) :
    Calls Tryd.prog 20 #[pV mn av mx, .string s] w (RetPcs (cutN mn b mx) s.data.toList w) := by
  have OK := Lib.hid (cutN_ok (mn := mn) (b := b) (mx := mx) (by have := hF.h1; omega) (by have := hF.h2; have := hF.h3; omega))
  have C := Lib.hid (fun (x : ByteArray) (hx : x.size ≤ maxLen) W => refCut_any mn av b mx hF x hx W)
  clear hF
  have hown0 : OwnTxt (w.alloc (.cells #[.int .i64 mn, .int .i64 av, .int .i64 mx] 23)) (w.alloc (.cells #[.int .i64 mn, .int .i64 av, .int .i64 mx] 23)) (.slice none 0 0) [] := ownTxt_nil _
  obtain ⟨V, hV⟩ : ∃ V, V = w.alloc (.cells #[.int .i64 mn, .int .i64 av, .int .i64 mx] 23) := ⟨_, rfl⟩
  have hRV : Row V w.heap.size #[.int .i64 mn, .int .i64 av, .int .i64 mx] 23 := by rw [hV]; exact Row.made _ _ _
  have hBV : Below w.heap.size w V := by rw [hV]; exact (Below.refl _ _).alloc (Nat.le_refl _) _
  rw [← hV] at hown0
  have HV := Lib.hid hV; have HRV := Lib.hid hRV
  clear hV hRV
  go_enter Tryd.func20, Tryd.ntmps20
  go_wp2_with fail
  rw [← HV.out]
  go_loopw [1, 5] (fun q v wr => ∃ (M : List (List UInt8)) (x : ByteArray), q = .string x ∧ x.size ≤ s.size ∧ OnWay (cutN mn b mx) s.data.toList M x ∧ OwnTxt V wr v M ∧ Below V.heap.size V wr) (fun q _ _ => lenOf q)
  case atStart => exact ⟨[], s, rfl, Nat.le_refl _, rfl, hown0, Below.refl _ _⟩
  case round =>
    obtain ⟨M, x, rfl, hxs, hway, hown, hB⟩ := hrel
    have HW := Lib.hid hway; have HO := Lib.hid hown
    have hml := onWay_len OK.out hway
    rw [← Lib.size_eq] at hml
    have hol : M.length ≤ 1000000 := by omega
    clear hway hown hown0 hml
    have hR := HRV.out.step hB
    have g0 := hR.cell 0; have g1 := hR.cell 1; have g2 := hR.cell 2
    simp only [List.getElem?_toArray, List.getElem?_cons_zero, List.getElem?_cons_succ] at g0 g1 g2
    clear hR
    by_cases hx : 0 < x.size
    · have hem : x.toList.isEmpty = false := by rw [str_nonempty]; exact hx
      have hstep := onWay_step OK.out HW.out hx
      have hn1 := OK.out.pos x.data.toList (fun e => by rw [Lib.size_eq, e] at hx; exact absurd hx (by simp))
      have hn2 := OK.out.le x.data.toList
      rw [← Lib.size_eq] at hn2
      have hC := C.out x (by unfold maxLen; omega)
      obtain ⟨n, hn⟩ : ∃ n, n = cutN mn b mx x.data.toList := ⟨_, rfl⟩
      rw [← hn] at hstep hn1 hn2 hC
      have hd1 := fun W => run_slice_to (P := Tryd.prog) Tryd.underlying9 x n hn2 W
      have hd2 := fun W => run_slice_from (P := Tryd.prog) Tryd.underlying9 x n hn2 W
      have hys : (x.extract n x.size).size = x.size - n := by rw [ByteArray.size_extract]; omega
      obtain ⟨t, ht⟩ : ∃ t, t = x.extract 0 n := ⟨_, rfl⟩
      obtain ⟨y, hy⟩ : ∃ y, y = x.extract n x.size := ⟨_, rfl⟩
      rw [← ht] at hd1 hstep
      rw [← hy] at hd2 hstep hys
      have HC := Lib.hid hC; have HS := Lib.hid hstep; have HYS := Lib.hid hys
      clear hC hstep hys ht hy hn
      go_wp2_with fail
      refine (HC.out _).mono ?_
      rintro e w1 ⟨rfl, hb1⟩
      have hB1 := below_step hB hb1
      have HO1 := Lib.hid (HO.out.stays hb1)
      clear HO hB hb1 g0 g1 g2
      go_wp2_with (at_builtin; refine wpList_append_txt rfl _ _ rfl HO1.out hB1 rfl rfl hol ?_)
      intro v' w2 hown' hb2
      have HO2 := Lib.hid hown'
      clear hown'
      go_wp2_with fail
      go_roundw
      case rel => exact ⟨_, y, rfl, by rw [HYS.out]; omega, HS.out, HO2.out, hb2⟩
      case measure => simp only [lenOf]; rw [HYS.out]; omega
    · have hem : x.toList.isEmpty = true := by
        rcases h : x.toList.isEmpty with _ | _
        · rw [str_nonempty] at h; exact absurd h hx
        · rfl
      have hfin := onWay_end HW.out (by omega)
      have hstr := HO.out.strs
      rw [hfin] at hstr
      have hBw := hBV.trans (hB.mono hBV.size)
      have HST := Lib.hid hstr; have HBW := Lib.hid hBw
      clear hfin hstr HO hBw
      go_wp2
      go_ret
      exact ⟨_, rfl, HST.out, HBW.out⟩

set_option maxRecDepth 100000 in
set_option maxHeartbeats 4000000 in
theorem Pieces_any (mn av b mx : Nat) (hF : FitAt mn av mx b) (s : ByteArray) (hs : s.size ≤ 100000) (w : World) (hT : Tabs w) :
    Calls Tryd.prog 19 #[pV mn av mx, .string s] w (RetPcs (cutN mn b mx) s.data.toList w) := by
  have OK := Lib.hid (cutN_ok (mn := mn) (b := b) (mx := mx) (by have := hF.h1; omega) (by have := hF.h2; have := hF.h3; omega))
  have C := Lib.hid (fun (x : ByteArray) (hx : x.size ≤ maxLen) W => Cut_any mn av b mx hF x hx W)
  have fitV := Lib.hid (fitB_of hF)
  have fitT := Lib.hid (Fit_any mn av mx)
  clear hF
  obtain ⟨V0, hV⟩ : ∃ V0, V0 = w.alloc (.cells #[.int .i64 mn, .int .i64 av, .int .i64 mx] 23) := ⟨_, rfl⟩
  have hRV : Row V0 w.heap.size #[.int .i64 mn, .int .i64 av, .int .i64 mx] 23 := by rw [hV]; exact Row.made _ _ _
  have hBV0 : Below w.heap.size w V0 := by rw [hV]; exact (Below.refl _ _).alloc (Nat.le_refl _) _
  have hTV0 : Tabs V0 := hT.stays hBV0
  have HV := Lib.hid hV; have HRV0 := Lib.hid hRV; have HTV0 := Lib.hid hTV0
  clear hV hRV hTV0
  go_enter Tryd.func19, Tryd.ntmps19
  go_wp2_with fail
  refine (fitT.out _).mono ?_
  rw [← HV.out]
  rintro e V ⟨rfl, hb0⟩
  rw [fitV.out]
  have HRV := Lib.hid (HRV0.out.step hb0)
  have HTV := Lib.hid (HTV0.out.stays hb0)
  have hBV : Below w.heap.size w V := hBV0.trans (hb0.mono hBV0.size)
  have HOW := Lib.hid (ownTxt_nil V)
  clear hb0 hBV0 HRV0 HTV0 HV
  go_wp2_with fail
  go_loopw [5, 6] (fun v q wr => ∃ (M : List (List UInt8)) (x : ByteArray), q = .string x ∧ x.size ≤ s.size ∧ OnWay (cutN mn b mx) s.data.toList M x ∧ OwnTxt V wr v M ∧ Below V.heap.size V wr) (fun _ q _ => lenOf q)
  case atStart => exact ⟨[], s, rfl, Nat.le_refl _, rfl, HOW.out, Below.refl _ _⟩
  case round =>
    obtain ⟨M, x, rfl, hxs, hway, hown, hB⟩ := hrel
    have HW := Lib.hid hway; have HO := Lib.hid hown
    have hml := onWay_len OK.out hway
    rw [← Lib.size_eq] at hml
    have hol : M.length ≤ 1000000 := by omega
    clear hway hown hml
    have hR := HRV.out.step hB
    have HT1 := Lib.hid (HTV.out.stays hB)
    have g0 := hR.cell 0; have g1 := hR.cell 1; have g2 := hR.cell 2
    simp only [List.getElem?_toArray, List.getElem?_cons_zero, List.getElem?_cons_succ] at g0 g1 g2
    clear hR
    by_cases hx : 0 < x.size
    · have hem : x.toList.isEmpty = false := by rw [str_nonempty]; exact hx
      have hstep := onWay_step OK.out HW.out hx
      have hn1 := OK.out.pos x.data.toList (fun e => by rw [Lib.size_eq, e] at hx; exact absurd hx (by simp))
      have hn2 := OK.out.le x.data.toList
      rw [← Lib.size_eq] at hn2
      have hC := C.out x (by unfold maxLen; omega)
      obtain ⟨n, hn⟩ : ∃ n, n = cutN mn b mx x.data.toList := ⟨_, rfl⟩
      rw [← hn] at hstep hn1 hn2 hC
      have hd1 := fun W => run_slice_to (P := Tryd.prog) Tryd.underlying9 x n hn2 W
      have hd2 := fun W => run_slice_from (P := Tryd.prog) Tryd.underlying9 x n hn2 W
      have hys : (x.extract n x.size).size = x.size - n := by rw [ByteArray.size_extract]; omega
      have hts : (x.extract 0 n).size ≤ 281474976710656 := by rw [ByteArray.size_extract]; omega
      obtain ⟨t, ht⟩ : ∃ t, t = x.extract 0 n := ⟨_, rfl⟩
      obtain ⟨y, hy⟩ : ∃ y, y = x.extract n x.size := ⟨_, rfl⟩
      rw [← ht] at hd1 hstep hts
      rw [← hy] at hd2 hstep hys
      have HC := Lib.hid hC; have HS := Lib.hid hstep; have HYS := Lib.hid hys
      have CL := Lib.hid (Clone_any t hts)
      clear hC hstep hys ht hy hn hts
      go_wp2_with fail
      refine (HC.out _ HT1.out).mono ?_
      rintro e w1 ⟨rfl, hb1⟩
      have hB1 := below_step hB hb1
      have HO1 := Lib.hid (HO.out.stays hb1)
      clear HO hB hb1 g0 g1 g2 HT1
      go_wp2_with fail
      refine (CL.out _).mono ?_
      rintro e w2 ⟨rfl, hb2⟩
      have hB2 := below_step hB1 hb2
      have HO2 := Lib.hid (HO1.out.stays hb2)
      clear HO1 hB1 hb2
      go_wp2_with (at_builtin; refine wpList_append_txt rfl _ _ rfl HO2.out hB2 rfl rfl hol ?_)
      intro v' w3 hown' hb3
      have HO3 := Lib.hid hown'
      clear hown'
      go_wp2_with fail
      go_roundw
      case rel => exact ⟨_, y, rfl, by rw [HYS.out]; omega, HS.out, HO3.out, hb3⟩
      case measure => simp only [lenOf]; rw [HYS.out]; omega
    · have hem : x.toList.isEmpty = true := by
        rcases h : x.toList.isEmpty with _ | _
        · rw [str_nonempty] at h; exact absurd h hx
        · rfl
      have hfin := onWay_end HW.out (by omega)
      have hstr := HO.out.strs
      rw [hfin] at hstr
      have hBw := hBV.trans (hB.mono hBV.size)
      have HST := Lib.hid hstr; have HBW := Lib.hid hBw
      clear hfin hstr HO hBw
      go_wp2
      go_ret
      exact ⟨_, rfl, HST.out, HBW.out⟩
end Go.Proofs.YtciajgdjddepdaaDoor

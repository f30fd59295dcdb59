/-
  WalTrims as a walk over this translation, over what the log's calls are to answer. Written by wip/tools/gen_wal_laws.py.
-/
import Derived.Test.YtalknbadakfppaaGreatQa3
set_option linter.unusedVariables false
namespace Go.Proofs.YtalknbadakfppaaGreat
open Go.RowKit
attribute [local go_sem] Oper.semAt_some
set_option maxRecDepth 100000 in
set_option maxHeartbeats 32000000 in
theorem walTrims_w (av bv : Value) (A B : List ByteArray) (s : ByteArray) (w0 : World) (ha : IsStrs w0 av A) (hb : IsStrs w0 bv B) (HAP : WalAppend16 w0) (HTR : WalTrim16 w0) (HLD : WalLoad16 w0) :
    Calls Tryz.prog 4 #[av, .string s, bv] w0 fun e w' => e = .returned (.bool true) ∧ Below w0.heap.size w0 w' := by
  have CA := Lib.hid (awake16_any w0 HAP HLD)
  have HAP := Lib.hid HAP; have HTR := Lib.hid HTR; have HLD := Lib.hid HLD
  have Ha := Lib.hid ha
  obtain ⟨_, aa, ac, hu, _, _⟩ := id ha
  obtain ⟨az, hz⟩ : ∃ z, z = A.length := ⟨_, rfl⟩
  rw [← hz] at hu
  subst hu
  have HaZ := Lib.hid hz
  clear ha hz
  have Hb := Lib.hid hb
  obtain ⟨_, ba, bc, hu, _, _⟩ := id hb
  obtain ⟨bz, hz⟩ : ∃ z, z = B.length := ⟨_, rfl⟩
  rw [← hz] at hu
  subst hu
  have HbZ := Lib.hid hz
  clear hb hz
  have HB := Lib.hid (Below.refl w0.heap.size w0)
  go_enter Tryz.func4, Tryz.ntmps4
  go_wp2_with fail
  have C := light16_any (.slice aa az ac) A w0 (Ha.out.stays HB.out)
  refine C.mono ?_
  clear C
  rintro e w2 ⟨rfl, hb⟩
  replace HB := Lib.hid (below_step HB.out hb)
  clear hb
  cases hli : lightB A with
  | false =>
    clear hli
    go_wp2_with fail
    refine (CA.out _ HB.out).mono ?_
    rintro e w9 ⟨rfl, hb⟩
    replace HB := Lib.hid (below_step HB.out hb)
    clear hb
    go_wp2_with fail
    go_ret
    exact ⟨rfl, HB.out⟩
  | true =>
    have HLa := Lib.hid (lightB_iff.1 hli)
    clear hli
    go_wp2_with fail
    have C := light16_any (.slice ba bz bc) B w2 (Hb.out.stays HB.out)
    refine C.mono ?_
    clear C
    rintro e w3 ⟨rfl, hb⟩
    replace HB := Lib.hid (below_step HB.out hb)
    clear hb
    cases hli : lightB B with
    | false =>
      clear hli
      go_wp2_with fail
      refine (CA.out _ HB.out).mono ?_
      rintro e w9 ⟨rfl, hb⟩
      replace HB := Lib.hid (below_step HB.out hb)
      clear hb
      go_wp2_with fail
      go_ret
      exact ⟨rfl, HB.out⟩
    | true =>
      have HLb := Lib.hid (lightB_iff.1 hli)
      clear hli
      by_cases hcc : 300 < s.size
      · have d1 : decide ((300 : Int) < (s.size : Int)) = true := decide_eq_true (by omega)
        clear hcc
        go_wp2_with fail
        refine (CA.out _ HB.out).mono ?_
        rintro e w9 ⟨rfl, hb⟩
        replace HB := Lib.hid (below_step HB.out hb)
        clear hb
        go_wp2_with fail
        go_ret
        exact ⟨rfl, HB.out⟩
      · have d1 : decide ((300 : Int) < (s.size : Int)) = false := decide_eq_false (by omega)
        have HCd1 : Hid (s.size ≤ 300) := Lib.hid (by omega)
        clear hcc
        have hm := append_W0 HLa.out.light (by decide)
        obtain ⟨na, hna⟩ : ∃ b, b = !(txts A).isEmpty := ⟨_, rfl⟩
        rw [← hna] at hm
        have hna0 : na = false → txts A = [] := fun h => isEmpty_no (by rw [← hna]; exact h)
        have HF0 : Hid (FitD nameB ⟨logF (wraps (txts A)) [] na, false, -1⟩) := Lib.hid (by have h9 := appendD_fit fitW0 (txts A); rwa [hm] at h9)
        have HRD : Hid (readD ⟨logF (wraps (txts A)) [] na, false, -1⟩ nLOG.data.toList = (wraps (txts A), na)) := Lib.hid (logB_logF hna0 (-1) false)
        have HS0 : Hid (TornS (logF (wraps (txts A)) [] na) (txts A) na) := Lib.hid (torn_not hna0 HLa.out.light HF0.out)
        obtain ⟨S, hS⟩ : ∃ S, S = strT (wraps (txts A)) := ⟨_, rfl⟩
        have HSS : Hid (S.size = (wraps (txts A)).length) := Lib.hid (by rw [hS, strT_size])
        have HSM : Hid (S.size ≤ 6280) := Lib.hid (by rw [hS, strT_size]; exact HLa.out.light.2)
        have HWT : Hid (s.size ≠ 0 → s.size ≤ 300 → writeD nameB ⟨logF (wraps (txts A)) [] na, false, -1⟩ nLOG ((S.size : Nat) : Int) s = (⟨oneL (wraps (txts A)) [⟨((wraps (txts A)).length : Nat), s⟩], false, -1⟩, 0)) := Lib.hid (fun h1 h2 => by
          rw [HSS.out]; exact write_torn hna0 h1 (by have := HLa.out.light.2; omega))
        obtain ⟨fs0, hfs0⟩ : ∃ f, f = logF (wraps (txts A)) [] na := ⟨_, rfl⟩
        have HFS0 : Hid (fs0 = logF (wraps (txts A)) [] (!(txts A).isEmpty)) := Lib.hid (by rw [hfs0, hna])
        rw [← hfs0] at HF0 HRD HS0 HWT
        have HSE := Lib.hid hS
        clear hm hna hna0 hS hfs0
        go_wp2_with fail
        refine (solid16_any (.slice aa az ac) A w3 (Ha.out.stays HB.out) HLa.out HFS0.out).mono ?_
        rintro e w4 ⟨a0, z0, c0, rfl, h1, hb⟩
        have HI0 := Lib.hid h1
        clear h1
        replace HB := Lib.hid (below_step HB.out hb)
        clear hb
        have HLE : Hid (w0.heap.size ≤ w4.heap.size) := Lib.hid HB.out.size
        go_wp2_with fail
        obtain ⟨X4, hX⟩ : ∃ X, X = w4.alloc (.cells #[.slice a0 z0 c0, .bool false, .int .i64 (-1)] 28) := ⟨_, rfl⟩
        have hb : Below w4.heap.size w4 X4 := by rw [hX]; exact (Below.refl _ _).alloc (Nat.le_refl _) _
        have HD : Hid (Row X4 w4.heap.size #[.slice a0 z0 c0, .bool false, .int .i64 (-1)] 28) := by rw [hX]; exact Lib.hid (Row.made _ _ _)
        rw [← hX]
        replace HB := Lib.hid (below_step HB.out hb)
        replace HI0 := Lib.hid (HI0.out.stays hb)
        clear hb hX
        have C := rReadD_any ⟨fs0, false, -1⟩ (.slice a0 z0 c0) nLOG X4 HI0.out (fun f hm => ⟨(HF0.out.files f hm).bytes, (HF0.out.files f hm).ops⟩)
        rw [HRD.out] at C
        unfold dskV nLOG at C
        dsimp only at C
        rw [← HSE.out] at C
        refine C.mono ?_
        clear C
        rintro e w5 ⟨rfl, hb⟩
        replace HB := Lib.hid (below_step HB.out hb)
        replace HI0 := Lib.hid (HI0.out.stays hb)
        replace HD := Lib.hid (HD.out.step hb)
        clear hb
        by_cases hse : s.size = 0
        · have he0 := isE_yes hse
          have HST := HS0
          clear hse HWT HS0
          have HDl := HD.out.lt
          obtain ⟨⟨HD0, HD1, HD2⟩, HDz⟩ := HD.out.three16
          go_wp2_with fail
          clear HD0 HD1 HD2 HDz HDl
          have hap := append_un (L := txts B) HST.out.none HST.out.light HLb.out.light (by decide) (by decide)
          obtain ⟨b3, hb3⟩ : ∃ b, b = (na || !(txts B).isEmpty) := ⟨_, rfl⟩
          rw [← hb3] at hap
          have hb30 : b3 = false → (txts A) ++ txts B = [] := fun h => by
            rw [h] at hb3
            have h1 := Bool.or_eq_false_iff.1 hb3.symm
            rw [HST.out.none h1.1, isEmpty_no h1.2]; rfl
          have HLG := Lib.hid (load_logF hb30 (HST.out.light.app HLb.out.light) false (-1))
          have HLW := Lib.hid (load_logF HST.out.none HST.out.light false (-1))
          have HTW := Lib.hid (trim_un HST.out.none HST.out.light)
          have HFW : Hid (FitD nameB ⟨logF (wraps (txts A)) [] na, false, -1⟩) := Lib.hid (by have h9 := trimD_fit HST.out.fit; rwa [HST.out.trim] at h9)
          have HFG : Hid (FitD nameB ⟨logF (wraps ((txts A) ++ txts B)) [] b3, false, -1⟩) := Lib.hid (by have h9 := appendD_fit HFW.out (txts B); rwa [hap] at h9)
          have HTT := Lib.hid HST.out.trim
          have HRC := Lib.hid HST.out.recs; have HFT := Lib.hid HST.out.fit
          have HWL : Hid ((txts A).length + B.length ≤ 7000) := Lib.hid (by have h1 := wraps_ge HST.out.light.1; have h2 := HST.out.light.2; have := HLb.out.2; omega)
          obtain ⟨fsW, hfsW⟩ : ∃ f, f = logF (wraps (txts A)) [] na := ⟨_, rfl⟩
          obtain ⟨fsG, hfsG⟩ : ∃ f, f = logF (wraps ((txts A) ++ txts B)) [] b3 := ⟨_, rfl⟩
          rw [← hfsW] at HLW HTW HFW HTT hap
          rw [← hfsG] at HLG HFG hap
          have HAPP := Lib.hid hap
          clear hap hb3 hb30 hfsW hfsG HST
          have C := HLD.out w5 HB.out ⟨fs0, false, -1⟩ (.slice a0 z0 c0) HI0.out HFT.out
          unfold dskV RetL16 at C
          try dsimp only at C
          rw [HRC.out] at C
          refine C.mono ?_
          clear C
          rintro e w6 ⟨b10, y10, d10, rfl, h1, hb⟩
          have HS10 := Lib.hid h1
          clear h1
          replace HB := Lib.hid (below_step HB.out hb)
          replace HI0 := Lib.hid (HI0.out.stays hb)
          replace HD := Lib.hid (HD.out.step hb)
          clear hb
          have HDl := HD.out.lt
          obtain ⟨⟨HD0, HD1, HD2⟩, HDz⟩ := HD.out.three16
          go_wp2_with fail
          clear HD0 HD1 HD2 HDz HDl
          have C := HTR.out w6 HB.out ⟨fs0, false, -1⟩ (.slice a0 z0 c0) HI0.out HFT.out
          rw [HTT.out] at C
          unfold dskV at C
          try dsimp only [dW0, nLOG] at C
          refine C.mono ?_
          clear C
          rintro e w7 hr
          obtain ⟨a2, z2, c2, rfl, h1, hb⟩ := hr.open_Wlc
          have HI2 := Lib.hid h1
          clear hr h1
          replace HB := Lib.hid (below_step HB.out hb)
          replace HI0 := Lib.hid (HI0.out.stays hb)
          replace HD := Lib.hid (HD.out.step hb)
          replace HS10 := Lib.hid (HS10.out.stays hb)
          clear hb
          try dsimp only at HI2 ⊢
          clear HI0
          have HDl := HD.out.lt
          obtain ⟨⟨HD0, HD1, HD2⟩, HDz⟩ := HD.out.three16
          go_wp2_with fail
          clear HD0 HD1 HD2 HDz HDl
          obtain ⟨X8, hX⟩ : ∃ X, X = ((w7.setCell ⟨w4.heap.size, 0, none⟩ (.slice a2 z2 c2)).setCell ⟨w4.heap.size, 1, none⟩ (.bool false)).setCell ⟨w4.heap.size, 2, none⟩ (.int .i64 (-1)) := ⟨_, rfl⟩
          have hX2 : X8 = putB w7 (w4.heap.size) (.slice a2 z2 c2) (.bool false) (.int .i64 (-1)) := hX
          rw [← hX]
          replace HB : Hid (Below w0.heap.size w0 X8) := Lib.hid (by rw [hX2]; exact below_put16 HB.out HLE.out)
          have h9 := strs_put16 (x := .slice a2 z2 c2) (y := .bool false) (z := .int .i64 (-1)) HD.out HS10.out
          rw [← hX2] at h9
          replace HS10 := Lib.hid h9
          clear h9
          have h9 := dfs_put16 (x := .slice a2 z2 c2) (y := .bool false) (z := .int .i64 (-1)) HD.out HI2.out
          rw [← hX2] at h9
          replace HI2 := Lib.hid h9
          clear h9
          have h9 := HD.out.put16 (x := .slice a2 z2 c2) (y := .bool false) (z := .int .i64 (-1))
          rw [← hX2] at h9
          replace HD := Lib.hid h9
          clear h9 hX2
          clear hX
          have C := HTR.out X8 HB.out ⟨fsW, false, -1⟩ (.slice a2 z2 c2) HI2.out HFW.out
          rw [HTW.out] at C
          unfold dskV at C
          try dsimp only [dW0, nLOG] at C
          refine C.mono ?_
          clear C
          rintro e w9 hr
          obtain ⟨a3, z3, c3, rfl, h1, hb⟩ := hr.open_Wlc
          have HI3 := Lib.hid h1
          clear hr h1
          replace HB := Lib.hid (below_step HB.out hb)
          replace HD := Lib.hid (HD.out.step hb)
          replace HS10 := Lib.hid (HS10.out.stays hb)
          replace HI2 := Lib.hid (HI2.out.stays hb)
          clear hb
          try dsimp only at HI3 ⊢
          go_wp2_with fail
          obtain ⟨X9, hX⟩ : ∃ X, X = w9.alloc (.cells #[.slice a3 z3 c3, .bool false, .int .i64 (-1)] 28) := ⟨_, rfl⟩
          have hb : Below w9.heap.size w9 X9 := by rw [hX]; exact (Below.refl _ _).alloc (Nat.le_refl _) _
          have HE : Hid (Row X9 w9.heap.size #[.slice a3 z3 c3, .bool false, .int .i64 (-1)] 28) := by rw [hX]; exact Lib.hid (Row.made _ _ _)
          rw [← hX]
          replace HB := Lib.hid (below_step HB.out hb)
          replace HD := Lib.hid (HD.out.step hb)
          replace HS10 := Lib.hid (HS10.out.stays hb)
          replace HI2 := Lib.hid (HI2.out.stays hb)
          replace HI3 := Lib.hid (HI3.out.stays hb)
          clear hb hX
          have C := HAP.out X9 HB.out ⟨fsW, false, -1⟩ (.slice a3 z3 c3) (.slice ba bz bc) B HI3.out (Hb.out.stays HB.out) HFW.out (Nat.le_trans HLb.out.2 (by decide)) HLb.out.1
          rw [HAPP.out] at C
          unfold dskV at C
          try dsimp only [dW0, nLOG] at C
          refine C.mono ?_
          clear C
          rintro e w10 hr
          obtain ⟨a4, z4, c4, rfl, h1, hb⟩ := hr.open_Wlc
          have HI4 := Lib.hid h1
          clear hr h1
          replace HB := Lib.hid (below_step HB.out hb)
          replace HD := Lib.hid (HD.out.step hb)
          replace HS10 := Lib.hid (HS10.out.stays hb)
          replace HI2 := Lib.hid (HI2.out.stays hb)
          replace HI3 := Lib.hid (HI3.out.stays hb)
          replace HE := Lib.hid (HE.out.step hb)
          clear hb
          try dsimp only at HI4 ⊢
          have HEl := HE.out.lt
          obtain ⟨⟨HE0, HE1, HE2⟩, HEz⟩ := HE.out.three16
          have HDl := HD.out.lt
          obtain ⟨⟨HD0, HD1, HD2⟩, HDz⟩ := HD.out.three16
          go_wp2_with fail
          clear HE0 HE1 HE2 HEz HEl HD0 HD1 HD2 HDz HDl
          obtain ⟨X10, hX⟩ : ∃ X, X = w10.alloc (.cells #[.slice a4 z4 c4, .bool false, .int .i64 (-1)] 28) := ⟨_, rfl⟩
          have hb : Below w10.heap.size w10 X10 := by rw [hX]; exact (Below.refl _ _).alloc (Nat.le_refl _) _
          have HG : Hid (Row X10 w10.heap.size #[.slice a4 z4 c4, .bool false, .int .i64 (-1)] 28) := by rw [hX]; exact Lib.hid (Row.made _ _ _)
          rw [← hX]
          replace HB := Lib.hid (below_step HB.out hb)
          replace HD := Lib.hid (HD.out.step hb)
          replace HS10 := Lib.hid (HS10.out.stays hb)
          replace HI2 := Lib.hid (HI2.out.stays hb)
          replace HI3 := Lib.hid (HI3.out.stays hb)
          replace HE := Lib.hid (HE.out.step hb)
          replace HI4 := Lib.hid (HI4.out.stays hb)
          clear hb hX
          have C := rSameD_any ⟨fsW, false, -1⟩ ⟨fsW, false, -1⟩ (.slice a3 z3 c3) (.slice a2 z2 c2) X10 HI3.out HI2.out
          rw [sameD_yes rfl] at C
          unfold dskV at C
          dsimp only at C
          refine C.mono ?_
          clear C
          rintro e w11 ⟨rfl, hb⟩
          replace HB := Lib.hid (below_step HB.out hb)
          replace HD := Lib.hid (HD.out.step hb)
          replace HS10 := Lib.hid (HS10.out.stays hb)
          replace HI2 := Lib.hid (HI2.out.stays hb)
          replace HI3 := Lib.hid (HI3.out.stays hb)
          replace HE := Lib.hid (HE.out.step hb)
          replace HI4 := Lib.hid (HI4.out.stays hb)
          replace HG := Lib.hid (HG.out.step hb)
          clear hb
          have HDl := HD.out.lt
          obtain ⟨⟨HD0, HD1, HD2⟩, HDz⟩ := HD.out.three16
          go_wp2_with fail
          clear HD0 HD1 HD2 HDz HDl
          have C := HLD.out w11 HB.out ⟨fsW, false, -1⟩ (.slice a2 z2 c2) HI2.out HFW.out
          unfold dskV RetL16 at C
          try dsimp only at C
          rw [HLW.out] at C
          refine C.mono ?_
          clear C
          rintro e w12 ⟨b11, y11, d11, rfl, h1, hb⟩
          have HS11 := Lib.hid h1
          clear h1
          replace HB := Lib.hid (below_step HB.out hb)
          replace HD := Lib.hid (HD.out.step hb)
          replace HS10 := Lib.hid (HS10.out.stays hb)
          replace HI2 := Lib.hid (HI2.out.stays hb)
          replace HI3 := Lib.hid (HI3.out.stays hb)
          replace HE := Lib.hid (HE.out.step hb)
          replace HI4 := Lib.hid (HI4.out.stays hb)
          replace HG := Lib.hid (HG.out.step hb)
          clear hb
          go_wp2_with fail
          have C := Same_eq (.slice b11 y11 d11) (.slice b10 y10 d10) (strsOf (txts A)) w12 HS11.out HS10.out
          refine C.mono ?_
          clear C
          rintro e w13 ⟨rfl, hb⟩
          replace HB := Lib.hid (below_step HB.out hb)
          replace HD := Lib.hid (HD.out.step hb)
          replace HS10 := Lib.hid (HS10.out.stays hb)
          replace HI2 := Lib.hid (HI2.out.stays hb)
          replace HI3 := Lib.hid (HI3.out.stays hb)
          replace HE := Lib.hid (HE.out.step hb)
          replace HI4 := Lib.hid (HI4.out.stays hb)
          replace HG := Lib.hid (HG.out.step hb)
          replace HS11 := Lib.hid (HS11.out.stays hb)
          clear hb
          have HGl := HG.out.lt
          obtain ⟨⟨HG0, HG1, HG2⟩, HGz⟩ := HG.out.three16
          go_wp2_with fail
          clear HG0 HG1 HG2 HGz HGl
          have C := HLD.out w13 HB.out ⟨fsG, false, -1⟩ (.slice a4 z4 c4) HI4.out HFG.out
          unfold dskV RetL16 at C
          try dsimp only at C
          rw [HLG.out] at C
          refine C.mono ?_
          clear C
          rintro e w14 ⟨b12, y12, d12, rfl, h1, hb⟩
          have HS12 := Lib.hid h1
          clear h1
          replace HB := Lib.hid (below_step HB.out hb)
          replace HD := Lib.hid (HD.out.step hb)
          replace HS10 := Lib.hid (HS10.out.stays hb)
          replace HI2 := Lib.hid (HI2.out.stays hb)
          replace HI3 := Lib.hid (HI3.out.stays hb)
          replace HE := Lib.hid (HE.out.step hb)
          replace HI4 := Lib.hid (HI4.out.stays hb)
          replace HG := Lib.hid (HG.out.step hb)
          replace HS11 := Lib.hid (HS11.out.stays hb)
          clear hb
          have hln0 : (strsOf (txts A)).length ≤ 1000000 := by have := HWL.out; rw [strsOf_len]; omega
          go_wp2_with (at_builtin; refine wpList_append_all (W := w14) rfl _ _ rfl (M := []) (World.ownsRow_made _ #[] 0 (Nat.le_refl _) (by decide) rfl) ((Below.refl _ _).alloc (Nat.le_refl _) _) (IsStrs.stays HS10.out ((Below.refl _ _).alloc (Nat.le_refl _) (.cells #[] 9))) rfl rfl (by simp; omega) ?_)
          intro va1 wa1 ha1 ba1
          rw [txts_strsOf] at ha1
          have HA1 := Lib.hid ha1
          clear ha1 hln0
          have hbs := (Hb.out.stays HB.out).stays ba1
          have hln : (txts A).length + B.length ≤ 1000000 := by have := HWL.out; omega
          go_wp2_with (at_builtin; refine wpList_append_all rfl _ _ rfl HA1.out ba1 hbs rfl rfl hln ?_)
          intro va2 wa2 ha2 hb
          have HALL := Lib.hid ha2.strs
          clear ha2 HA1 ba1 hbs hln
          replace HB := Lib.hid (below_step HB.out hb)
          replace HD := Lib.hid (HD.out.step hb)
          replace HS10 := Lib.hid (HS10.out.stays hb)
          replace HI2 := Lib.hid (HI2.out.stays hb)
          replace HI3 := Lib.hid (HI3.out.stays hb)
          replace HE := Lib.hid (HE.out.step hb)
          replace HI4 := Lib.hid (HI4.out.stays hb)
          replace HG := Lib.hid (HG.out.step hb)
          replace HS11 := Lib.hid (HS11.out.stays hb)
          replace HS12 := Lib.hid (HS12.out.stays hb)
          clear hb
          obtain ⟨_, la, lc, hu, _, _⟩ := id HALL.out
          obtain ⟨lz, hlz⟩ : ∃ z, z = (strsOf ((txts A) ++ txts B)).length := ⟨_, rfl⟩
          rw [← hlz] at hu
          subst hu
          clear hlz
          go_wp2_with fail
          have C := Same_eq (.slice b12 y12 d12) (.slice la lz lc) (strsOf ((txts A) ++ txts B)) wa2 HS12.out HALL.out
          refine C.mono ?_
          clear C
          rintro e w15 ⟨rfl, hb⟩
          replace HB := Lib.hid (below_step HB.out hb)
          replace HD := Lib.hid (HD.out.step hb)
          replace HS10 := Lib.hid (HS10.out.stays hb)
          replace HI2 := Lib.hid (HI2.out.stays hb)
          replace HI3 := Lib.hid (HI3.out.stays hb)
          replace HE := Lib.hid (HE.out.step hb)
          replace HI4 := Lib.hid (HI4.out.stays hb)
          replace HG := Lib.hid (HG.out.step hb)
          replace HS11 := Lib.hid (HS11.out.stays hb)
          replace HS12 := Lib.hid (HS12.out.stays hb)
          replace HALL := Lib.hid (HALL.out.stays hb)
          clear hb
          go_wp2_with fail
          refine (CA.out _ HB.out).mono ?_
          rintro e w9 ⟨rfl, hb⟩
          replace HB := Lib.hid (below_step HB.out hb)
          clear hb
          go_wp2_with fail
          go_ret
          exact ⟨rfl, HB.out⟩
        · have he0 := isE_no hse
          have HWW := Lib.hid (HWT.out hse HCd1.out)
          have HFT0 : Hid (FitD nameB ⟨oneL (wraps (txts A)) [⟨((wraps (txts A)).length : Nat), s⟩], false, -1⟩) := Lib.hid (by have h9 := writeD_fit HF0.out nLOG ((S.size : Nat) : Int) s; rwa [HWW.out] at h9)
          have HST := Lib.hid (torn_is HLa.out.light HCd1.out HFT0.out)
          clear hse HWT HS0 HFT0
          obtain ⟨WS, hWS⟩ : ∃ W, W = textsOf (wraps (txts A) ++ s.data.toList) := ⟨_, rfl⟩
          obtain ⟨fsT, hfsT⟩ : ∃ f, f = oneL (wraps (txts A)) [⟨((wraps (txts A)).length : Nat), s⟩] := ⟨_, rfl⟩
          rw [← hWS, ← hfsT] at HST
          rw [← hfsT] at HWW
          clear hWS hfsT
          have HDl := HD.out.lt
          obtain ⟨⟨HD0, HD1, HD2⟩, HDz⟩ := HD.out.three16
          go_wp2_with fail
          clear HD0 HD1 HD2 HDz HDl
          have C := rWrite_any ⟨fs0, false, -1⟩ (.slice a0 z0 c0) nLOG ((S.size : Nat) : Int) s w5 HI0.out HF0.out (by have := HCd1.out; omega)
          rw [HWW.out] at C
          unfold dskV at C
          try dsimp only [dW0, nLOG] at C
          refine C.mono ?_
          clear C
          rintro e w6 hr
          obtain ⟨a1, z1, c1, rfl, h1, hb⟩ := hr.open_Wlc
          have HI1 := Lib.hid h1
          clear hr h1
          replace HB := Lib.hid (below_step HB.out hb)
          replace HI0 := Lib.hid (HI0.out.stays hb)
          replace HD := Lib.hid (HD.out.step hb)
          clear hb
          try dsimp only at HI1 ⊢
          clear HI0
          have HDl := HD.out.lt
          obtain ⟨⟨HD0, HD1, HD2⟩, HDz⟩ := HD.out.three16
          go_wp2_with fail
          clear HD0 HD1 HD2 HDz HDl
          obtain ⟨X7, hX⟩ : ∃ X, X = ((w6.setCell ⟨w4.heap.size, 0, none⟩ (.slice a1 z1 c1)).setCell ⟨w4.heap.size, 1, none⟩ (.bool false)).setCell ⟨w4.heap.size, 2, none⟩ (.int .i64 (-1)) := ⟨_, rfl⟩
          have hX2 : X7 = putB w6 (w4.heap.size) (.slice a1 z1 c1) (.bool false) (.int .i64 (-1)) := hX
          rw [← hX]
          replace HB : Hid (Below w0.heap.size w0 X7) := Lib.hid (by rw [hX2]; exact below_put16 HB.out HLE.out)
          have h9 := dfs_put16 (x := .slice a1 z1 c1) (y := .bool false) (z := .int .i64 (-1)) HD.out HI1.out
          rw [← hX2] at h9
          replace HI1 := Lib.hid h9
          clear h9
          have h9 := HD.out.put16 (x := .slice a1 z1 c1) (y := .bool false) (z := .int .i64 (-1))
          rw [← hX2] at h9
          replace HD := Lib.hid h9
          clear h9 hX2
          clear hX
          have hap := append_un (L := txts B) HST.out.none HST.out.light HLb.out.light (by decide) (by decide)
          obtain ⟨b3, hb3⟩ : ∃ b, b = (true || !(txts B).isEmpty) := ⟨_, rfl⟩
          rw [← hb3] at hap
          have hb30 : b3 = false → WS ++ txts B = [] := fun h => by
            rw [h] at hb3
            have h1 := Bool.or_eq_false_iff.1 hb3.symm
            rw [HST.out.none h1.1, isEmpty_no h1.2]; rfl
          have HLG := Lib.hid (load_logF hb30 (HST.out.light.app HLb.out.light) false (-1))
          have HLW := Lib.hid (load_logF HST.out.none HST.out.light false (-1))
          have HTW := Lib.hid (trim_un HST.out.none HST.out.light)
          have HFW : Hid (FitD nameB ⟨logF (wraps WS) [] true, false, -1⟩) := Lib.hid (by have h9 := trimD_fit HST.out.fit; rwa [HST.out.trim] at h9)
          have HFG : Hid (FitD nameB ⟨logF (wraps (WS ++ txts B)) [] b3, false, -1⟩) := Lib.hid (by have h9 := appendD_fit HFW.out (txts B); rwa [hap] at h9)
          have HTT := Lib.hid HST.out.trim
          have HRC := Lib.hid HST.out.recs; have HFT := Lib.hid HST.out.fit
          have HWL : Hid (WS.length + B.length ≤ 7000) := Lib.hid (by have h1 := wraps_ge HST.out.light.1; have h2 := HST.out.light.2; have := HLb.out.2; omega)
          obtain ⟨fsW, hfsW⟩ : ∃ f, f = logF (wraps WS) [] true := ⟨_, rfl⟩
          obtain ⟨fsG, hfsG⟩ : ∃ f, f = logF (wraps (WS ++ txts B)) [] b3 := ⟨_, rfl⟩
          rw [← hfsW] at HLW HTW HFW HTT hap
          rw [← hfsG] at HLG HFG hap
          have HAPP := Lib.hid hap
          clear hap hb3 hb30 hfsW hfsG HST
          have C := HLD.out X7 HB.out ⟨fsT, false, -1⟩ (.slice a1 z1 c1) HI1.out HFT.out
          unfold dskV RetL16 at C
          try dsimp only at C
          rw [HRC.out] at C
          refine C.mono ?_
          clear C
          rintro e w8 ⟨b10, y10, d10, rfl, h1, hb⟩
          have HS10 := Lib.hid h1
          clear h1
          replace HB := Lib.hid (below_step HB.out hb)
          replace HD := Lib.hid (HD.out.step hb)
          replace HI1 := Lib.hid (HI1.out.stays hb)
          clear hb
          have HDl := HD.out.lt
          obtain ⟨⟨HD0, HD1, HD2⟩, HDz⟩ := HD.out.three16
          go_wp2_with fail
          clear HD0 HD1 HD2 HDz HDl
          have C := HTR.out w8 HB.out ⟨fsT, false, -1⟩ (.slice a1 z1 c1) HI1.out HFT.out
          rw [HTT.out] at C
          unfold dskV at C
          try dsimp only [dW0, nLOG] at C
          refine C.mono ?_
          clear C
          rintro e w9 hr
          obtain ⟨a2, z2, c2, rfl, h1, hb⟩ := hr.open_Wlc
          have HI2 := Lib.hid h1
          clear hr h1
          replace HB := Lib.hid (below_step HB.out hb)
          replace HD := Lib.hid (HD.out.step hb)
          replace HI1 := Lib.hid (HI1.out.stays hb)
          replace HS10 := Lib.hid (HS10.out.stays hb)
          clear hb
          try dsimp only at HI2 ⊢
          clear HI1
          have HDl := HD.out.lt
          obtain ⟨⟨HD0, HD1, HD2⟩, HDz⟩ := HD.out.three16
          go_wp2_with fail
          clear HD0 HD1 HD2 HDz HDl
          obtain ⟨X10, hX⟩ : ∃ X, X = ((w9.setCell ⟨w4.heap.size, 0, none⟩ (.slice a2 z2 c2)).setCell ⟨w4.heap.size, 1, none⟩ (.bool false)).setCell ⟨w4.heap.size, 2, none⟩ (.int .i64 (-1)) := ⟨_, rfl⟩
          have hX2 : X10 = putB w9 (w4.heap.size) (.slice a2 z2 c2) (.bool false) (.int .i64 (-1)) := hX
          rw [← hX]
          replace HB : Hid (Below w0.heap.size w0 X10) := Lib.hid (by rw [hX2]; exact below_put16 HB.out HLE.out)
          have h9 := strs_put16 (x := .slice a2 z2 c2) (y := .bool false) (z := .int .i64 (-1)) HD.out HS10.out
          rw [← hX2] at h9
          replace HS10 := Lib.hid h9
          clear h9
          have h9 := dfs_put16 (x := .slice a2 z2 c2) (y := .bool false) (z := .int .i64 (-1)) HD.out HI2.out
          rw [← hX2] at h9
          replace HI2 := Lib.hid h9
          clear h9
          have h9 := HD.out.put16 (x := .slice a2 z2 c2) (y := .bool false) (z := .int .i64 (-1))
          rw [← hX2] at h9
          replace HD := Lib.hid h9
          clear h9 hX2
          clear hX
          have C := HTR.out X10 HB.out ⟨fsW, false, -1⟩ (.slice a2 z2 c2) HI2.out HFW.out
          rw [HTW.out] at C
          unfold dskV at C
          try dsimp only [dW0, nLOG] at C
          refine C.mono ?_
          clear C
          rintro e w11 hr
          obtain ⟨a3, z3, c3, rfl, h1, hb⟩ := hr.open_Wlc
          have HI3 := Lib.hid h1
          clear hr h1
          replace HB := Lib.hid (below_step HB.out hb)
          replace HD := Lib.hid (HD.out.step hb)
          replace HS10 := Lib.hid (HS10.out.stays hb)
          replace HI2 := Lib.hid (HI2.out.stays hb)
          clear hb
          try dsimp only at HI3 ⊢
          go_wp2_with fail
          obtain ⟨X11, hX⟩ : ∃ X, X = w11.alloc (.cells #[.slice a3 z3 c3, .bool false, .int .i64 (-1)] 28) := ⟨_, rfl⟩
          have hb : Below w11.heap.size w11 X11 := by rw [hX]; exact (Below.refl _ _).alloc (Nat.le_refl _) _
          have HE : Hid (Row X11 w11.heap.size #[.slice a3 z3 c3, .bool false, .int .i64 (-1)] 28) := by rw [hX]; exact Lib.hid (Row.made _ _ _)
          rw [← hX]
          replace HB := Lib.hid (below_step HB.out hb)
          replace HD := Lib.hid (HD.out.step hb)
          replace HS10 := Lib.hid (HS10.out.stays hb)
          replace HI2 := Lib.hid (HI2.out.stays hb)
          replace HI3 := Lib.hid (HI3.out.stays hb)
          clear hb hX
          have C := HAP.out X11 HB.out ⟨fsW, false, -1⟩ (.slice a3 z3 c3) (.slice ba bz bc) B HI3.out (Hb.out.stays HB.out) HFW.out (Nat.le_trans HLb.out.2 (by decide)) HLb.out.1
          rw [HAPP.out] at C
          unfold dskV at C
          try dsimp only [dW0, nLOG] at C
          refine C.mono ?_
          clear C
          rintro e w12 hr
          obtain ⟨a4, z4, c4, rfl, h1, hb⟩ := hr.open_Wlc
          have HI4 := Lib.hid h1
          clear hr h1
          replace HB := Lib.hid (below_step HB.out hb)
          replace HD := Lib.hid (HD.out.step hb)
          replace HS10 := Lib.hid (HS10.out.stays hb)
          replace HI2 := Lib.hid (HI2.out.stays hb)
          replace HI3 := Lib.hid (HI3.out.stays hb)
          replace HE := Lib.hid (HE.out.step hb)
          clear hb
          try dsimp only at HI4 ⊢
          have HEl := HE.out.lt
          obtain ⟨⟨HE0, HE1, HE2⟩, HEz⟩ := HE.out.three16
          have HDl := HD.out.lt
          obtain ⟨⟨HD0, HD1, HD2⟩, HDz⟩ := HD.out.three16
          go_wp2_with fail
          clear HE0 HE1 HE2 HEz HEl HD0 HD1 HD2 HDz HDl
          obtain ⟨X12, hX⟩ : ∃ X, X = w12.alloc (.cells #[.slice a4 z4 c4, .bool false, .int .i64 (-1)] 28) := ⟨_, rfl⟩
          have hb : Below w12.heap.size w12 X12 := by rw [hX]; exact (Below.refl _ _).alloc (Nat.le_refl _) _
          have HG : Hid (Row X12 w12.heap.size #[.slice a4 z4 c4, .bool false, .int .i64 (-1)] 28) := by rw [hX]; exact Lib.hid (Row.made _ _ _)
          rw [← hX]
          replace HB := Lib.hid (below_step HB.out hb)
          replace HD := Lib.hid (HD.out.step hb)
          replace HS10 := Lib.hid (HS10.out.stays hb)
          replace HI2 := Lib.hid (HI2.out.stays hb)
          replace HI3 := Lib.hid (HI3.out.stays hb)
          replace HE := Lib.hid (HE.out.step hb)
          replace HI4 := Lib.hid (HI4.out.stays hb)
          clear hb hX
          have C := rSameD_any ⟨fsW, false, -1⟩ ⟨fsW, false, -1⟩ (.slice a3 z3 c3) (.slice a2 z2 c2) X12 HI3.out HI2.out
          rw [sameD_yes rfl] at C
          unfold dskV at C
          dsimp only at C
          refine C.mono ?_
          clear C
          rintro e w13 ⟨rfl, hb⟩
          replace HB := Lib.hid (below_step HB.out hb)
          replace HD := Lib.hid (HD.out.step hb)
          replace HS10 := Lib.hid (HS10.out.stays hb)
          replace HI2 := Lib.hid (HI2.out.stays hb)
          replace HI3 := Lib.hid (HI3.out.stays hb)
          replace HE := Lib.hid (HE.out.step hb)
          replace HI4 := Lib.hid (HI4.out.stays hb)
          replace HG := Lib.hid (HG.out.step hb)
          clear hb
          have HDl := HD.out.lt
          obtain ⟨⟨HD0, HD1, HD2⟩, HDz⟩ := HD.out.three16
          go_wp2_with fail
          clear HD0 HD1 HD2 HDz HDl
          have C := HLD.out w13 HB.out ⟨fsW, false, -1⟩ (.slice a2 z2 c2) HI2.out HFW.out
          unfold dskV RetL16 at C
          try dsimp only at C
          rw [HLW.out] at C
          refine C.mono ?_
          clear C
          rintro e w14 ⟨b11, y11, d11, rfl, h1, hb⟩
          have HS11 := Lib.hid h1
          clear h1
          replace HB := Lib.hid (below_step HB.out hb)
          replace HD := Lib.hid (HD.out.step hb)
          replace HS10 := Lib.hid (HS10.out.stays hb)
          replace HI2 := Lib.hid (HI2.out.stays hb)
          replace HI3 := Lib.hid (HI3.out.stays hb)
          replace HE := Lib.hid (HE.out.step hb)
          replace HI4 := Lib.hid (HI4.out.stays hb)
          replace HG := Lib.hid (HG.out.step hb)
          clear hb
          go_wp2_with fail
          have C := Same_eq (.slice b11 y11 d11) (.slice b10 y10 d10) (strsOf WS) w14 HS11.out HS10.out
          refine C.mono ?_
          clear C
          rintro e w15 ⟨rfl, hb⟩
          replace HB := Lib.hid (below_step HB.out hb)
          replace HD := Lib.hid (HD.out.step hb)
          replace HS10 := Lib.hid (HS10.out.stays hb)
          replace HI2 := Lib.hid (HI2.out.stays hb)
          replace HI3 := Lib.hid (HI3.out.stays hb)
          replace HE := Lib.hid (HE.out.step hb)
          replace HI4 := Lib.hid (HI4.out.stays hb)
          replace HG := Lib.hid (HG.out.step hb)
          replace HS11 := Lib.hid (HS11.out.stays hb)
          clear hb
          have HGl := HG.out.lt
          obtain ⟨⟨HG0, HG1, HG2⟩, HGz⟩ := HG.out.three16
          go_wp2_with fail
          clear HG0 HG1 HG2 HGz HGl
          have C := HLD.out w15 HB.out ⟨fsG, false, -1⟩ (.slice a4 z4 c4) HI4.out HFG.out
          unfold dskV RetL16 at C
          try dsimp only at C
          rw [HLG.out] at C
          refine C.mono ?_
          clear C
          rintro e w16 ⟨b12, y12, d12, rfl, h1, hb⟩
          have HS12 := Lib.hid h1
          clear h1
          replace HB := Lib.hid (below_step HB.out hb)
          replace HD := Lib.hid (HD.out.step hb)
          replace HS10 := Lib.hid (HS10.out.stays hb)
          replace HI2 := Lib.hid (HI2.out.stays hb)
          replace HI3 := Lib.hid (HI3.out.stays hb)
          replace HE := Lib.hid (HE.out.step hb)
          replace HI4 := Lib.hid (HI4.out.stays hb)
          replace HG := Lib.hid (HG.out.step hb)
          replace HS11 := Lib.hid (HS11.out.stays hb)
          clear hb
          have hln0 : (strsOf WS).length ≤ 1000000 := by have := HWL.out; rw [strsOf_len]; omega
          go_wp2_with (at_builtin; refine wpList_append_all (W := w16) rfl _ _ rfl (M := []) (World.ownsRow_made _ #[] 0 (Nat.le_refl _) (by decide) rfl) ((Below.refl _ _).alloc (Nat.le_refl _) _) (IsStrs.stays HS10.out ((Below.refl _ _).alloc (Nat.le_refl _) (.cells #[] 9))) rfl rfl (by simp; omega) ?_)
          intro va1 wa1 ha1 ba1
          rw [txts_strsOf] at ha1
          have HA1 := Lib.hid ha1
          clear ha1 hln0
          have hbs := (Hb.out.stays HB.out).stays ba1
          have hln : WS.length + B.length ≤ 1000000 := by have := HWL.out; omega
          go_wp2_with (at_builtin; refine wpList_append_all rfl _ _ rfl HA1.out ba1 hbs rfl rfl hln ?_)
          intro va2 wa2 ha2 hb
          have HALL := Lib.hid ha2.strs
          clear ha2 HA1 ba1 hbs hln
          replace HB := Lib.hid (below_step HB.out hb)
          replace HD := Lib.hid (HD.out.step hb)
          replace HS10 := Lib.hid (HS10.out.stays hb)
          replace HI2 := Lib.hid (HI2.out.stays hb)
          replace HI3 := Lib.hid (HI3.out.stays hb)
          replace HE := Lib.hid (HE.out.step hb)
          replace HI4 := Lib.hid (HI4.out.stays hb)
          replace HG := Lib.hid (HG.out.step hb)
          replace HS11 := Lib.hid (HS11.out.stays hb)
          replace HS12 := Lib.hid (HS12.out.stays hb)
          clear hb
          obtain ⟨_, la, lc, hu, _, _⟩ := id HALL.out
          obtain ⟨lz, hlz⟩ : ∃ z, z = (strsOf (WS ++ txts B)).length := ⟨_, rfl⟩
          rw [← hlz] at hu
          subst hu
          clear hlz
          go_wp2_with fail
          have C := Same_eq (.slice b12 y12 d12) (.slice la lz lc) (strsOf (WS ++ txts B)) wa2 HS12.out HALL.out
          refine C.mono ?_
          clear C
          rintro e w17 ⟨rfl, hb⟩
          replace HB := Lib.hid (below_step HB.out hb)
          replace HD := Lib.hid (HD.out.step hb)
          replace HS10 := Lib.hid (HS10.out.stays hb)
          replace HI2 := Lib.hid (HI2.out.stays hb)
          replace HI3 := Lib.hid (HI3.out.stays hb)
          replace HE := Lib.hid (HE.out.step hb)
          replace HI4 := Lib.hid (HI4.out.stays hb)
          replace HG := Lib.hid (HG.out.step hb)
          replace HS11 := Lib.hid (HS11.out.stays hb)
          replace HS12 := Lib.hid (HS12.out.stays hb)
          replace HALL := Lib.hid (HALL.out.stays hb)
          clear hb
          go_wp2_with fail
          refine (CA.out _ HB.out).mono ?_
          rintro e w9 ⟨rfl, hb⟩
          replace HB := Lib.hid (below_step HB.out hb)
          clear hb
          go_wp2_with fail
          go_ret
          exact ⟨rfl, HB.out⟩
end Go.Proofs.YtalknbadakfppaaGreat

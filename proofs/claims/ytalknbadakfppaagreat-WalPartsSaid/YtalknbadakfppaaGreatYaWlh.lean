/-
  WalWhole as a walk over this translation, over what the log's calls are to answer. Written by wip/tools/gen_wal_laws.py.
-/
import Derived.Test.YtalknbadakfppaaGreatQa3
set_option linter.unusedVariables false
namespace Go.Proofs.YtalknbadakfppaaGreat
open Go.RowKit
attribute [local go_sem] Oper.semAt_some
set_option maxRecDepth 100000 in
set_option maxHeartbeats 32000000 in
theorem walWhole_w (av bv kv : Value) (A B : List ByteArray) (keep : List Bool) (x y : Nat) (w0 : World) (ha : IsStrs w0 av A) (hb : IsStrs w0 bv B) (hk : IsBls w0 kv keep) (HAP : WalAppend16 w0) (HTR : WalTrim16 w0) (HLD : WalLoad16 w0) :
    Calls Tryz.prog 3 #[av, bv, .int .u8 x, kv, .int .u8 y] w0 fun e w' => e = .returned (.bool true) ∧ Below w0.heap.size w0 w' := by
  have CA := Lib.hid (awake16_any w0 HAP HLD)
  have HAP := Lib.hid HAP; have HTR := Lib.hid HTR; have HLD := Lib.hid HLD
  have Ha := Lib.hid ha
  obtain ⟨_, aa, ac, hu, _, _⟩ := id ha
  obtain ⟨az, hz⟩ : ∃ z, z = A.length := ⟨_, rfl⟩
  rw [← hz] at hu
  subst hu
  have HaZ := Lib.hid hz
  clear ha hz
  have Hb := Lib.hid hb
  obtain ⟨_, ba, bc, hu, _, _⟩ := id hb
  obtain ⟨bz, hz⟩ : ∃ z, z = B.length := ⟨_, rfl⟩
  rw [← hz] at hu
  subst hu
  have HbZ := Lib.hid hz
  clear hb hz
  have HK := Lib.hid hk
  obtain ⟨_, ka, kc, hu, _, _⟩ := id hk
  obtain ⟨kz, hz⟩ : ∃ z, z = keep.length := ⟨_, rfl⟩
  rw [← hz] at hu
  subst hu
  clear hk hz
  have HB := Lib.hid (Below.refl w0.heap.size w0)
  go_enter Tryz.func3, Tryz.ntmps3
  go_wp2_with fail
  have C := light16_any (.slice aa az ac) A w0 (Ha.out.stays HB.out)
  refine C.mono ?_
  clear C
  rintro e w2 ⟨rfl, hb⟩
  replace HB := Lib.hid (below_step HB.out hb)
  clear hb
  cases hli : lightB A with
  | false =>
    clear hli
    go_wp2_with fail
    refine (CA.out _ HB.out).mono ?_
    rintro e w9 ⟨rfl, hb⟩
    replace HB := Lib.hid (below_step HB.out hb)
    clear hb
    go_wp2_with fail
    go_ret
    exact ⟨rfl, HB.out⟩
  | true =>
    have HLa := Lib.hid (lightB_iff.1 hli)
    clear hli
    go_wp2_with fail
    have C := light16_any (.slice ba bz bc) B w2 (Hb.out.stays HB.out)
    refine C.mono ?_
    clear C
    rintro e w3 ⟨rfl, hb⟩
    replace HB := Lib.hid (below_step HB.out hb)
    clear hb
    cases hli : lightB B with
    | false =>
      clear hli
      go_wp2_with fail
      refine (CA.out _ HB.out).mono ?_
      rintro e w9 ⟨rfl, hb⟩
      replace HB := Lib.hid (below_step HB.out hb)
      clear hb
      go_wp2_with fail
      go_ret
      exact ⟨rfl, HB.out⟩
    | true =>
      have HLb := Lib.hid (lightB_iff.1 hli)
      clear hli
      by_cases hcc : 1000 < kz
      · have d1 : decide ((1000 : Int) < (kz : Int)) = true := decide_eq_true (by omega)
        clear hcc
        go_wp2_with fail
        refine (CA.out _ HB.out).mono ?_
        rintro e w9 ⟨rfl, hb⟩
        replace HB := Lib.hid (below_step HB.out hb)
        clear hb
        go_wp2_with fail
        go_ret
        exact ⟨rfl, HB.out⟩
      · have d1 : decide ((1000 : Int) < (kz : Int)) = false := decide_eq_false (by omega)
        have HCd1 : Hid (kz ≤ 1000) := Lib.hid (by omega)
        clear hcc
        obtain ⟨q, hq⟩ : ∃ q, q = x % 4 := ⟨_, rfl⟩
        obtain ⟨r, hr⟩ : ∃ r, r = y % 6 := ⟨_, rfl⟩
        have HM1 : Hid ((x : Int) % 4 = (q : Int)) := Lib.hid (by omega)
        have HM2 : Hid ((y : Int) % 6 = (r : Int)) := Lib.hid (by omega)
        have HQ3 : Hid (q ≤ 3 ∧ r ≤ 5) := Lib.hid (by omega)
        clear hq hr
        have hm := append_W0 HLa.out.light (by decide)
        obtain ⟨na, hna⟩ : ∃ b, b = !(txts A).isEmpty := ⟨_, rfl⟩
        rw [← hna] at hm
        have hna0 : na = false → txts A = [] := fun h => isEmpty_no (by rw [← hna]; exact h)
        obtain ⟨R', b', hb', hcr, hor⟩ := append_fuse hna0 HLa.out.light HLb.out.light (by decide) (by decide) q keep
        have hR' : LightR 12560 R' := by
          rcases hor with h | ⟨h, _⟩
          · rw [h]; exact HLa.out.light.app HLb.out.light
          · rw [h]; exact ⟨HLa.out.light.1, Nat.le_trans HLa.out.light.2 (by decide)⟩
        have htf := trim_fuse hb' hR' r keep
        have htu := trim_un hb' hR'
        have HTL := Lib.hid (fun o fu => load_logF hb' hR' o fu)
        have HF0 : Hid (FitD nameB ⟨logF (wraps (txts A)) [] na, false, -1⟩) := Lib.hid (by have h9 := appendD_fit fitW0 (txts A); rwa [hm] at h9)
        obtain ⟨fs0, hfs0⟩ : ∃ f, f = logF (wraps (txts A)) [] na := ⟨_, rfl⟩
        have HFS0 : Hid (fs0 = logF (wraps (txts A)) [] (!(txts A).isEmpty)) := Lib.hid (by rw [hfs0, hna])
        rw [← hfs0] at HF0 hcr hor
        have HFQ : Hid (FitD nameB ⟨fs0, false, (q : Int)⟩) := Lib.hid (fuse_fit HF0.out (by have := HQ3.out; omega) (by have := HQ3.out; omega))
        obtain ⟨⟨⟨fs1, o1, u1⟩, e1⟩, hr1⟩ : ∃ r, r = appendD ⟨fs0, false, (q : Int)⟩ (txts B) := ⟨_, rfl⟩
        rw [← hr1] at hcr hor
        have HF1 : Hid (FitD nameB ⟨fs1, o1, u1⟩) := Lib.hid (by have h9 := appendD_fit HFQ.out (txts B); rwa [← hr1] at h9)
        obtain ⟨fsR, hfsR⟩ : ∃ f, f = logF (wraps R') [] b' := ⟨_, rfl⟩
        rw [← hfsR] at hcr htf htu HTL
        have HFR : Hid (FitD nameB ⟨fsR, false, -1⟩) := Lib.hid (by have h9 := crashD_fit HF1.out keep; rwa [hcr] at h9)
        have HFRR : Hid (FitD nameB ⟨fsR, false, (r : Int)⟩) := Lib.hid (fuse_fit HFR.out (by have := HQ3.out; omega) (by have := HQ3.out; omega))
        obtain ⟨⟨⟨fs2, o2, u2⟩, e2⟩, hr2⟩ : ∃ r', r' = trimD ⟨fsR, false, (r : Int)⟩ := ⟨_, rfl⟩
        rw [← hr2] at htf
        have HF2 : Hid (FitD nameB ⟨fs2, o2, u2⟩) := Lib.hid (by have h9 := trimD_fit HFRR.out; rwa [← hr2] at h9)
        have HCR := Lib.hid hcr; have HOR := Lib.hid hor; have HR1 := Lib.hid hr1; have HR2 := Lib.hid hr2; have HTF := Lib.hid htf; have HTU := Lib.hid htu
        have HRL : Hid ((txts A ++ txts B).length ≤ 40) := Lib.hid (by rw [List.length_append, txts_len, txts_len]; have := HLa.out.2; have := HLb.out.2; omega)
        have HLL : Hid (A.length + B.length ≤ 40) := Lib.hid (by have := HLa.out.2; have := HLb.out.2; omega)
        clear hm hna hna0 hb' hcr hor hR' htf htu hfs0 hr1 hr2 hfsR
        go_wp2_with fail
        refine (solid16_any (.slice aa az ac) A w3 (Ha.out.stays HB.out) HLa.out HFS0.out).mono ?_
        rintro e w4 ⟨a0, z0, c0, rfl, h1, hb⟩
        have HI0 := Lib.hid h1
        clear h1
        replace HB := Lib.hid (below_step HB.out hb)
        clear hb
        have HLE : Hid (w0.heap.size ≤ w4.heap.size) := Lib.hid HB.out.size
        have m1 := HM1.out; have m3 := HQ3.out.1
        go_wp2_with fail
        obtain ⟨X4, hX⟩ : ∃ X, X = w4.alloc (.cells #[.slice a0 z0 c0, .bool false, .int .i64 (q : Int)] 28) := ⟨_, rfl⟩
        have hb : Below w4.heap.size w4 X4 := by rw [hX]; exact (Below.refl _ _).alloc (Nat.le_refl _) _
        have HD : Hid (Row X4 w4.heap.size #[.slice a0 z0 c0, .bool false, .int .i64 (q : Int)] 28) := by rw [hX]; exact Lib.hid (Row.made _ _ _)
        rw [← hX]
        replace HB := Lib.hid (below_step HB.out hb)
        replace HI0 := Lib.hid (HI0.out.stays hb)
        clear hb hX
        clear m1 m3
        have C := HAP.out X4 HB.out ⟨fs0, false, (q : Int)⟩ (.slice a0 z0 c0) (.slice ba bz bc) B HI0.out (Hb.out.stays HB.out) HFQ.out (Nat.le_trans HLb.out.2 (by decide)) HLb.out.1
        rw [← HR1.out] at C
        unfold dskV at C
        try dsimp only [dW0, nLOG] at C
        refine C.mono ?_
        clear C
        rintro e w5 hr
        obtain ⟨a1, z1, c1, rfl, h1, hb⟩ := hr.open_Wlc
        have HI1 := Lib.hid h1
        clear hr h1
        replace HB := Lib.hid (below_step HB.out hb)
        replace HI0 := Lib.hid (HI0.out.stays hb)
        replace HD := Lib.hid (HD.out.step hb)
        clear hb
        try dsimp only at HI1 ⊢
        clear HI0
        have HDl := HD.out.lt
        obtain ⟨⟨HD0, HD1, HD2⟩, HDz⟩ := HD.out.three16
        go_wp2_with fail
        clear HD0 HD1 HD2 HDz HDl
        obtain ⟨X6, hX⟩ : ∃ X, X = ((w5.setCell ⟨w4.heap.size, 0, none⟩ (.slice a1 z1 c1)).setCell ⟨w4.heap.size, 1, none⟩ (.bool o1)).setCell ⟨w4.heap.size, 2, none⟩ (.int .i64 u1) := ⟨_, rfl⟩
        have hX2 : X6 = putB w5 (w4.heap.size) (.slice a1 z1 c1) (.bool o1) (.int .i64 u1) := hX
        rw [← hX]
        replace HB : Hid (Below w0.heap.size w0 X6) := Lib.hid (by rw [hX2]; exact below_put16 HB.out HLE.out)
        have h9 := dfs_put16 (x := .slice a1 z1 c1) (y := .bool o1) (z := .int .i64 u1) HD.out HI1.out
        rw [← hX2] at h9
        replace HI1 := Lib.hid h9
        clear h9
        have h9 := HD.out.put16 (x := .slice a1 z1 c1) (y := .bool o1) (z := .int .i64 u1)
        rw [← hX2] at h9
        replace HD := Lib.hid h9
        clear h9 hX2
        clear hX
        have C := rCrash_any ⟨fs1, o1, u1⟩ (.slice a1 z1 c1) (.slice ka kz kc) keep X6 HI1.out (HK.out.stays HB.out) HF1.out
        unfold RetC at C
        rw [HCR.out] at C
        unfold dskV at C
        dsimp only at C
        refine C.mono ?_
        clear C
        rintro e w7 ⟨v2, rfl, h1, hb⟩
        obtain ⟨a2, c2, hv2⟩ := h1.len
        obtain ⟨z2, hz2⟩ : ∃ z, z = fsR.length := ⟨_, rfl⟩
        rw [← hz2] at hv2
        subst hv2
        have HI2 := Lib.hid h1
        clear h1 hz2
        replace HB := Lib.hid (below_step HB.out hb)
        replace HD := Lib.hid (HD.out.step hb)
        replace HI1 := Lib.hid (HI1.out.stays hb)
        clear hb
        clear HI1
        have HDl := HD.out.lt
        obtain ⟨⟨HD0, HD1, HD2⟩, HDz⟩ := HD.out.three16
        go_upto_region 9 with (fail)
        clear HD0 HD1 HD2 HDz HDl
        obtain ⟨X8, hX⟩ : ∃ X, X = ((w7.setCell ⟨w4.heap.size, 0, none⟩ (.slice a2 z2 c2)).setCell ⟨w4.heap.size, 1, none⟩ (.bool false)).setCell ⟨w4.heap.size, 2, none⟩ (.int .i64 (-1)) := ⟨_, rfl⟩
        have hX2 : X8 = putB w7 (w4.heap.size) (.slice a2 z2 c2) (.bool false) (.int .i64 (-1)) := hX
        rw [← hX]
        replace HB : Hid (Below w0.heap.size w0 X8) := Lib.hid (by rw [hX2]; exact below_put16 HB.out HLE.out)
        have h9 := dfs_put16 (x := .slice a2 z2 c2) (y := .bool false) (z := .int .i64 (-1)) HD.out HI2.out
        rw [← hX2] at h9
        replace HI2 := Lib.hid h9
        clear h9
        have h9 := HD.out.put16 (x := .slice a2 z2 c2) (y := .bool false) (z := .int .i64 (-1))
        rw [← hX2] at h9
        replace HD := Lib.hid h9
        clear h9 hX2
        clear hX
        have m1 := HM2.out; have m3 := HQ3.out.2
        have HDl := HD.out.lt
        obtain ⟨⟨HD0, HD1, HD2⟩, HDz⟩ := HD.out.three16
        go_wp2_with fail
        clear HD0 HD1 HD2 HDz HDl
        obtain ⟨X9, hX⟩ : ∃ X, X = X8.setCell ⟨w4.heap.size, 2, none⟩ (.int .i64 (r : Int)) := ⟨_, rfl⟩
        rw [← hX]
        replace HB : Hid (Below w0.heap.size w0 X9) := Lib.hid (by rw [hX]; exact below_fuse16 HB.out HLE.out)
        have h9 := dfs_set16 (i := 2) (u := .int .i64 (r : Int)) HD.out HI2.out
        rw [← hX] at h9
        replace HI2 := Lib.hid h9
        clear h9
        have h9 := HD.out.fuse16 (z := .int .i64 (r : Int))
        rw [← hX] at h9
        replace HD := Lib.hid h9
        clear h9 hX
        clear m1 m3
        have C := HTR.out X9 HB.out ⟨fsR, false, (r : Int)⟩ (.slice a2 z2 c2) HI2.out HFRR.out
        rw [← HR2.out] at C
        unfold dskV at C
        try dsimp only [dW0, nLOG] at C
        refine C.mono ?_
        clear C
        rintro e w10 hr
        obtain ⟨a3, z3, c3, rfl, h1, hb⟩ := hr.open_Wlc
        have HI3 := Lib.hid h1
        clear hr h1
        replace HB := Lib.hid (below_step HB.out hb)
        replace HD := Lib.hid (HD.out.step hb)
        replace HI2 := Lib.hid (HI2.out.stays hb)
        clear hb
        try dsimp only at HI3 ⊢
        clear HI2
        by_cases he : e2 = 0
        · subst he
          have hfs2 := HTF.out.1 rfl
          try dsimp only at hfs2
          subst hfs2
          have HDl := HD.out.lt
          obtain ⟨⟨HD0, HD1, HD2⟩, HDz⟩ := HD.out.three16
          go_wp2_with fail
          clear HD0 HD1 HD2 HDz HDl
          obtain ⟨X11, hX⟩ : ∃ X, X = ((w10.setCell ⟨w4.heap.size, 0, none⟩ (.slice a3 z3 c3)).setCell ⟨w4.heap.size, 1, none⟩ (.bool o2)).setCell ⟨w4.heap.size, 2, none⟩ (.int .i64 u2) := ⟨_, rfl⟩
          have hX2 : X11 = putB w10 (w4.heap.size) (.slice a3 z3 c3) (.bool o2) (.int .i64 u2) := hX
          rw [← hX]
          replace HB : Hid (Below w0.heap.size w0 X11) := Lib.hid (by rw [hX2]; exact below_put16 HB.out HLE.out)
          have h9 := dfs_put16 (x := .slice a3 z3 c3) (y := .bool o2) (z := .int .i64 u2) HD.out HI3.out
          rw [← hX2] at h9
          replace HI3 := Lib.hid h9
          clear h9
          have h9 := HD.out.put16 (x := .slice a3 z3 c3) (y := .bool o2) (z := .int .i64 u2)
          rw [← hX2] at h9
          replace HD := Lib.hid h9
          clear h9 hX2
          clear hX
          have C := HLD.out X11 HB.out ⟨fs2, o2, u2⟩ (.slice a3 z3 c3) HI3.out HF2.out
          unfold dskV RetL16 at C
          try dsimp only at C
          rw [HTL.out] at C
          refine C.mono ?_
          clear C
          rintro e w12 ⟨b10, y10, d10, rfl, h1, hb⟩
          have HS10 := Lib.hid h1
          clear h1
          replace HB := Lib.hid (below_step HB.out hb)
          replace HD := Lib.hid (HD.out.step hb)
          replace HI3 := Lib.hid (HI3.out.stays hb)
          clear hb
          have hln0 : A.length ≤ 1000000 := by have := HLL.out; omega
          go_wp2_with (at_builtin; refine wpList_append_all (W := w12) rfl _ _ rfl (M := []) (World.ownsRow_made _ #[] 0 (Nat.le_refl _) (by decide) rfl) ((Below.refl _ _).alloc (Nat.le_refl _) _) (IsStrs.stays (Ha.out.stays HB.out) ((Below.refl _ _).alloc (Nat.le_refl _) (.cells #[] 9))) rfl rfl (by simp; omega) ?_)
          intro va1 wa1 ha1 ba1
          have HA1 := Lib.hid ha1
          clear ha1 hln0
          have hbs := (Hb.out.stays HB.out).stays ba1
          have hln : (txts A).length + B.length ≤ 1000000 := by have := HLL.out; rw [txts_len]; omega
          go_wp2_with (at_builtin; refine wpList_append_all rfl _ _ rfl HA1.out ba1 hbs rfl rfl hln ?_)
          intro va2 wa2 ha2 hb
          have HALL := Lib.hid ha2.strs
          clear ha2 HA1 ba1 hbs hln
          replace HB := Lib.hid (below_step HB.out hb)
          replace HD := Lib.hid (HD.out.step hb)
          replace HI3 := Lib.hid (HI3.out.stays hb)
          replace HS10 := Lib.hid (HS10.out.stays hb)
          clear hb
          obtain ⟨_, la, lc, hu, _, _⟩ := id HALL.out
          obtain ⟨lz, hlz⟩ : ∃ z, z = (strsOf (txts A ++ txts B)).length := ⟨_, rfl⟩
          rw [← hlz] at hu
          subst hu
          clear hlz
          rcases HOR.out with hR | ⟨hR, hE⟩
          · rw [hR] at HS10
            go_wp2_with fail
            have C := Same_eq (.slice b10 y10 d10) (.slice la lz lc) (strsOf (txts A ++ txts B)) wa2 HS10.out HALL.out
            refine C.mono ?_
            clear C
            rintro e w13 ⟨rfl, hb⟩
            replace HB := Lib.hid (below_step HB.out hb)
            replace HD := Lib.hid (HD.out.step hb)
            replace HI3 := Lib.hid (HI3.out.stays hb)
            replace HS10 := Lib.hid (HS10.out.stays hb)
            replace HALL := Lib.hid (HALL.out.stays hb)
            clear hb
            clear hR
            go_wp2_with fail
            refine (CA.out _ HB.out).mono ?_
            rintro e w9 ⟨rfl, hb⟩
            replace HB := Lib.hid (below_step HB.out hb)
            clear hb
            go_wp2_with fail
            go_ret
            exact ⟨rfl, HB.out⟩
          · rw [hR] at HS10
            have g1 : (e1 == 0) = false := by simpa using hE
            have g1p : ¬ e1 = 0 := by simpa using g1
            have g1b : (e1 != 0) = true := by simp [bne, g1]
            have g1d : decide (e1 = 0) = false := decide_eq_false g1p
            clear hR hE
            go_wp2_with fail
            have C := Same_any16 (.slice b10 y10 d10) (.slice la lz lc) (strsOf (txts A)) (strsOf (txts A ++ txts B)) wa2 HS10.out HALL.out
            refine C.mono ?_
            clear C
            rintro e w13 ⟨sb, rfl, hb⟩
            replace HB := Lib.hid (below_step HB.out hb)
            replace HD := Lib.hid (HD.out.step hb)
            replace HI3 := Lib.hid (HI3.out.stays hb)
            replace HS10 := Lib.hid (HS10.out.stays hb)
            replace HALL := Lib.hid (HALL.out.stays hb)
            clear hb
            cases sb with
            | true =>
              go_wp2_with fail
              refine (CA.out _ HB.out).mono ?_
              rintro e w9 ⟨rfl, hb⟩
              replace HB := Lib.hid (below_step HB.out hb)
              clear hb
              go_wp2_with fail
              go_ret
              exact ⟨rfl, HB.out⟩
            | false =>
              go_wp2_with fail
              have C := Same_eq (.slice b10 y10 d10) (.slice aa az ac) A w13 (by have h9 := HS10.out; rwa [strsOf_txts] at h9) (Ha.out.stays HB.out)
              refine C.mono ?_
              clear C
              rintro e w14 ⟨rfl, hb⟩
              replace HB := Lib.hid (below_step HB.out hb)
              replace HD := Lib.hid (HD.out.step hb)
              replace HI3 := Lib.hid (HI3.out.stays hb)
              replace HS10 := Lib.hid (HS10.out.stays hb)
              replace HALL := Lib.hid (HALL.out.stays hb)
              clear hb
              go_wp2_with fail
              refine (CA.out _ HB.out).mono ?_
              rintro e w9 ⟨rfl, hb⟩
              replace HB := Lib.hid (below_step HB.out hb)
              clear hb
              go_wp2_with fail
              go_ret
              exact ⟨rfl, HB.out⟩
        · have g2 : (e2 == 0) = false := by simpa using he
          clear he
          have HDl := HD.out.lt
          obtain ⟨⟨HD0, HD1, HD2⟩, HDz⟩ := HD.out.three16
          go_wp2_with fail
          clear HD0 HD1 HD2 HDz HDl
          obtain ⟨X11, hX⟩ : ∃ X, X = ((w10.setCell ⟨w4.heap.size, 0, none⟩ (.slice a3 z3 c3)).setCell ⟨w4.heap.size, 1, none⟩ (.bool o2)).setCell ⟨w4.heap.size, 2, none⟩ (.int .i64 u2) := ⟨_, rfl⟩
          have hX2 : X11 = putB w10 (w4.heap.size) (.slice a3 z3 c3) (.bool o2) (.int .i64 u2) := hX
          rw [← hX]
          replace HB : Hid (Below w0.heap.size w0 X11) := Lib.hid (by rw [hX2]; exact below_put16 HB.out HLE.out)
          have h9 := dfs_put16 (x := .slice a3 z3 c3) (y := .bool o2) (z := .int .i64 u2) HD.out HI3.out
          rw [← hX2] at h9
          replace HI3 := Lib.hid h9
          clear h9
          have h9 := HD.out.put16 (x := .slice a3 z3 c3) (y := .bool o2) (z := .int .i64 u2)
          rw [← hX2] at h9
          replace HD := Lib.hid h9
          clear h9 hX2
          clear hX
          have C := rCrash_any ⟨fs2, o2, u2⟩ (.slice a3 z3 c3) (.slice ka kz kc) keep X11 HI3.out (HK.out.stays HB.out) HF2.out
          unfold RetC at C
          rw [HTF.out.2] at C
          unfold dskV at C
          dsimp only at C
          refine C.mono ?_
          clear C
          rintro e w12 ⟨v4, rfl, h1, hb⟩
          obtain ⟨a4, c4, hv4⟩ := h1.len
          obtain ⟨z4, hz4⟩ : ∃ z, z = fsR.length := ⟨_, rfl⟩
          rw [← hz4] at hv4
          subst hv4
          have HI4 := Lib.hid h1
          clear h1 hz4
          replace HB := Lib.hid (below_step HB.out hb)
          replace HD := Lib.hid (HD.out.step hb)
          replace HI3 := Lib.hid (HI3.out.stays hb)
          clear hb
          clear HI3
          have HDl := HD.out.lt
          obtain ⟨⟨HD0, HD1, HD2⟩, HDz⟩ := HD.out.three16
          go_wp2_with fail
          clear HD0 HD1 HD2 HDz HDl
          obtain ⟨X13, hX⟩ : ∃ X, X = ((w12.setCell ⟨w4.heap.size, 0, none⟩ (.slice a4 z4 c4)).setCell ⟨w4.heap.size, 1, none⟩ (.bool false)).setCell ⟨w4.heap.size, 2, none⟩ (.int .i64 (-1)) := ⟨_, rfl⟩
          have hX2 : X13 = putB w12 (w4.heap.size) (.slice a4 z4 c4) (.bool false) (.int .i64 (-1)) := hX
          rw [← hX]
          replace HB : Hid (Below w0.heap.size w0 X13) := Lib.hid (by rw [hX2]; exact below_put16 HB.out HLE.out)
          have h9 := dfs_put16 (x := .slice a4 z4 c4) (y := .bool false) (z := .int .i64 (-1)) HD.out HI4.out
          rw [← hX2] at h9
          replace HI4 := Lib.hid h9
          clear h9
          have h9 := HD.out.put16 (x := .slice a4 z4 c4) (y := .bool false) (z := .int .i64 (-1))
          rw [← hX2] at h9
          replace HD := Lib.hid h9
          clear h9 hX2
          clear hX
          have C := HTR.out X13 HB.out ⟨fsR, false, -1⟩ (.slice a4 z4 c4) HI4.out HFR.out
          rw [HTU.out] at C
          unfold dskV at C
          try dsimp only [dW0, nLOG] at C
          refine C.mono ?_
          clear C
          rintro e w14 hr
          obtain ⟨a5, z5, c5, rfl, h1, hb⟩ := hr.open_Wlc
          have HI5 := Lib.hid h1
          clear hr h1
          replace HB := Lib.hid (below_step HB.out hb)
          replace HD := Lib.hid (HD.out.step hb)
          replace HI4 := Lib.hid (HI4.out.stays hb)
          clear hb
          try dsimp only at HI5 ⊢
          clear HI4
          have HDl := HD.out.lt
          obtain ⟨⟨HD0, HD1, HD2⟩, HDz⟩ := HD.out.three16
          go_wp2_with fail
          clear HD0 HD1 HD2 HDz HDl
          obtain ⟨X15, hX⟩ : ∃ X, X = ((w14.setCell ⟨w4.heap.size, 0, none⟩ (.slice a5 z5 c5)).setCell ⟨w4.heap.size, 1, none⟩ (.bool false)).setCell ⟨w4.heap.size, 2, none⟩ (.int .i64 (-1)) := ⟨_, rfl⟩
          have hX2 : X15 = putB w14 (w4.heap.size) (.slice a5 z5 c5) (.bool false) (.int .i64 (-1)) := hX
          rw [← hX]
          replace HB : Hid (Below w0.heap.size w0 X15) := Lib.hid (by rw [hX2]; exact below_put16 HB.out HLE.out)
          have h9 := dfs_put16 (x := .slice a5 z5 c5) (y := .bool false) (z := .int .i64 (-1)) HD.out HI5.out
          rw [← hX2] at h9
          replace HI5 := Lib.hid h9
          clear h9
          have h9 := HD.out.put16 (x := .slice a5 z5 c5) (y := .bool false) (z := .int .i64 (-1))
          rw [← hX2] at h9
          replace HD := Lib.hid h9
          clear h9 hX2
          clear hX
          have C := HLD.out X15 HB.out ⟨fsR, false, (-1)⟩ (.slice a5 z5 c5) HI5.out HFR.out
          unfold dskV RetL16 at C
          try dsimp only at C
          rw [HTL.out] at C
          refine C.mono ?_
          clear C
          rintro e w16 ⟨b10, y10, d10, rfl, h1, hb⟩
          have HS10 := Lib.hid h1
          clear h1
          replace HB := Lib.hid (below_step HB.out hb)
          replace HD := Lib.hid (HD.out.step hb)
          replace HI5 := Lib.hid (HI5.out.stays hb)
          clear hb
          have hln0 : A.length ≤ 1000000 := by have := HLL.out; omega
          go_wp2_with (at_builtin; refine wpList_append_all (W := w16) rfl _ _ rfl (M := []) (World.ownsRow_made _ #[] 0 (Nat.le_refl _) (by decide) rfl) ((Below.refl _ _).alloc (Nat.le_refl _) _) (IsStrs.stays (Ha.out.stays HB.out) ((Below.refl _ _).alloc (Nat.le_refl _) (.cells #[] 9))) rfl rfl (by simp; omega) ?_)
          intro va1 wa1 ha1 ba1
          have HA1 := Lib.hid ha1
          clear ha1 hln0
          have hbs := (Hb.out.stays HB.out).stays ba1
          have hln : (txts A).length + B.length ≤ 1000000 := by have := HLL.out; rw [txts_len]; omega
          go_wp2_with (at_builtin; refine wpList_append_all rfl _ _ rfl HA1.out ba1 hbs rfl rfl hln ?_)
          intro va2 wa2 ha2 hb
          have HALL := Lib.hid ha2.strs
          clear ha2 HA1 ba1 hbs hln
          replace HB := Lib.hid (below_step HB.out hb)
          replace HD := Lib.hid (HD.out.step hb)
          replace HI5 := Lib.hid (HI5.out.stays hb)
          replace HS10 := Lib.hid (HS10.out.stays hb)
          clear hb
          obtain ⟨_, la, lc, hu, _, _⟩ := id HALL.out
          obtain ⟨lz, hlz⟩ : ∃ z, z = (strsOf (txts A ++ txts B)).length := ⟨_, rfl⟩
          rw [← hlz] at hu
          subst hu
          clear hlz
          rcases HOR.out with hR | ⟨hR, hE⟩
          · rw [hR] at HS10
            go_wp2_with fail
            have C := Same_eq (.slice b10 y10 d10) (.slice la lz lc) (strsOf (txts A ++ txts B)) wa2 HS10.out HALL.out
            refine C.mono ?_
            clear C
            rintro e w17 ⟨rfl, hb⟩
            replace HB := Lib.hid (below_step HB.out hb)
            replace HD := Lib.hid (HD.out.step hb)
            replace HI5 := Lib.hid (HI5.out.stays hb)
            replace HS10 := Lib.hid (HS10.out.stays hb)
            replace HALL := Lib.hid (HALL.out.stays hb)
            clear hb
            clear hR
            go_wp2_with fail
            refine (CA.out _ HB.out).mono ?_
            rintro e w9 ⟨rfl, hb⟩
            replace HB := Lib.hid (below_step HB.out hb)
            clear hb
            go_wp2_with fail
            go_ret
            exact ⟨rfl, HB.out⟩
          · rw [hR] at HS10
            have g1 : (e1 == 0) = false := by simpa using hE
            have g1p : ¬ e1 = 0 := by simpa using g1
            have g1b : (e1 != 0) = true := by simp [bne, g1]
            have g1d : decide (e1 = 0) = false := decide_eq_false g1p
            clear hR hE
            go_wp2_with fail
            have C := Same_any16 (.slice b10 y10 d10) (.slice la lz lc) (strsOf (txts A)) (strsOf (txts A ++ txts B)) wa2 HS10.out HALL.out
            refine C.mono ?_
            clear C
            rintro e w17 ⟨sb, rfl, hb⟩
            replace HB := Lib.hid (below_step HB.out hb)
            replace HD := Lib.hid (HD.out.step hb)
            replace HI5 := Lib.hid (HI5.out.stays hb)
            replace HS10 := Lib.hid (HS10.out.stays hb)
            replace HALL := Lib.hid (HALL.out.stays hb)
            clear hb
            cases sb with
            | true =>
              go_wp2_with fail
              refine (CA.out _ HB.out).mono ?_
              rintro e w9 ⟨rfl, hb⟩
              replace HB := Lib.hid (below_step HB.out hb)
              clear hb
              go_wp2_with fail
              go_ret
              exact ⟨rfl, HB.out⟩
            | false =>
              go_wp2_with fail
              have C := Same_eq (.slice b10 y10 d10) (.slice aa az ac) A w17 (by have h9 := HS10.out; rwa [strsOf_txts] at h9) (Ha.out.stays HB.out)
              refine C.mono ?_
              clear C
              rintro e w18 ⟨rfl, hb⟩
              replace HB := Lib.hid (below_step HB.out hb)
              replace HD := Lib.hid (HD.out.step hb)
              replace HI5 := Lib.hid (HI5.out.stays hb)
              replace HS10 := Lib.hid (HS10.out.stays hb)
              replace HALL := Lib.hid (HALL.out.stays hb)
              clear hb
              go_wp2_with fail
              refine (CA.out _ HB.out).mono ?_
              rintro e w9 ⟨rfl, hb⟩
              replace HB := Lib.hid (below_step HB.out hb)
              clear hb
              go_wp2_with fail
              go_ret
              exact ⟨rfl, HB.out⟩
end Go.Proofs.YtalknbadakfppaaGreat

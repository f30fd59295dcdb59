/-
  WalParts as a walk over this translation, over what the log's calls are to answer. Written by wip/tools/gen_wal_laws.py.
-/
import Derived.Test.YtalknbadakfppaaGreatQa3
set_option linter.unusedVariables false
namespace Go.Proofs.YtalknbadakfppaaGreat
open Go.RowKit
attribute [local go_sem] Oper.semAt_some
set_option maxRecDepth 100000 in
set_option maxHeartbeats 32000000 in
theorem walParts_w (av bv kv : Value) (A B : List ByteArray) (keep : List Bool) (w0 : World) (ha : IsStrs w0 av A) (hb : IsStrs w0 bv B) (hk : IsBls w0 kv keep) (HAP : WalAppend16 w0) (HTR : WalTrim16 w0) (HLD : WalLoad16 w0) :
    Calls Tryz.prog 5 #[av, bv, kv] w0 fun e w' => e = .returned (.bool true) ∧ Below w0.heap.size w0 w' := by
  have CA := Lib.hid (awake16_any w0 HAP HLD)
  have HAP := Lib.hid HAP; have HTR := Lib.hid HTR; have HLD := Lib.hid HLD
  have Ha := Lib.hid ha
  obtain ⟨_, aa, ac, hu, _, _⟩ := id ha
  obtain ⟨az, hz⟩ : ∃ z, z = A.length := ⟨_, rfl⟩
  rw [← hz] at hu
  subst hu
  have HaZ := Lib.hid hz
  clear ha hz
  have Hb := Lib.hid hb
  obtain ⟨_, ba, bc, hu, _, _⟩ := id hb
  obtain ⟨bz, hz⟩ : ∃ z, z = B.length := ⟨_, rfl⟩
  rw [← hz] at hu
  subst hu
  have HbZ := Lib.hid hz
  clear hb hz
  have HK := Lib.hid hk
  obtain ⟨_, ka, kc, hu, _, _⟩ := id hk
  obtain ⟨kz, hz⟩ : ∃ z, z = keep.length := ⟨_, rfl⟩
  rw [← hz] at hu
  subst hu
  clear hk hz
  have HB := Lib.hid (Below.refl w0.heap.size w0)
  go_enter Tryz.func5, Tryz.ntmps5
  go_wp2_with fail
  have C := light16_any (.slice aa az ac) A w0 (Ha.out.stays HB.out)
  refine C.mono ?_
  clear C
  rintro e w2 ⟨rfl, hb⟩
  replace HB := Lib.hid (below_step HB.out hb)
  clear hb
  cases hli : lightB A with
  | false =>
    clear hli
    go_wp2_with fail
    refine (CA.out _ HB.out).mono ?_
    rintro e w9 ⟨rfl, hb⟩
    replace HB := Lib.hid (below_step HB.out hb)
    clear hb
    go_wp2_with fail
    go_ret
    exact ⟨rfl, HB.out⟩
  | true =>
    have HLa := Lib.hid (lightB_iff.1 hli)
    clear hli
    go_wp2_with fail
    have C := light16_any (.slice ba bz bc) B w2 (Hb.out.stays HB.out)
    refine C.mono ?_
    clear C
    rintro e w3 ⟨rfl, hb⟩
    replace HB := Lib.hid (below_step HB.out hb)
    clear hb
    cases hli : lightB B with
    | false =>
      clear hli
      go_wp2_with fail
      refine (CA.out _ HB.out).mono ?_
      rintro e w9 ⟨rfl, hb⟩
      replace HB := Lib.hid (below_step HB.out hb)
      clear hb
      go_wp2_with fail
      go_ret
      exact ⟨rfl, HB.out⟩
    | true =>
      have HLb := Lib.hid (lightB_iff.1 hli)
      clear hli
      by_cases hcc : 300 < kz
      · have d1 : decide ((300 : Int) < (kz : Int)) = true := decide_eq_true (by omega)
        clear hcc
        go_wp2_with fail
        refine (CA.out _ HB.out).mono ?_
        rintro e w9 ⟨rfl, hb⟩
        replace HB := Lib.hid (below_step HB.out hb)
        clear hb
        go_wp2_with fail
        go_ret
        exact ⟨rfl, HB.out⟩
      · have d1 : decide ((300 : Int) < (kz : Int)) = false := decide_eq_false (by omega)
        have HCd1 : Hid (kz ≤ 300) := Lib.hid (by omega)
        clear hcc
        have hm := append_W0 HLa.out.light (by decide)
        obtain ⟨na, hna⟩ : ∃ b, b = !(txts A).isEmpty := ⟨_, rfl⟩
        rw [← hna] at hm
        have hna0 : na = false → txts A = [] := fun h => isEmpty_no (by rw [← hna]; exact h)
        have hm2 := append_un (R := txts A) (L := txts B) (b := na) hna0 HLa.out.light HLb.out.light (by decide) (by decide)
        obtain ⟨nc, hnc⟩ : ∃ b, b = (na || !(txts B).isEmpty) := ⟨_, rfl⟩
        rw [← hnc] at hm2
        have hnc0 : nc = false → txts A ++ txts B = [] := fun h => by
          rw [h] at hnc
          have h1 := Bool.or_eq_false_iff.1 hnc.symm
          rw [hna0 h1.1, isEmpty_no h1.2]; rfl
        have hlab := HLa.out.light.app HLb.out.light
        have hm3 := append_W0 hlab (by decide)
        obtain ⟨nd, hnd⟩ : ∃ b, b = !(txts A ++ txts B).isEmpty := ⟨_, rfl⟩
        rw [← hnd] at hm3
        have hnd0 : nd = false → txts A ++ txts B = [] := fun h => isEmpty_no (by rw [← hnd]; exact h)
        have HT2 := Lib.hid (load_logF hnc0 hlab false (-1))
        have HT3 := Lib.hid (load_logF hnd0 hlab false (-1))
        have HCR := Lib.hid (crash_logF (wraps (txts A ++ txts B)) nc false (-1) keep)
        have HF1 : Hid (FitD nameB ⟨logF (wraps (txts A)) [] na, false, -1⟩) := Lib.hid (by have h9 := appendD_fit fitW0 (txts A); rwa [hm] at h9)
        have HF2 : Hid (FitD nameB ⟨logF (wraps (txts A ++ txts B)) [] nc, false, -1⟩) := Lib.hid (by have h9 := appendD_fit HF1.out (txts B); rwa [hm2] at h9)
        have HF3 : Hid (FitD nameB ⟨logF (wraps (txts A ++ txts B)) [] nd, false, -1⟩) := Lib.hid (by have h9 := appendD_fit fitW0 (txts A ++ txts B); rwa [hm3] at h9)
        obtain ⟨AB, hAB⟩ : ∃ L, L = txts A ++ txts B := ⟨_, rfl⟩
        rw [← hAB] at HT2 HT3 HCR HF2 HF3 hm2 hm3
        obtain ⟨fs1, hfs1⟩ : ∃ f, f = logF (wraps (txts A)) [] na := ⟨_, rfl⟩
        obtain ⟨fs2, hfs2⟩ : ∃ f, f = logF (wraps AB) [] nc := ⟨_, rfl⟩
        obtain ⟨fs3, hfs3⟩ : ∃ f, f = logF (wraps AB) [] nd := ⟨_, rfl⟩
        rw [← hfs1] at hm hm2 HF1
        rw [← hfs2] at hm2 HT2 HCR HF2
        rw [← hfs3] at hm3 HT3 HF3
        have HM1 := Lib.hid hm; have HM2 := Lib.hid hm2; have HM3 := Lib.hid hm3; have HAB := Lib.hid hAB
        have HABL : Hid ((strsOf AB).length ≤ 40) := Lib.hid (by rw [strsOf_len, hAB, List.length_append, txts_len, txts_len]; have := HLa.out.2; have := HLb.out.2; omega)
        have HABS : Hid (∀ x ∈ strsOf AB, x.size ≤ 300) := Lib.hid (fun x hx => by
          rw [hAB, strsOf_app, strsOf_txts, strsOf_txts] at hx
          rcases List.mem_append.1 hx with hx | hx
          · exact HLa.out.1 x hx
          · exact HLb.out.1 x hx)
        have HLL : Hid (A.length + B.length ≤ 40) := Lib.hid (by have := HLa.out.2; have := HLb.out.2; omega)
        have HAT : Hid (txts (strsOf AB) = AB) := Lib.hid (txts_strsOf AB)
        clear hm hm2 hm3 hna hna0 hnc hnc0 hnd hnd0 hlab hAB hfs1 hfs2 hfs3
        have HLED : Hid (w0.heap.size ≤ w3.heap.size) := Lib.hid HB.out.size
        go_wp2_with fail
        obtain ⟨X3, hX⟩ : ∃ X, X = w3.alloc (.cells #[.slice none 0 0, .bool false, .int .i64 (-1)] 28) := ⟨_, rfl⟩
        have hb : Below w3.heap.size w3 X3 := by rw [hX]; exact (Below.refl _ _).alloc (Nat.le_refl _) _
        have HD : Hid (Row X3 w3.heap.size #[.slice none 0 0, .bool false, .int .i64 (-1)] 28) := by rw [hX]; exact Lib.hid (Row.made _ _ _)
        rw [← hX]
        replace HB := Lib.hid (below_step HB.out hb)
        clear hb hX
        have C := HAP.out X3 HB.out dW0 (.slice none 0 0) (.slice aa az ac) A (dfs_nil _) (Ha.out.stays HB.out) fitW0 (Nat.le_trans HLa.out.2 (by decide)) HLa.out.1
        rw [HM1.out] at C
        unfold dskV at C
        try dsimp only [dW0, nLOG] at C
        refine C.mono ?_
        clear C
        rintro e w4 hr
        obtain ⟨a1, z1, c1, rfl, h1, hb⟩ := hr.open_Wlc
        have HI1 := Lib.hid h1
        clear hr h1
        replace HB := Lib.hid (below_step HB.out hb)
        replace HD := Lib.hid (HD.out.step hb)
        clear hb
        try dsimp only at HI1 ⊢
        have HNE := Lib.hid (Nat.ne_of_lt HD.out.lt)
        have HLEX : Hid (w0.heap.size ≤ w4.heap.size) := Lib.hid HB.out.size
        go_wp2_with fail
        obtain ⟨X4, hX⟩ : ∃ X, X = w4.alloc (.cells #[.slice a1 z1 c1, .bool false, .int .i64 (-1)] 28) := ⟨_, rfl⟩
        have hb : Below w4.heap.size w4 X4 := by rw [hX]; exact (Below.refl _ _).alloc (Nat.le_refl _) _
        have HX : Hid (Row X4 w4.heap.size #[.slice a1 z1 c1, .bool false, .int .i64 (-1)] 28) := by rw [hX]; exact Lib.hid (Row.made _ _ _)
        rw [← hX]
        replace HB := Lib.hid (below_step HB.out hb)
        replace HD := Lib.hid (HD.out.step hb)
        replace HI1 := Lib.hid (HI1.out.stays hb)
        clear hb hX
        have C := HAP.out X4 HB.out ⟨fs1, false, -1⟩ (.slice a1 z1 c1) (.slice ba bz bc) B HI1.out (Hb.out.stays HB.out) HF1.out (Nat.le_trans HLb.out.2 (by decide)) HLb.out.1
        rw [HM2.out] at C
        unfold dskV at C
        try dsimp only [dW0, nLOG] at C
        refine C.mono ?_
        clear C
        rintro e w5 hr
        obtain ⟨a2, z2, c2, rfl, h1, hb⟩ := hr.open_Wlc
        have HI2 := Lib.hid h1
        clear hr h1
        replace HB := Lib.hid (below_step HB.out hb)
        replace HD := Lib.hid (HD.out.step hb)
        replace HI1 := Lib.hid (HI1.out.stays hb)
        replace HX := Lib.hid (HX.out.step hb)
        clear hb
        try dsimp only at HI2 ⊢
        have HXl := HX.out.lt
        obtain ⟨⟨HX0, HX1, HX2⟩, HXz⟩ := HX.out.three16
        have HXO := HX
        obtain ⟨X6, hX⟩ : ∃ X, X = ((w5.setCell ⟨w4.heap.size, 0, none⟩ (.slice a2 z2 c2)).setCell ⟨w4.heap.size, 1, none⟩ (.bool false)).setCell ⟨w4.heap.size, 2, none⟩ (.int .i64 (-1)) := ⟨_, rfl⟩
        have hX2 : X6 = putB w5 (w4.heap.size) (.slice a2 z2 c2) (.bool false) (.int .i64 (-1)) := hX
        replace HB : Hid (Below w0.heap.size w0 X6) := Lib.hid (by rw [hX2]; exact below_put16 HB.out HLEX.out)
        have h9 := HD.out.put16_other (x := .slice a2 z2 c2) (y := .bool false) (z := .int .i64 (-1)) (HNE.out)
        rw [← hX2] at h9
        replace HD := Lib.hid h9
        clear h9
        have h9 := dfs_put16 (x := .slice a2 z2 c2) (y := .bool false) (z := .int .i64 (-1)) HX.out HI1.out
        rw [← hX2] at h9
        replace HI1 := Lib.hid h9
        clear h9
        have h9 := dfs_put16 (x := .slice a2 z2 c2) (y := .bool false) (z := .int .i64 (-1)) HX.out HI2.out
        rw [← hX2] at h9
        replace HI2 := Lib.hid h9
        clear h9
        have h9 := HX.out.put16 (x := .slice a2 z2 c2) (y := .bool false) (z := .int .i64 (-1))
        rw [← hX2] at h9
        replace HX := Lib.hid h9
        clear h9 hX2
        subst hX
        obtain ⟨⟨hx0, hx1, hx2⟩, hxz⟩ := (show Row w5 w4.heap.size #[.slice a1 z1 c1, .bool false, .int .i64 (-1)] 28 from HXO.out).three16
        have HOW : Hid (OwnTxt (((w5.setCell ⟨w4.heap.size, 0, none⟩ (.slice a2 z2 c2)).setCell ⟨w4.heap.size, 1, none⟩ (.bool false)).setCell ⟨w4.heap.size, 2, none⟩ (.int .i64 (-1))) ((((w5.setCell ⟨w4.heap.size, 0, none⟩ (.slice a2 z2 c2)).setCell ⟨w4.heap.size, 1, none⟩ (.bool false)).setCell ⟨w4.heap.size, 2, none⟩ (.int .i64 (-1))).alloc (.cells #[] 9)) (.slice (some ⟨w5.heap.size, 0, none⟩) 0 0) []) := Lib.hid (by
          have h9 : OwnTxt (((w5.setCell ⟨w4.heap.size, 0, none⟩ (.slice a2 z2 c2)).setCell ⟨w4.heap.size, 1, none⟩ (.bool false)).setCell ⟨w4.heap.size, 2, none⟩ (.int .i64 (-1))) ((((w5.setCell ⟨w4.heap.size, 0, none⟩ (.slice a2 z2 c2)).setCell ⟨w4.heap.size, 1, none⟩ (.bool false)).setCell ⟨w4.heap.size, 2, none⟩ (.int .i64 (-1))).alloc (.cells #[] 9)) (.slice (some ⟨(((w5.setCell ⟨w4.heap.size, 0, none⟩ (.slice a2 z2 c2)).setCell ⟨w4.heap.size, 1, none⟩ (.bool false)).setCell ⟨w4.heap.size, 2, none⟩ (.int .i64 (-1))).heap.size, 0, none⟩) 0 0) [] := World.ownsRow_made _ #[] 0 (Nat.le_refl _) (by decide) rfl
          have e9 : (((w5.setCell ⟨w4.heap.size, 0, none⟩ (.slice a2 z2 c2)).setCell ⟨w4.heap.size, 1, none⟩ (.bool false)).setCell ⟨w4.heap.size, 2, none⟩ (.int .i64 (-1))).heap.size = w5.heap.size := by simp
          rwa [e9] at h9)
        go_wp2_with (at_builtin; refine wpList_append_all (W := ((w5.setCell ⟨w4.heap.size, 0, none⟩ (.slice a2 z2 c2)).setCell ⟨w4.heap.size, 1, none⟩ (.bool false)).setCell ⟨w4.heap.size, 2, none⟩ (.int .i64 (-1))) rfl _ _ rfl (M := []) HOW.out ((Below.refl _ _).alloc (Nat.le_refl _) _) (IsStrs.stays (Ha.out.stays HB.out) ((Below.refl _ _).alloc (Nat.le_refl _) (.cells #[] 9))) rfl rfl (by have := HLL.out; simp; omega) ?_)
        intro va1 wa1 ha1 ba1
        obtain ⟨NW, hNW⟩ : ∃ W, W = ((w5.setCell ⟨w4.heap.size, 0, none⟩ (.slice a2 z2 c2)).setCell ⟨w4.heap.size, 1, none⟩ (.bool false)).setCell ⟨w4.heap.size, 2, none⟩ (.int .i64 (-1)) := ⟨_, rfl⟩
        rw [← hNW] at ha1 HB HD HI1 HX HI2
        have e9 : NW.heap.size = w5.heap.size := by rw [hNW]; simp
        rw [← e9, ← hNW] at ba1
        clear e9 HOW hNW hx0 hx1 hx2 hxz HXO
        have HA1 := Lib.hid ha1
        clear ha1
        have hbs := (Hb.out.stays HB.out).stays ba1
        have hln : (txts A).length + B.length ≤ 1000000 := by have := HLL.out; rw [txts_len]; omega
        go_wp2_with (at_builtin; refine wpList_append_all rfl _ _ rfl HA1.out ba1 hbs rfl rfl hln ?_)
        intro va2 wa2 ha2 hb
        rw [← HAB.out] at ha2
        have HALL := Lib.hid ha2.strs
        clear ha2 HA1 ba1 hbs hln
        replace HB := Lib.hid (below_step HB.out hb)
        replace HD := Lib.hid (HD.out.step hb)
        replace HI1 := Lib.hid (HI1.out.stays hb)
        replace HX := Lib.hid (HX.out.step hb)
        replace HI2 := Lib.hid (HI2.out.stays hb)
        clear hb
        obtain ⟨_, la, lc, hu, _, _⟩ := id HALL.out
        obtain ⟨lz, hlz⟩ : ∃ z, z = (strsOf AB).length := ⟨_, rfl⟩
        rw [← hlz] at hu
        subst hu
        clear hlz
        have HDl := HD.out.lt
        obtain ⟨⟨HD0, HD1, HD2⟩, HDz⟩ := HD.out.three16
        go_wp2_with fail
        clear HD0 HD1 HD2 HDz HDl
        have C := HAP.out wa2 HB.out dW0 (.slice none 0 0) (.slice la lz lc) (strsOf AB) (dfs_nil _) HALL.out fitW0 HABL.out HABS.out
        rw [HAT.out, HM3.out] at C
        unfold dskV at C
        try dsimp only [dW0, nLOG] at C
        refine C.mono ?_
        clear C
        rintro e w7 hr
        obtain ⟨a3, z3, c3, rfl, h1, hb⟩ := hr.open_Wlc
        have HI3 := Lib.hid h1
        clear hr h1
        replace HB := Lib.hid (below_step HB.out hb)
        replace HD := Lib.hid (HD.out.step hb)
        replace HI1 := Lib.hid (HI1.out.stays hb)
        replace HX := Lib.hid (HX.out.step hb)
        replace HI2 := Lib.hid (HI2.out.stays hb)
        replace HALL := Lib.hid (HALL.out.stays hb)
        clear hb
        try dsimp only at HI3 ⊢
        have HXl := HX.out.lt
        obtain ⟨⟨HX0, HX1, HX2⟩, HXz⟩ := HX.out.three16
        go_wp2_with fail
        clear HX0 HX1 HX2 HXz HXl
        obtain ⟨X7, hX⟩ : ∃ X, X = w7.alloc (.cells #[.slice a3 z3 c3, .bool false, .int .i64 (-1)] 28) := ⟨_, rfl⟩
        have hb : Below w7.heap.size w7 X7 := by rw [hX]; exact (Below.refl _ _).alloc (Nat.le_refl _) _
        have HY : Hid (Row X7 w7.heap.size #[.slice a3 z3 c3, .bool false, .int .i64 (-1)] 28) := by rw [hX]; exact Lib.hid (Row.made _ _ _)
        rw [← hX]
        replace HB := Lib.hid (below_step HB.out hb)
        replace HD := Lib.hid (HD.out.step hb)
        replace HI1 := Lib.hid (HI1.out.stays hb)
        replace HX := Lib.hid (HX.out.step hb)
        replace HI2 := Lib.hid (HI2.out.stays hb)
        replace HALL := Lib.hid (HALL.out.stays hb)
        replace HI3 := Lib.hid (HI3.out.stays hb)
        clear hb hX
        have C := rCrash_any ⟨fs2, false, -1⟩ (.slice a2 z2 c2) (.slice ka kz kc) keep X7 HI2.out (HK.out.stays HB.out) HF2.out
        unfold RetC at C
        rw [HCR.out] at C
        unfold dskV at C
        dsimp only at C
        refine C.mono ?_
        clear C
        rintro e w8 ⟨v4, rfl, h1, hb⟩
        obtain ⟨a4, c4, hv4⟩ := h1.len
        obtain ⟨z4, hz4⟩ : ∃ z, z = fs2.length := ⟨_, rfl⟩
        rw [← hz4] at hv4
        subst hv4
        have HI4 := Lib.hid h1
        clear h1 hz4
        replace HB := Lib.hid (below_step HB.out hb)
        replace HD := Lib.hid (HD.out.step hb)
        replace HI1 := Lib.hid (HI1.out.stays hb)
        replace HX := Lib.hid (HX.out.step hb)
        replace HI2 := Lib.hid (HI2.out.stays hb)
        replace HALL := Lib.hid (HALL.out.stays hb)
        replace HI3 := Lib.hid (HI3.out.stays hb)
        replace HY := Lib.hid (HY.out.step hb)
        clear hb
        have HXl := HX.out.lt
        obtain ⟨⟨HX0, HX1, HX2⟩, HXz⟩ := HX.out.three16
        go_wp2_with fail
        clear HX0 HX1 HX2 HXz HXl
        obtain ⟨X8, hX⟩ : ∃ X, X = w8.alloc (.cells #[.slice a4 z4 c4, .bool false, .int .i64 (-1)] 28) := ⟨_, rfl⟩
        have hb : Below w8.heap.size w8 X8 := by rw [hX]; exact (Below.refl _ _).alloc (Nat.le_refl _) _
        have HZ : Hid (Row X8 w8.heap.size #[.slice a4 z4 c4, .bool false, .int .i64 (-1)] 28) := by rw [hX]; exact Lib.hid (Row.made _ _ _)
        rw [← hX]
        replace HB := Lib.hid (below_step HB.out hb)
        replace HD := Lib.hid (HD.out.step hb)
        replace HI1 := Lib.hid (HI1.out.stays hb)
        replace HX := Lib.hid (HX.out.step hb)
        replace HI2 := Lib.hid (HI2.out.stays hb)
        replace HALL := Lib.hid (HALL.out.stays hb)
        replace HI3 := Lib.hid (HI3.out.stays hb)
        replace HY := Lib.hid (HY.out.step hb)
        replace HI4 := Lib.hid (HI4.out.stays hb)
        clear hb hX
        have C := HLD.out X8 HB.out ⟨fs2, false, -1⟩ (.slice a2 z2 c2) HI2.out HF2.out
        unfold dskV RetL16 at C
        try dsimp only at C
        rw [HT2.out] at C
        refine C.mono ?_
        clear C
        rintro e w9 ⟨b10, y10, d10, rfl, h1, hb⟩
        have HS10 := Lib.hid h1
        clear h1
        replace HB := Lib.hid (below_step HB.out hb)
        replace HD := Lib.hid (HD.out.step hb)
        replace HI1 := Lib.hid (HI1.out.stays hb)
        replace HX := Lib.hid (HX.out.step hb)
        replace HI2 := Lib.hid (HI2.out.stays hb)
        replace HALL := Lib.hid (HALL.out.stays hb)
        replace HI3 := Lib.hid (HI3.out.stays hb)
        replace HY := Lib.hid (HY.out.step hb)
        replace HI4 := Lib.hid (HI4.out.stays hb)
        replace HZ := Lib.hid (HZ.out.step hb)
        clear hb
        go_wp2_with fail
        have C := Same_eq (.slice b10 y10 d10) (.slice la lz lc) (strsOf AB) w9 HS10.out HALL.out
        refine C.mono ?_
        clear C
        rintro e w10 ⟨rfl, hb⟩
        replace HB := Lib.hid (below_step HB.out hb)
        replace HD := Lib.hid (HD.out.step hb)
        replace HI1 := Lib.hid (HI1.out.stays hb)
        replace HX := Lib.hid (HX.out.step hb)
        replace HI2 := Lib.hid (HI2.out.stays hb)
        replace HALL := Lib.hid (HALL.out.stays hb)
        replace HI3 := Lib.hid (HI3.out.stays hb)
        replace HY := Lib.hid (HY.out.step hb)
        replace HI4 := Lib.hid (HI4.out.stays hb)
        replace HZ := Lib.hid (HZ.out.step hb)
        replace HS10 := Lib.hid (HS10.out.stays hb)
        clear hb
        have HYl := HY.out.lt
        obtain ⟨⟨HY0, HY1, HY2⟩, HYz⟩ := HY.out.three16
        go_wp2_with fail
        clear HY0 HY1 HY2 HYz HYl
        have C := HLD.out w10 HB.out ⟨fs3, false, -1⟩ (.slice a3 z3 c3) HI3.out HF3.out
        unfold dskV RetL16 at C
        try dsimp only at C
        rw [HT3.out] at C
        refine C.mono ?_
        clear C
        rintro e w11 ⟨b11, y11, d11, rfl, h1, hb⟩
        have HS11 := Lib.hid h1
        clear h1
        replace HB := Lib.hid (below_step HB.out hb)
        replace HD := Lib.hid (HD.out.step hb)
        replace HI1 := Lib.hid (HI1.out.stays hb)
        replace HX := Lib.hid (HX.out.step hb)
        replace HI2 := Lib.hid (HI2.out.stays hb)
        replace HALL := Lib.hid (HALL.out.stays hb)
        replace HI3 := Lib.hid (HI3.out.stays hb)
        replace HY := Lib.hid (HY.out.step hb)
        replace HI4 := Lib.hid (HI4.out.stays hb)
        replace HZ := Lib.hid (HZ.out.step hb)
        replace HS10 := Lib.hid (HS10.out.stays hb)
        clear hb
        go_wp2_with fail
        have C := Same_eq (.slice b11 y11 d11) (.slice la lz lc) (strsOf AB) w11 HS11.out HALL.out
        refine C.mono ?_
        clear C
        rintro e w12 ⟨rfl, hb⟩
        replace HB := Lib.hid (below_step HB.out hb)
        replace HD := Lib.hid (HD.out.step hb)
        replace HI1 := Lib.hid (HI1.out.stays hb)
        replace HX := Lib.hid (HX.out.step hb)
        replace HI2 := Lib.hid (HI2.out.stays hb)
        replace HALL := Lib.hid (HALL.out.stays hb)
        replace HI3 := Lib.hid (HI3.out.stays hb)
        replace HY := Lib.hid (HY.out.step hb)
        replace HI4 := Lib.hid (HI4.out.stays hb)
        replace HZ := Lib.hid (HZ.out.step hb)
        replace HS10 := Lib.hid (HS10.out.stays hb)
        replace HS11 := Lib.hid (HS11.out.stays hb)
        clear hb
        have HZl := HZ.out.lt
        obtain ⟨⟨HZ0, HZ1, HZ2⟩, HZz⟩ := HZ.out.three16
        go_wp2_with fail
        clear HZ0 HZ1 HZ2 HZz HZl
        have C := HLD.out w12 HB.out ⟨fs2, false, -1⟩ (.slice a4 z4 c4) HI4.out HF2.out
        unfold dskV RetL16 at C
        try dsimp only at C
        rw [HT2.out] at C
        refine C.mono ?_
        clear C
        rintro e w13 ⟨b12, y12, d12, rfl, h1, hb⟩
        have HS12 := Lib.hid h1
        clear h1
        replace HB := Lib.hid (below_step HB.out hb)
        replace HD := Lib.hid (HD.out.step hb)
        replace HI1 := Lib.hid (HI1.out.stays hb)
        replace HX := Lib.hid (HX.out.step hb)
        replace HI2 := Lib.hid (HI2.out.stays hb)
        replace HALL := Lib.hid (HALL.out.stays hb)
        replace HI3 := Lib.hid (HI3.out.stays hb)
        replace HY := Lib.hid (HY.out.step hb)
        replace HI4 := Lib.hid (HI4.out.stays hb)
        replace HZ := Lib.hid (HZ.out.step hb)
        replace HS10 := Lib.hid (HS10.out.stays hb)
        replace HS11 := Lib.hid (HS11.out.stays hb)
        clear hb
        go_wp2_with fail
        have C := Same_eq (.slice b12 y12 d12) (.slice la lz lc) (strsOf AB) w13 HS12.out HALL.out
        refine C.mono ?_
        clear C
        rintro e w14 ⟨rfl, hb⟩
        replace HB := Lib.hid (below_step HB.out hb)
        replace HD := Lib.hid (HD.out.step hb)
        replace HI1 := Lib.hid (HI1.out.stays hb)
        replace HX := Lib.hid (HX.out.step hb)
        replace HI2 := Lib.hid (HI2.out.stays hb)
        replace HALL := Lib.hid (HALL.out.stays hb)
        replace HI3 := Lib.hid (HI3.out.stays hb)
        replace HY := Lib.hid (HY.out.step hb)
        replace HI4 := Lib.hid (HI4.out.stays hb)
        replace HZ := Lib.hid (HZ.out.step hb)
        replace HS10 := Lib.hid (HS10.out.stays hb)
        replace HS11 := Lib.hid (HS11.out.stays hb)
        replace HS12 := Lib.hid (HS12.out.stays hb)
        clear hb
        go_wp2_with fail
        refine (CA.out _ HB.out).mono ?_
        rintro e w9 ⟨rfl, hb⟩
        replace HB := Lib.hid (below_step HB.out hb)
        clear hb
        go_wp2_with fail
        go_ret
        exact ⟨rfl, HB.out⟩
end Go.Proofs.YtalknbadakfppaaGreat

/-
  CountGone as a walk over this translation. Written by wip/tools/gen_count_two.py.
-/
import Derived.Test.YtokknppjeckppaaGreatDoorYaCue
set_option linter.unusedVariables false
namespace Go.Proofs.YtokknppjeckppaaGreatDoor
open Go.RowKit
attribute [local go_sem] Oper.semAt_some
set_option maxRecDepth 100000 in
set_option maxHeartbeats 16000000 in
theorem CountGone_w (mn av mx : Int) (iv : Value) (I : List It) (jv : Value) (J : List It) (w0 : World) (hi : IsItems w0 iv I) (hzi : ∀ x ∈ I, x.c.size ≤ 281474976710656) (hj : IsItems w0 jv J) (hzj : ∀ x ∈ J, x.c.size ≤ 281474976710656) (hT : ErrT w0) :
  Calls Tryz.prog 6 #[pV mn av mx, iv, jv] w0 fun e w' => e = .returned (.bool true) ∧ Below w0.heap.size w0 w' := by
 have HT := Lib.hid hT; have HI := Lib.hid hi; have HJ := Lib.hid hj
 have CA := Lib.hid (fun W (hW : ErrT W) => awake14_any W hW)
 obtain ⟨V, hV⟩ : ∃ V, V = w0.alloc (.cells #[.int .i64 mn, .int .i64 av, .int .i64 mx] 39) := ⟨_, rfl⟩
 have hP0 : OneF w0 mn av mx V := by rw [hV]; exact oneF_new _ _ _ _
 have HP0 := Lib.hid hP0
 have CF := Lib.hid (few14_any mn av mx iv I V (hi.stays hP0.2) hzi)
 have CG := Lib.hid (fun W (hW : Below w0.heap.size w0 W) => few14_any mn av mx jv J W (hj.stays hW) hzj)
 obtain ⟨p0, p1, p2⟩ := hP0.cells
 have hpl := hP0.1.lt
 obtain ⟨_, ia, ic, hiv, _, _⟩ := hi
 obtain ⟨_, ja, jc, hjv, _, _⟩ := hj
 obtain ⟨zi, hzil⟩ : ∃ z, z = I.length := ⟨_, rfl⟩
 obtain ⟨zj, hzjl⟩ : ∃ z, z = J.length := ⟨_, rfl⟩
 rw [← hzil] at hiv; rw [← hzjl] at hjv
 have HV := Lib.hid hV
 clear hT hP0 hV hzi hzj hzil hzjl
 subst hiv hjv
 rcases hfi : fewQB mn av mx I with _ | _
 ·rw [hfi] at CF
  clear hfi
  go_enter Tryz.func6, Tryz.ntmps6
  go_wp2_with fail
  rw [← HV.out]
  go_wp2_with fail
  with_reducible refine CF.out.mono ?_
  rintro e w1 ⟨rfl, hb1⟩
  have HP1 := Lib.hid (HP0.out.on hb1)
  have C1 := Lib.hid (CA.out w1 (HT.out.stays HP1.out.2))
  clear hb1 p0 p1 p2 hpl
  go_wp2_with fail
  with_reducible refine C1.out.mono ?_
  rintro e w2 ⟨rfl, hb2⟩
  have HB2 := Lib.hid (below_step HP1.out.2 hb2)
  clear hb2
  go_wp2
  go_ret
  exact ⟨rfl, HB2.out⟩
 ·rw [hfi] at CF
  rcases hfj : fewQB mn av mx J with _ | _
  ·rw [hfj] at CG
   clear hfi hfj
   go_enter Tryz.func6, Tryz.ntmps6
   go_wp2_with fail
   rw [← HV.out]
   go_wp2_with fail
   with_reducible refine CF.out.mono ?_
   rintro e w1 ⟨rfl, hb1⟩
   have hP1 := HP0.out.on hb1
   have HP1 := Lib.hid hP1
   obtain ⟨g0, g1, g2⟩ := hP1.cells
   have hpl1 := hP1.1.lt
   have CG1 := Lib.hid (CG.out w1 hP1.2)
   clear hb1 p0 p1 p2 hpl hP1
   go_wp2_with fail
   with_reducible refine CG1.out.mono ?_
   rintro e w2 ⟨rfl, hb2⟩
   have HP2 := Lib.hid (HP1.out.on hb2)
   have C2 := Lib.hid (CA.out w2 (HT.out.stays HP2.out.2))
   clear hb2 g0 g1 g2 hpl1
   go_wp2_with fail
   with_reducible refine C2.out.mono ?_
   rintro e w3 ⟨rfl, hb3⟩
   have HB3 := Lib.hid (below_step HP2.out.2 hb3)
   clear hb3
   go_wp2
   go_ret
   exact ⟨rfl, HB3.out⟩
  ·rw [hfj] at CG
   obtain ⟨m, a, b, x, rfl, rfl, rfl, hfe⟩ := fewF_at (fewQ_T hfi)
   obtain ⟨m', a', b', x', hm, ha, hx, hge⟩ := fewF_at (fewQ_T hfj)
   obtain rfl : m = m' := by omega
   obtain rfl : a = a' := by omega
   obtain rfl : x = x' := by omega
   obtain rfl : b = b' := fitAt_one hfe.fit hge.fit
   have HF := Lib.hid hfe; have HG := Lib.hid hge
   have C2W := Lib.hid (fun W (hW : Below w0.heap.size w0 W) => two_any m a b x I J (.slice ia zi ic) (.slice ja zj jc) W HF.out HG.out (HI.out.stays hW) (HJ.out.stays hW))
   have HTW := Lib.hid (two_ok hfe hge)
   obtain ⟨O, hO⟩ : ∃ O, O = bothO (objsT (cutN m b x) I) (objsT (cutN m b x) J) := ⟨_, rfl⟩
   obtain ⟨ta, hta⟩ : ∃ t, t = keyN (topT (cutN m b x) I) := ⟨_, rfl⟩
   obtain ⟨tb, htb⟩ : ∃ t, t = keyN (topT (cutN m b x) J) := ⟨_, rfl⟩
   rw [← hO, ← hta, ← htb] at HTW
   rw [← hO, ← hta, ← htb] at C2W
   obtain ⟨ka, hka⟩ : ∃ k : ByteArray, k = ⟨ta.toArray⟩ := ⟨_, rfl⟩
   obtain ⟨kb, hkb⟩ : ∃ k : ByteArray, k = ⟨tb.toArray⟩ := ⟨_, rfl⟩
   have HKA : Hid (ka.data.toList = ta) := Lib.hid (by rw [hka])
   have HKB : Hid (kb.data.toList = tb) := Lib.hid (by rw [hkb])
   rw [← hka, ← hkb] at C2W
   have HAO : Hid (ka.data.toList = ta ∨ ka.data.toList = tb) := Lib.hid (.inl HKA.out)
   have HBO : Hid (kb.data.toList = ta ∨ kb.data.toList = tb) := Lib.hid (.inr HKB.out)
   clear hfi hfj hm ha hx hfe hge hO hta htb hka hkb HF HG
   go_enter Tryz.func6, Tryz.ntmps6
   go_wp2_with fail
   rw [← HV.out]
   go_wp2_with fail
   with_reducible refine CF.out.mono ?_
   rintro e w1 ⟨rfl, hb1⟩
   have hP1 := HP0.out.on hb1
   have HP1 := Lib.hid hP1
   obtain ⟨g0, g1, g2⟩ := hP1.cells
   have hpl1 := hP1.1.lt
   have CG1 := Lib.hid (CG.out w1 hP1.2)
   clear hb1 p0 p1 p2 hpl hP1
   go_wp2_with fail
   with_reducible refine CG1.out.mono ?_
   rintro e w2 ⟨rfl, hb2⟩
   have hP2 := HP1.out.on hb2
   have HP2 := Lib.hid hP2
   obtain ⟨r0, r1, r2⟩ := hP2.cells
   have hpl2 := hP2.1.lt
   have C3 := Lib.hid (C2W.out w2 hP2.2)
   clear hb2 g0 g1 g2 hpl1 hP2
   go_wp2_with fail
   refine C3.out.mono ?_
   rintro e w3 ⟨vo, rfl, ho3, hb3⟩
   have HB3 := Lib.hid (below_step HP2.out.2 hb3)
   have HO3 := Lib.hid ho3
   obtain ⟨_, oa, oc, hvo, _, _⟩ := ho3
   obtain ⟨zo, hzo⟩ : ∃ z, z = O.length := ⟨_, rfl⟩
   rw [← hzo] at hvo
   subst hvo
   have HT3 := Lib.hid (HT.out.stays HB3.out)
   clear hb3 hzo r0 r1 r2 hpl2
   have HN0 := Lib.hid (countsOf_nil O)
   have H2 : Hid (∀ s t : ByteArray, (s.data.toList = ta ∨ s.data.toList = tb) → (t.data.toList = ta ∨ t.data.toList = tb) → Ours ta tb [s.data.toList, t.data.toList]) := Lib.hid (fun s t h1 h2 => ⟨by simp, fun r hr => by
     rcases List.mem_cons.1 hr with rfl | hr
     ·exact h1
     ·rw [List.mem_singleton.1 hr]; exact h2⟩)
   have H0 : Hid (Ours ta tb []) := Lib.hid ⟨by simp, fun r hr => (by cases hr)⟩
   have CX4 := Lib.hid (pPlus_ours HTW.out (vc := .slice none 0 0) (vO := (.slice oa zo oc)) (k := ka) HO3.out HT3.out (cts_nil_is w3) HN0.out H0.out HAO.out (oneMore_cons [] ka.data.toList))
   go_wp2_with fail
   refine CX4.out.mono ?_
   rintro e w4 ⟨vx, Cx, rfl, hvx, hcx, hb4⟩
   have HB4 := Lib.hid (below_step HB3.out hb4); have HO4 := Lib.hid (HO3.out.stays hb4); have HT4 := Lib.hid (HT3.out.stays hb4)
   have HVx := Lib.hid hvx; have HCx := Lib.hid hcx
   obtain ⟨ax, cx, hex⟩ := hvx.len
   obtain ⟨zx, hzx⟩ : ∃ z, z = Cx.length := ⟨_, rfl⟩
   rw [← hzx] at hex
   subst hex
   clear hvx hcx hzx
   clear hb4
   have CX5 := Lib.hid (pPlus_ours HTW.out (vc := .slice ax zx cx) (vO := (.slice oa zo oc)) (k := kb) HO4.out HT4.out HVx.out HCx.out (ours_one HAO.out) HBO.out (oneMore_cons [ka.data.toList] kb.data.toList))
   go_wp2_with fail
   refine CX5.out.mono ?_
   rintro e w5 ⟨vy, Cy, rfl, hvy, hcy, hb5⟩
   have HB5 := Lib.hid (below_step HB4.out hb5); have HO5 := Lib.hid (HO4.out.stays hb5); have HT5 := Lib.hid (HT4.out.stays hb5)
   replace HVx := Lib.hid (HVx.out.stays hb5)
   have HVy := Lib.hid hvy; have HCy := Lib.hid hcy
   obtain ⟨ay, cy, hey⟩ := hvy.len
   obtain ⟨zy, hzy⟩ : ∃ z, z = Cy.length := ⟨_, rfl⟩
   rw [← hzy] at hey
   subst hey
   clear hvy hcy hzy
   clear hb5
   have CX6 := Lib.hid (pPlus_ours HTW.out (vc := .slice none 0 0) (vO := (.slice oa zo oc)) (k := kb) HO5.out HT5.out (cts_nil_is w5) HN0.out H0.out HBO.out (oneMore_cons [] kb.data.toList))
   go_wp2_with fail
   refine CX6.out.mono ?_
   rintro e w6 ⟨vu, Cu, rfl, hvu, hcu, hb6⟩
   have HB6 := Lib.hid (below_step HB5.out hb6); have HO6 := Lib.hid (HO5.out.stays hb6); have HT6 := Lib.hid (HT5.out.stays hb6)
   replace HVx := Lib.hid (HVx.out.stays hb6)
   replace HVy := Lib.hid (HVy.out.stays hb6)
   have HVu := Lib.hid hvu; have HCu := Lib.hid hcu
   obtain ⟨au, cu, heu⟩ := hvu.len
   obtain ⟨zu, hzu⟩ : ∃ z, z = Cu.length := ⟨_, rfl⟩
   rw [← hzu] at heu
   subst heu
   clear hvu hcu hzu
   clear hb6
   have CX7 := Lib.hid (pPlus_ours HTW.out (vc := .slice au zu cu) (vO := (.slice oa zo oc)) (k := ka) HO6.out HT6.out HVu.out HCu.out (ours_one HBO.out) HAO.out (oneMore_snoc [kb.data.toList] ka.data.toList))
   go_wp2_with fail
   refine CX7.out.mono ?_
   rintro e w7 ⟨vv, Cv, rfl, hvv, hcv, hb7⟩
   have HB7 := Lib.hid (below_step HB6.out hb7); have HO7 := Lib.hid (HO6.out.stays hb7); have HT7 := Lib.hid (HT6.out.stays hb7)
   replace HVx := Lib.hid (HVx.out.stays hb7)
   replace HVy := Lib.hid (HVy.out.stays hb7)
   replace HVu := Lib.hid (HVu.out.stays hb7)
   have HVv := Lib.hid hvv; have HCv := Lib.hid hcv
   obtain ⟨av, cv, hev⟩ := hvv.len
   obtain ⟨zv, hzv⟩ : ∃ z, z = Cv.length := ⟨_, rfl⟩
   rw [← hzv] at hev
   subst hev
   clear hvv hcv hzv
   clear hb7
   have CX8 := Lib.hid (same_counts HVy.out HVv.out HCy.out HCv.out)
   go_wp2_with fail
   refine CX8.out.mono ?_
   rintro e w8 ⟨rfl, hb8⟩
   have HB8 := Lib.hid (below_step HB7.out hb8); have HO8 := Lib.hid (HO7.out.stays hb8); have HT8 := Lib.hid (HT7.out.stays hb8)
   replace HVx := Lib.hid (HVx.out.stays hb8)
   replace HVy := Lib.hid (HVy.out.stays hb8)
   replace HVu := Lib.hid (HVu.out.stays hb8)
   replace HVv := Lib.hid (HVv.out.stays hb8)
   clear hb8
   have HNA : Hid (1 ≤ nC Cy ka.data.toList) := Lib.hid (by
    have h1 := (countsOf_pos HCy.out ka.data.toList).2 (.start (by simp) (HTW.out.k32 HAO.out))
    have h2 := (nC_pos HCy.out.1 (t := ka.data.toList)).1
    omega)
   have CX9 := Lib.hid (pN_any _ Cy ka w8 HVy.out)
   go_wp2_with fail
   refine CX9.out.mono ?_
   rintro e w9 ⟨rfl, hb9⟩
   have HB9 := Lib.hid (below_step HB8.out hb9); have HO9 := Lib.hid (HO8.out.stays hb9); have HT9 := Lib.hid (HT8.out.stays hb9)
   replace HVx := Lib.hid (HVx.out.stays hb9)
   replace HVy := Lib.hid (HVy.out.stays hb9)
   replace HVu := Lib.hid (HVu.out.stays hb9)
   replace HVv := Lib.hid (HVv.out.stays hb9)
   have qn : decide (nC Cy ka.data.toList < 1) = false := decide_eq_false (by have := HNA.out; omega)
   obtain ⟨nn, hnn⟩ : ∃ n, n = nC Cy ka.data.toList := ⟨_, rfl⟩
   rw [← hnn] at qn ⊢
   clear hnn
   clear hb9
   have CX10 := Lib.hid (pMinus_ours HTW.out (vc := .slice ay zy cy) (vO := (.slice oa zo oc)) (k := ka) (R := [kb.data.toList]) HO9.out HT9.out HVy.out HCy.out (H2.out kb ka HBO.out HAO.out) HAO.out (oneMore_snoc [kb.data.toList] ka.data.toList))
   go_wp2_with fail
   refine CX10.out.mono ?_
   rintro e w10 ⟨vd, Cd, rfl, hvd, hcd, hb10⟩
   have HB10 := Lib.hid (below_step HB9.out hb10); have HO10 := Lib.hid (HO9.out.stays hb10); have HT10 := Lib.hid (HT9.out.stays hb10)
   replace HVx := Lib.hid (HVx.out.stays hb10)
   replace HVy := Lib.hid (HVy.out.stays hb10)
   replace HVu := Lib.hid (HVu.out.stays hb10)
   replace HVv := Lib.hid (HVv.out.stays hb10)
   have HVd := Lib.hid hvd; have HCd := Lib.hid hcd
   obtain ⟨ad, cd, hed⟩ := hvd.len
   obtain ⟨zd, hzd⟩ : ∃ z, z = Cd.length := ⟨_, rfl⟩
   rw [← hzd] at hed
   subst hed
   clear hvd hcd hzd
   clear hb10
   have CX11 := Lib.hid (pMinus_ours HTW.out (vc := .slice ad zd cd) (vO := (.slice oa zo oc)) (k := kb) (R := []) HO10.out HT10.out HVd.out HCd.out (ours_one HBO.out) HBO.out (oneMore_cons [] kb.data.toList))
   go_wp2_with fail
   refine CX11.out.mono ?_
   rintro e w11 ⟨ve, Ce, rfl, hve, hce, hb11⟩
   have HB11 := Lib.hid (below_step HB10.out hb11); have HO11 := Lib.hid (HO10.out.stays hb11); have HT11 := Lib.hid (HT10.out.stays hb11)
   replace HVx := Lib.hid (HVx.out.stays hb11)
   replace HVy := Lib.hid (HVy.out.stays hb11)
   replace HVu := Lib.hid (HVu.out.stays hb11)
   replace HVv := Lib.hid (HVv.out.stays hb11)
   replace HVd := Lib.hid (HVd.out.stays hb11)
   have HVe := Lib.hid hve; have HCe := Lib.hid hce
   obtain ⟨ae, ce, hee⟩ := hve.len
   obtain ⟨ze, hze⟩ : ∃ z, z = Ce.length := ⟨_, rfl⟩
   rw [← hze] at hee
   subst hee
   clear hve hce hze
   clear hb11
   have HEE : Hid (Ce = []) := Lib.hid (countsOf_one HCe.out (countsOf_nil O))
   have HVE : Hid (IsCts w11 (.slice ae ze ce) []) := Lib.hid (by have := HVe.out; rwa [HEE.out] at this)
   have HZE : Hid (ze = 0) := Lib.hid (by
    obtain ⟨a, c, h⟩ := HVE.out.len
    cases h; rfl)
   have CX12 := Lib.hid (pMinus_none HTW.out (vc := .slice ae ze ce) (vO := (.slice oa zo oc)) (k := ka) HO11.out HT11.out HVE.out)
   go_wp2_with fail
   refine CX12.out.mono ?_
   rintro e w12 ⟨vz, rfl, hvz, hb12⟩
   have HB12 := Lib.hid (below_step HB11.out hb12); have HO12 := Lib.hid (HO11.out.stays hb12); have HT12 := Lib.hid (HT11.out.stays hb12)
   replace HVx := Lib.hid (HVx.out.stays hb12)
   replace HVy := Lib.hid (HVy.out.stays hb12)
   replace HVu := Lib.hid (HVu.out.stays hb12)
   replace HVv := Lib.hid (HVv.out.stays hb12)
   replace HVd := Lib.hid (HVd.out.stays hb12)
   replace HVe := Lib.hid (HVe.out.stays hb12)
   obtain ⟨az, cz, hez⟩ := hvz.len
   subst hez
   clear hvz
   clear hb12
   have C9 := Lib.hid (CA.out w12 HT12.out)
   have qz : ((ze : Int) == 0) = true := by rw [HZE.out]; rfl
   go_wp2_with fail
   refine C9.out.mono ?_
   rintro e wz ⟨rfl, hbz⟩
   have HBZ := Lib.hid (below_step HB12.out hbz)
   clear hbz
   go_wp2
   go_ret
   exact ⟨rfl, HBZ.out⟩
end Go.Proofs.YtokknppjeckppaaGreatDoor

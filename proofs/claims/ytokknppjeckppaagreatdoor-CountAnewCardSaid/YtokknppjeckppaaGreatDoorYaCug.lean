/-
  CountAnew as a walk over this translation. Written by wip/tools/gen_count_two.py.
-/
import Derived.Test.YtokknppjeckppaaGreatDoorYaCue
set_option linter.unusedVariables false
namespace Go.Proofs.YtokknppjeckppaaGreatDoor
open Go.RowKit
attribute [local go_sem] Oper.semAt_some
set_option maxRecDepth 100000 in
set_option maxHeartbeats 16000000 in
theorem CountAnew_w (mn av mx : Int) (iv : Value) (I : List It) (jv : Value) (J : List It) (u : UInt8) (w0 : World) (hi : IsItems w0 iv I) (hzi : ∀ x ∈ I, x.c.size ≤ 281474976710656) (hj : IsItems w0 jv J) (hzj : ∀ x ∈ J, x.c.size ≤ 281474976710656) (hT : ErrT w0) :
  Calls Tryz.prog 5 #[pV mn av mx, iv, jv, .int .u8 (u.toNat : Int)] w0 fun e w' => e = .returned (.bool true) ∧ Below w0.heap.size w0 w' := by
 have HT := Lib.hid hT; have HI := Lib.hid hi; have HJ := Lib.hid hj
 have CA := Lib.hid (fun W (hW : ErrT W) => awake14_any W hW)
 obtain ⟨V, hV⟩ : ∃ V, V = w0.alloc (.cells #[.int .i64 mn, .int .i64 av, .int .i64 mx] 39) := ⟨_, rfl⟩
 have hP0 : OneF w0 mn av mx V := by rw [hV]; exact oneF_new _ _ _ _
 have HP0 := Lib.hid hP0
 have CF := Lib.hid (few14_any mn av mx iv I V (hi.stays hP0.2) hzi)
 have CG := Lib.hid (fun W (hW : Below w0.heap.size w0 W) => few14_any mn av mx jv J W (hj.stays hW) hzj)
 obtain ⟨p0, p1, p2⟩ := hP0.cells
 have hpl := hP0.1.lt
 obtain ⟨_, ia, ic, hiv, _, _⟩ := hi
 obtain ⟨_, ja, jc, hjv, _, _⟩ := hj
 obtain ⟨zi, hzil⟩ : ∃ z, z = I.length := ⟨_, rfl⟩
 obtain ⟨zj, hzjl⟩ : ∃ z, z = J.length := ⟨_, rfl⟩
 rw [← hzil] at hiv; rw [← hzjl] at hjv
 have HV := Lib.hid hV
 clear hT hP0 hV hzi hzj hzil hzjl
 subst hiv hjv
 rcases hfi : fewQB mn av mx I with _ | _
 ·rw [hfi] at CF
  clear hfi
  go_enter Tryz.func5, Tryz.ntmps5
  go_wp2_with fail
  rw [← HV.out]
  go_wp2_with fail
  with_reducible refine CF.out.mono ?_
  rintro e w1 ⟨rfl, hb1⟩
  have HP1 := Lib.hid (HP0.out.on hb1)
  have C1 := Lib.hid (CA.out w1 (HT.out.stays HP1.out.2))
  clear hb1 p0 p1 p2 hpl
  go_wp2_with fail
  with_reducible refine C1.out.mono ?_
  rintro e w2 ⟨rfl, hb2⟩
  have HB2 := Lib.hid (below_step HP1.out.2 hb2)
  clear hb2
  go_wp2
  go_ret
  exact ⟨rfl, HB2.out⟩
 ·rw [hfi] at CF
  rcases hfj : fewQB mn av mx J with _ | _
  ·rw [hfj] at CG
   clear hfi hfj
   go_enter Tryz.func5, Tryz.ntmps5
   go_wp2_with fail
   rw [← HV.out]
   go_wp2_with fail
   with_reducible refine CF.out.mono ?_
   rintro e w1 ⟨rfl, hb1⟩
   have hP1 := HP0.out.on hb1
   have HP1 := Lib.hid hP1
   obtain ⟨g0, g1, g2⟩ := hP1.cells
   have hpl1 := hP1.1.lt
   have CG1 := Lib.hid (CG.out w1 hP1.2)
   clear hb1 p0 p1 p2 hpl hP1
   go_wp2_with fail
   with_reducible refine CG1.out.mono ?_
   rintro e w2 ⟨rfl, hb2⟩
   have HP2 := Lib.hid (HP1.out.on hb2)
   have C2 := Lib.hid (CA.out w2 (HT.out.stays HP2.out.2))
   clear hb2 g0 g1 g2 hpl1
   go_wp2_with fail
   with_reducible refine C2.out.mono ?_
   rintro e w3 ⟨rfl, hb3⟩
   have HB3 := Lib.hid (below_step HP2.out.2 hb3)
   clear hb3
   go_wp2
   go_ret
   exact ⟨rfl, HB3.out⟩
  ·rw [hfj] at CG
   obtain ⟨m, a, b, x, rfl, rfl, rfl, hfe⟩ := fewF_at (fewQ_T hfi)
   obtain ⟨m', a', b', x', hm, ha, hx, hge⟩ := fewF_at (fewQ_T hfj)
   obtain rfl : m = m' := by omega
   obtain rfl : a = a' := by omega
   obtain rfl : x = x' := by omega
   obtain rfl : b = b' := fitAt_one hfe.fit hge.fit
   have HF := Lib.hid hfe; have HG := Lib.hid hge
   have C2W := Lib.hid (fun W (hW : Below w0.heap.size w0 W) => two_any m a b x I J (.slice ia zi ic) (.slice ja zj jc) W HF.out HG.out (HI.out.stays hW) (HJ.out.stays hW))
   have HTW := Lib.hid (two_ok hfe hge)
   obtain ⟨O, hO⟩ : ∃ O, O = bothO (objsT (cutN m b x) I) (objsT (cutN m b x) J) := ⟨_, rfl⟩
   obtain ⟨ta, hta⟩ : ∃ t, t = keyN (topT (cutN m b x) I) := ⟨_, rfl⟩
   obtain ⟨tb, htb⟩ : ∃ t, t = keyN (topT (cutN m b x) J) := ⟨_, rfl⟩
   rw [← hO, ← hta, ← htb] at HTW
   rw [← hO, ← hta, ← htb] at C2W
   obtain ⟨ka, hka⟩ : ∃ k : ByteArray, k = ⟨ta.toArray⟩ := ⟨_, rfl⟩
   obtain ⟨kb, hkb⟩ : ∃ k : ByteArray, k = ⟨tb.toArray⟩ := ⟨_, rfl⟩
   have HKA : Hid (ka.data.toList = ta) := Lib.hid (by rw [hka])
   have HKB : Hid (kb.data.toList = tb) := Lib.hid (by rw [hkb])
   rw [← hka, ← hkb] at C2W
   have HAO : Hid (ka.data.toList = ta ∨ ka.data.toList = tb) := Lib.hid (.inl HKA.out)
   have HBO : Hid (kb.data.toList = ta ∨ kb.data.toList = tb) := Lib.hid (.inr HKB.out)
   clear hfi hfj hm ha hx hfe hge hO hta htb hka hkb HF HG
   go_enter Tryz.func5, Tryz.ntmps5
   go_wp2_with fail
   rw [← HV.out]
   go_wp2_with fail
   with_reducible refine CF.out.mono ?_
   rintro e w1 ⟨rfl, hb1⟩
   have hP1 := HP0.out.on hb1
   have HP1 := Lib.hid hP1
   obtain ⟨g0, g1, g2⟩ := hP1.cells
   have hpl1 := hP1.1.lt
   have CG1 := Lib.hid (CG.out w1 hP1.2)
   clear hb1 p0 p1 p2 hpl hP1
   go_wp2_with fail
   with_reducible refine CG1.out.mono ?_
   rintro e w2 ⟨rfl, hb2⟩
   have hP2 := HP1.out.on hb2
   have HP2 := Lib.hid hP2
   obtain ⟨r0, r1, r2⟩ := hP2.cells
   have hpl2 := hP2.1.lt
   have C3 := Lib.hid (C2W.out w2 hP2.2)
   clear hb2 g0 g1 g2 hpl1 hP2
   go_wp2_with fail
   refine C3.out.mono ?_
   rintro e w3 ⟨vo, rfl, ho3, hb3⟩
   have HB3 := Lib.hid (below_step HP2.out.2 hb3)
   have HO3 := Lib.hid ho3
   obtain ⟨_, oa, oc, hvo, _, _⟩ := ho3
   obtain ⟨zo, hzo⟩ : ∃ z, z = O.length := ⟨_, rfl⟩
   rw [← hzo] at hvo
   subst hvo
   have HT3 := Lib.hid (HT.out.stays HB3.out)
   clear hb3 hzo r0 r1 r2 hpl2
   obtain ⟨q, hq⟩ : ∃ q, q = u.toNat % 4 := ⟨_, rfl⟩
   have hq4 : q < 4 := by rw [hq]; exact Nat.mod_lt _ (by decide)
   have hqv : (u.toNat : Int) % 4 = (q : Int) := by rw [hq]; omega
   have hu := u.toNat_lt
   have HR0 : Hid (OwnTxt w3 (w3.alloc (.cells #[.string ka] 9)) (.slice (some ⟨w3.heap.size, 0, none⟩) 1 1) (ka.data.toList :: List.replicate 0 kb.data.toList)) := Lib.hid (own_one w3 ka)
   have HBA := Lib.hid ((Below.refl w3.heap.size w3).alloc (Nat.le_refl _) (.cells #[.string ka] 9))
   go_wp2_with fail
   rw [hqv]
   clear hqv hu hq
   go_loopw [12, 48] (fun o i wr => ∃ (k : Nat) (v : Value), k ≤ q ∧ i = .int .u8 k ∧ v = o ∧ OwnTxt w3 wr v (ka.data.toList :: List.replicate k kb.data.toList) ∧ Below w3.heap.size w3 wr) (fun _ i _ => q - (intOf i).toNat)
   case atStart => exact ⟨0, _, Nat.zero_le _, rfl, rfl, HR0.out, HBA.out⟩
   case round =>
    obtain ⟨k, v, hk, rfl, rfl, hO, hB⟩ := hrel
    have HO := Lib.hid hO; have HB := Lib.hid hB
    obtain ⟨_, va, vc, hve, _, _⟩ := hO.strs
    obtain ⟨zv, hzv⟩ : ∃ z, z = (strsOf (ka.data.toList :: List.replicate k kb.data.toList)).length := ⟨_, rfl⟩
    rw [← hzv] at hve
    have HZV := Lib.hid hzv
    subst hve
    by_cases hlt : k < q
    ·have hbk : decide ((k : Int) < (q : Int)) = true := by simpa using (show (k : Int) < q by omega)
     have HLN : Hid ((ka.data.toList :: List.replicate k kb.data.toList).length ≤ 1000000) := Lib.hid (by simp; omega)
     have HST : Hid (ka.data.toList :: List.replicate (k + 1) kb.data.toList = (ka.data.toList :: List.replicate k kb.data.toList) ++ [kb.data.toList]) := Lib.hid (by rw [List.replicate_succ']; rfl)
     have hadd : IntKind.u8.wrap ((k : Int) + 1) = (k : Int) + 1 := IntWalk.u8_in _ (by omega)
     clear hO hB hzv
     go_wp2_with (at_builtin; refine wpList_append_txt rfl _ _ rfl HO.out HB.out rfl rfl HLN.out ?_)
     intro v' w9 ho9 hb9
     have HO9 := Lib.hid ho9; have HB9 := Lib.hid hb9
     clear ho9 hb9
     go_wp2
     go_roundw
     case rel => exact ⟨k + 1, v', by omega, by go_num, rfl, by rw [HST.out]; exact HO9.out, HB9.out⟩
     case measure => simp [intOf]; omega
    ·obtain rfl : k = q := by omega
     have hbk : decide ((k : Int) < (k : Int)) = false := by simp
     obtain ⟨w4, hw4⟩ : ∃ w4, w4 = wr := ⟨_, rfl⟩
     rw [← hw4] at hO hB ⊢
     obtain ⟨R, hR⟩ : ∃ R, R = ka.data.toList :: List.replicate k kb.data.toList := ⟨_, rfl⟩
     rw [← hR] at hO
     have HOU : Hid (Ours ta tb R ∧ Ours ta tb (R ++ [kb.data.toList]) ∧ Ours ta tb (List.replicate k kb.data.toList)) := Lib.hid (by
      have hrep : ∀ r ∈ List.replicate k kb.data.toList, r = ta ∨ r = tb := fun r hr => by rw [List.eq_of_mem_replicate hr]; exact HBO.out
      have hall : ∀ r ∈ R, r = ta ∨ r = tb := fun r hr => by
       rw [hR] at hr
       rcases List.mem_cons.1 hr with rfl | hr
       ·exact HAO.out
       ·exact hrep r hr
      refine ⟨⟨by rw [hR]; simp; omega, hall⟩, ⟨by rw [hR]; simp; omega, fun r hr => ?_⟩, ⟨by simp; omega, hrep⟩⟩
      rcases List.mem_append.1 hr with hr | hr
      ·exact hall r hr
      ·rw [List.mem_singleton.1 hr]; exact HBO.out)
     have HOM := Lib.hid (show OneMore (List.replicate k kb.data.toList) R ka.data.toList by rw [hR]; exact oneMore_cons _ _)
     have HRE := Lib.hid hR
     have HB4 := Lib.hid (below_step HB3.out hB); have HO4 := Lib.hid (HO3.out.stays hB); have HT4 := Lib.hid (HT3.out.stays hB)
     have HRS := Lib.hid hO.strs
     have HZR : Hid (zv = (strsOf R).length) := Lib.hid (by rw [hzv, hR])
     have hk3 : k ≤ 3 := by omega
     clear hO hB hzv HO HB HR0 HBA hR hw4 hlt HZV
     have CX5 := Lib.hid ((by have := pOf_ours HTW.out (vO := (.slice oa zo oc)) (fv := .slice va zv vc) (F := strsOf R) HO4.out HT4.out HRS.out (by rw [txts_strsOf]; exact HOU.out.1); rwa [txts_strsOf] at this))
     go_wp2_with fail
     refine CX5.out.mono ?_
     rintro e w5 ⟨vc, Cc, rfl, hvc, hcc, hb5⟩
     have HB5 := Lib.hid (below_step HB4.out hb5); have HO5 := Lib.hid (HO4.out.stays hb5); have HT5 := Lib.hid (HT4.out.stays hb5)
     replace HRS := Lib.hid (HRS.out.stays hb5)
     have HVc := Lib.hid hvc; have HCc := Lib.hid hcc
     obtain ⟨ac, cc, hec⟩ := hvc.len
     obtain ⟨zc, hzc⟩ : ∃ z, z = Cc.length := ⟨_, rfl⟩
     rw [← hzc] at hec
     subst hec
     clear hvc hcc hzc
     clear hb5
     have CX6 := Lib.hid (pPlus_ours HTW.out (vc := .slice ac zc cc) (vO := (.slice oa zo oc)) (k := kb) HO5.out HT5.out HVc.out HCc.out HOU.out.1 HBO.out (oneMore_snoc R kb.data.toList))
     go_wp2_with fail
     refine CX6.out.mono ?_
     rintro e w6 ⟨vd, Cd, rfl, hvd, hcd, hb6⟩
     have HB6 := Lib.hid (below_step HB5.out hb6); have HO6 := Lib.hid (HO5.out.stays hb6); have HT6 := Lib.hid (HT5.out.stays hb6)
     replace HRS := Lib.hid (HRS.out.stays hb6)
     replace HVc := Lib.hid (HVc.out.stays hb6)
     have HVd := Lib.hid hvd; have HCd := Lib.hid hcd
     obtain ⟨ad, cd, hed⟩ := hvd.len
     obtain ⟨zd, hzd⟩ : ∃ z, z = Cd.length := ⟨_, rfl⟩
     rw [← hzd] at hed
     subst hed
     clear hvd hcd hzd
     clear hb6
     go_wp2_with (at_builtin; refine wpList_append_all (W := w6) rfl _ _ rfl (M := []) (World.ownsRow_made w6 #[] 0 (Nat.le_refl _) (by decide) rfl) ((Below.refl _ _).alloc (Nat.le_refl _) _) (IsStrs.stays HRS.out ((Below.refl _ _).alloc (Nat.le_refl _) (.cells #[] 9))) rfl rfl (by rw [strsOf_len]; have := HOU.out.1.1; simp; omega) ?_)
     intro va1 wa1 ha1 hba1
     rw [txts_strsOf] at ha1
     have HA1 := Lib.hid ha1; have HBA1 := Lib.hid hba1
     obtain ⟨_, a1a, a1c, hea1, _, _⟩ := ha1.strs
     obtain ⟨za1, hza1⟩ : ∃ z, z = (strsOf R).length := ⟨_, rfl⟩
     rw [← hza1] at hea1
     subst hea1
     have HL1 : Hid (R.length ≤ 1000000) := Lib.hid (by have := HOU.out.1.1; omega)
     clear ha1 hba1 hza1
     go_wp2_with (at_builtin; refine wpList_append_txt rfl _ _ rfl HA1.out HBA1.out rfl rfl HL1.out ?_)
     intro va2 wa2 ha2 hba2
     have HA2 := Lib.hid ha2.strs
     have HB7 := Lib.hid (below_step HB6.out hba2); have HO7 := Lib.hid (HO6.out.stays hba2); have HT7 := Lib.hid (HT6.out.stays hba2)
     replace HRS := Lib.hid (HRS.out.stays hba2)
     replace HVc := Lib.hid (HVc.out.stays hba2)
     replace HVd := Lib.hid (HVd.out.stays hba2)
     obtain ⟨w7, hw7⟩ : ∃ w, w = wa2 := ⟨_, rfl⟩
     rw [← hw7] at HA2 HB7 HO7 HT7 HRS HVc HVd ⊢
     clear ha2 hba2 hw7
     have CX8 := Lib.hid ((by have := rOf_ours HTW.out (vO := (.slice oa zo oc)) (F := strsOf (R ++ [kb.data.toList])) HO7.out HA2.out (by rw [txts_strsOf]; exact HOU.out.2.1); rwa [txts_strsOf] at this))
     go_wp2_with fail
     refine CX8.out.mono ?_
     rintro e w8 ⟨vf, Cf, rfl, hvf, hcf, hb8⟩
     have HB8 := Lib.hid (below_step HB7.out hb8); have HO8 := Lib.hid (HO7.out.stays hb8); have HT8 := Lib.hid (HT7.out.stays hb8)
     replace HRS := Lib.hid (HRS.out.stays hb8)
     replace HVc := Lib.hid (HVc.out.stays hb8)
     replace HVd := Lib.hid (HVd.out.stays hb8)
     have HVf := Lib.hid hvf; have HCf := Lib.hid hcf
     obtain ⟨af, cf, hef⟩ := hvf.len
     obtain ⟨zf, hzf⟩ : ∃ z, z = Cf.length := ⟨_, rfl⟩
     rw [← hzf] at hef
     subst hef
     clear hvf hcf hzf
     clear hb8
     have CX9 := Lib.hid (pMinus_ours HTW.out (vc := .slice ad zd cd) (vO := (.slice oa zo oc)) (k := kb) (R := R) HO8.out HT8.out HVd.out HCd.out HOU.out.2.1 HBO.out (oneMore_snoc R kb.data.toList))
     go_wp2_with fail
     refine CX9.out.mono ?_
     rintro e w9 ⟨vg, Cg, rfl, hvg, hcg, hb9⟩
     have HB9 := Lib.hid (below_step HB8.out hb9); have HO9 := Lib.hid (HO8.out.stays hb9); have HT9 := Lib.hid (HT8.out.stays hb9)
     replace HRS := Lib.hid (HRS.out.stays hb9)
     replace HVc := Lib.hid (HVc.out.stays hb9)
     replace HVd := Lib.hid (HVd.out.stays hb9)
     replace HVf := Lib.hid (HVf.out.stays hb9)
     have HVg := Lib.hid hvg; have HCg := Lib.hid hcg
     obtain ⟨ag, cg, heg⟩ := hvg.len
     obtain ⟨zg, hzg⟩ : ∃ z, z = Cg.length := ⟨_, rfl⟩
     rw [← hzg] at heg
     subst heg
     clear hvg hcg hzg
     clear hb9
     have CX10 := Lib.hid (pMinus_ours HTW.out (vc := .slice ac zc cc) (vO := (.slice oa zo oc)) (k := ka) (R := List.replicate k kb.data.toList) HO9.out HT9.out HVc.out HCc.out HOU.out.1 HAO.out HOM.out)
     go_wp2_with fail
     refine CX10.out.mono ?_
     rintro e w10 ⟨vi, Ci, rfl, hvi, hci, hb10⟩
     have HB10 := Lib.hid (below_step HB9.out hb10); have HO10 := Lib.hid (HO9.out.stays hb10); have HT10 := Lib.hid (HT9.out.stays hb10)
     replace HRS := Lib.hid (HRS.out.stays hb10)
     replace HVc := Lib.hid (HVc.out.stays hb10)
     replace HVd := Lib.hid (HVd.out.stays hb10)
     replace HVf := Lib.hid (HVf.out.stays hb10)
     replace HVg := Lib.hid (HVg.out.stays hb10)
     have HVi := Lib.hid hvi; have HCi := Lib.hid hci
     obtain ⟨ai, ci, hei⟩ := hvi.len
     obtain ⟨zi, hzi⟩ : ∃ z, z = Ci.length := ⟨_, rfl⟩
     rw [← hzi] at hei
     subst hei
     clear hvi hci hzi
     clear hb10
     have hRX : IsStrs w10 (.slice va zv vc) (ka :: strsOf (List.replicate k kb.data.toList)) := by
      have := HRS.out
      rw [HRE.out] at this
      have e : strsOf (ka.data.toList :: List.replicate k kb.data.toList) = ka :: strsOf (List.replicate k kb.data.toList) := by
       show (⟨ka.data.toList.toArray⟩ : ByteArray) :: _ = _
       rw [txt_str]; rfl
      rwa [e] at this
     obtain ⟨vt, hrun, htl⟩ := strs_tail hRX
     have HTL := Lib.hid htl
     clear htl hRX
     have CX11 := Lib.hid ((by have := rOf_ours HTW.out (vO := (.slice oa zo oc)) (fv := vt) (F := strsOf (List.replicate k kb.data.toList)) HO10.out HTL.out (by rw [txts_strsOf]; exact HOU.out.2.2); rwa [txts_strsOf] at this))
     go_wp2_with fail
     refine CX11.out.mono ?_
     rintro e w11 ⟨vk, Ck, rfl, hvk, hck, hb11⟩
     have HB11 := Lib.hid (below_step HB10.out hb11); have HO11 := Lib.hid (HO10.out.stays hb11); have HT11 := Lib.hid (HT10.out.stays hb11)
     replace HRS := Lib.hid (HRS.out.stays hb11)
     replace HVc := Lib.hid (HVc.out.stays hb11)
     replace HVd := Lib.hid (HVd.out.stays hb11)
     replace HVf := Lib.hid (HVf.out.stays hb11)
     replace HVg := Lib.hid (HVg.out.stays hb11)
     replace HVi := Lib.hid (HVi.out.stays hb11)
     replace HTL := Lib.hid (HTL.out.stays hb11)
     have HVk := Lib.hid hvk; have HCk := Lib.hid hck
     obtain ⟨ak, ck, hek⟩ := hvk.len
     obtain ⟨zk, hzk⟩ : ∃ z, z = Ck.length := ⟨_, rfl⟩
     rw [← hzk] at hek
     subst hek
     clear hvk hck hzk
     clear hb11
     clear hrun
     have CX12 := Lib.hid (same_counts HVd.out HVf.out HCd.out HCf.out)
     go_wp2_with fail
     refine CX12.out.mono ?_
     rintro e w12 ⟨rfl, hb12⟩
     have HB12 := Lib.hid (below_step HB11.out hb12); have HO12 := Lib.hid (HO11.out.stays hb12); have HT12 := Lib.hid (HT11.out.stays hb12)
     replace HRS := Lib.hid (HRS.out.stays hb12)
     replace HVc := Lib.hid (HVc.out.stays hb12)
     replace HVd := Lib.hid (HVd.out.stays hb12)
     replace HVf := Lib.hid (HVf.out.stays hb12)
     replace HVg := Lib.hid (HVg.out.stays hb12)
     replace HVi := Lib.hid (HVi.out.stays hb12)
     replace HTL := Lib.hid (HTL.out.stays hb12)
     replace HVk := Lib.hid (HVk.out.stays hb12)
     clear hb12
     have CX13 := Lib.hid (same_counts HVg.out HVc.out HCg.out HCc.out)
     go_wp2_with fail
     refine CX13.out.mono ?_
     rintro e w13 ⟨rfl, hb13⟩
     have HB13 := Lib.hid (below_step HB12.out hb13); have HO13 := Lib.hid (HO12.out.stays hb13); have HT13 := Lib.hid (HT12.out.stays hb13)
     replace HRS := Lib.hid (HRS.out.stays hb13)
     replace HVc := Lib.hid (HVc.out.stays hb13)
     replace HVd := Lib.hid (HVd.out.stays hb13)
     replace HVf := Lib.hid (HVf.out.stays hb13)
     replace HVg := Lib.hid (HVg.out.stays hb13)
     replace HVi := Lib.hid (HVi.out.stays hb13)
     replace HTL := Lib.hid (HTL.out.stays hb13)
     replace HVk := Lib.hid (HVk.out.stays hb13)
     clear hb13
     have CX14 := Lib.hid (same_counts HVi.out HVk.out HCi.out HCk.out)
     go_wp2_with fail
     refine CX14.out.mono ?_
     rintro e w14 ⟨rfl, hb14⟩
     have HB14 := Lib.hid (below_step HB13.out hb14); have HO14 := Lib.hid (HO13.out.stays hb14); have HT14 := Lib.hid (HT13.out.stays hb14)
     replace HRS := Lib.hid (HRS.out.stays hb14)
     replace HVc := Lib.hid (HVc.out.stays hb14)
     replace HVd := Lib.hid (HVd.out.stays hb14)
     replace HVf := Lib.hid (HVf.out.stays hb14)
     replace HVg := Lib.hid (HVg.out.stays hb14)
     replace HVi := Lib.hid (HVi.out.stays hb14)
     replace HTL := Lib.hid (HTL.out.stays hb14)
     replace HVk := Lib.hid (HVk.out.stays hb14)
     clear hb14
     have C9 := Lib.hid (CA.out w14 HT14.out)
     go_wp2_with fail
     refine C9.out.mono ?_
     rintro e wz ⟨rfl, hbz⟩
     have HBZ := Lib.hid (below_step HB14.out hbz)
     clear hbz
     go_wp2
     go_ret
     exact ⟨rfl, HBZ.out⟩
end Go.Proofs.YtokknppjeckppaaGreatDoor

/-
  FetchBack as a walk over this translation.
-/
import Derived.Test.YtjpjpmkadoaipaaGreatDoorQa6
import Derived.Test.YtjpjpmkadoaipaaGreatDoorQa3
set_option linter.unusedVariables false
namespace Go.Proofs.YtjpjpmkadoaipaaGreatDoor
open Go.RowKit
attribute [local go_sem] Oper.semAt_some
def OneF (w0 : World) (mn av mx : Int) (W : World) : Prop := Row W w0.heap.size #[.int .i64 mn, .int .i64 av, .int .i64 mx] 23 ∧ Below w0.heap.size w0 W
theorem OneF.on {w0 W W' : World} {mn av mx : Int} (h : OneF w0 mn av mx W) (hb : Below W.heap.size W W') : OneF w0 mn av mx W' := ⟨h.1.step hb, below_step h.2 hb⟩
theorem OneF.cells {w0 W : World} {mn av mx : Int} (h : OneF w0 mn av mx W) : W.cell? ⟨w0.heap.size, 0, none⟩ = some (.int .i64 mn) ∧ W.cell? ⟨w0.heap.size, 1, none⟩ = some (.int .i64 av) ∧ W.cell? ⟨w0.heap.size, 2, none⟩ = some (.int .i64 mx) := by
 have g0 := h.1.cell 0; have g1 := h.1.cell 1; have g2 := h.1.cell 2
 simp only [List.getElem?_toArray, List.getElem?_cons_zero, List.getElem?_cons_succ] at g0 g1 g2
 exact ⟨g0, g1, g2⟩
theorem oneF_new (w0 : World) (mn av mx : Int) : OneF w0 mn av mx (w0.alloc (.cells #[.int .i64 mn, .int .i64 av, .int .i64 mx] 23)) := ⟨Row.made _ _ _, (Below.refl _ _).alloc (Nat.le_refl _) _⟩
structure FewF (m a b x : Nat) (I : List It) : Prop where
 fit : FitAt m a x b
 rdy : ReadyT (cutN m b x) I
 p400 : ∀ y ∈ I, y.p.size ≤ 400
 len : I.length ≤ 70
theorem fewF_at {mn av mx : Int} {I : List It} (h : fewTB mn av mx I = true) : ∃ m a b x : Nat, mn = m ∧ av = a ∧ mx = x ∧ FewF m a b x I := by
 obtain ⟨h70, _, h400, m, a, x, b, h1, h2, h3, hF, hR⟩ := fewTB_iff.1 h
 exact ⟨m, a, b, x, h1, h2, h3, hF, hR, h400, h70⟩
section
variable {m a b x : Nat} {I : List It}
theorem FewF.hs (h : FewF m a b x I) : ∀ y ∈ I, y.p.size ≤ 100000 ∧ y.c.size ≤ 100000 := fun y hy =>
 ⟨Nat.le_trans (h.p400 y hy) (by decide), Nat.le_trans (h.rdy.fit.data y hy) (by decide)⟩
theorem FewF.sl (h : FewF m a b x I) : (seqT (cutN m b x) I).length ≤ 70000 := seqT_len h.rdy
theorem FewF.rBuild (h : FewF m a b x I) {iv : Value} {w : World} (hi : IsItems w iv I) :
  Calls Tryz.prog 9 #[pV m a x, iv] w (RetKO (keyN (topT (cutN m b x) I)) (objsT (cutN m b x) I) w) :=
 rBuild_any m a b x h.fit iv I w hi h.rdy.fit.path h.hs (Nat.le_trans h.len (by decide)) (Nat.le_trans h.sl (by decide))
theorem FewF.rise (h : FewF m a b x I) : RiseO (objsT (cutN m b x) I) := (objs_fit _ _).1
theorem FewF.many (h : FewF m a b x I) : (objsT (cutN m b x) I).length ≤ 70000 := by
 have h1 := (putsN_len [] (seqT (cutN m b x) I)).2
 have := h.sl
 have h2 : (objsT (cutN m b x) I).length ≤ ([] : List Ob).length + (seqT (cutN m b x) I).length := h1
 simp at h2; omega
theorem FewF.bytes (h : FewF m a b x I) : ∀ y ∈ objsT (cutN m b x) I, y.r.size ≤ 60000 := fun y hy => by
 obtain ⟨n, hn, rfl⟩ := objs_mem hy
 have hf := seqT_fit h.rdy n hn
 have := wrL_len hf
 rw [Lib.size_eq]
 have e : (obN n).r.data.toList = wrN n := obN_u n
 rw [e, wrN_fit hf]; omega
theorem FewF.reach (h : FewF m a b x I) : ∀ t, ReachO (objsT (cutN m b x) I) [keyN (topT (cutN m b x) I)] t → t ∈ (seqT (cutN m b x) I).map keyN := by
 intro t ht
 induction ht with
 | start h1 _ => exact List.mem_map.2 ⟨_, topT_mem _ I, (List.mem_singleton.1 h1).symm⟩
 | kid _ h2 _ =>
  unfold kidsO nodeO at h2
  rename_i s u _ _
  cases hg : getO (objsT (cutN m b x) I) s with
  | none => rw [hg] at h2; cases h2
  | some y =>
   rw [hg] at h2
   obtain ⟨n, hn, rfl⟩ := objs_mem ((getO_some h.rise).1 hg).1
   have hf := seqT_fit h.rdy n hn
   simp only [Option.bind_some, obN_u, wrN_fit hf, readN_wr hf] at h2
   obtain ⟨k1, k2⟩ := kids_in 9 [] n hn
   rcases List.mem_append.1 h2 with h2 | h2
   ·obtain ⟨p, hp, rfl⟩ := List.mem_map.1 h2
    obtain ⟨m', hm, e⟩ := k1 p hp
    exact List.mem_map.2 ⟨m', hm, e⟩
   ·obtain ⟨p, hp, rfl⟩ := List.mem_map.1 h2
    obtain ⟨m', hm, e⟩ := k2 p hp
    exact List.mem_map.2 ⟨m', hm, e⟩
theorem rawsF_few (h : FewF m a b x I) : (rawsT (cutN m b x) I).length ≤ 70000 ∧ ∀ t ∈ rawsT (cutN m b x) I, t.length ≤ 60000 := by
 refine ⟨by unfold rawsT; rw [List.length_map]; exact seqT_len h.rdy, fun t ht => ?_⟩
 obtain ⟨n, hn, rfl⟩ := List.mem_map.1 ht
 have := wrL_len (seqT_fit h.rdy n hn)
 unfold wrN; rw [if_pos (seqT_fit h.rdy n hn)]; omega
theorem FewF.raws (h : FewF m a b x I) {iv : Value} {w : World} (hi : IsItems w iv I) : Calls Tryz.prog 13 #[pV m a x, iv] w (RetOwn w (rawsT (cutN m b x) I)) := by
 refine (rRaws_any m a b x h.fit iv I w hi h.rdy h.hs).mono ?_
 rintro e w' ⟨v', rfl, ho, hb⟩
 exact ⟨v', rfl, ho, hb⟩
theorem clashF_txt {V : World} (T : List (List UInt8)) (hs : ∀ t ∈ T, t.length ≤ 60000) (hT : T.length ≤ 600000) (v : Value) (w : World) (h : OwnTxt V w v T) :
  Calls Tryz.prog 12 #[v] w fun e w' => e = .returned (.bool (clashB T)) ∧ Below w.heap.size w w' := by
 have := rClash_any v (strsOf T) w h.strs (fun y hy => by
  obtain ⟨t, ht, rfl⟩ := List.mem_map.1 hy
  rw [Lib.size_eq]; exact hs t ht) (by rw [strsOf_len]; exact hT)
 rwa [txts_strsOf] at this
end
theorem strs_one (w : World) (K : ByteArray) : IsStrs (w.alloc (.cells #[.string K] 9)) (.slice (some ⟨w.heap.size, 0, none⟩) 1 1) [K] := by
 refine ⟨by show 1 ≤ maxLen; decide, _, 1, rfl, ⟨fun h => (by cases h), Nat.le_refl _⟩, fun _ => ⟨w.heap.size, 0, rfl, by simp, fun i hi => ?_⟩⟩
 have hi0 : i = 0 := by simpa using hi
 subst hi0
 simp
set_option maxRecDepth 100000 in
set_option maxHeartbeats 16000000 in
theorem FetchBack_w (mn av mx : Int) (iv : Value) (I : List It) (w0 : World) (hi : IsItems w0 iv I) (hz : ∀ x ∈ I, x.c.size ≤ 281474976710656) (hT : ErrT w0) :
  Calls Tryz.prog 3 #[pV mn av mx, iv] w0 fun e w' => e = .returned (.bool true) ∧ Below w0.heap.size w0 w' := by
 have HT := Lib.hid hT; have HI := Lib.hid hi
 have CA := Lib.hid (fun W (hW : ErrT W) => awake13_any W hW)
 obtain ⟨V, hV⟩ : ∃ V, V = w0.alloc (.cells #[.int .i64 mn, .int .i64 av, .int .i64 mx] 23) := ⟨_, rfl⟩
 have hP0 : OneF w0 mn av mx V := by rw [hV]; exact oneF_new _ _ _ _
 have HP0 := Lib.hid hP0
 have CF := Lib.hid (fewT13_any mn av mx iv I V (hi.stays hP0.2) hz)
 obtain ⟨p0, p1, p2⟩ := hP0.cells
 obtain ⟨_, ia, ic, hiv, _, _⟩ := hi
 obtain ⟨z, hzl⟩ : ∃ z, z = I.length := ⟨_, rfl⟩
 rw [← hzl] at hiv
 have HV := Lib.hid hV
 clear hT hP0 hV hz hzl
 subst hiv
 rcases hfw : fewTB mn av mx I with _ | _
 ·rw [hfw] at CF
  clear hfw
  go_enter Tryz.func3, Tryz.ntmps3
  go_wp2_with fail
  rw [← HV.out]
  go_wp2_with fail
  with_reducible refine CF.out.mono ?_
  rintro e w1 ⟨rfl, hb1⟩
  have HP1 := Lib.hid (HP0.out.on hb1)
  have C1 := Lib.hid (CA.out w1 (HT.out.stays HP1.out.2))
  clear hb1
  go_wp2_with fail
  with_reducible refine C1.out.mono ?_
  rintro e w2 ⟨rfl, hb2⟩
  have HB2 := Lib.hid (below_step HP1.out.2 hb2)
  clear hb2
  go_wp2
  go_ret
  exact ⟨rfl, HB2.out⟩
 ·obtain ⟨m, a, b, x, rfl, rfl, rfl, hfe⟩ := fewF_at hfw
  have HF := Lib.hid hfe
  rw [hfw] at CF
  clear hfw hfe
  have CB := Lib.hid (fun W (hW : IsItems W (.slice ia z ic) I) => HF.out.rBuild hW)
  have CW := Lib.hid (fun W (hW : IsItems W (.slice ia z ic) I) => HF.out.raws hW)
  have HTO : Hid (¬ Clash (rawsT (cutN m b x) I) → treeE (objsT (cutN m b x) I) (keyN (topT (cutN m b x) I)) = .ok I) := Lib.hid (fun hc => tree_ok HF.out.rdy fun n hn => (objs_has HF.out.rdy hc hn).1)
  have HRT := Lib.hid (fun hc => reach_tree HF.out.rdy (L := I) (c := cutN m b x) hc)
  have HRE := Lib.hid HF.out.reach
  have HRI := Lib.hid HF.out.rise; have HMA := Lib.hid HF.out.many
  have HBY := Lib.hid (fun y hy => Nat.le_trans (HF.out.bytes y hy) (show 60000 ≤ 1000000 by decide))
  have HSL := Lib.hid HF.out.sl
  have HRF := Lib.hid (rawsF_few HF.out)
  have HFI : Hid (∀ y ∈ objsT (cutN m b x) I, y.t.length = 32) := Lib.hid (objs_fit _ _).2
  obtain ⟨kT, hkT⟩ : ∃ kT, kT = keyN (topT (cutN m b x) I) := ⟨_, rfl⟩
  obtain ⟨O, hO⟩ : ∃ O, O = objsT (cutN m b x) I := ⟨_, rfl⟩
  obtain ⟨T, hTT⟩ : ∃ T, T = rawsT (cutN m b x) I := ⟨_, rfl⟩
  obtain ⟨U, hU⟩ : ∃ U, U = (seqT (cutN m b x) I).map keyN := ⟨_, rfl⟩
  have HUL : Hid (U.length ≤ 900000) := Lib.hid (by rw [hU, List.length_map]; have := HSL.out; omega)
  rw [← hkT, ← hO] at CB HTO HRT HRE
  rw [← hO] at HRI HMA HBY HFI
  rw [← hTT] at HTO HRT HRF CW
  rw [← hU] at HRE
  clear hkT hO hTT hU HF HSL
  obtain ⟨K, hK⟩ : ∃ K : ByteArray, K = ⟨kT.toArray⟩ := ⟨_, rfl⟩
  have HK : Hid (K.data.toList = kT) := Lib.hid (by rw [hK])
  have hl : O.length ≤ 1000000 := Nat.le_trans HMA.out (by decide)
  go_enter Tryz.func3, Tryz.ntmps3
  go_wp2_with fail
  rw [← HV.out]
  go_wp2_with fail
  with_reducible refine CF.out.mono ?_
  rintro e w1 ⟨rfl, hb1⟩
  have HP1 := Lib.hid (HP0.out.on hb1)
  have C1 := Lib.hid (CB.out w1 (HI.out.stays HP1.out.2))
  obtain ⟨g0, g1, g2⟩ := HP1.out.cells
  clear hb1 p0 p1 p2
  go_wp2_with fail
  refine C1.out.mono ?_
  rintro e w2 ⟨v2, rfl, ho, hb2⟩
  rw [← hK]
  have HP2 := Lib.hid (HP1.out.on hb2)
  have HO2 := Lib.hid ho
  obtain ⟨_, oa, oc, hov, _, _⟩ := ho
  obtain ⟨zo, hzo⟩ : ∃ zo, zo = O.length := ⟨_, rfl⟩
  rw [← hzo] at hov
  clear hb2 g0 g1 g2 hzo hK
  subst hov
  have CT := Lib.hid (Tree_any _ O K w2 HO2.out HRI.out hl HBY.out (HT.out.stays HP2.out.2))
  rw [HK.out] at CT
  go_wp2_with fail
  refine CT.out.mono ?_
  rintro e w3 ⟨v3, M, k, rfl, hm3, hb3, hres⟩
  have HRES := Lib.hid hres
  have HP3 := Lib.hid (HP2.out.on hb3); have HO3 := Lib.hid (HO2.out.stays hb3); have HM3 := Lib.hid hm3.items
  obtain ⟨_, ma, mc, hmv, _, _⟩ := hm3.items
  obtain ⟨zm, hzm⟩ : ∃ zm, zm = M.length := ⟨_, rfl⟩
  rw [← hzm] at hmv
  clear hb3 hm3 hres hzm
  subst hmv
  obtain ⟨W4, hW4⟩ : ∃ W4, W4 = w3.alloc (.cells #[.string K] 9) := ⟨_, rfl⟩
  have hb4 : Below w3.heap.size w3 W4 := by rw [hW4]; exact (Below.refl _ _).alloc (Nat.le_refl _) _
  have hs4 : IsStrs W4 (.slice (some ⟨w3.heap.size, 0, none⟩) 1 1) [K] := by rw [hW4]; exact strs_one w3 K
  have HP4 := Lib.hid (HP3.out.on hb4); have HO4 := Lib.hid (HO3.out.stays hb4); have HM4 := Lib.hid (HM3.out.stays hb4)
  have CR := Lib.hid ((Reach_any _ _ O [K] W4 HO4.out HRI.out hl HBY.out (HT.out.stays HP4.out.2) hs4 (show 1 ≤ 800000 by decide) U (fun t ht => HRE.out t (by rw [show txts [K] = [kT] by show [K.data.toList] = _; rw [HK.out]] at ht; exact ht)) HUL.out).mono fun e w' h => h.ex)
  rw [show txts [K] = [kT] by show [K.data.toList] = _; rw [HK.out]] at CR
  have HW4 := Lib.hid hW4
  clear hb4 hs4 hW4
  go_wp2_with fail
  rw [← HW4.out]
  refine CR.out.mono ?_
  rintro e w5 ⟨ra, rp, R, c, rfl, hr5, hri, hrm, hrc, hb5⟩
  have HP5 := Lib.hid (HP4.out.on hb5); have HO5 := Lib.hid (HO4.out.stays hb5); have HM5 := Lib.hid (HM4.out.stays hb5)
  have HR5 := Lib.hid hr5.strs; have HRI5 := Lib.hid hri; have HRM5 := Lib.hid hrm; have HRC5 := Lib.hid hrc
  have C6 := Lib.hid (CW.out w5 (HI.out.stays HP5.out.2))
  obtain ⟨g0, g1, g2⟩ := HP5.out.cells
  clear hb5 hr5 hri hrm hrc
  go_wp2_with fail
  refine C6.out.mono ?_
  rintro e w6 ⟨v6, rfl, ho6, hb6⟩
  have HP6 := Lib.hid (HP5.out.on hb6); have HO6 := Lib.hid (HO5.out.stays hb6); have HM6 := Lib.hid (HM5.out.stays hb6); have HR6 := Lib.hid (HR5.out.stays hb6)
  have C7 := Lib.hid (clashF_txt T HRF.out.2 (Nat.le_trans HRF.out.1 (by decide)) v6 w6 ho6)
  clear hb6 ho6 g0 g1 g2
  by_cases hc : Clash T
  ·rw [clashB_yes hc] at C7
   clear hc
   go_wp2_with fail
   with_reducible refine C7.out.mono ?_
   rintro e w7 ⟨rfl, hb7⟩
   have HP7 := Lib.hid (HP6.out.on hb7)
   have C8 := Lib.hid (CA.out w7 (HT.out.stays HP7.out.2))
   clear hb7
   go_wp2_with fail
   with_reducible refine C8.out.mono ?_
   rintro e w8 ⟨rfl, hb8⟩
   have HB8 := Lib.hid (below_step HP7.out.2 hb8)
   clear hb8
   go_wp2
   go_ret
   exact ⟨rfl, HB8.out⟩
  ·rw [clashB_no hc] at C7
   obtain ⟨hrt1, hrt2⟩ := HRT.out hc
   have hok := HTO.out hc
   obtain ⟨rfl, rfl⟩ : M = I ∧ k = 0 := by
    rcases HRES.out with ⟨h1, h2⟩ | ⟨h1, _⟩
    ·rw [hok] at h1; cases h1; exact ⟨rfl, h2⟩
    ·rw [hok] at h1; cases h1
   obtain rfl : c = true := HRC5.out.2 hrt2
   have hRK : R = ofL (ksOb O) := rises_ext HRI5.out (ofL_spec _).1 (fun t => by
    rw [HRM5.out, hrt1, (ofL_spec _).2]
    exact ⟨fun h => ⟨h, by obtain ⟨y, hy, rfl⟩ := List.mem_map.1 h; exact HFI.out y hy⟩, fun h => h.1⟩)
   have HRK := Lib.hid hRK
   clear hc hrt1 hrt2 hok hRK
   go_wp2_with fail
   with_reducible refine C7.out.mono ?_
   rintro e w7 ⟨rfl, hb7⟩
   have HP7 := Lib.hid (HP6.out.on hb7); have HO7 := Lib.hid (HO6.out.stays hb7); have HR7 := Lib.hid (HR6.out.stays hb7)
   have C8 := Lib.hid (rSame_any _ _ M M w7 (HM6.out.stays hb7) (HI.out.stays HP7.out.2))
   rw [sameT_yes rfl] at C8
   clear hb7
   go_wp2_with fail
   with_reducible refine C8.out.mono ?_
   rintro e w8 ⟨rfl, hb8⟩
   have HP8 := Lib.hid (HP7.out.on hb8); have HR8 := Lib.hid (HR7.out.stays hb8)
   have C9 := Lib.hid (rKeysOb_any _ O w8 (HO7.out.stays hb8) (Nat.le_trans HMA.out (by decide)))
   rw [← HRK.out] at C9
   clear hb8
   go_wp2_with fail
   refine C9.out.mono ?_
   rintro e w9 ⟨v9, rfl, hs9, hb9⟩
   have HP9 := Lib.hid (HP8.out.on hb9)
   have C10 := Lib.hid (Same_eq _ v9 (strsOf R) w9 (HR8.out.stays hb9) hs9)
   clear hb9 hs9
   go_wp2_with fail
   with_reducible refine C10.out.mono ?_
   rintro e w10 ⟨rfl, hb10⟩
   have HP10 := Lib.hid (HP9.out.on hb10)
   have C11 := Lib.hid (CA.out w10 (HT.out.stays HP10.out.2))
   clear hb10
   go_wp2_with fail
   with_reducible refine C11.out.mono ?_
   rintro e w11 ⟨rfl, hb11⟩
   have HB11 := Lib.hid (below_step HP10.out.2 hb11)
   clear hb11
   go_wp2
   go_ret
   exact ⟨rfl, HB11.out⟩
end Go.Proofs.YtjpjpmkadoaipaaGreatDoor

/-
  Texts put together: contracts and laws that this seat's proofs share.
-/
import Derived.Test.YtlccihidedfemaaGreatDoorYbDtw
import Derived.Test.YtlccihidedfemaaGreatDoorQb8
import Derived.Test.YtlccihidedfemaaGreatDoorYbDoq
set_option linter.unusedVariables false
namespace Go.Proofs.YtlccihidedfemaaGreatDoor
open Go.RowKit
attribute [local go_sem] Oper.semAt_some
set_option maxRecDepth 100000 in
set_option maxHeartbeats 8000000 in
theorem pBuild_any (mn av b mx : Nat) (hF : FitAt mn av mx b) (iv : Value) (I : List It) (w : World) (hi : IsItems w iv I) (hR : ReadyT (cutN mn b mx) I) (hfew : ∀ x ∈ I, x.p.size ≤ 400) (hT : Tabs w) (hL : (seqT (cutN mn b mx) I).length ≤ 700000) :
  Calls Tryz.prog 11 #[pV mn av mx, iv] w (RetKO (keyN (topT (cutN mn b mx) I)) (objsT (cutN mn b mx) I) w) := by
 have F := hR.fit
 have CF : Hid (∀ W, Calls Tryz.prog 30 #[pV mn av mx] W fun e w' => e = .returned (.bool true) ∧ Below W.heap.size W w') := Lib.hid (fun W => by
  have := Fit_any_Cdw mn av mx W; rwa [fitB_of hF] at this)
 have CD := Lib.hid (fun (Bb : Nat) (vR vB : Value) (W : World) (h : Bld w Bb (mn, av, mx) W (blkT I [] ++ []) [] vR vB) => dir_all w Bb mn av b mx hF hT I F hfew 9 ⟨#[]⟩ [] [] vR vB W (Nat.zero_le _) (fun y hy => by cases hy) (off_nil _) (fun x hx => by have := (path_ok (F.path x hx)).len; omega) h (by
  have : (seqD (cutN mn b mx) I 9 (⟨#[]⟩ : ByteArray).data.toList).length ≤ 700000 := hL
  simpa using this))
 have HCP : Hid (∀ S, Stab ((seqT (cutN mn b mx) I).map obN) S → SortO S → compO S = objsT (cutN mn b mx) I) := Lib.hid (fun S h1 h2 => comp_puts (seqT_fit hR) h1 h2)
 have hk32 : (keyN (topT (cutN mn b mx) I)).length = 32 := keyN_len (seqT_fit hR _ (topT_mem _ _))
 have hsl : 0 < (seqT (cutN mn b mx) I).length := List.length_pos_iff.2 (fun e => by have := topT_mem (cutN mn b mx) I; rw [e] at this; cases this)
 have hbt := blk_top F
 have hIl := F.len
 obtain ⟨K, hK⟩ : ∃ K : ByteArray, K = ⟨(keyN (topT (cutN mn b mx) I)).toArray⟩ := ⟨_, rfl⟩
 have hKs : K.size = 32 := by rw [hK, Lib.size_eq]; exact hk32
 have hKe : K.toList.isEmpty = false := emp_f (by omega)
 obtain ⟨sq, hsq⟩ : ∃ sq, sq = seqT (cutN mn b mx) I := ⟨_, rfl⟩
 obtain ⟨V, hV⟩ : ∃ V, V = w.alloc (.cells #[.int .i64 mn, .int .i64 av, .int .i64 mx] 23) := ⟨_, rfl⟩
 have hbV : Below w.heap.size w V := by rw [hV]; exact (Below.refl _ _).alloc (Nat.le_refl _) _
 have hRP : Row V w.heap.size #[.int .i64 mn, .int .i64 av, .int .i64 mx] 23 := by rw [hV]; exact Row.made _ _ _
 have HV := Lib.hid hV; have HBV := Lib.hid hbV; have HRP := Lib.hid hRP; have HI := Lib.hid hi; have HK := Lib.hid hK; have HSQ := Lib.hid hsq; have HBT := Lib.hid hbt
 have HL : Hid (sq.length ≤ 700000 ∧ 0 < sq.length) := Lib.hid (by rw [hsq]; exact ⟨hL, hsl⟩)
 rw [← hsq] at HCP
 obtain ⟨_, a0, cap0, rfl, _, _⟩ := hi
 clear hF hR hfew hT hL hk32 hsl hbt hV hbV hK hsq F hKs
 go_enter Tryz.func11, Tryz.ntmps11
 go_wp2_with fail
 rw [← HV.out]
 with_reducible refine (CF.out _).mono ?_
 rintro e w1 ⟨rfl, hb1⟩
 have HRP1 := Lib.hid (HRP.out.step hb1)
 have HB1 := Lib.hid (below_step HBV.out hb1)
 have p0 := HRP1.out.cell 0; have p1 := HRP1.out.cell 1; have p2 := HRP1.out.cell 2
 simp only [List.getElem?_toArray, List.getElem?_cons_zero, List.getElem?_cons_succ] at p0 p1 p2
 have hwl := HRP1.out.lt
 have hle : decide ((I.length : Int) > 60) = false := decide_eq_false (by omega)
 have hle2 : ¬ (60 : Int) < (I.length : Int) := by omega
 clear hb1 hRP
 go_wp2_with fail
 obtain ⟨V2, hV2⟩ : ∃ V2, V2 = w1.alloc (.cells #[.slice a0 I.length cap0, .slice none 0 0, .int .i64 mn, .int .i64 av, .int .i64 mx] 61) := ⟨_, rfl⟩
 have hb2 : Below w1.heap.size w1 V2 := by rw [hV2]; exact (Below.refl _ _).alloc (Nat.le_refl _) _
 have hBl : Bld w w1.heap.size (mn, av, mx) V2 (blkT I [] ++ []) [] (.slice a0 I.length cap0) (.slice none 0 0) := by
  rw [HBT.out, List.append_nil]
  exact ⟨by rw [hV2]; exact Row.made _ _ _, HI.out, obs_own_nil _ _, HB1.out.size, below_step HB1.out hb2⟩
 have CD1 := Lib.hid (CD.out _ _ _ _ hBl)
 rw [← hV2]
 clear hV2 hb2 hBl
 with_reducible refine CD1.out.mono ?_
 rintro e w4 ⟨rfl, vR4, vB4, hH4, hK4⟩
 have hkv : keyV (keyN (dirN (cutN mn b mx) I 9 (⟨#[]⟩ : ByteArray).data.toList)) = .string K := by rw [HK.out]; rfl
 rw [hkv]
 have hM4 : ([] : List Ob) ++ (seqD (cutN mn b mx) I 9 (⟨#[]⟩ : ByteArray).data.toList).map obN = sq.map obN := by rw [HSQ.out]; rfl
 rw [hM4] at hH4
 have CB := Lib.hid (byKey_any w w1.heap.size (mn, av, mx) w4 [] (sq.map obN) vR4 vB4 hH4 (by rw [List.length_map]; exact HL.out.2) (by rw [List.length_map]; have := HL.out.1; omega))
 have HB4 := Lib.hid hH4.below
 have q0 := hH4.cells.1
 obtain ⟨_, ar, capr, rfl, _, _⟩ := hH4.rest
 clear hH4 hK4 hkv hM4 p0 p1 p2 CD1
 go_wp2_with fail
 with_reducible refine CB.out.mono ?_
 rintro e w5 ⟨v5, S, rfl, hs1, hs2, ho5, hb5⟩
 have HO := Lib.hid ho5.is
 have HE := Lib.hid (HCP.out S hs1 hs2)
 have HB5 := Lib.hid (below_step HB4.out hb5)
 clear ho5 hs1 hs2 hb5 q0
 go_wp2
 exact bodyPost_ret (v := .tuple #[.string K, v5]) (by simp [results, Tryz.results11, go_sem]) rfl ⟨v5, by rw [← HK.out], by rw [← HE.out]; exact HO.out, HB5.out⟩
theorem fit248_Dua : FitAt (2 : Nat) (4 : Nat) (8 : Nat) 2 := ⟨by decide, by decide, by decide, by decide, by decide, by decide, by decide⟩
def nilN : Nd := ⟨3, ⟨#[]⟩, [], []⟩
theorem nilN_fit : fitN nilN = true := by decide +kernel
theorem nilN_wr : wrN nilN = [3, 0] := by decide +kernel
theorem rdy_nil (c : List UInt8 → Nat) (h : ∃ mn mx, CutOk mn mx c ∧ mx ≤ 4096) : ReadyT c [] :=
 ⟨⟨Nat.zero_le _, List.Pairwise.nil, fun _ h => (by cases h), fun _ h => (by cases h), fun _ h => (by cases h), fun _ h => (by cases h), by decide⟩, h, fun _ h => (by cases h)⟩
theorem seq_nil (c : List UInt8 → Nat) : seqT c [] = [nilN] := rfl
theorem objs_nil (c : List UInt8 → Nat) : objsT c [] = [obN nilN] := by
  have h : (obN nilN).t.length = 32 := by rw [obN_t]; exact keyN_len nilN_fit
  show addO [] (obN nilN) = _
  unfold addO
  rw [if_neg (by intro e; rcases e with e | e; · cases e
                 · exact e h)]
  rfl
theorem ex_build (w : World) (hT : Tabs w) : Calls Tryz.prog 11 #[pV 2 4 8, .slice none 0 0] w fun e w' => ∃ (K : ByteArray) (b off cap : Nat), e = .returned (.tuple #[.string K, .slice (some ⟨b, off, none⟩) 1 cap]) ∧ b < w'.heap.size ∧ w'.cell? ⟨b, off, none⟩ = some (.string K) ∧ w'.cell? ⟨b, off + 1, none⟩ = some (.string ⟨#[3, 0]⟩) ∧ 1 ≤ cap ∧ Below w.heap.size w w' := by
 refine (pBuild_any 2 4 2 8 fit248_Dua (.slice none 0 0) [] w (isItems_nil _) (rdy_nil _ (cut_fit fit248_Dua)) (fun _ h => by cases h) hT (by rw [seq_nil]; decide)).mono ?_
 rintro e w' ⟨v, rfl, hv, hb⟩
 rw [objs_nil] at hv
 obtain ⟨_, a, cap, rfl, ⟨_, hle⟩, hc⟩ := hv
 obtain ⟨b, off, rfl, hlt, hcell⟩ := hc (by decide)
 have h0 := hcell 0 (by decide)
 refine ⟨_, b, off, cap, rfl, hlt, ?_, ?_, hle, hb⟩
 ·exact h0.1
 ·rw [show (off + 1 : Nat) = off + 0 * 2 + 1 by omega, h0.2]
  show some (Value.string ⟨(wrN nilN).toArray⟩) = _
  rw [nilN_wr]
set_option maxRecDepth 100000 in
set_option maxHeartbeats 1000000 in
theorem awake_any (w : World) (hT : Tabs w) : Calls Tryz.prog 10 #[] w fun e w' => e = .returned (.bool true) ∧ Below w.heap.size w w' := by
 have ER := Lib.hid (ex_build w hT)
 clear hT
 go_enter Tryz.func10, Tryz.ntmps10
 go_wp2_with fail
 refine ER.out.mono ?_
 rintro e w1 ⟨K, b, off, cap, rfl, hlt, h0, h1, hcap, hb⟩
 have HB := Lib.hid hb
 have he : (K.toList == K.toList) = true := by simp
 clear hb
 go_wp2
 go_ret
 exact ⟨rfl, HB.out⟩
def OneP (w0 : World) (mn av mx : Int) (W : World) : Prop := Row W w0.heap.size #[.int .i64 mn, .int .i64 av, .int .i64 mx] 23 ∧ Below w0.heap.size w0 W ∧ Tabs W
theorem OneP.on {w0 W W' : World} {mn av mx : Int} (h : OneP w0 mn av mx W) (hb : Below W.heap.size W W') : OneP w0 mn av mx W' := ⟨h.1.step hb, below_step h.2.1 hb, h.2.2.stays hb⟩
theorem OneP.cells {w0 W : World} {mn av mx : Int} (h : OneP w0 mn av mx W) : W.cell? ⟨w0.heap.size, 0, none⟩ = some (.int .i64 mn) ∧ W.cell? ⟨w0.heap.size, 1, none⟩ = some (.int .i64 av) ∧ W.cell? ⟨w0.heap.size, 2, none⟩ = some (.int .i64 mx) := by
 have g0 := h.1.cell 0; have g1 := h.1.cell 1; have g2 := h.1.cell 2
 simp only [List.getElem?_toArray, List.getElem?_cons_zero, List.getElem?_cons_succ] at g0 g1 g2
 exact ⟨g0, g1, g2⟩
theorem oneP_new (w0 : World) (mn av mx : Int) (hT : Tabs w0) : OneP w0 mn av mx (w0.alloc (.cells #[.int .i64 mn, .int .i64 av, .int .i64 mx] 23)) := by
 have hb : Below w0.heap.size w0 (w0.alloc (.cells #[.int .i64 mn, .int .i64 av, .int .i64 mx] 23)) := (Below.refl _ _).alloc (Nat.le_refl _) _
 exact ⟨Row.made _ _ _, hb, hT.stays hb⟩
structure FewAt (m a b x : Nat) (I : List It) : Prop where
 fit : FitAt m a x b
 rdy : ReadyT (cutN m b x) I
 p400 : ∀ y ∈ I, y.p.size ≤ 400
 len : I.length ≤ 70
theorem few_at {mn av mx : Int} {I : List It} (h : fewTB mn av mx I = true) : ∃ m a b x : Nat, mn = m ∧ av = a ∧ mx = x ∧ FewAt m a b x I := by
 obtain ⟨h70, _, h400, m, a, x, b, h1, h2, h3, hF, hR⟩ := fewTB_iff.1 h
 exact ⟨m, a, b, x, h1, h2, h3, hF, hR, h400, h70⟩
theorem FewAt.hs {m a b x : Nat} {I : List It} (h : FewAt m a b x I) : ∀ y ∈ I, y.p.size ≤ 100000 ∧ y.c.size ≤ 100000 := fun y hy =>
 ⟨Nat.le_trans (h.p400 y hy) (by decide), Nat.le_trans (h.rdy.fit.data y hy) (by decide)⟩
theorem FewAt.sl {m a b x : Nat} {I : List It} (h : FewAt m a b x I) : (seqT (cutN m b x) I).length ≤ 700000 := Nat.le_trans (seqT_len h.rdy) (by decide)
theorem FewAt.pBuild {m a b x : Nat} {I : List It} (h : FewAt m a b x I) {iv : Value} {w : World} (hi : IsItems w iv I) (hT : Tabs w) :
  Calls Tryz.prog 11 #[pV m a x, iv] w (RetKO (keyN (topT (cutN m b x) I)) (objsT (cutN m b x) I) w) :=
 pBuild_any m a b x h.fit iv I w hi h.rdy h.p400 hT h.sl
theorem FewAt.rBuild {m a b x : Nat} {I : List It} (h : FewAt m a b x I) {iv : Value} {w : World} (hi : IsItems w iv I) :
  Calls Tryz.prog 12 #[pV m a x, iv] w (RetKO (keyN (topT (cutN m b x) I)) (objsT (cutN m b x) I) w) :=
 rBuild_any m a b x h.fit iv I w hi h.rdy.fit.path h.hs (Nat.le_trans h.len (by decide)) h.sl
set_option maxRecDepth 100000 in
set_option maxHeartbeats 40000000 in
theorem DagBuilds_w (mn av mx : Int) (iv : Value) (I : List It) (w0 : World) (hi : IsItems w0 iv I) (hz : ∀ x ∈ I, x.c.size ≤ 281474976710656) (hT : Tabs w0) :
  Calls Tryz.prog 3 #[pV mn av mx, iv] w0 fun e w' => e = .returned (.bool true) ∧ Below w0.heap.size w0 w' := by
 obtain ⟨V, hV⟩ : ∃ V, V = w0.alloc (.cells #[.int .i64 mn, .int .i64 av, .int .i64 mx] 23) := ⟨_, rfl⟩
 have HH : Hid (OneP w0 mn av mx V) := Lib.hid (by rw [hV]; exact oneP_new w0 mn av mx hT)
 have HV := Lib.hid hV
 have HI := Lib.hid hi
 have AW : Hid (∀ W, OneP w0 mn av mx W → _) := Lib.hid fun W h => awake_any W h.2.2
 have FW : Hid (∀ W, OneP w0 mn av mx W → _) := Lib.hid fun W h => fewT_any mn av mx iv I W (HI.out.stays h.2.1) hz
 obtain ⟨c0, c1, c2⟩ := HH.out.cells
 clear hV hT hi hz
 rcases hf : fewTB mn av mx I with _ | _
 ·rw [hf] at FW
  go_enter Tryz.func3, Tryz.ntmps3
  go_wp2_with fail
  rw [← HV.out]
  go_wp2_with fail
  with_reducible refine (FW.out _ HH.out).mono ?_
  rintro e w1 ⟨rfl, hb⟩
  replace HH := Lib.hid (HH.out.on hb)
  clear hb c0 c1 c2
  obtain ⟨c0, c1, c2⟩ := HH.out.cells
  go_wp2_with fail
  with_reducible refine (AW.out _ HH.out).mono ?_
  rintro e w9 ⟨rfl, hb⟩
  go_wp2
  go_ret
  exact ⟨rfl, below_step HH.out.2.1 hb⟩
 ·rw [hf] at FW
  obtain ⟨m, a, b, x, rfl, rfl, rfl, hF⟩ := few_at hf
  obtain ⟨K, hK⟩ : ∃ K : ByteArray, K = ⟨(keyN (topT (cutN m b x) I)).toArray⟩ := ⟨_, rfl⟩
  have FF := fitO_yes (objs_fit (cutN m b x) I)
  obtain ⟨O, hO⟩ : ∃ O, O = objsT (cutN m b x) I := ⟨_, rfl⟩
  have BP : Hid (∀ W, OneP w0 m a x W → Calls Tryz.prog 11 #[pV m a x, iv] W fun e w' => ∃ v', e = .returned (.tuple #[.string K, v']) ∧ IsObs w' v' O ∧ Below W.heap.size W w') := Lib.hid fun W h => by rw [hK, hO]; exact hF.pBuild (HI.out.stays h.2.1) h.2.2
  have BR : Hid (∀ W, OneP w0 m a x W → Calls Tryz.prog 12 #[pV m a x, iv] W fun e w' => ∃ v', e = .returned (.tuple #[.string K, v']) ∧ IsObs w' v' O ∧ Below W.heap.size W w') := Lib.hid fun W h => by rw [hK, hO]; exact hF.rBuild (HI.out.stays h.2.1)
  rw [← hO] at FF
  have FN : Hid (∀ (v : Value) W, IsObs W v O → Calls Tryz.prog 14 #[v] W fun e w' => e = .returned (.bool true) ∧ Below W.heap.size W w') := Lib.hid fun v W h => by have := rFitO_any v O W h; rwa [FF] at this
  have SN : Hid (∀ (v v' : Value) W, IsObs W v O → IsObs W v' O → Calls Tryz.prog 13 #[v, v'] W fun e w' => e = .returned (.bool true) ∧ Below W.heap.size W w') := Lib.hid fun v v' W h h' => by have := rSameO_any v v' O O W h h'; rwa [sameO_yes rfl] at this
  have hkk : (K.toList == K.toList) = true := by simp
  clear hf hF hK hO FF
  go_enter Tryz.func3, Tryz.ntmps3
  go_wp2_with fail
  rw [← HV.out]
  go_wp2_with fail
  with_reducible refine (FW.out _ HH.out).mono ?_
  rintro e w1 ⟨rfl, hb⟩
  replace HH := Lib.hid (HH.out.on hb)
  clear hb c0 c1 c2
  obtain ⟨c0, c1, c2⟩ := HH.out.cells
  go_wp2_with fail
  with_reducible refine (BP.out _ HH.out).mono ?_
  rintro e w4 ⟨v4, rfl, ho, hb⟩
  replace HH := Lib.hid (HH.out.on hb)
  have H4 := Lib.hid ho
  clear hb ho c0 c1 c2
  obtain ⟨c0, c1, c2⟩ := HH.out.cells
  go_wp2_with fail
  with_reducible refine (BR.out _ HH.out).mono ?_
  rintro e w5 ⟨v5, rfl, ho, hb⟩
  replace HH := Lib.hid (HH.out.on hb)
  replace H4 := Lib.hid (H4.out.stays hb)
  have H5 := Lib.hid ho
  clear hb ho c0 c1 c2
  go_wp2_with fail
  with_reducible refine (SN.out _ _ _ H4.out H5.out).mono ?_
  rintro e w6 ⟨rfl, hb⟩
  replace HH := Lib.hid (HH.out.on hb)
  replace H4 := Lib.hid (H4.out.stays hb)
  clear hb
  go_wp2_with fail
  with_reducible refine (FN.out _ _ H4.out).mono ?_
  rintro e w7 ⟨rfl, hb⟩
  replace HH := Lib.hid (HH.out.on hb)
  clear hb
  go_wp2_with fail
  with_reducible refine (AW.out _ HH.out).mono ?_
  rintro e w9 ⟨rfl, hb⟩
  go_wp2
  go_ret
  exact ⟨rfl, below_step HH.out.2.1 hb⟩
end Go.Proofs.YtlccihidedfemaaGreatDoor

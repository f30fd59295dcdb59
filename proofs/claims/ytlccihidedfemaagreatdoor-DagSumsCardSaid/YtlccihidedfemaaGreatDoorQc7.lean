/-
  Texts put together: contracts and laws that this seat's proofs share.
-/
import Derived.Test.YtlccihidedfemaaGreatDoorYcDtw
import Derived.Test.YtlccihidedfemaaGreatDoorQc6
import Derived.Test.YtlccihidedfemaaGreatDoorYcDoq
import Derived.Test.YtlccihidedfemaaGreatDoorYcDog
import Derived.Test.YtlccihidedfemaaGreatDoorQc2
import Derived.Test.YtlccihidedfemaaGreatDoorQc5
import Derived.Test.YtlccihidedfemaaGreatDoorYcNdf
import Derived.Test.YtlccihidedfemaaGreatDoorQc3
import Derived.Test.YtlccihidedfemaaGreatDoorQc0
import Derived.Test.YtlccihidedfemaaGreatDoorYcShr
import Derived.Lib.RowBridge
set_option linter.unusedVariables false
namespace Go.Proofs.YtlccihidedfemaaGreatDoor
open Go.RowKit
attribute [local go_sem] Oper.semAt_some
set_option maxRecDepth 100000 in
set_option maxHeartbeats 8000000 in
theorem pBuild_any (mn av b mx : Nat) (hF : FitAt mn av mx b) (iv : Value) (I : List It) (w : World) (hi : IsItems w iv I) (hR : ReadyT (cutN mn b mx) I) (hfew : ∀ x ∈ I, x.p.size ≤ 400) (hT : Tabs w) (hL : (seqT (cutN mn b mx) I).length ≤ 700000) :
  Calls Tryz.prog 11 #[pV mn av mx, iv] w (RetKO (keyN (topT (cutN mn b mx) I)) (objsT (cutN mn b mx) I) w) := by
 have F := hR.fit
 have CF : Hid (∀ W, Calls Tryz.prog 30 #[pV mn av mx] W fun e w' => e = .returned (.bool true) ∧ Below W.heap.size W w') := Lib.hid (fun W => by
  have := Fit_any_Cdw mn av mx W; rwa [fitB_of hF] at this)
 have CD := Lib.hid (fun (Bb : Nat) (vR vB : Value) (W : World) (h : Bld w Bb (mn, av, mx) W (blkT I [] ++ []) [] vR vB) => dir_all w Bb mn av b mx hF hT I F hfew 9 ⟨#[]⟩ [] [] vR vB W (Nat.zero_le _) (fun y hy => by cases hy) (off_nil _) (fun x hx => by have := (path_ok (F.path x hx)).len; omega) h (by
  have : (seqD (cutN mn b mx) I 9 (⟨#[]⟩ : ByteArray).data.toList).length ≤ 700000 := hL
  simpa using this))
 have HCP : Hid (∀ S, Stab ((seqT (cutN mn b mx) I).map obN) S → SortO S → compO S = objsT (cutN mn b mx) I) := Lib.hid (fun S h1 h2 => comp_puts (seqT_fit hR) h1 h2)
 have hk32 : (keyN (topT (cutN mn b mx) I)).length = 32 := keyN_len (seqT_fit hR _ (topT_mem _ _))
 have hsl : 0 < (seqT (cutN mn b mx) I).length := List.length_pos_iff.2 (fun e => by have := topT_mem (cutN mn b mx) I; rw [e] at this; cases this)
 have hbt := blk_top F
 have hIl := F.len
 obtain ⟨K, hK⟩ : ∃ K : ByteArray, K = ⟨(keyN (topT (cutN mn b mx) I)).toArray⟩ := ⟨_, rfl⟩
 have hKs : K.size = 32 := by rw [hK, Lib.size_eq]; exact hk32
 have hKe : K.toList.isEmpty = false := emp_f (by omega)
 obtain ⟨sq, hsq⟩ : ∃ sq, sq = seqT (cutN mn b mx) I := ⟨_, rfl⟩
 obtain ⟨V, hV⟩ : ∃ V, V = w.alloc (.cells #[.int .i64 mn, .int .i64 av, .int .i64 mx] 23) := ⟨_, rfl⟩
 have hbV : Below w.heap.size w V := by rw [hV]; exact (Below.refl _ _).alloc (Nat.le_refl _) _
 have hRP : Row V w.heap.size #[.int .i64 mn, .int .i64 av, .int .i64 mx] 23 := by rw [hV]; exact Row.made _ _ _
 have HV := Lib.hid hV; have HBV := Lib.hid hbV; have HRP := Lib.hid hRP; have HI := Lib.hid hi; have HK := Lib.hid hK; have HSQ := Lib.hid hsq; have HBT := Lib.hid hbt
 have HL : Hid (sq.length ≤ 700000 ∧ 0 < sq.length) := Lib.hid (by rw [hsq]; exact ⟨hL, hsl⟩)
 rw [← hsq] at HCP
 obtain ⟨_, a0, cap0, rfl, _, _⟩ := hi
 clear hF hR hfew hT hL hk32 hsl hbt hV hbV hK hsq F hKs
 go_enter Tryz.func11, Tryz.ntmps11
 go_wp2_with fail
 rw [← HV.out]
 with_reducible refine (CF.out _).mono ?_
 rintro e w1 ⟨rfl, hb1⟩
 have HRP1 := Lib.hid (HRP.out.step hb1)
 have HB1 := Lib.hid (below_step HBV.out hb1)
 have p0 := HRP1.out.cell 0; have p1 := HRP1.out.cell 1; have p2 := HRP1.out.cell 2
 simp only [List.getElem?_toArray, List.getElem?_cons_zero, List.getElem?_cons_succ] at p0 p1 p2
 have hwl := HRP1.out.lt
 have hle : decide ((I.length : Int) > 60) = false := decide_eq_false (by omega)
 have hle2 : ¬ (60 : Int) < (I.length : Int) := by omega
 clear hb1 hRP
 go_wp2_with fail
 obtain ⟨V2, hV2⟩ : ∃ V2, V2 = w1.alloc (.cells #[.slice a0 I.length cap0, .slice none 0 0, .int .i64 mn, .int .i64 av, .int .i64 mx] 61) := ⟨_, rfl⟩
 have hb2 : Below w1.heap.size w1 V2 := by rw [hV2]; exact (Below.refl _ _).alloc (Nat.le_refl _) _
 have hBl : Bld w w1.heap.size (mn, av, mx) V2 (blkT I [] ++ []) [] (.slice a0 I.length cap0) (.slice none 0 0) := by
  rw [HBT.out, List.append_nil]
  exact ⟨by rw [hV2]; exact Row.made _ _ _, HI.out, obs_own_nil _ _, HB1.out.size, below_step HB1.out hb2⟩
 have CD1 := Lib.hid (CD.out _ _ _ _ hBl)
 rw [← hV2]
 clear hV2 hb2 hBl
 with_reducible refine CD1.out.mono ?_
 rintro e w4 ⟨rfl, vR4, vB4, hH4, hK4⟩
 have hkv : keyV (keyN (dirN (cutN mn b mx) I 9 (⟨#[]⟩ : ByteArray).data.toList)) = .string K := by rw [HK.out]; rfl
 rw [hkv]
 have hM4 : ([] : List Ob) ++ (seqD (cutN mn b mx) I 9 (⟨#[]⟩ : ByteArray).data.toList).map obN = sq.map obN := by rw [HSQ.out]; rfl
 rw [hM4] at hH4
 have CB := Lib.hid (byKey_any w w1.heap.size (mn, av, mx) w4 [] (sq.map obN) vR4 vB4 hH4 (by rw [List.length_map]; exact HL.out.2) (by rw [List.length_map]; have := HL.out.1; omega))
 have HB4 := Lib.hid hH4.below
 have q0 := hH4.cells.1
 obtain ⟨_, ar, capr, rfl, _, _⟩ := hH4.rest
 clear hH4 hK4 hkv hM4 p0 p1 p2 CD1
 go_wp2_with fail
 with_reducible refine CB.out.mono ?_
 rintro e w5 ⟨v5, S, rfl, hs1, hs2, ho5, hb5⟩
 have HO := Lib.hid ho5.is
 have HE := Lib.hid (HCP.out S hs1 hs2)
 have HB5 := Lib.hid (below_step HB4.out hb5)
 clear ho5 hs1 hs2 hb5 q0
 go_wp2
 exact bodyPost_ret (v := .tuple #[.string K, v5]) (by simp [results, Tryz.results11, go_sem]) rfl ⟨v5, by rw [← HK.out], by rw [← HE.out]; exact HO.out, HB5.out⟩
theorem fit248_Dua : FitAt (2 : Nat) (4 : Nat) (8 : Nat) 2 := ⟨by decide, by decide, by decide, by decide, by decide, by decide, by decide⟩
def nilN : Nd := ⟨3, ⟨#[]⟩, [], []⟩
theorem nilN_fit : fitN nilN = true := by decide +kernel
theorem nilN_wr : wrN nilN = [3, 0] := by decide +kernel
theorem rdy_nil (c : List UInt8 → Nat) (h : ∃ mn mx, CutOk mn mx c ∧ mx ≤ 4096) : ReadyT c [] :=
 ⟨⟨Nat.zero_le _, List.Pairwise.nil, fun _ h => (by cases h), fun _ h => (by cases h), fun _ h => (by cases h), fun _ h => (by cases h), by decide⟩, h, fun _ h => (by cases h)⟩
theorem seq_nil (c : List UInt8 → Nat) : seqT c [] = [nilN] := rfl
theorem objs_nil (c : List UInt8 → Nat) : objsT c [] = [obN nilN] := by
  have h : (obN nilN).t.length = 32 := by rw [obN_t]; exact keyN_len nilN_fit
  show addO [] (obN nilN) = _
  unfold addO
  rw [if_neg (by intro e; rcases e with e | e; · cases e
                 · exact e h)]
  rfl
theorem ex_build (w : World) (hT : Tabs w) : Calls Tryz.prog 11 #[pV 2 4 8, .slice none 0 0] w fun e w' => ∃ (K : ByteArray) (b off cap : Nat), e = .returned (.tuple #[.string K, .slice (some ⟨b, off, none⟩) 1 cap]) ∧ b < w'.heap.size ∧ w'.cell? ⟨b, off, none⟩ = some (.string K) ∧ w'.cell? ⟨b, off + 1, none⟩ = some (.string ⟨#[3, 0]⟩) ∧ 1 ≤ cap ∧ Below w.heap.size w w' := by
 refine (pBuild_any 2 4 2 8 fit248_Dua (.slice none 0 0) [] w (isItems_nil _) (rdy_nil _ (cut_fit fit248_Dua)) (fun _ h => by cases h) hT (by rw [seq_nil]; decide)).mono ?_
 rintro e w' ⟨v, rfl, hv, hb⟩
 rw [objs_nil] at hv
 obtain ⟨_, a, cap, rfl, ⟨_, hle⟩, hc⟩ := hv
 obtain ⟨b, off, rfl, hlt, hcell⟩ := hc (by decide)
 have h0 := hcell 0 (by decide)
 refine ⟨_, b, off, cap, rfl, hlt, ?_, ?_, hle, hb⟩
 ·exact h0.1
 ·rw [show (off + 1 : Nat) = off + 0 * 2 + 1 by omega, h0.2]
  show some (Value.string ⟨(wrN nilN).toArray⟩) = _
  rw [nilN_wr]
set_option maxRecDepth 100000 in
set_option maxHeartbeats 1000000 in
theorem awake_any (w : World) (hT : Tabs w) : Calls Tryz.prog 10 #[] w fun e w' => e = .returned (.bool true) ∧ Below w.heap.size w w' := by
 have ER := Lib.hid (ex_build w hT)
 clear hT
 go_enter Tryz.func10, Tryz.ntmps10
 go_wp2_with fail
 refine ER.out.mono ?_
 rintro e w1 ⟨K, b, off, cap, rfl, hlt, h0, h1, hcap, hb⟩
 have HB := Lib.hid hb
 have he : (K.toList == K.toList) = true := by simp
 clear hb
 go_wp2
 go_ret
 exact ⟨rfl, HB.out⟩
def OneP (w0 : World) (mn av mx : Int) (W : World) : Prop := Row W w0.heap.size #[.int .i64 mn, .int .i64 av, .int .i64 mx] 23 ∧ Below w0.heap.size w0 W ∧ Tabs W
theorem OneP.on {w0 W W' : World} {mn av mx : Int} (h : OneP w0 mn av mx W) (hb : Below W.heap.size W W') : OneP w0 mn av mx W' := ⟨h.1.step hb, below_step h.2.1 hb, h.2.2.stays hb⟩
theorem OneP.cells {w0 W : World} {mn av mx : Int} (h : OneP w0 mn av mx W) : W.cell? ⟨w0.heap.size, 0, none⟩ = some (.int .i64 mn) ∧ W.cell? ⟨w0.heap.size, 1, none⟩ = some (.int .i64 av) ∧ W.cell? ⟨w0.heap.size, 2, none⟩ = some (.int .i64 mx) := by
 have g0 := h.1.cell 0; have g1 := h.1.cell 1; have g2 := h.1.cell 2
 simp only [List.getElem?_toArray, List.getElem?_cons_zero, List.getElem?_cons_succ] at g0 g1 g2
 exact ⟨g0, g1, g2⟩
theorem oneP_new (w0 : World) (mn av mx : Int) (hT : Tabs w0) : OneP w0 mn av mx (w0.alloc (.cells #[.int .i64 mn, .int .i64 av, .int .i64 mx] 23)) := by
 have hb : Below w0.heap.size w0 (w0.alloc (.cells #[.int .i64 mn, .int .i64 av, .int .i64 mx] 23)) := (Below.refl _ _).alloc (Nat.le_refl _) _
 exact ⟨Row.made _ _ _, hb, hT.stays hb⟩
structure FewAt (m a b x : Nat) (I : List It) : Prop where
 fit : FitAt m a x b
 rdy : ReadyT (cutN m b x) I
 p400 : ∀ y ∈ I, y.p.size ≤ 400
 len : I.length ≤ 70
theorem few_at {mn av mx : Int} {I : List It} (h : fewTB mn av mx I = true) : ∃ m a b x : Nat, mn = m ∧ av = a ∧ mx = x ∧ FewAt m a b x I := by
 obtain ⟨h70, _, h400, m, a, x, b, h1, h2, h3, hF, hR⟩ := fewTB_iff.1 h
 exact ⟨m, a, b, x, h1, h2, h3, hF, hR, h400, h70⟩
theorem FewAt.hs {m a b x : Nat} {I : List It} (h : FewAt m a b x I) : ∀ y ∈ I, y.p.size ≤ 100000 ∧ y.c.size ≤ 100000 := fun y hy =>
 ⟨Nat.le_trans (h.p400 y hy) (by decide), Nat.le_trans (h.rdy.fit.data y hy) (by decide)⟩
theorem FewAt.sl {m a b x : Nat} {I : List It} (h : FewAt m a b x I) : (seqT (cutN m b x) I).length ≤ 700000 := Nat.le_trans (seqT_len h.rdy) (by decide)
theorem FewAt.pBuild {m a b x : Nat} {I : List It} (h : FewAt m a b x I) {iv : Value} {w : World} (hi : IsItems w iv I) (hT : Tabs w) :
  Calls Tryz.prog 11 #[pV m a x, iv] w (RetKO (keyN (topT (cutN m b x) I)) (objsT (cutN m b x) I) w) :=
 pBuild_any m a b x h.fit iv I w hi h.rdy h.p400 hT h.sl
set_option maxRecDepth 100000 in
set_option maxHeartbeats 8000000 in
theorem raw_zero (mn av b mx : Nat) (I : List It) : RawAt mn av b mx I 0 := by
 intro dp hdp W0 v iv M d w hbw ho hi hL
 obtain ⟨V, hV⟩ : ∃ V, V = (w.alloc (.cells #[.int .i64 mn, .int .i64 av, .int .i64 mx] 23)).alloc (.cells #[.int .i64 3, .string ⟨#[]⟩, .slice none 0 0, .slice none 0 0] 44) := ⟨_, rfl⟩
 have hbV : Below w.heap.size w V := by rw [hV]; exact ((Below.refl _ _).alloc (Nat.le_refl _) _).alloc (by simp) _
 have hRN : Row V (w.heap.size + 1) #[.int .i64 3, .string ⟨#[]⟩, .slice none 0 0, .slice none 0 0] 44 := by
  have := Row.made (w.alloc (.cells #[.int .i64 mn, .int .i64 av, .int .i64 mx] 23)) #[.int .i64 3, .string ⟨#[]⟩, .slice none 0 0, .slice none 0 0] 44
  rw [hV]; simpa using this
 have x0 := hRN.cell 0; have x1 := hRN.cell 1; have x2 := hRN.cell 2; have x3 := hRN.cell 3
 simp only [List.getElem?_toArray, List.getElem?_cons_zero, List.getElem?_cons_succ] at x0 x1 x2 x3
 have q8 : decide ((dp : Int) ≤ 8) = false := by simp; omega
 have HV := Lib.hid hV; have HB0 := Lib.hid hbV
 have HO := Lib.hid (ho.stays hbV); have HBW := Lib.hid (below_step hbw hbV)
 obtain ⟨S, hS⟩ : ∃ S : ByteArray, S = ⟨(wrN ⟨3, ⟨#[]⟩, [], []⟩).toArray⟩ := ⟨_, rfl⟩
 have CW : Hid (∀ W, Calls Tryz.prog 43 #[.agg #[.int .i64 3, .string ⟨#[]⟩, .slice none 0 0, .slice none 0 0]] W fun e w' => e = .returned (.string S) ∧ Below W.heap.size W w') := Lib.hid (fun W => by
  rw [hS]; exact rWrite_any ⟨3, ⟨#[]⟩, [], []⟩ (.slice none 0 0) (.slice none 0 0) W (parts_nil _) (entries_nil _))
 have HE : Hid (M ++ (seqD (cutN mn b mx) I 0 d.data.toList).map wrN = M ++ [S.data.toList]) := Lib.hid (by rw [hS]; rfl)
 rw [HE.out]
 obtain ⟨hm1, a1, cap1, rfl, _, _⟩ := hi
 have hmm : I.length ≤ 9223372036854775807 := by unfold maxLen at hm1; omega
 have hol : M.length ≤ 1000000 := by omega
 clear hV hbV hRN hm1 hL HE hS
 rcases h0 : decide ((0 : Int) < (I.length : Int)) with _ | _
 ·have h1 : ¬ 0 < I.length := by simpa using h0
  go_enter Tryz.func46, Tryz.ntmps46
  go_wp2_with fail
  rw [← HV.out]
  refine wp_loop_rounds 1 ?_
  rw [rounds_succ]
  go_wp2_with fail
  with_reducible refine (CW.out _).mono ?_
  rintro e w8 ⟨rfl, hb8⟩
  have HO8 := Lib.hid (HO.out.stays hb8)
  have hz8 : W0.heap.size ≤ w8.heap.size := (below_step HBW.out hb8).size
  have hk8 := Kept.of_below (B := W0.heap.size) (below_step HB0.out hb8)
  have HK8 := Lib.hid hk8
  clear hb8 x0 x1 x2 x3 hk8
  go_wp2_with (at_builtin; refine wpList_append_txt_at rfl _ _ rfl HO8.out hz8 rfl rfl rfl hol ?_)
  intro v' w9 hown9 hg9 _
  have HK9 := Lib.hid (HK8.out.trans (Kept.grown hg9 fun g e => HO8.out.row e))
  have HS9 := Lib.hid hown9
  clear hown9 hg9
  go_wp2
  go_ret
  exact ⟨v', rfl, HS9.out, HK9.out⟩
 ·have h1 : 0 < I.length := by simpa using h0
  go_enter Tryz.func46, Tryz.ntmps46
  go_wp2_with fail
  rw [← HV.out]
  refine wp_loop_rounds 1 ?_
  rw [rounds_succ]
  go_wp2_with fail
  with_reducible refine (CW.out _).mono ?_
  rintro e w8 ⟨rfl, hb8⟩
  have HO8 := Lib.hid (HO.out.stays hb8)
  have hz8 : W0.heap.size ≤ w8.heap.size := (below_step HBW.out hb8).size
  have hk8 := Kept.of_below (B := W0.heap.size) (below_step HB0.out hb8)
  have HK8 := Lib.hid hk8
  clear hb8 x0 x1 x2 x3 hk8
  go_wp2_with (at_builtin; refine wpList_append_txt_at rfl _ _ rfl HO8.out hz8 rfl rfl rfl hol ?_)
  intro v' w9 hown9 hg9 _
  have HK9 := Lib.hid (HK8.out.trans (Kept.grown hg9 fun g e => HO8.out.row e))
  have HS9 := Lib.hid hown9
  clear hown9 hg9
  go_wp2
  go_ret
  exact ⟨v', rfl, HS9.out, HK9.out⟩
theorem rawAt_all (mn av b mx : Nat) (hF : FitAt mn av mx b) (I : List It) (R : ReadyT (cutN mn b mx) I) (hs : ∀ x ∈ I, x.p.size ≤ 100000 ∧ x.c.size ≤ 100000) : ∀ k, RawAt mn av b mx I k
 | 0 => raw_zero mn av b mx I
 | k + 1 => raw_step mn av b mx hF I R hs k (rawAt_all mn av b mx hF I R hs k)
set_option maxRecDepth 100000 in
set_option maxHeartbeats 8000000 in
theorem rRaws_any (mn av b mx : Nat) (hF : FitAt mn av mx b) (iv : Value) (I : List It) (w : World) (hi : IsItems w iv I) (R : ReadyT (cutN mn b mx) I) (hs : ∀ x ∈ I, x.p.size ≤ 100000 ∧ x.c.size ≤ 100000) :
  Calls Tryz.prog 27 #[pV mn av mx, iv] w fun e w' => ∃ v', e = .returned v' ∧ OwnTxt w w' v' (rawsT (cutN mn b mx) I) ∧ Below w.heap.size w w' := by
 have hlen := seqT_len R
 obtain ⟨V, hV⟩ : ∃ V, V = w.alloc (.cells #[.int .i64 mn, .int .i64 av, .int .i64 mx] 23) := ⟨_, rfl⟩
 have hbV : Below w.heap.size w V := by rw [hV]; exact (Below.refl _ _).alloc (Nat.le_refl _) _
 have hR0 : Row V w.heap.size #[.int .i64 mn, .int .i64 av, .int .i64 mx] 23 := by rw [hV]; exact Row.made _ _ _
 have p0 := hR0.cell 0; have p1 := hR0.cell 1; have p2 := hR0.cell 2
 simp only [List.getElem?_toArray, List.getElem?_cons_zero, List.getElem?_cons_succ] at p0 p1 p2
 have CK : Hid (Calls Tryz.prog 46 #[pV mn av mx, iv, .slice none 0 0, .string ⟨#[]⟩, .int .i64 0] V (RetRaw w (rawsT (cutN mn b mx) I) V)) := Lib.hid
  (rawAt_all mn av b mx hF I R hs 9 0 rfl w (.slice none 0 0) iv [] ⟨#[]⟩ V hbV ((ownTxt_nil w).stays hbV) hi (by
   have : (seqD (cutN mn b mx) I 9 (⟨#[]⟩ : ByteArray).data.toList).length ≤ 70000 := hlen
   have h7 : (seqD (cutN mn b mx) I 9 (⟨#[]⟩ : ByteArray).data.toList).length ≤ 700000 := by omega
   simpa using h7))
 have HV := Lib.hid hV; have HB0 := Lib.hid hbV
 obtain ⟨_, a1, cap1, rfl, _, _⟩ := hi
 clear hF hs hlen hV hbV hR0 R
 go_enter Tryz.func27, Tryz.ntmps27
 go_wp2_with fail
 rw [← HV.out]
 go_wp2_with fail
 with_reducible refine CK.out.mono ?_
 rintro e w8 ⟨v8, rfl, ho8, hk8⟩
 have HO8 := Lib.hid ho8
 have HB8 := Lib.hid (hk8.below HB0.out HB0.out.size)
 clear ho8 hk8 p0 p1 p2
 go_wp2
 go_ret
 exact ⟨v8, rfl, HO8.out, HB8.out⟩
theorem OwnTxt.base {W V w : World} {v : Value} {M : List (List UInt8)} (h : OwnTxt W w v M) (hb : V.heap.size ≤ W.heap.size) : OwnTxt V w v M := ⟨h.1, h.2.imp id (fun ⟨g, cap, cur, h1, h2, h3⟩ => ⟨g, cap, cur, h1, Nat.le_trans hb h2, h3⟩)⟩
theorem raws_few {m a b x : Nat} {I : List It} (h : FewAt m a b x I) : (rawsT (cutN m b x) I).length ≤ 70000 ∧ ∀ t ∈ rawsT (cutN m b x) I, t.length ≤ 60000 := by
 refine ⟨by unfold rawsT; rw [List.length_map]; exact seqT_len h.rdy, fun t ht => ?_⟩
 obtain ⟨n, hn, rfl⟩ := List.mem_map.1 ht
 have := wrL_len (seqT_fit h.rdy n hn)
 unfold wrN; rw [if_pos (seqT_fit h.rdy n hn)]; omega
theorem FewAt.raws {m a b x : Nat} {I : List It} (h : FewAt m a b x I) {iv : Value} {V w : World} (hi : IsItems w iv I) (hV : V.heap.size ≤ w.heap.size) :
  Calls Tryz.prog 27 #[pV m a x, iv] w fun e w' => ∃ v', e = .returned v' ∧ OwnTxt V w' v' (rawsT (cutN m b x) I) ∧ Below w.heap.size w w' := by
 refine (rRaws_any m a b x h.fit iv I w hi h.rdy h.hs).mono ?_
 rintro e w' ⟨v', rfl, ho, hb⟩
 exact ⟨v', rfl, ho.base hV, hb⟩
theorem clash_txt {V : World} (T : List (List UInt8)) (hs : ∀ t ∈ T, t.length ≤ 60000) (hT : T.length ≤ 600000) (v : Value) (w : World) (h : OwnTxt V w v T) :
  Calls Tryz.prog 26 #[v] w fun e w' => e = .returned (.bool (clashB T)) ∧ Below w.heap.size w w' := by
 have := rClash_any v (strsOf T) w h.strs (fun y hy => by
  obtain ⟨t, ht, rfl⟩ := List.mem_map.1 hy
  rw [Lib.size_eq]; exact hs t ht) (by rw [strsOf_len]; exact hT)
 rwa [txts_strsOf] at this
def ksO (O : List Ob) : List Txt := O.map Ob.t
theorem ksO_len (O : List Ob) : (ksO O).length = O.length := List.length_map ..
theorem ksO_step {O : List Ob} {k : Nat} (hk : k < O.length) : ksO (O.take (k + 1)) = ksO (O.take k) ++ [O[k].k.data.toList] := by
 unfold ksO
 rw [List.take_succ_eq_append_getElem hk, List.map_append]; rfl
theorem ksO_fit {O : List Ob} (h : FitO O) : fitB (ksO O) = true :=
 fitB_true (fit_of (List.pairwise_map.2 h.1) fun t ht => by
  obtain ⟨y, hy, rfl⟩ := List.mem_map.1 ht
  exact h.2 y hy)
theorem hasB_yes {l : List Txt} {t : Txt} (h : t ∈ l) : hasB l t = true := decide_eq_true h
theorem kids_few {n : Nd} (h : fitN n = true) : n.ps.length + n.es.length ≤ 2000 ∧ (ofL (kidsN n)).length ≤ 2000 := by
 have h1 : n.ps.length + n.es.length ≤ 2000 := by
  rcases fit_kinds h with e | e | e
  ·obtain ⟨_, _, h1, h2⟩ := fit1 e h; rw [h1, h2]; exact Nat.zero_le _
  ·obtain ⟨_, h1, h2, _⟩ := fit2 e h; rw [h1]; simp; omega
  ·obtain ⟨_, h1, h2, _⟩ := fit3 e h; rw [h1]; simp; omega
 refine ⟨h1, ?_⟩
 have h2 : (ofL (kidsN n)).length ≤ (kidsN n).length := by
  unfold ofL
  refine Nat.le_trans (Lib.compact_length_le _) ?_
  rw [List.length_mergeSort]
  exact List.length_filter_le _ _
 have h3 : (kidsN n).length = n.ps.length + n.es.length := by unfold kidsN; rw [List.length_append, keysP_len, keysE_len]
 omega
structure SumAt (T : List (List UInt8)) (ks : List Txt) (K : List UInt8) (y : Ob) (n : Nd) : Prop where
 fit : fitN n = true
 raw : y.u = wrL n
 sum : shaSum y.u = y.t
 kids : ∀ t ∈ ofL (kidsN n), t ∈ ks
 top : y.t = K → n.kd ≠ 3 → Clash T
theorem sum_at {m a b x : Nat} {I : List It} (h : FewAt m a b x I) {y : Ob} (hy : y ∈ objsT (cutN m b x) I) :
  ∃ n, SumAt (rawsT (cutN m b x) I) (ksO (objsT (cutN m b x) I)) (keyN (topT (cutN m b x) I)) y n := by
 obtain ⟨n, hn, rfl⟩ := objs_mem hy
 have hf := seqT_fit h.rdy n hn
 refine ⟨n, hf, by rw [obN_u, wrN_fit hf], by rw [obN_u, obN_t, wrN_fit hf, keyN_fit hf], fun t ht => ?_, fun e hk => ?_⟩
 ·have ht2 := (((ofL_spec _).2 t).1 ht).1
  obtain ⟨k1, k2⟩ := kids_in 9 [] n hn
  have hm : ∃ m' ∈ seqT (cutN m b x) I, keyN m' = t := by
   rcases List.mem_append.1 ht2 with h1 | h1
   ·obtain ⟨p, hp, rfl⟩ := List.mem_map.1 h1; exact k1 p hp
   ·obtain ⟨p, hp, rfl⟩ := List.mem_map.1 h1; exact k2 p hp
  obtain ⟨m', hm', rfl⟩ := hm
  obtain ⟨z, hz, e⟩ := objs_key h.rdy hm'
  exact List.mem_map.2 ⟨z, hz, e⟩
 ·have ht := topT_mem (cutN m b x) I
  have hft := seqT_fit h.rdy _ ht
  refine ⟨wrN n, raw_mem hn, wrN (topT (cutN m b x) I), raw_mem ht, fun e2 => ?_, ?_⟩
  ·rw [wrN_fit hf, wrN_fit hft] at e2
   have := wrL_inj hf hft e2
   exact hk (by rw [this]; exact dirN_kd ..)
  ·rw [wrN_fit hf, wrN_fit hft, ← keyN_fit hf, ← keyN_fit hft]; rw [obN_t] at e; exact e
theorem SumAt.size {T : List (List UInt8)} {ks : List Txt} {K : List UInt8} {y : Ob} {n : Nd} (h : SumAt T ks K y n) : y.r.size ≤ 60000 := by
 have h1 := (wrL_len h.fit).2
 rw [← h.raw] at h1
 have h2 := Lib.size_eq y.r
 unfold Ob.u at h1
 omega
theorem SumAt.read {T : List (List UInt8)} {ks : List Txt} {K : List UInt8} {y : Ob} {n : Nd} (h : SumAt T ks K y n) (w : World) :
  Calls Tryz.prog 24 #[.string y.r] w (RetR n 0 w) := by
 refine (rRead_any y.r (by have := h.size; omega) w).mono ?_
 rintro e w' ⟨n', err, hr, hret⟩
 obtain ⟨rfl, rfl⟩ := rdOk_same hr (.inl ⟨rfl, h.fit, h.raw.symm⟩ : RdOk y.r.data.toList n 0)
 exact hret
theorem SumAt.sums {T : List (List UInt8)} {ks : List Txt} {K : List UInt8} {y : Ob} {n : Nd} (h : SumAt T ks K y n) (w : World) :
  Calls Tryz.prog 25 #[.string y.r] w fun e w' => e = .returned (.string y.k) ∧ Below w.heap.size w w' := by
 refine (refSum_any y.r (by have := h.size; omega) w).mono ?_
 rintro e w' ⟨rfl, hb⟩
 have h1 : shaSum y.r.data.toList = y.k.data.toList := h.sum
 exact ⟨by rw [h1], hb⟩
theorem SumAt.kidsAt {T : List (List UInt8)} {ks : List Txt} {K : List UInt8} {y : Ob} {n : Nd} (h : SumAt T ks K y n) {pv ev : Value} {w : World} (hp : IsParts w pv n.ps) (he : IsEntries w ev n.es) :
  Calls Tryz.prog 28 #[ndV n pv ev] w (RetStrs w (ofL (kidsN n))) := rKids_any n pv ev w hp he (kids_few h.fit).1
theorem has_at {ks : List Txt} {L : List ByteArray} (hL : txts L = ks) (x : ByteArray) (hx : x.data.toList ∈ ks) {v : Value} {W : World} (hv : IsStrs W v L) :
  Calls Tryz.prog 23 #[v, .string x] W fun e w' => e = .returned (.bool true) ∧ Below W.heap.size W w' :=
 (refHas_any v L x W hv).mono fun e w' ⟨h1, h2⟩ => ⟨by rw [hL, hasB_yes hx] at h1; exact h1, by rw [← h2]; exact Below.refl _ _⟩
structure SumP (w0 : World) (m a x : Int) (vo : Value) (O : List Ob) (va : Value) (L : List ByteArray) (W : World) : Prop where
 one : OneP w0 m a x W
 obs : IsObs W vo O
 strs : IsStrs W va L
theorem SumP.on {w0 W W' : World} {m a x : Int} {vo : Value} {O : List Ob} {va : Value} {L : List ByteArray} (h : SumP w0 m a x vo O va L W) (hb : Below W.heap.size W W') : SumP w0 m a x vo O va L W' :=
 ⟨h.one.on hb, h.obs.stays hb, h.strs.stays hb⟩
structure SumR (w0 : World) (m a x : Int) (vo : Value) (O : List Ob) (va : Value) (L : List ByteArray) (y : Ob) (B : Nat) (n : Nd) (B2 : Nat) (pv ev : Value) (W : World) : Prop extends SumP w0 m a x vo O va L W where
 obj : ObBox W B y
 node : NdBox W B2 n pv ev
 parts : IsParts W pv n.ps
 entries : IsEntries W ev n.es
theorem SumR.on {w0 W W' : World} {m a x : Int} {vo : Value} {O : List Ob} {va : Value} {L : List ByteArray} {y : Ob} {B : Nat} {n : Nd} {B2 : Nat} {pv ev : Value} (h : SumR w0 m a x vo O va L y B n B2 pv ev W) (hb : Below W.heap.size W W') : SumR w0 m a x vo O va L y B n B2 pv ev W' :=
 ⟨h.1.on hb, h.obj.stays hb, h.node.stays hb, h.parts.stays hb, h.entries.stays hb⟩
def dsmU (w0 : World) (m a x : Int) (vo : Value) (O : List Ob) (va : Value) (L : List ByteArray) (y : Ob) (B : Nat) (n : Nd) (B2 : Nat) (pv ev : Value) : Nat → Value → Value → World → Prop
 | 0 => fun v _ _ => v = .int .i64 0
 | 1 => fun v _ _ => v = .bool false
 | 2 => fun v _ _ => v = .bool false
 | 3 => fun v _ _ => v = .pointer (some ⟨B, 1, none⟩)
 | 4 => fun v _ _ => v = .string y.r
 | 5 => fun v _ _ => v = .string y.k
 | 6 => fun v _ _ => v = .pointer (some ⟨B, 0, none⟩)
 | 7 => fun v _ _ => v = .string y.k
 | 8 => fun v _ _ => v = .bool false
 | 9 => fun v _ _ => v = .bool false
 | _ => fun _ _ _ => True
def dsmN : List (List Nat) := [[], [0], [1], [2], [3, 2], [4, 2], [2], [6, 2], [5, 7, 2], [2, 8]]
def dsmE : Nat → Option Tmp
 | _ => none
def dsmB : List (Nat × Nat) := []
theorem dsm_T (w0 : World) (m a x : Int) (vo : Value) (O : List Ob) (va : Value) (L : List ByteArray) (y : Ob) (B : Nat) (n : Nd) (B2 : Nat) (pv ev : Value) (ix kx : Nat) (v e : Value) (w w' : World) (hk : kx < 10) (hne : kx ≠ ix) (hbd : (ix, kx) ∉ dsmB) (hU : (dsmU w0 m a x vo O va L y B n B2 pv ev) kx v e w) (hT : allT ix w w') : (dsmU w0 m a x vo O va L y B n B2 pv ev) kx v e w' := by
 have hb : Below w.heap.size w w' := hT
 rcases (show kx = 0 ∨ kx = 1 ∨ kx = 2 ∨ kx = 3 ∨ kx = 4 ∨ kx = 5 ∨ kx = 6 ∨ kx = 7 ∨ kx = 8 ∨ kx = 9 by omega) with rfl | rfl | rfl | rfl | rfl | rfl | rfl | rfl | rfl | rfl
 iterate 10 exact hU
set_option maxRecDepth 100000 in
set_option maxHeartbeats 40000000 in
theorem DagSums_w (mn av mx : Int) (iv : Value) (I : List It) (w0 : World) (hi : IsItems w0 iv I) (hz : ∀ x ∈ I, x.c.size ≤ 281474976710656) (hT : Tabs w0) :
  Calls Tryz.prog 5 #[pV mn av mx, iv] w0 fun e w' => e = .returned (.bool true) ∧ Below w0.heap.size w0 w' := by
 obtain ⟨V, hV⟩ : ∃ V, V = w0.alloc (.cells #[.int .i64 mn, .int .i64 av, .int .i64 mx] 23) := ⟨_, rfl⟩
 have HH : Hid (OneP w0 mn av mx V) := Lib.hid (by rw [hV]; exact oneP_new w0 mn av mx hT)
 have HV := Lib.hid hV
 have HI := Lib.hid hi
 have AW : Hid (∀ W, OneP w0 mn av mx W → _) := Lib.hid fun W h => awake_any W h.2.2
 have FW : Hid (∀ W, OneP w0 mn av mx W → _) := Lib.hid fun W h => fewT_any mn av mx iv I W (HI.out.stays h.2.1) hz
 obtain ⟨c0, c1, c2⟩ := HH.out.cells
 clear hV hT hi hz
 rcases hf : fewTB mn av mx I with _ | _
 ·rw [hf] at FW
  go_enter Tryz.func5, Tryz.ntmps5
  go_wp2_with fail
  rw [← HV.out]
  go_wp2_with fail
  with_reducible refine (FW.out _ HH.out).mono ?_
  rintro e w1 ⟨rfl, hb⟩
  replace HH := Lib.hid (HH.out.on hb)
  clear hb c0 c1 c2
  obtain ⟨c0, c1, c2⟩ := HH.out.cells
  go_wp2_with fail
  with_reducible refine (AW.out _ HH.out).mono ?_
  rintro e w9 ⟨rfl, hb⟩
  go_wp2
  go_ret
  exact ⟨rfl, below_step HH.out.2.1 hb⟩
 ·rw [hf] at FW
  obtain ⟨m, a, b, x, rfl, rfl, rfl, hF⟩ := few_at hf
  obtain ⟨K, hK⟩ : ∃ K : ByteArray, K = ⟨(keyN (topT (cutN m b x) I)).toArray⟩ := ⟨_, rfl⟩
  have FF := objs_fit (cutN m b x) I
  have SA := fun y (hy : y ∈ objsT (cutN m b x) I) => sum_at hF hy
  have hr := raws_few hF
  have KM : K.data.toList ∈ ksO (objsT (cutN m b x) I) := by
   obtain ⟨z, hz, e⟩ := objs_key hF.rdy (topT_mem (cutN m b x) I)
   rw [hK]
   exact List.mem_map.2 ⟨z, hz, e⟩
  have hOL0 := (putsN_len [] (seqT (cutN m b x) I)).2
  have hOL1 := seqT_len hF.rdy
  have hOL2 : (objsT (cutN m b x) I).length ≤ 70000 := by unfold objsT; simp at hOL0; omega
  obtain ⟨O, hO⟩ : ∃ O, O = objsT (cutN m b x) I := ⟨_, rfl⟩
  have BP : Hid (∀ W, OneP w0 m a x W → Calls Tryz.prog 11 #[pV m a x, iv] W fun e w' => ∃ v', e = .returned (.tuple #[.string K, v']) ∧ IsObs w' v' O ∧ Below W.heap.size W w') := Lib.hid fun W h => by rw [hK, hO]; exact hF.pBuild (HI.out.stays h.2.1) h.2.2
  have CR : Hid (∀ W, OneP w0 m a x W → Calls Tryz.prog 27 #[pV m a x, iv] W fun e w' => ∃ v', e = .returned v' ∧ OwnTxt w0 w' v' (rawsT (cutN m b x) I) ∧ Below W.heap.size W w') := Lib.hid fun W h => hF.raws (V := w0) (HI.out.stays h.2.1) h.2.1.size
  have CC0 := fun (v : Value) (w : World) => clash_txt (V := w0) (rawsT (cutN m b x) I) hr.2 (by omega) v w
  obtain ⟨T, hT⟩ : ∃ T, T = rawsT (cutN m b x) I := ⟨_, rfl⟩
  obtain ⟨cb, hcb⟩ : ∃ cb, cb = clashB T := ⟨_, rfl⟩
  rw [← hT, ← hcb] at CC0
  rw [← hT] at CR
  rw [← hO] at FF SA KM hOL2
  rw [← hT] at SA
  have SN := Lib.hid (fun y hy => SA y hy)
  have HKT : keyN (topT (cutN m b x) I) = K.data.toList := by rw [hK]
  rw [HKT] at SN
  have CC := Lib.hid CC0
  have HCB : Hid (Clash T → cb = true) := Lib.hid (fun h => by rw [hcb]; exact clashB_yes h)
  have HFK := Lib.hid (ksO_fit FF)
  have HKM := Lib.hid KM
  clear hf hF hK hO FF SA KM hOL0 hOL1 hr CC0 hT hcb HKT
  go_enter Tryz.func5, Tryz.ntmps5
  go_wp2_with fail
  rw [← HV.out]
  go_wp2_with fail
  with_reducible refine (FW.out _ HH.out).mono ?_
  rintro e w1 ⟨rfl, hb⟩
  replace HH := Lib.hid (HH.out.on hb)
  clear hb c0 c1 c2
  obtain ⟨c0, c1, c2⟩ := HH.out.cells
  go_wp2_with fail
  with_reducible refine (BP.out _ HH.out).mono ?_
  rintro e w4 ⟨v4, rfl, ho, hb⟩
  replace HH := Lib.hid (HH.out.on hb)
  have H4 := Lib.hid ho
  obtain ⟨hm4, a4, c4, rfl, _, _⟩ := ho
  have hmm4 : O.length ≤ 9223372036854775807 := by omega
  clear hb hm4 c0 c1 c2
  have HO0 : Hid (OwnTxt w4 w4 (.slice none 0 0) (ksO (O.take 0))) := Lib.hid (ownTxt_nil w4)
  have HB0 := Lib.hid (Below.refl w4.heap.size w4)
  go_wp2
  go_loopw [7, 29] (fun v i wr => ∃ (k : Nat) (u : Value), k ≤ O.length ∧ i = .int .i64 k ∧ u = v ∧ OwnTxt w4 wr u (ksO (O.take k)) ∧ Below w4.heap.size w4 wr) (fun _ i _ => O.length - (intOf i).toNat)
  case atStart => exact ⟨0, _, Nat.zero_le _, rfl, rfl, HO0.out, HB0.out⟩
  case round =>
   obtain ⟨k, va0, hk, rfl, rfl, ho, hbz⟩ := hrel
   have HO := Lib.hid ho
   have HBZ := Lib.hid hbz
   by_cases hlt : k < O.length
   ·obtain ⟨_, _, _, e, _, hc⟩ := H4.out.stays hbz
    cases e
    obtain ⟨b1, off, rfl, hbl, g⟩ := hc (by omega)
    obtain ⟨q0, q1⟩ := g k hlt
    clear g hc ho hbz
    have hbk : decide ((k : Int) < (O.length : Int)) = true := by simpa using (show (k : Int) < O.length by omega)
    have HST := Lib.hid (ksO_step hlt)
    obtain ⟨y, hy⟩ : ∃ y, O[k]'hlt = y := ⟨_, rfl⟩
    rw [hy] at q0 q1 HST
    have hba := (Below.refl wr.heap.size wr).alloc (Nat.le_refl _) (.cells #[.string y.k, .string y.r] 33)
    have HZ2 : Hid (wr.heap.size + 1 = (wr.alloc (.cells #[.string y.k, .string y.r] 33)).heap.size) := Lib.hid (by simp)
    have HO2 := Lib.hid (HO.out.stays hba)
    have HB2 := Lib.hid (below_step HBZ.out hba)
    have hol : (ksO (O.take k)).length ≤ 1000000 := by rw [ksO_len, List.length_take]; omega
    clear hy hba
    go_wp2_with (at_builtin; refine wpList_append_txt2 rfl _ _ rfl HO2.out HB2.out HZ2.out rfl rfl hol ?_)
    intro v' w6 hown6 hb6
    have HO6 := Lib.hid hown6; have HB6 := Lib.hid hb6
    clear hown6 hb6 q0 q1
    go_wp2
    go_roundw
    case rel => exact ⟨k + 1, _, by omega, by go_num, rfl, by rw [HST.out]; exact HO6.out, HB6.out⟩
    case measure => simp [intOf]; omega
   ·have hge : decide ((k : Int) < (O.length : Int)) = false := by simp; omega
    have HS : Hid (IsStrs wr va0 (strsOf (ksO O))) := Lib.hid (by have := HO.out.strs; rwa [List.take_of_length_le (by omega)] at this)
    have HP0 : Hid (SumP w0 m a x (.slice a4 O.length c4) O va0 (strsOf (ksO O)) wr) := Lib.hid ⟨HH.out.on HBZ.out, H4.out.stays HBZ.out, HS.out⟩
    have HLK : Hid (txts (strsOf (ksO O)) = ksO O) := Lib.hid (txts_strsOf _)
    obtain ⟨L, hL⟩ : ∃ L, L = strsOf (ksO O) := ⟨_, rfl⟩
    rw [← hL] at HP0 HLK
    have FT := Lib.hid (refFit_any_Kfi va0 L wr HP0.out.strs)
    rw [HLK.out, HFK.out] at FT
    obtain ⟨va, hva⟩ : ∃ va, va = va0 := ⟨_, rfl⟩
    rw [← hva] at HP0 FT
    rw [← hva]
    clear hL HS HO ho hbz HBZ H4 HH hva HO0 HB0
    go_wp2_with fail
    with_reducible refine FT.out.mono ?_
    rintro e w5 ⟨rfl, hb⟩
    replace HP0 := Lib.hid (HP0.out.on hb)
    have HT0 := Lib.hid (has_at HLK.out K HKM.out HP0.out.strs)
    clear hb FT
    go_wp2_with fail
    with_reducible refine HT0.out.mono ?_
    rintro e w5b ⟨rfl, hb⟩
    replace HP0 := Lib.hid (HP0.out.on hb)
    clear hb HT0 hge
    go_wp2
    go_loopw [50] (fun i wr => ∃ k : Nat, k ≤ O.length ∧ i = .int .i64 k ∧ SumP w0 m a x (.slice a4 O.length c4) O va L wr) (fun i _ => O.length - (intOf i).toNat)
    case atStart => exact ⟨0, Nat.zero_le _, rfl, HP0.out⟩
    case round =>
     obtain ⟨k, hk, rfl, hp⟩ := hrel
     have HP := Lib.hid hp
     by_cases hlt : k < O.length
     ·obtain ⟨_, _, _, e, _, hc⟩ := hp.obs
      cases e
      obtain ⟨b1, off, rfl, hbl, g⟩ := hc (by omega)
      obtain ⟨q0, q1⟩ := g k hlt
      clear g hc hp
      have hbk : decide ((k : Int) < (O.length : Int)) = true := by simpa using (show (k : Int) < O.length by omega)
      obtain ⟨n, hn⟩ := SN.out _ (List.getElem_mem hlt)
      obtain ⟨y, hy⟩ : ∃ y, O[k]'hlt = y := ⟨_, rfl⟩
      rw [hy] at q0 q1 hn
      have SU : Hid (∀ w, _) := Lib.hid fun w => hn.sums w
      have RD : Hid (∀ w, _) := Lib.hid fun w => hn.read w
      have KD : Hid (∀ {pv ev : Value} (w : World) (hp : IsParts w pv n.ps) (he : IsEntries w ev n.es), _) := Lib.hid fun w hp he => hn.kidsAt hp he
      have KI := Lib.hid hn.kids
      have KL := Lib.hid (kids_few hn.fit).2
      have TOPY : Hid (y.k.toList = K.toList → n.kd ≠ 3 → cb = true) := Lib.hid (fun e h3 => HCB.out (hn.top (by unfold Ob.t; rw [← Lib.toList_data, ← Lib.toList_data]; exact e) h3))
      obtain ⟨W2, hW2⟩ : ∃ W2, W2 = wr.alloc (.cells #[.string y.k, .string y.r] 33) := ⟨_, rfl⟩
      have hba : Below wr.heap.size wr W2 := by rw [hW2]; exact (Below.refl _ _).alloc (Nat.le_refl _) _
      have HYB : Hid (ObBox W2 wr.heap.size y) := Lib.hid (by rw [hW2]; exact obBox_new wr y _)
      have HP2 := Lib.hid (HP.out.on hba)
      obtain ⟨y0, y1⟩ := HYB.out.cells
      have yl := HYB.out.2
      have HW2 := Lib.hid hW2
      clear hy hba hW2 hn
      go_wp2_with fail
      rw [← HW2.out]
      with_reducible refine (RD.out _).mono ?_
      rintro e w5 ⟨pv, ev, rfl, hpp, hee, hb⟩
      have HP5 := Lib.hid (HP2.out.on hb)
      have HY5 := Lib.hid (HYB.out.stays hb)
      have HPP := Lib.hid hpp
      have HEE := Lib.hid hee
      obtain ⟨_, ap, cp, rfl, _, _⟩ := hpp
      obtain ⟨_, ae, ce, rfl, _, _⟩ := hee
      obtain ⟨W6, hW6⟩ : ∃ W6, W6 = w5.alloc (.cells #[.int .i64 n.kd, .string n.d, .slice ap n.ps.length cp, .slice ae n.es.length ce] 44) := ⟨_, rfl⟩
      have hb6 : Below w5.heap.size w5 W6 := by rw [hW6]; exact (Below.refl _ _).alloc (Nat.le_refl _) _
      have HN6 : Hid (NdBox W6 w5.heap.size n (.slice ap n.ps.length cp) (.slice ae n.es.length ce)) := Lib.hid (by rw [hW6]; exact ndBox_new w5 n _ _ _)
      have HR6 : Hid (SumR w0 m a x (.slice (some ⟨b1, off, none⟩) O.length c4) O va L y wr.heap.size n w5.heap.size (.slice ap n.ps.length cp) (.slice ae n.es.length ce) W6) := Lib.hid ⟨HP5.out.on hb6, HY5.out.stays hb6, HN6.out, HPP.out.stays hb6, HEE.out.stays hb6⟩
      have HW6 := Lib.hid hW6
      clear hb hb6 hW6 y0 y1 yl q0 q1
      go_wp2_with fail
      rw [← HW6.out]
      refine wp_region_wordsG (by kernel_rfl) (by kernel_rfl) allT (SumR w0 m a x (.slice (some ⟨b1, off, none⟩) O.length c4) O va L y wr.heap.size n w5.heap.size (.slice ap n.ps.length cp) (.slice ae n.es.length ce)) dsmE (dsmU w0 m a x (.slice (some ⟨b1, off, none⟩) O.length c4) O va L y wr.heap.size n w5.heap.size (.slice ap n.ps.length cp) (.slice ae n.es.length ce)) 10 dsmN [9] (by kernel_rfl) (by kernel_rfl) (by kernel_rfl)
       dsmB (by kernel_rfl) (fun ix kx v e w w' hi hk hne hb hU hT => dsm_T _ _ _ _ _ _ _ _ _ _ _ _ _ _  ix kx v e w w' hk hne hb hU hT) (by decide) (HR6.out.on ((Below.refl _ _).drew)) (fun k hk hge => absurd hk (Nat.not_lt.2 (show 10 ≤ k from hge)))
       [60, 61, 62, 63, 64, 65, 66, 67, 68, 69] (by kernel_rfl) (forall_ops ?steps) ?behind
      case steps =>
       refine ⟨?_, ?_, ?_, ?_, ?_, ?_, ?_, ?_, ?_, ?_, trivial⟩
       ·refine stepG_of rfl ?_
        exact stepR_value (t := 60) (.int .i64 0) rfl (fun _ => Below.refl _ _) (fun ac w hG hN hO => by
         have e13 : slot ac 13 = .int .i64 0 := hO 13 (by kernel_rfl)
         exact run_move_slot (.inl rfl) e13) (fun ac w hG hN => rfl)
       ·refine stepG_of rfl ?_
        exact stepR_value (t := 61) (.bool false) rfl (fun _ => Below.refl _ _) (fun ac w hG hN hO => by
         have e60 : slot ac 60 = .int .i64 0 := hN 0 (by decide)
         have f60 := slot_at e60
         unfold execOp; go_simp) (fun ac w hG hN => rfl)
       ·refine stepG_of rfl ?_
        exact stepR_value (t := 62) (.bool false) rfl (fun _ => Below.refl _ _) (fun ac w hG hN hO => by
         have e61 : slot ac 61 = .bool false := hN 1 (by decide)
         exact run_move_slot (.inl rfl) e61) (fun ac w hG hN => rfl)
       ·refine stepG_on (j := 2) (b := false) rfl (by decide) (fun v e w h => h) ?_
        exact stepR_value (t := 63) (.pointer (some ⟨wr.heap.size, 1, none⟩)) rfl (fun _ => Below.refl _ _) (fun ac w hG hN hO => by
         have e11 : slot ac 11 = .pointer (some ⟨wr.heap.size, 0, none⟩) := hO 11 (by kernel_rfl)
         have f11 := slot_at e11
         unfold execOp; go_simp) (fun ac w hG hN => rfl)
       ·refine stepG_on (j := 2) (b := false) rfl (by decide) (fun v e w h => h) ?_
        exact stepR_value (t := 64) (.string y.r) rfl (fun _ => Below.refl _ _) (fun ac w hG hN hO => by
         have e63 : slot ac 63 = .pointer (some ⟨wr.heap.size, 1, none⟩) := hN 3 (by decide)
         obtain ⟨c0, c1⟩ := hG.obj.cells
         have f63 := slot_at e63
         unfold execOp; go_simp) (fun ac w hG hN => rfl)
       ·refine stepG_on (j := 2) (b := false) rfl (by decide) (fun v e w h => h) ?_
        intro ac w hG hN hO
        have e64 : slot ac 64 = .string y.r := hN 4 (by decide)
        refine wp_callx 25 _ _ rfl (enters_of Tryz.func25 (by kernel_rfl) rfl) #[.string y.r] (by simp [eval_slot, e64]) (calls_valN (SU.out w)) ?_
        rintro v w'' ⟨hv, hb⟩
        exact ⟨v, rfl, hb, hG.on hb, hv⟩
       ·refine stepG_on (j := 2) (b := false) rfl (by decide) (fun v e w h => h) ?_
        exact stepR_value (t := 66) (.pointer (some ⟨wr.heap.size, 0, none⟩)) rfl (fun _ => Below.refl _ _) (fun ac w hG hN hO => by
         have e11 : slot ac 11 = .pointer (some ⟨wr.heap.size, 0, none⟩) := hO 11 (by kernel_rfl)
         have f11 := slot_at e11
         unfold execOp; go_simp) (fun ac w hG hN => rfl)
       ·refine stepG_on (j := 2) (b := false) rfl (by decide) (fun v e w h => h) ?_
        exact stepR_value (t := 67) (.string y.k) rfl (fun _ => Below.refl _ _) (fun ac w hG hN hO => by
         have e66 : slot ac 66 = .pointer (some ⟨wr.heap.size, 0, none⟩) := hN 6 (by decide)
         obtain ⟨c0, c1⟩ := hG.obj.cells
         have f66 := slot_at e66
         unfold execOp; go_simp) (fun ac w hG hN => rfl)
       ·refine stepG_on (j := 2) (b := false) rfl (by decide) (fun v e w h => h) ?_
        exact stepR_value (t := 68) (.bool false) rfl (fun _ => Below.refl _ _) (fun ac w hG hN hO => by
         have e65 : slot ac 65 = .string y.k := hN 5 (by decide)
         have e67 : slot ac 67 = .string y.k := hN 7 (by decide)
         have f65 := slot_at e65
         have f67 := slot_at e67
         unfold execOp; go_simp) (fun ac w hG hN => rfl)
       ·refine stepG_of rfl ?_
        exact stepR_value (t := 69) (.bool false) rfl (fun _ => Below.refl _ _) (fun ac w hG hN hO => by
         have e62 : slot ac 62 = .bool false := hN 2 (by decide)
         have e68 : slot ac 68 = .bool false := hN 8 (by decide)
         have f62 := slot_at e62
         have f68 := slot_at e68
         unfold execOp; go_simp) (fun ac w hG hN => rfl)
      case behind =>
       intro ac w5 hG hV hS ha
       have h9 : slot ac 69 = .bool false := hV 9 (by decide) (by decide)
       generalize slot ac = sl at ha h9
       subst ha
       simp only [patchL, List.contains_cons, List.contains_nil, Nat.reduceBEq, Bool.or_false, Bool.or_true, if_true, Bool.false_eq_true, if_false, Nat.reduceAdd]
       generalize sl 60 = s60
       generalize sl 61 = s61
       generalize sl 62 = s62
       generalize sl 63 = s63
       generalize sl 64 = s64
       generalize sl 65 = s65
       generalize sl 66 = s66
       generalize sl 67 = s67
       generalize sl 68 = s68
       generalize sl 69 = s69 at h9 ⊢
       subst h9
       clear hV hS
       have HR := Lib.hid hG
       clear hG
       obtain ⟨y0, y1⟩ := HR.out.obj.cells
       obtain ⟨d0, d1, d2, d3⟩ := HR.out.node.cells
       obtain ⟨ck, hck⟩ : ∃ c, (y.k.toList == K.toList) = c := ⟨_, rfl⟩
       obtain ⟨kq, hkq⟩ : ∃ c, (n.kd != 3) = c := ⟨_, rfl⟩
       have TOP2 : Hid (ck = true → kq = true → cb = true) := Lib.hid (by
        rintro rfl rfl
        exact TOPY.out (eq_of_beq hck) (by simpa using hkq))
       have hbo : (ck && kq) = true ∨ (ck && kq) = false := by cases ck <;> cases kq <;> simp
       rcases hbo with hbo | hbo
       ·obtain ⟨rfl, rfl⟩ : ck = true ∧ kq = true := by simpa using hbo
        obtain rfl := TOP2.out rfl rfl
        obtain ⟨c0, c1, c2⟩ := HR.out.one.cells
        clear hbo
        go_wp2_with fail
        have HO1 := Lib.hid HR.out.one
        with_reducible refine (CR.out _ HO1.out).mono ?_
        rintro e w7 ⟨v7, rfl, ho, hb⟩
        replace HO1 := Lib.hid (HO1.out.on hb)
        have HT7 := Lib.hid ho
        clear hb ho c0 c1 c2 y0 y1 d0 d1 d2 d3 hck hkq
        go_wp2_with fail
        with_reducible refine (CC.out _ _ HT7.out).mono ?_
        rintro e w8 ⟨rfl, hb⟩
        replace HO1 := Lib.hid (HO1.out.on hb)
        clear hb
        go_wp2_with fail
        with_reducible refine (AW.out _ HO1.out).mono ?_
        rintro e w9 ⟨rfl, hb⟩
        go_wp2
        go_ret
        exact ⟨rfl, below_step HO1.out.2.1 hb⟩
       ·clear TOP2
        have go : ∀ (P : Prop), (ck = false → P) → (ck = true → kq = false → P) → P := fun P h1 h2 => by
         cases ck
         ·exact h1 rfl
         ·cases kq
          ·exact h2 rfl rfl
          ·cases hbo
        clear hbo
        refine go _ (fun e => ?_) (fun e e2 => ?_)
        all_goals (subst e; try subst e2)
        all_goals skip
        ·go_wp2_with fail
         with_reducible refine (KD.out _ HR.out.parts HR.out.entries).mono ?_
         rintro e w7 ⟨v7, rfl, hs, hb⟩
         have HP7 : Hid (SumP w0 m a x (.slice (some ⟨b1, off, none⟩) O.length c4) O va L w7) := Lib.hid (HR.out.1.on hb)
         have HS7 := Lib.hid hs
         obtain ⟨_, a7, c7, rfl, _, _⟩ := hs
         have hml : (strsOf (ofL (kidsN n))).length ≤ 9223372036854775807 := by have := KL.out; rw [strsOf_len]; omega
         obtain ⟨J, hJ⟩ : ∃ J, strsOf (ofL (kidsN n)) = J := ⟨_, rfl⟩
         have KY : Hid (∀ t ∈ J, t.data.toList ∈ ksO O) := Lib.hid fun t ht => by
          rw [← hJ] at ht
          obtain ⟨u, hu, rfl⟩ := List.mem_map.1 ht
          have := KI.out u hu
          simpa using this
         rw [hJ] at HS7 hml ⊢
         clear hb y0 y1 d0 d1 d2 d3 hck hkq hJ
         go_wp2
         go_loopw [89] (fun i wr => ∃ j : Nat, j ≤ J.length ∧ i = .int .i64 j ∧ SumP w0 m a x (.slice (some ⟨b1, off, none⟩) O.length c4) O va L wr ∧ IsStrs wr (.slice a7 J.length c7) J) (fun i _ => J.length - (intOf i).toNat)
         case atStart => exact ⟨0, Nat.zero_le _, rfl, HP7.out, HS7.out⟩
         case round =>
          obtain ⟨j, hj, rfl, hp, hs⟩ := hrel
          have HP8 := Lib.hid hp
          have HS8 := Lib.hid hs
          by_cases hlt2 : j < J.length
          ·obtain ⟨_, _, _, e, _, hc⟩ := hs
           cases e
           obtain ⟨b1, off, rfl, hbl, g⟩ := hc (by omega)
           have q0 := g j hlt2
           have hbk2 : decide ((j : Int) < (J.length : Int)) = true := by simpa using (show (j : Int) < J.length by omega)
           have HM : Hid (J[j].data.toList ∈ ksO O) := Lib.hid (KY.out _ (List.getElem_mem hlt2))
           obtain ⟨t, ht⟩ : ∃ t, J[j]'hlt2 = t := ⟨_, rfl⟩
           rw [ht] at q0 HM
           have HH8 := Lib.hid (has_at HLK.out t HM.out HP8.out.strs)
           clear hp g hc ht
           go_wp2_with fail
           with_reducible refine HH8.out.mono ?_
           rintro e w8 ⟨rfl, hb⟩
           have HP9 := Lib.hid (HP8.out.on hb)
           have HS9 := Lib.hid (HS8.out.stays hb)
           clear hb q0
           go_wp2
           go_roundw
           case rel => exact ⟨j + 1, by omega, by go_num, HP9.out, HS9.out⟩
           case measure => simp [intOf]; omega
          ·have hge2 : decide ((j : Int) < (J.length : Int)) = false := by simp; omega
           clear hp hs
           go_wp2
           go_roundw
           case rel => exact ⟨k + 1, by omega, by go_num, HP8.out⟩
           case measure => simp [intOf]; omega
        ·go_wp2_with fail
         with_reducible refine (KD.out _ HR.out.parts HR.out.entries).mono ?_
         rintro e w7 ⟨v7, rfl, hs, hb⟩
         have HP7 : Hid (SumP w0 m a x (.slice (some ⟨b1, off, none⟩) O.length c4) O va L w7) := Lib.hid (HR.out.1.on hb)
         have HS7 := Lib.hid hs
         obtain ⟨_, a7, c7, rfl, _, _⟩ := hs
         have hml : (strsOf (ofL (kidsN n))).length ≤ 9223372036854775807 := by have := KL.out; rw [strsOf_len]; omega
         obtain ⟨J, hJ⟩ : ∃ J, strsOf (ofL (kidsN n)) = J := ⟨_, rfl⟩
         have KY : Hid (∀ t ∈ J, t.data.toList ∈ ksO O) := Lib.hid fun t ht => by
          rw [← hJ] at ht
          obtain ⟨u, hu, rfl⟩ := List.mem_map.1 ht
          have := KI.out u hu
          simpa using this
         rw [hJ] at HS7 hml ⊢
         clear hb y0 y1 d0 d1 d2 d3 hck hkq hJ
         go_wp2
         go_loopw [89] (fun i wr => ∃ j : Nat, j ≤ J.length ∧ i = .int .i64 j ∧ SumP w0 m a x (.slice (some ⟨b1, off, none⟩) O.length c4) O va L wr ∧ IsStrs wr (.slice a7 J.length c7) J) (fun i _ => J.length - (intOf i).toNat)
         case atStart => exact ⟨0, Nat.zero_le _, rfl, HP7.out, HS7.out⟩
         case round =>
          obtain ⟨j, hj, rfl, hp, hs⟩ := hrel
          have HP8 := Lib.hid hp
          have HS8 := Lib.hid hs
          by_cases hlt2 : j < J.length
          ·obtain ⟨_, _, _, e, _, hc⟩ := hs
           cases e
           obtain ⟨b1, off, rfl, hbl, g⟩ := hc (by omega)
           have q0 := g j hlt2
           have hbk2 : decide ((j : Int) < (J.length : Int)) = true := by simpa using (show (j : Int) < J.length by omega)
           have HM : Hid (J[j].data.toList ∈ ksO O) := Lib.hid (KY.out _ (List.getElem_mem hlt2))
           obtain ⟨t, ht⟩ : ∃ t, J[j]'hlt2 = t := ⟨_, rfl⟩
           rw [ht] at q0 HM
           have HH8 := Lib.hid (has_at HLK.out t HM.out HP8.out.strs)
           clear hp g hc ht
           go_wp2_with fail
           with_reducible refine HH8.out.mono ?_
           rintro e w8 ⟨rfl, hb⟩
           have HP9 := Lib.hid (HP8.out.on hb)
           have HS9 := Lib.hid (HS8.out.stays hb)
           clear hb q0
           go_wp2
           go_roundw
           case rel => exact ⟨j + 1, by omega, by go_num, HP9.out, HS9.out⟩
           case measure => simp [intOf]; omega
          ·have hge2 : decide ((j : Int) < (J.length : Int)) = false := by simp; omega
           clear hp hs
           go_wp2
           go_roundw
           case rel => exact ⟨k + 1, by omega, by go_num, HP8.out⟩
           case measure => simp [intOf]; omega
     ·have hge : decide ((k : Int) < (O.length : Int)) = false := by simp; omega
      clear hp
      have HO1 := Lib.hid HP.out.one
      go_wp2_with fail
      with_reducible refine (AW.out _ HO1.out).mono ?_
      rintro e w9 ⟨rfl, hb⟩
      go_wp2
      go_ret
      exact ⟨rfl, below_step HO1.out.2.1 hb⟩
end Go.Proofs.YtlccihidedfemaaGreatDoor

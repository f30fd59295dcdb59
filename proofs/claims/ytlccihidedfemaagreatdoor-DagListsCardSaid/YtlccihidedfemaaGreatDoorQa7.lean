/-
  Texts put together: contracts and laws that this seat's proofs share.
-/
import Derived.Test.YtlccihidedfemaaGreatDoorYaDtw
import Derived.Test.YtlccihidedfemaaGreatDoorQa5
import Derived.Test.YtlccihidedfemaaGreatDoorYaDoq
import Derived.Test.YtlccihidedfemaaGreatDoorQa3
set_option linter.unusedVariables false
namespace Go.Proofs.YtlccihidedfemaaGreatDoor
open Go.RowKit
attribute [local go_sem] Oper.semAt_some
set_option maxRecDepth 100000 in
set_option maxHeartbeats 8000000 in
theorem pBuild_any (mn av b mx : Nat) (hF : FitAt mn av mx b) (iv : Value) (I : List It) (w : World) (hi : IsItems w iv I) (hR : ReadyT (cutN mn b mx) I) (hfew : ∀ x ∈ I, x.p.size ≤ 400) (hT : Tabs w) (hL : (seqT (cutN mn b mx) I).length ≤ 700000) :
    Calls Tryz.prog 11 #[pV mn av mx, iv] w (RetKO (keyN (topT (cutN mn b mx) I)) (objsT (cutN mn b mx) I) w) := by
  have F := hR.fit
  have CF : Hid (∀ W, Calls Tryz.prog 30 #[pV mn av mx] W fun e w' => e = .returned (.bool true) ∧ Below W.heap.size W w') := Lib.hid (fun W => by
    have := Fit_any_Cdw mn av mx W; rwa [fitB_of hF] at this)
  have CD := Lib.hid (fun (Bb : Nat) (vR vB : Value) (W : World) (h : Bld w Bb (mn, av, mx) W (blkT I [] ++ []) [] vR vB) => dir_all w Bb mn av b mx hF hT I F hfew 9 ⟨#[]⟩ [] [] vR vB W (Nat.zero_le _) (fun y hy => by cases hy) (off_nil _) (fun x hx => by have := (path_ok (F.path x hx)).len; omega) h (by
    have : (seqD (cutN mn b mx) I 9 (⟨#[]⟩ : ByteArray).data.toList).length ≤ 700000 := hL
    simpa using this))
  have HCP : Hid (∀ S, Stab ((seqT (cutN mn b mx) I).map obN) S → SortO S → compO S = objsT (cutN mn b mx) I) := Lib.hid (fun S h1 h2 => comp_puts (seqT_fit hR) h1 h2)
  have hk32 : (keyN (topT (cutN mn b mx) I)).length = 32 := keyN_len (seqT_fit hR _ (topT_mem _ _))
  have hsl : 0 < (seqT (cutN mn b mx) I).length := List.length_pos_iff.2 (fun e => by have := topT_mem (cutN mn b mx) I; rw [e] at this; cases this)
  have hbt := blk_top F
  have hIl := F.len
  obtain ⟨K, hK⟩ : ∃ K : ByteArray, K = ⟨(keyN (topT (cutN mn b mx) I)).toArray⟩ := ⟨_, rfl⟩
  have hKs : K.size = 32 := by rw [hK, Lib.size_eq]; exact hk32
  have hKe : K.toList.isEmpty = false := emp_f (by omega)
  obtain ⟨sq, hsq⟩ : ∃ sq, sq = seqT (cutN mn b mx) I := ⟨_, rfl⟩
  obtain ⟨V, hV⟩ : ∃ V, V = w.alloc (.cells #[.int .i64 mn, .int .i64 av, .int .i64 mx] 23) := ⟨_, rfl⟩
  have hbV : Below w.heap.size w V := by rw [hV]; exact (Below.refl _ _).alloc (Nat.le_refl _) _
  have hRP : Row V w.heap.size #[.int .i64 mn, .int .i64 av, .int .i64 mx] 23 := by rw [hV]; exact Row.made _ _ _
  have HV := Lib.hid hV; have HBV := Lib.hid hbV; have HRP := Lib.hid hRP; have HI := Lib.hid hi; have HK := Lib.hid hK; have HSQ := Lib.hid hsq; have HBT := Lib.hid hbt
  have HL : Hid (sq.length ≤ 700000 ∧ 0 < sq.length) := Lib.hid (by rw [hsq]; exact ⟨hL, hsl⟩)
  rw [← hsq] at HCP
  obtain ⟨_, a0, cap0, rfl, _, _⟩ := hi
  clear hF hR hfew hT hL hk32 hsl hbt hV hbV hK hsq F hKs
  go_enter Tryz.func11, Tryz.ntmps11
  go_wp2_with fail
  rw [← HV.out]
  with_reducible refine (CF.out _).mono ?_
  rintro e w1 ⟨rfl, hb1⟩
  have HRP1 := Lib.hid (HRP.out.step hb1)
  have HB1 := Lib.hid (below_step HBV.out hb1)
  have p0 := HRP1.out.cell 0; have p1 := HRP1.out.cell 1; have p2 := HRP1.out.cell 2
  simp only [List.getElem?_toArray, List.getElem?_cons_zero, List.getElem?_cons_succ] at p0 p1 p2
  have hwl := HRP1.out.lt
  have hle : decide ((I.length : Int) > 60) = false := decide_eq_false (by omega)
  have hle2 : ¬ (60 : Int) < (I.length : Int) := by omega
  clear hb1 hRP
  go_wp2_with fail
  obtain ⟨V2, hV2⟩ : ∃ V2, V2 = w1.alloc (.cells #[.slice a0 I.length cap0, .slice none 0 0, .int .i64 mn, .int .i64 av, .int .i64 mx] 61) := ⟨_, rfl⟩
  have hb2 : Below w1.heap.size w1 V2 := by rw [hV2]; exact (Below.refl _ _).alloc (Nat.le_refl _) _
  have hBl : Bld w w1.heap.size (mn, av, mx) V2 (blkT I [] ++ []) [] (.slice a0 I.length cap0) (.slice none 0 0) := by
    rw [HBT.out, List.append_nil]
    exact ⟨by rw [hV2]; exact Row.made _ _ _, HI.out, obs_own_nil _ _, HB1.out.size, below_step HB1.out hb2⟩
  have CD1 := Lib.hid (CD.out _ _ _ _ hBl)
  rw [← hV2]
  clear hV2 hb2 hBl
  with_reducible refine CD1.out.mono ?_
  rintro e w4 ⟨rfl, vR4, vB4, hH4, hK4⟩
  have hkv : keyV (keyN (dirN (cutN mn b mx) I 9 (⟨#[]⟩ : ByteArray).data.toList)) = .string K := by rw [HK.out]; rfl
  rw [hkv]
  have hM4 : ([] : List Ob) ++ (seqD (cutN mn b mx) I 9 (⟨#[]⟩ : ByteArray).data.toList).map obN = sq.map obN := by rw [HSQ.out]; rfl
  rw [hM4] at hH4
  have CB := Lib.hid (byKey_any w w1.heap.size (mn, av, mx) w4 [] (sq.map obN) vR4 vB4 hH4 (by rw [List.length_map]; exact HL.out.2) (by rw [List.length_map]; have := HL.out.1; omega))
  have HB4 := Lib.hid hH4.below
  have q0 := hH4.cells.1
  obtain ⟨_, ar, capr, rfl, _, _⟩ := hH4.rest
  clear hH4 hK4 hkv hM4 p0 p1 p2 CD1
  go_wp2_with fail
  with_reducible refine CB.out.mono ?_
  rintro e w5 ⟨v5, S, rfl, hs1, hs2, ho5, hb5⟩
  have HO := Lib.hid ho5.is
  have HE := Lib.hid (HCP.out S hs1 hs2)
  have HB5 := Lib.hid (below_step HB4.out hb5)
  clear ho5 hs1 hs2 hb5 q0
  go_wp2
  exact bodyPost_ret (v := .tuple #[.string K, v5]) (by simp [results, Tryz.results11, go_sem]) rfl ⟨v5, by rw [← HK.out], by rw [← HE.out]; exact HO.out, HB5.out⟩
theorem fit248_Dua : FitAt (2 : Nat) (4 : Nat) (8 : Nat) 2 := ⟨by decide, by decide, by decide, by decide, by decide, by decide, by decide⟩
def nilN : Nd := ⟨3, ⟨#[]⟩, [], []⟩
theorem nilN_fit : fitN nilN = true := by decide +kernel
theorem nilN_wr : wrN nilN = [3, 0] := by decide +kernel
theorem rdy_nil (c : List UInt8 → Nat) (h : ∃ mn mx, CutOk mn mx c ∧ mx ≤ 4096) : ReadyT c [] :=
  ⟨⟨Nat.zero_le _, List.Pairwise.nil, fun _ h => (by cases h), fun _ h => (by cases h), fun _ h => (by cases h), fun _ h => (by cases h), by decide⟩, h, fun _ h => (by cases h)⟩
theorem seq_nil (c : List UInt8 → Nat) : seqT c [] = [nilN] := rfl
theorem objs_nil (c : List UInt8 → Nat) : objsT c [] = [obN nilN] := by
  have h : (obN nilN).t.length = 32 := by rw [obN_t]; exact keyN_len nilN_fit
  show addO [] (obN nilN) = _
  unfold addO
  rw [if_neg (by intro e; rcases e with e | e; · cases e
                 · exact e h)]
  rfl
theorem ex_build (w : World) (hT : Tabs w) : Calls Tryz.prog 11 #[pV 2 4 8, .slice none 0 0] w fun e w' => ∃ (K : ByteArray) (b off cap : Nat), e = .returned (.tuple #[.string K, .slice (some ⟨b, off, none⟩) 1 cap]) ∧ b < w'.heap.size ∧ w'.cell? ⟨b, off, none⟩ = some (.string K) ∧ w'.cell? ⟨b, off + 1, none⟩ = some (.string ⟨#[3, 0]⟩) ∧ 1 ≤ cap ∧ Below w.heap.size w w' := by
  refine (pBuild_any 2 4 2 8 fit248_Dua (.slice none 0 0) [] w (isItems_nil _) (rdy_nil _ (cut_fit fit248_Dua)) (fun _ h => by cases h) hT (by rw [seq_nil]; decide)).mono ?_
  rintro e w' ⟨v, rfl, hv, hb⟩
  rw [objs_nil] at hv
  obtain ⟨_, a, cap, rfl, ⟨_, hle⟩, hc⟩ := hv
  obtain ⟨b, off, rfl, hlt, hcell⟩ := hc (by decide)
  have h0 := hcell 0 (by decide)
  refine ⟨_, b, off, cap, rfl, hlt, ?_, ?_, hle, hb⟩
  · exact h0.1
  · rw [show (off + 1 : Nat) = off + 0 * 2 + 1 by omega, h0.2]
    show some (Value.string ⟨(wrN nilN).toArray⟩) = _
    rw [nilN_wr]
set_option maxRecDepth 100000 in
set_option maxHeartbeats 1000000 in
theorem awake_any (w : World) (hT : Tabs w) : Calls Tryz.prog 10 #[] w fun e w' => e = .returned (.bool true) ∧ Below w.heap.size w w' := by
  have ER := Lib.hid (ex_build w hT)
  clear hT
  go_enter Tryz.func10, Tryz.ntmps10
  go_wp2_with fail
  refine ER.out.mono ?_
  rintro e w1 ⟨K, b, off, cap, rfl, hlt, h0, h1, hcap, hb⟩
  have HB := Lib.hid hb
  have he : (K.toList == K.toList) = true := by simp
  clear hb
  go_wp2
  go_ret
  exact ⟨rfl, HB.out⟩
def OneX (w0 : World) (x : Ob) (W : World) : Prop := ObBox W w0.heap.size x ∧ Below w0.heap.size w0 W ∧ Tabs W
theorem OneX.on {w0 W W' : World} {x : Ob} (h : OneX w0 x W) (hb : Below W.heap.size W W') : OneX w0 x W' := ⟨h.1.stays hb, below_step h.2.1 hb, h.2.2.stays hb⟩
theorem OneX.cells {w0 W : World} {x : Ob} (h : OneX w0 x W) : W.cell? ⟨w0.heap.size, 0, none⟩ = some (.string x.k) ∧ W.cell? ⟨w0.heap.size, 1, none⟩ = some (.string x.r) := h.1.1
theorem oneX_new (w0 : World) (x : Ob) (hT : Tabs w0) : OneX w0 x (w0.alloc (.cells #[.string x.k, .string x.r] 33)) := by
  have hb : Below w0.heap.size w0 (w0.alloc (.cells #[.string x.k, .string x.r] 33)) := (Below.refl _ _).alloc (Nat.le_refl _) _
  exact ⟨obBox_new w0 x _, hb, hT.stays hb⟩
theorem one_obs (W : World) (x : Ob) : IsObs (W.alloc (.cells #[.string x.k, .string x.r] 33)) (.slice (some ⟨W.heap.size, 0, none⟩) 1 1) [x] := by
  have h := obBox_new W x 33
  refine ⟨by unfold maxLen; simp, some ⟨W.heap.size, 0, none⟩, 1, rfl, ⟨fun e => (by cases e), Nat.le_refl _⟩, fun _ => ⟨_, 0, rfl, h.2, fun i hi => ?_⟩⟩
  obtain rfl : i = 0 := by simpa using hi
  exact h.1
theorem small_one (W : World) (x : Ob) : Calls Tryz.prog 15 #[.slice (some ⟨W.heap.size, 0, none⟩) 1 1] (W.alloc (.cells #[.string x.k, .string x.r] 33)) fun e w' => e = .returned (.bool (smallOB [x])) ∧ Below W.heap.size W w' := by
  refine (smallO_any _ [x] _ (one_obs W x)).mono ?_
  rintro e w' ⟨rfl, hb⟩
  exact ⟨rfl, below_step ((Below.refl _ _).alloc (Nat.le_refl _) _) hb⟩
set_option maxRecDepth 100000 in
set_option maxHeartbeats 40000000 in
theorem DagAdds_w (v : Value) (L : List Ob) (x : Ob) (w0 : World) (hv : IsObs w0 v L) (hT : Tabs w0) :
    Calls Tryz.prog 8 #[v, obV x] w0 fun e w' => e = .returned (.bool true) ∧ Below w0.heap.size w0 w' := by
  obtain ⟨V, hV⟩ : ∃ V, V = w0.alloc (.cells #[.string x.k, .string x.r] 33) := ⟨_, rfl⟩
  have HH : Hid (OneX w0 x V) := Lib.hid (by rw [hV]; exact oneX_new w0 x hT)
  have HV := Lib.hid hV
  have HI := Lib.hid hv
  obtain ⟨hm, a, cap, rfl, _, _⟩ := hv
  have AW : Hid (∀ W, OneX w0 x W → _) := Lib.hid fun W h => awake_any W h.2.2
  have S1 : Hid (∀ W, OneX w0 x W → _) := Lib.hid fun W h => smallO_any (.slice a L.length cap) L W (HI.out.stays h.2.1)
  have S2 : Hid (∀ W, OneX w0 x W → _) := Lib.hid fun W h => small_one W x
  have FT : Hid (∀ W, OneX w0 x W → _) := Lib.hid fun W h => rFitO_any (.slice a L.length cap) L W (HI.out.stays h.2.1)
  obtain ⟨c0, c1⟩ := HH.out.cells
  have hmm : L.length ≤ 9223372036854775807 := by unfold maxLen at hm; omega
  clear hV hT hm
  rcases hs1 : smallOB L with _ | _
  · rw [hs1] at S1
    go_enter Tryz.func8, Tryz.ntmps8
    go_wp2_with fail
    rw [← HV.out]
    go_wp2_with fail
    with_reducible refine (S1.out _ HH.out).mono ?_
    rintro e w1 ⟨rfl, hb⟩
    replace HH := Lib.hid (HH.out.on hb)
    clear hb c0 c1
    obtain ⟨c0, c1⟩ := HH.out.cells
    go_wp2_with fail
    with_reducible refine (AW.out _ HH.out).mono ?_
    rintro e w9 ⟨rfl, hb⟩
    go_wp2
    go_ret
    exact ⟨rfl, below_step HH.out.2.1 hb⟩
  · rw [hs1] at S1
    rcases hs2 : smallOB [x] with _ | _
    · rw [hs2] at S2
      go_enter Tryz.func8, Tryz.ntmps8
      go_wp2_with fail
      rw [← HV.out]
      go_wp2_with fail
      with_reducible refine (S1.out _ HH.out).mono ?_
      rintro e w1 ⟨rfl, hb⟩
      replace HH := Lib.hid (HH.out.on hb)
      clear hb c0 c1
      obtain ⟨c0, c1⟩ := HH.out.cells
      go_wp2_with fail
      with_reducible refine (S2.out _ HH.out).mono ?_
      rintro e w1 ⟨rfl, hb⟩
      replace HH := Lib.hid (HH.out.on hb)
      clear hb c0 c1
      obtain ⟨c0, c1⟩ := HH.out.cells
      go_wp2_with fail
      with_reducible refine (AW.out _ HH.out).mono ?_
      rintro e w9 ⟨rfl, hb⟩
      go_wp2
      go_ret
      exact ⟨rfl, below_step HH.out.2.1 hb⟩
    · rw [hs2] at S2
      rcases hft : fitO L with _ | _
      · rw [hft] at FT
        go_enter Tryz.func8, Tryz.ntmps8
        go_wp2_with fail
        rw [← HV.out]
        go_wp2_with fail
        with_reducible refine (S1.out _ HH.out).mono ?_
        rintro e w1 ⟨rfl, hb⟩
        replace HH := Lib.hid (HH.out.on hb)
        clear hb c0 c1
        obtain ⟨c0, c1⟩ := HH.out.cells
        go_wp2_with fail
        with_reducible refine (S2.out _ HH.out).mono ?_
        rintro e w1 ⟨rfl, hb⟩
        replace HH := Lib.hid (HH.out.on hb)
        clear hb c0 c1
        obtain ⟨c0, c1⟩ := HH.out.cells
        go_wp2_with fail
        with_reducible refine (FT.out _ HH.out).mono ?_
        rintro e w1 ⟨rfl, hb⟩
        replace HH := Lib.hid (HH.out.on hb)
        clear hb c0 c1
        obtain ⟨c0, c1⟩ := HH.out.cells
        go_wp2_with fail
        with_reducible refine (AW.out _ HH.out).mono ?_
        rintro e w9 ⟨rfl, hb⟩
        go_wp2
        go_ret
        exact ⟨rfl, below_step HH.out.2.1 hb⟩
      · rw [hft] at FT
        have F := fitO_iff.1 hft
        have hl3 := smallO_len hs1
        have CA : Hid (∀ W, OneX w0 x W → Calls Tryz.prog 20 #[(.slice a L.length cap), obV x] W (AddsO (addO L x) W)) := Lib.hid fun W h => pAddO_any (.slice a L.length cap) L x W (HI.out.stays h.2.1) F.1 (by omega)
        have CL : Hid (∀ W, OneX w0 x W → _) := Lib.hid fun W h => pGet_any (.slice a L.length cap) L x.k W (HI.out.stays h.2.1) F.1 (by omega)
        have F2 := addO_fit F x
        have hl4 := (addO_len_le L x).2
        have CM : Hid (∀ (s : ByteArray) (v : Value) W, OneX w0 x W ∧ IsObs W v (addO L x) → Calls Tryz.prog 18 #[v, .string s] W fun e w' => e = .returned (.tuple #[.string (gotO (addO L x) s.data.toList), .bool (getO (addO L x) s.data.toList).isSome]) ∧ Below W.heap.size W w') := Lib.hid fun s v W h => pGet_any v (addO L x) s W h.2 F2.1 (by omega)
        rcases hw : (getO L x.t).isSome with _ | _
        · by_cases h32 : x.k.size = 32
          · have hx32 : x.t.length = 32 := by unfold Ob.t; rw [← Lib.size_eq]; exact h32
            have hn : getO L x.t = none := by simpa using hw
            have hgm : getO (addO L x) x.k.data.toList = some x := getO_add_self F hn hx32
            have hgl : getO L x.k.data.toList = none := hn
            have CM1 := CM
            have HLN0 := Lib.hid (addO_len hn hx32)
            have HO := Lib.hid (fun y (hy : y ∈ L) => getO_add_old F x hy)
            have hk32 : ((x.k.size : Int) == 32) = true := by simp; omega
            have hk33 : ((x.k.size : Int) != 32) = false := by simp; omega
            rw [hgl, gotO_none hgl] at CL
            have CX : Hid (∀ (v : Value) W, OneX w0 x W ∧ IsObs W v (addO L x) → Calls Tryz.prog 18 #[v, .string x.k] W fun e w' => e = .returned (.tuple #[.string x.r, .bool true]) ∧ Below W.heap.size W w') := Lib.hid fun v W h => by have := CM.out x.k v W h; rwa [hgm, gotO_some hgm] at this
            have CY : Hid (∀ (y : Ob) (v : Value) W, y ∈ L → OneX w0 x W ∧ IsObs W v (addO L x) → Calls Tryz.prog 18 #[v, .string y.k] W fun e w' => e = .returned (.tuple #[.string y.r, .bool true]) ∧ Below W.heap.size W w') := Lib.hid fun y v W hy h => by have hg := HO.out y hy; have := CM.out y.k v W h; have hg : getO (addO L x) y.k.data.toList = some y := hg; rwa [hg, gotO_some hg] at this
            have hrr : (x.r.toList == x.r.toList) = true := by simp
            obtain ⟨M, hM⟩ : ∃ M, M = addO L x := ⟨_, rfl⟩
            rw [← hM] at CA CX CY HLN0
            clear hl4 CM CM1 HO hgm hgl hn hx32 F F2 hw hs1 hs2 hft hM
            go_enter Tryz.func8, Tryz.ntmps8
            go_wp2_with fail
            rw [← HV.out]
            go_wp2_with fail
            with_reducible refine (S1.out _ HH.out).mono ?_
            rintro e w1 ⟨rfl, hb⟩
            replace HH := Lib.hid (HH.out.on hb)
            clear hb c0 c1
            obtain ⟨c0, c1⟩ := HH.out.cells
            go_wp2_with fail
            with_reducible refine (S2.out _ HH.out).mono ?_
            rintro e w1 ⟨rfl, hb⟩
            replace HH := Lib.hid (HH.out.on hb)
            clear hb c0 c1
            obtain ⟨c0, c1⟩ := HH.out.cells
            go_wp2_with fail
            with_reducible refine (FT.out _ HH.out).mono ?_
            rintro e w1 ⟨rfl, hb⟩
            replace HH := Lib.hid (HH.out.on hb)
            clear hb c0 c1
            obtain ⟨c0, c1⟩ := HH.out.cells
            go_wp2_with fail
            with_reducible refine (CA.out _ HH.out).mono ?_
            rintro e w4 ⟨vm, rfl, hm, hb⟩
            replace HH := Lib.hid (HH.out.on hb)
            have HM := Lib.hid hm.is
            obtain ⟨_, am, cm, rfl, _, _⟩ := HM.out
            clear hb hm c0 c1
            obtain ⟨c0, c1⟩ := HH.out.cells
            go_wp2_with fail
            with_reducible refine (CX.out _ _ ⟨HH.out, HM.out⟩).mono ?_
            rintro e w5 ⟨rfl, hb⟩
            replace HH := Lib.hid (HH.out.on hb)
            replace HM := Lib.hid (HM.out.stays hb)
            clear hb c0 c1
            obtain ⟨c0, c1⟩ := HH.out.cells
            go_wp2_with fail
            with_reducible refine (CL.out _ HH.out).mono ?_
            rintro e w6 ⟨rfl, hb⟩
            replace HH := Lib.hid (HH.out.on hb)
            replace HM := Lib.hid (HM.out.stays hb)
            clear hb c0 c1
            obtain ⟨c0, c1⟩ := HH.out.cells
            go_wp2_with fail
            go_loopw [70] (fun i wr => ∃ k : Nat, k ≤ L.length ∧ i = .int .i64 k ∧ OneX w0 x wr ∧ IsObs wr (.slice am M.length cm) M) (fun i _ => L.length - (intOf i).toNat)
            case atStart => exact ⟨0, Nat.zero_le _, rfl, HH.out, HM.out⟩
            case round =>
              obtain ⟨k, hk, rfl, hH, hM⟩ := hrel
              have HH2 := Lib.hid hH
              have HM2 := Lib.hid hM
              clear hH hM
              by_cases hlt : k < L.length
              · obtain ⟨_, _, _, e, _, hc⟩ := HI.out.stays HH2.out.2.1
                cases e
                obtain ⟨b1, off, rfl, hbl, g⟩ := hc (by omega)
                obtain ⟨q0, q1⟩ := g k hlt
                clear g hc
                have hbk : decide ((k : Int) < (L.length : Int)) = true := by simpa using (show (k : Int) < L.length by omega)
                have CYk := Lib.hid (fun v W => CY.out _ v W (List.getElem_mem hlt))
                obtain ⟨y, hy⟩ : ∃ y, L[k]'hlt = y := ⟨_, rfl⟩
                rw [hy] at q0 q1 CYk
                obtain ⟨W2, hW2⟩ : ∃ W2, W2 = wr.alloc (.cells #[.string y.k, .string y.r] 33) := ⟨_, rfl⟩
                have hba : Below wr.heap.size wr W2 := by rw [hW2]; exact (Below.refl _ _).alloc (Nat.le_refl _) _
                have HYB : Hid (ObBox W2 wr.heap.size y) := Lib.hid (by rw [hW2]; exact obBox_new wr y _)
                have HH3 := Lib.hid (HH2.out.on hba)
                have HM3 := Lib.hid (HM2.out.stays hba)
                have HW2 := Lib.hid hW2
                have hyy : (y.r.toList == y.r.toList) = true := by simp
                clear hy hba hW2 c0 c1
                go_wp2_with fail
                rw [← HW2.out]
                with_reducible refine (CYk.out _ _ ⟨HH3.out, HM3.out⟩).mono ?_
                rintro e w8 ⟨rfl, hb⟩
                have HH4 := Lib.hid (HH3.out.on hb)
                have HM4 := Lib.hid (HM3.out.stays hb)
                obtain ⟨z0, z1⟩ := (HYB.out.stays hb).cells
                have zl := (HYB.out.stays hb).2
                clear hb q0 q1
                go_wp2
                go_roundw
                case rel => exact ⟨k + 1, by omega, by go_num, HH4.out, HM4.out⟩
                case measure => simp [intOf]; omega
              · have hge : decide ((k : Int) < (L.length : Int)) = false := by simp; omega
                obtain ⟨x0, x1⟩ := HH2.out.cells
                have hle : ((M.length : Int) == (L.length : Int) + 1) = true := by have := HLN0.out; simp; omega
                clear c0 c1
                go_wp2_with fail
                with_reducible refine (AW.out _ HH2.out).mono ?_
                rintro e w9 ⟨rfl, hb⟩
                go_wp2
                go_ret
                exact ⟨rfl, below_step HH2.out.2.1 hb⟩
          · have hx32 : x.t.length ≠ 32 := by unfold Ob.t; rw [← Lib.size_eq]; exact h32
            have hA : addO L x = L := addO_there (.inr hx32)
            rw [hA] at CA CM hl4
            have CX : Hid (∀ (v : Value) W, OneX w0 x W ∧ IsObs W v L → _) := Lib.hid fun v W h => CM.out x.k v W h
            have CS : Hid (∀ (v : Value) W, OneX w0 x W ∧ IsObs W v L → Calls Tryz.prog 13 #[v, (.slice a L.length cap)] W fun e w' => e = .returned (.bool true) ∧ Below W.heap.size W w') := Lib.hid fun v W h => by have := rSameO_any v (.slice a L.length cap) L L W h.2 (HI.out.stays h.1.2.1); rwa [sameO_yes rfl] at this
            obtain ⟨gL, hgL⟩ : ∃ g, g = gotO L x.k.data.toList := ⟨_, rfl⟩
            have hw2 : (getO L x.k.data.toList).isSome = false := hw
            rw [← hgL, hw2] at CL
            rw [← hgL, hw2] at CX
            have hk33 : ((x.k.size : Int) != 32) = true := by simp; omega
            clear CM hx32 F F2 hA hgL hw hw2 hs1 hs2 hft hl4
            go_enter Tryz.func8, Tryz.ntmps8
            go_wp2_with fail
            rw [← HV.out]
            go_wp2_with fail
            with_reducible refine (S1.out _ HH.out).mono ?_
            rintro e w1 ⟨rfl, hb⟩
            replace HH := Lib.hid (HH.out.on hb)
            clear hb c0 c1
            obtain ⟨c0, c1⟩ := HH.out.cells
            go_wp2_with fail
            with_reducible refine (S2.out _ HH.out).mono ?_
            rintro e w1 ⟨rfl, hb⟩
            replace HH := Lib.hid (HH.out.on hb)
            clear hb c0 c1
            obtain ⟨c0, c1⟩ := HH.out.cells
            go_wp2_with fail
            with_reducible refine (FT.out _ HH.out).mono ?_
            rintro e w1 ⟨rfl, hb⟩
            replace HH := Lib.hid (HH.out.on hb)
            clear hb c0 c1
            obtain ⟨c0, c1⟩ := HH.out.cells
            go_wp2_with fail
            with_reducible refine (CA.out _ HH.out).mono ?_
            rintro e w4 ⟨vm, rfl, hm, hb⟩
            replace HH := Lib.hid (HH.out.on hb)
            have HM := Lib.hid hm.is
            obtain ⟨_, am, cm, rfl, _, _⟩ := HM.out
            clear hb hm c0 c1
            obtain ⟨c0, c1⟩ := HH.out.cells
            go_wp2_with fail
            with_reducible refine (CX.out _ _ ⟨HH.out, HM.out⟩).mono ?_
            rintro e w5 ⟨rfl, hb⟩
            replace HH := Lib.hid (HH.out.on hb)
            replace HM := Lib.hid (HM.out.stays hb)
            clear hb c0 c1
            obtain ⟨c0, c1⟩ := HH.out.cells
            go_wp2_with fail
            with_reducible refine (CL.out _ HH.out).mono ?_
            rintro e w6 ⟨rfl, hb⟩
            replace HH := Lib.hid (HH.out.on hb)
            replace HM := Lib.hid (HM.out.stays hb)
            clear hb c0 c1
            obtain ⟨c0, c1⟩ := HH.out.cells
            go_wp2_with fail
            with_reducible refine (CS.out _ _ ⟨HH.out, HM.out⟩).mono ?_
            rintro e w7 ⟨rfl, hb⟩
            replace HH := Lib.hid (HH.out.on hb)
            clear hb c0 c1
            go_wp2_with fail
            with_reducible refine (AW.out _ HH.out).mono ?_
            rintro e w9 ⟨rfl, hb⟩
            go_wp2
            go_ret
            exact ⟨rfl, below_step HH.out.2.1 hb⟩
        · have hA : addO L x = L := addO_there (.inl hw)
          rw [hA] at CA CM hl4
          have CX : Hid (∀ (v : Value) W, OneX w0 x W ∧ IsObs W v L → _) := Lib.hid fun v W h => CM.out x.k v W h
          have CS : Hid (∀ (v : Value) W, OneX w0 x W ∧ IsObs W v L → Calls Tryz.prog 13 #[v, (.slice a L.length cap)] W fun e w' => e = .returned (.bool true) ∧ Below W.heap.size W w') := Lib.hid fun v W h => by have := rSameO_any v (.slice a L.length cap) L L W h.2 (HI.out.stays h.1.2.1); rwa [sameO_yes rfl] at this
          obtain ⟨gL, hgL⟩ : ∃ g, g = gotO L x.k.data.toList := ⟨_, rfl⟩
          have hw2 : (getO L x.k.data.toList).isSome = true := hw
          rw [← hgL, hw2] at CL
          rw [← hgL, hw2] at CX
          have hgg : (gL.toList == gL.toList) = true := by simp
          clear CM F F2 hA hgL hw hw2 hs1 hs2 hft hl4
          go_enter Tryz.func8, Tryz.ntmps8
          go_wp2_with fail
          rw [← HV.out]
          go_wp2_with fail
          with_reducible refine (S1.out _ HH.out).mono ?_
          rintro e w1 ⟨rfl, hb⟩
          replace HH := Lib.hid (HH.out.on hb)
          clear hb c0 c1
          obtain ⟨c0, c1⟩ := HH.out.cells
          go_wp2_with fail
          with_reducible refine (S2.out _ HH.out).mono ?_
          rintro e w1 ⟨rfl, hb⟩
          replace HH := Lib.hid (HH.out.on hb)
          clear hb c0 c1
          obtain ⟨c0, c1⟩ := HH.out.cells
          go_wp2_with fail
          with_reducible refine (FT.out _ HH.out).mono ?_
          rintro e w1 ⟨rfl, hb⟩
          replace HH := Lib.hid (HH.out.on hb)
          clear hb c0 c1
          obtain ⟨c0, c1⟩ := HH.out.cells
          go_wp2_with fail
          with_reducible refine (CA.out _ HH.out).mono ?_
          rintro e w4 ⟨vm, rfl, hm, hb⟩
          replace HH := Lib.hid (HH.out.on hb)
          have HM := Lib.hid hm.is
          obtain ⟨_, am, cm, rfl, _, _⟩ := HM.out
          clear hb hm c0 c1
          obtain ⟨c0, c1⟩ := HH.out.cells
          go_wp2_with fail
          with_reducible refine (CX.out _ _ ⟨HH.out, HM.out⟩).mono ?_
          rintro e w5 ⟨rfl, hb⟩
          replace HH := Lib.hid (HH.out.on hb)
          replace HM := Lib.hid (HM.out.stays hb)
          clear hb c0 c1
          obtain ⟨c0, c1⟩ := HH.out.cells
          go_wp2_with fail
          with_reducible refine (CL.out _ HH.out).mono ?_
          rintro e w6 ⟨rfl, hb⟩
          replace HH := Lib.hid (HH.out.on hb)
          replace HM := Lib.hid (HM.out.stays hb)
          clear hb c0 c1
          obtain ⟨c0, c1⟩ := HH.out.cells
          go_wp2_with fail
          with_reducible refine (CS.out _ _ ⟨HH.out, HM.out⟩).mono ?_
          rintro e w7 ⟨rfl, hb⟩
          replace HH := Lib.hid (HH.out.on hb)
          clear hb c0 c1
          go_wp2_with fail
          with_reducible refine (AW.out _ HH.out).mono ?_
          rintro e w9 ⟨rfl, hb⟩
          go_wp2
          go_ret
          exact ⟨rfl, below_step HH.out.2.1 hb⟩
end Go.Proofs.YtlccihidedfemaaGreatDoor

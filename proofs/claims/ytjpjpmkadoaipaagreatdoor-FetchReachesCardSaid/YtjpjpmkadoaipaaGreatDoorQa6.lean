/-
  Texts put together: contracts and laws that this seat's proofs share.
-/
import Derived.Test.YtjpjpmkadoaipaaGreatDoorQa5
import Derived.Test.YtjpjpmkadoaipaaGreatDoorQa4
import Derived.Test.YtjpjpmkadoaipaaGreatDoorQa3
import Derived.Test.YtjpjpmkadoaipaaGreatDoorQa2
set_option linter.unusedVariables false
namespace Go.Proofs.YtjpjpmkadoaipaaGreatDoor
open Go.RowKit
attribute [local go_sem] Oper.semAt_some
theorem RetTree.of_ok {M : List It} {w w' : World} {e : Ending} (h : RetTree (.ok M) w e w') : ∃ v, e = .returned (.tuple #[v, .int .i64 0]) ∧ OwnI w.heap.size w' v M ∧ Below w.heap.size w w' := by
 obtain ⟨v, M', k, h1, h2, h3, ⟨h4, h5⟩ | ⟨h4, _⟩⟩ := h
 ·cases h4; subst h5; exact ⟨v, h1, h2, h3⟩
 ·cases h4
theorem RetTree.of_err {k : Int} {w w' : World} {e : Ending} (h : RetTree (.error k) w e w') : ∃ v, e = .returned (.tuple #[v, .int .i64 k]) ∧ OwnI w.heap.size w' v [] ∧ k ∈ wrongs ∧ Below w.heap.size w w' := by
 obtain ⟨v, M', k', h1, h2, h3, ⟨h4, h5⟩ | ⟨h4, h5, h6⟩⟩ := h
 ·cases h4
 ·cases h4; subst h5; exact ⟨v, h1, h2, h6, h3⟩
theorem fit248_Fgn : FitAt (2 : Nat) (4 : Nat) (8 : Nat) 2 := ⟨by decide, by decide, by decide, by decide, by decide, by decide, by decide⟩
def nilN_Fgn : Nd := ⟨3, ⟨#[]⟩, [], []⟩
theorem nilN_fit_Fgn : fitN nilN_Fgn = true := by decide +kernel
theorem rdy_nil_Fgn (c : List UInt8 → Nat) (h : ∃ mn mx, CutOk mn mx c ∧ mx ≤ 4096) : ReadyT c [] :=
 ⟨⟨Nat.zero_le _, List.Pairwise.nil, fun _ h => (by cases h), fun _ h => (by cases h), fun _ h => (by cases h), fun _ h => (by cases h), by decide⟩, h, fun _ h => (by cases h)⟩
theorem seq_nil_Fgn (c : List UInt8 → Nat) : seqT c [] = [nilN_Fgn] := rfl
theorem top_nil_Fgn (c : List UInt8 → Nat) : topT c [] = nilN_Fgn := rfl
theorem objs_nil_Fgn (c : List UInt8 → Nat) : objsT c [] = [obN nilN_Fgn] := by
  have h : (obN nilN_Fgn).t.length = 32 := by rw [obN_t]; exact keyN_len nilN_fit_Fgn
  show addO [] (obN nilN_Fgn) = _
  unfold addO
  rw [if_neg (by intro e; rcases e with e | e; · cases e
                 · exact e h)]
  rfl
theorem has_nil_Fgn : HasN [obN nilN_Fgn] nilN_Fgn := ⟨obN nilN_Fgn, by
 unfold getO
 rw [List.find?_cons_of_pos]
 exact decide_eq_true (obN_t _), obN_u _⟩
theorem treeE_key {O : List Ob} {key : List UInt8} (h : getO O key = none) : treeE O key = .error 5 := by
 unfold treeE
 exact dirE_bad (by unfold loadE; rw [h])
theorem get_none {O : List Ob} (h : FitO O) {t : List UInt8} (ht : t.length ≠ 32) : getO O t = none := by
 cases e : getO O t with
 | none => rfl
 | some y =>
  obtain ⟨h1, h2⟩ := (getO_some h.1).1 e
  exact absurd (by rw [← h2]; exact h.2 y h1) ht
theorem check_nil_Fgn : checkB [obN nilN_Fgn] = true := by
 unfold checkB okSum
 simp only [List.all_cons, List.all_nil, Bool.and_true]
 refine decide_eq_true ?_
 rw [obN_u, obN_t, keyN_fit nilN_fit_Fgn, wrN_fit nilN_fit_Fgn]
theorem ex_build_Fgn (w : World) : Calls Tryz.prog 9 #[pV 2 4 8, .slice none 0 0] w fun e w' => ∃ (a : Option Addr) (cap : Nat), e = .returned (.tuple #[.string ⟨(keyN nilN_Fgn).toArray⟩, .slice a 1 cap]) ∧ IsObs w' (.slice a 1 cap) [obN nilN_Fgn] ∧ Below w.heap.size w w' := by
 refine (rBuild_any 2 4 2 8 fit248_Fgn (.slice none 0 0) [] w (isItems_nil _) (fun _ h => by cases h) (fun _ h => by cases h) (by decide) (by rw [seq_nil_Fgn]; decide)).mono ?_
 rintro e w' ⟨v, rfl, hv, hb⟩
 rw [objs_nil_Fgn] at hv
 obtain ⟨_, a, cap, hve, _⟩ := id hv
 have hve' : v = .slice a 1 cap := hve
 subst hve'
 exact ⟨a, cap, rfl, hv, hb⟩
set_option maxRecDepth 100000 in
set_option maxHeartbeats 2000000 in
theorem awake13_any (w : World) (hT : ErrT w) : Calls Tryz.prog 8 #[] w fun e w' => e = .returned (.bool true) ∧ Below w.heap.size w w' := by
 have ER := Lib.hid (ex_build_Fgn w)
 have HT := Lib.hid hT
 have hfit : FitO [obN nilN_Fgn] := ⟨by simp [RiseO], fun x hx => by rw [List.mem_singleton.1 hx, obN_t]; exact keyN_len nilN_fit_Fgn⟩
 have HR := Lib.hid hfit.1
 have hzz : ∀ y ∈ [obN nilN_Fgn], y.r.size ≤ 1000000 := fun y hy => by
  rw [List.mem_singleton.1 hy, Lib.size_eq]
  have : (obN nilN_Fgn).r.data.toList = wrN nilN_Fgn := obN_u _
  rw [this]; decide +kernel
 have HZ := Lib.hid hzz
 obtain ⟨O, hO⟩ : ∃ O, O = [obN nilN_Fgn] := ⟨_, rfl⟩
 have HOK : Hid (treeE O (keyN nilN_Fgn) = .ok []) := Lib.hid (by
  rw [hO]
  have h := tree_ok (c := cutN 2 2 8) (rdy_nil_Fgn _ (cut_fit fit248_Fgn)) (O := [obN nilN_Fgn]) (fun n hn => by rw [seq_nil_Fgn] at hn; rw [List.mem_singleton.1 hn]; exact has_nil_Fgn)
  rwa [top_nil_Fgn] at h)
 have HNO : Hid (treeE O [111, 116, 104, 101, 114] = .error 5) := Lib.hid (by rw [hO]; exact treeE_key (get_none hfit (by decide)))
 have HCK : Hid (checkB O = true) := Lib.hid (by rw [hO]; exact check_nil_Fgn)
 have HL : Hid (O.length = 1) := Lib.hid (by rw [hO]; rfl)
 rw [← hO] at ER HR HZ
 clear hT hfit hzz hO
 obtain ⟨K, hK⟩ : ∃ K : ByteArray, K = ⟨(keyN nilN_Fgn).toArray⟩ := ⟨_, rfl⟩
 have HK : Hid (K.data.toList = keyN nilN_Fgn) := Lib.hid (by rw [hK])
 rw [← hK] at ER
 clear hK
 go_enter Tryz.func8, Tryz.ntmps8
 go_wp2_with fail
 refine ER.out.mono ?_
 rintro e w1 ⟨a, cap, rfl, ho, hb⟩
 have HB1 := Lib.hid hb; have HO1 := Lib.hid ho
 have T1 := Lib.hid ((Tree_any (.slice a 1 cap) O K w1 ho HR.out (by rw [HL.out]; decide) HZ.out (HT.out.stays hb)).mono fun e w' h => by rw [HK.out, HOK.out] at h; exact h.of_ok)
 clear ho hb
 go_wp2_with fail
 refine T1.out.mono ?_
 rintro e w2 ⟨v2, rfl, ho2, hb2⟩
 have HB2 := Lib.hid (below_step HB1.out hb2)
 have T2 := Lib.hid ((Tree_any (.slice a 1 cap) O ⟨#[111, 116, 104, 101, 114]⟩ w2 (HO1.out.stays hb2) HR.out (by rw [HL.out]; decide) HZ.out (HT.out.stays HB2.out)).mono fun e w' h => by rw [show (⟨#[111, 116, 104, 101, 114]⟩ : ByteArray).data.toList = [111, 116, 104, 101, 114] from rfl, HNO.out] at h; exact h.of_err)
 have HO2 := Lib.hid (HO1.out.stays hb2)
 obtain ⟨_, a2, c2, hv2, _, _⟩ := ho2.items
 have hv2' : v2 = .slice a2 0 c2 := hv2
 subst hv2'
 clear ho2 hb2 hv2
 go_wp2_with fail
 refine T2.out.mono ?_
 rintro e w3 ⟨v3, rfl, _, _, hb3⟩
 have HB3 := Lib.hid (below_step HB2.out hb3)
 have CK := Lib.hid (Check_any (.slice a 1 cap) O w3 (HO2.out.stays hb3) (fun x hx => Nat.le_trans (HZ.out x hx) (by decide)))
 rw [HCK.out] at CK
 clear hb3
 go_wp2_with fail
 refine CK.out.mono ?_
 rintro e w4 ⟨rfl, hb4⟩
 have HB4 := Lib.hid (below_step HB3.out hb4)
 clear hb4
 go_wp2
 go_ret
 exact ⟨rfl, HB4.out⟩
theorem sum_mem_Fgn {l : List Nat} {n : Nat} (h : n ∈ l) : n ≤ l.sum := by
 induction l with
 | nil => cases h
 | cons a l ih =>
  rw [List.sum_cons]
  rcases List.mem_cons.1 h with rfl | h
  ·omega
  ·have := ih h; omega
theorem small_size {O : List Ob} (h : small13 O) : ∀ y ∈ O, y.r.size ≤ 20000 := fun y hy => by
 have h1 : y.r.size ≤ sizeO O := sum_mem_Fgn (List.mem_map.2 ⟨y, hy, rfl⟩)
 have := h.2.1; omega
theorem sum_31_Fgn : ∀ (l : List (List UInt8)), (∀ p ∈ l, nameB p = true) → (l.map List.length).sum ≤ 31 * l.length
 | [], _ => by simp
 | a :: l, h => by
  have h1 := sum_31_Fgn l fun p hp => h p (List.mem_cons_of_mem _ hp)
  have h2 := (nameB_iff.1 (h a (by simp))).2.1
  simp only [List.map_cons, List.sum_cons, List.length_cons]; omega
theorem path_len_Fgn {t : List UInt8} (h : pathB t = true) : t.length ≤ 255 := by
 have P := path_ok h
 have hn := P.names; have h8 := P.len
 rw [P.pts] at hn h8
 have := sum_31_Fgn (pts t) hn
 rcases joinS_len (pts t) with e | e
 ·rw [joinS_pts] at e; omega
 ·exact absurd e (pts_ne t)
theorem fewB_fit {M : List It} (h : TFit M) : fewB M = true :=
 few_mk (Nat.le_trans h.len (by decide)) fun x hx => ⟨by
  have := path_len_Fgn (h.path x hx)
  rw [Lib.size_eq]
  exact Nat.le_trans this (by decide), Nat.le_trans (h.data x hx) (by decide)⟩
noncomputable def kidsY (y : Ob) : List Txt := match readN y.u with
 | none => []
 | some n => kidsN n
noncomputable def allK (O : List Ob) : List Txt := O.flatMap kidsY
theorem kidsY_len (y : Ob) : (kidsY y).length ≤ 1100 := by
 unfold kidsY
 cases h : readN y.u with
 | none => exact Nat.zero_le _
 | some n =>
  have hf := (readN_some h).1
  show (keysP n.ps ++ keysE n.es).length ≤ _
  rw [List.length_append, keysP_len, keysE_len]
  rcases fit_kinds hf with hk | hk | hk
  ·rw [fit_piece hk] at hf; simp at hf; rw [hf.1.2, hf.2]; simp
  ·rw [fit_file hk] at hf; simp at hf; rw [hf.1.1.2]; have := hf.1.2; simp; omega
  ·rw [fit_dir hk] at hf; simp at hf; rw [hf.1.1.2]; have := hf.1.2; simp; omega
theorem allK_len : ∀ (O : List Ob), (allK O).length ≤ 1100 * O.length
 | [] => Nat.le_refl _
 | y :: O => by
  have h := allK_len O
  have h2 := kidsY_len y
  show (kidsY y ++ allK O).length ≤ _
  rw [List.length_append, List.length_cons]; omega
theorem reach_all {O : List Ob} (hr : RiseO O) {F : List Txt} {t : Txt} (h : ReachO O F t) : t ∈ F ++ allK O := by
 cases h with
 | start h1 _ => exact List.mem_append_left _ h1
 | kid h1 h2 =>
  refine List.mem_append_right _ ?_
  unfold kidsO nodeO at h2
  rename_i s
  cases hg : getO O s with
  | none => rw [hg] at h2; cases h2
  | some y =>
   rw [hg] at h2
   refine List.mem_flatMap.2 ⟨y, ((getO_some hr).1 hg).1, ?_⟩
   unfold kidsY
   exact h2
theorem txts_app (A B : List ByteArray) : txts (A ++ B) = txts A ++ txts B := List.map_append
theorem RetReach.ex {O : List Ob} {F : List Txt} {w w' : World} {e : Ending} (h : RetReach O F w e w') : ∃ a cap M c, e = .returned (.tuple #[.slice a (strsOf M).length cap, .bool c]) ∧ OwnTxt w w' (.slice a (strsOf M).length cap) M ∧ Rises M ∧ (∀ t, t ∈ M ↔ ReachO O F t) ∧ (c = true ↔ WholeO O F) ∧ Below w.heap.size w w' := by
 obtain ⟨v, M, c, h1, h2, h3⟩ := h
 obtain ⟨_, a, cap, hv, _, _⟩ := h2.strs
 subst hv
 exact ⟨a, cap, M, c, h1, h2, h3⟩
set_option maxRecDepth 100000 in
set_option maxHeartbeats 16000000 in
theorem FetchReaches_w (v : Value) (L : List Ob) (av : Value) (A : List ByteArray) (bv : Value) (B : List ByteArray) (w0 : World) (h : IsObs w0 v L) (hz : ∀ x ∈ L, x.r.size ≤ 281474976710656) (ha : IsStrs w0 av A) (hb : IsStrs w0 bv B) (hT : ErrT w0) :
    Calls Tryz.prog 6 #[v, av, bv] w0 fun e w' => e = .returned (.bool true) ∧ Below w0.heap.size w0 w' := by
  have CS := Lib.hid (small13_any v L w0 h hz)
  have HI := Lib.hid h; have HT := Lib.hid hT; have HA := Lib.hid ha; have HB := Lib.hid hb
  have CA := Lib.hid (fun W (hW : ErrT W) => awake13_any W hW)
  obtain ⟨_, a, cap, hv, _, _⟩ := h
  obtain ⟨_, aa, ca, hva, _, _⟩ := ha
  obtain ⟨_, ba, cb, hvb, _, _⟩ := hb
  obtain ⟨z, hzl⟩ : ∃ z, z = L.length := ⟨_, rfl⟩
  obtain ⟨za, hza⟩ : ∃ z, z = A.length := ⟨_, rfl⟩
  obtain ⟨zb, hzb⟩ : ∃ z, z = B.length := ⟨_, rfl⟩
  rw [← hzl] at hv; rw [← hza] at hva; rw [← hzb] at hvb
  have HZA := Lib.hid hza; have HZB := Lib.hid hzb
  clear hz hT hzl hza hzb
  subst hv hva hvb
  rcases hsm : small13B L with _ | _
  · rw [hsm] at CS
    clear hsm
    go_enter Tryz.func6, Tryz.ntmps6
    go_wp2_with fail
    with_reducible refine CS.out.mono ?_
    rintro e w1 ⟨rfl, hb1⟩
    have C1 := Lib.hid (CA.out w1 (HT.out.stays hb1)); have HB1 := Lib.hid hb1
    clear hb1
    go_wp2_with fail
    with_reducible refine C1.out.mono ?_
    rintro e w2 ⟨rfl, hb2⟩
    have HB2 := Lib.hid (below_step HB1.out hb2)
    clear hb2
    go_wp2
    go_ret
    exact ⟨rfl, HB2.out⟩
  · have hs := small13_iff.1 hsm
    have HR := Lib.hid hs.2.2.2.1
    have HZ := Lib.hid (fun y hy => Nat.le_trans (small_size hs y hy) (show 20000 ≤ 1000000 by decide))
    have hl : L.length ≤ 1000000 := Nat.le_trans hs.1 (by decide)
    have hK := Lib.hid (show (allK L).length ≤ 132000 by have := allK_len L; have := hs.1; omega)
    rw [hsm] at CS
    clear hsm hs
    by_cases h30 : za ≤ 30
    · have q1 : decide ((30 : Int) < (za : Int)) = false := decide_eq_false (by omega)
      by_cases h31 : zb ≤ 30
      · have q2 : decide ((30 : Int) < (zb : Int)) = false := decide_eq_false (by omega)
        have HAL := Lib.hid (show A.length ≤ 30 by have := HZA.out; omega)
        have HBL := Lib.hid (show B.length ≤ 30 by have := HZB.out; omega)
        have CR := Lib.hid (fun (fv : Value) (F : List ByteArray) (W : World) (hW : Below w0.heap.size w0 W) (hf : IsStrs W fv F) (U : List Txt) (hU : ∀ t, ReachO L (txts F) t → t ∈ U) (hUl : U.length ≤ 132100) (hFl : F.length ≤ 800000) =>
          (Reach_any _ fv L F W (HI.out.stays hW) HR.out hl HZ.out (HT.out.stays hW) hf hFl U hU (by omega)).mono fun e w' h => h.ex)
        have HUA : Hid (∀ F : List ByteArray, ∀ t, ReachO L (txts F) t → t ∈ txts F ++ allK L) := Lib.hid (fun F t ht => reach_all HR.out ht)
        go_enter Tryz.func6, Tryz.ntmps6
        go_wp2_with fail
        with_reducible refine CS.out.mono ?_
        rintro e w1 ⟨rfl, hb1⟩
        have HB1 := Lib.hid hb1
        have R1 := Lib.hid (CR.out _ A w1 hb1 (HA.out.stays hb1) (txts A ++ allK L) (HUA.out A) (by rw [List.length_append, txts_len]; have := HAL.out; have := hK.out; omega) (by have := HAL.out; omega))
        clear hb1
        go_wp2_with fail
        refine R1.out.mono ?_
        rintro e w2 ⟨a1, p1, M1, c1, rfl, ho1, hr1, hm1, hc1, hb2⟩
        have HB2 := Lib.hid (below_step HB1.out hb2)
        have HO1 := Lib.hid ho1.strs; have HR1 := Lib.hid hr1; have HM1 := Lib.hid hm1; have HC1 := Lib.hid hc1
        have R2 := Lib.hid (CR.out _ B w2 HB2.out (HB.out.stays HB2.out) (txts B ++ allK L) (HUA.out B) (by rw [List.length_append, txts_len]; have := HBL.out; have := hK.out; omega) (by have := HBL.out; omega))
        clear hb2 ho1 hr1 hm1 hc1
        go_wp2_with fail
        refine R2.out.mono ?_
        rintro e w3 ⟨a2, p2, M2, c2, rfl, ho2, hr2, hm2, hc2, hb3⟩
        have HB3 := Lib.hid (below_step HB2.out hb3)
        have HO1b := Lib.hid (HO1.out.stays hb3)
        have HO2 := Lib.hid ho2.strs; have HR2 := Lib.hid hr2; have HM2 := Lib.hid hm2; have HC2 := Lib.hid hc2
        clear hb3 ho2 hr2 hm2 hc2
        go_wp2_with (at_builtin; refine wpList_append_all (W := w3) rfl _ _ rfl (M := []) (World.ownsRow_made w3 #[] 0 (Nat.le_refl _) (by decide) rfl) ((Below.refl _ _).alloc (Nat.le_refl _) _) (IsStrs.stays (HA.out.stays HB3.out) ((Below.refl _ _).alloc (Nat.le_refl _) (.cells #[] 9))) rfl rfl (by have := HAL.out; simp; omega) ?_)
        intro va1 wa1 ha1 hba1
        have HA1 := Lib.hid ha1; have HBA1 := Lib.hid hba1
        clear ha1 hba1
        go_wp2_with (at_builtin; refine wpList_append_all rfl _ _ rfl HA1.out HBA1.out (HB.out.stays (below_step HB3.out HBA1.out)) rfl rfl (by have := HAL.out; have := HBL.out; simp [txts_len]; omega) ?_)
        intro va2 wa2 ha2 hba2
        rw [← txts_app] at ha2
        have HBA2 := Lib.hid (below_step HB3.out hba2)
        have R3 := Lib.hid (CR.out va2 (A ++ B) wa2 HBA2.out (by have := ha2.strs; rwa [strsOf_txts] at this) (txts (A ++ B) ++ allK L) (HUA.out (A ++ B)) (by rw [List.length_append, txts_len, List.length_append]; have := HAL.out; have := HBL.out; have := hK.out; omega) (by rw [List.length_append]; have := HAL.out; have := HBL.out; omega))
        have HO1c := Lib.hid (HO1b.out.stays hba2); have HO2c := Lib.hid (HO2.out.stays hba2)
        clear ha2 hba2
        go_wp2_with fail
        refine R3.out.mono ?_
        rintro e w5 ⟨a3, p3, M3, c3, rfl, ho3, hr3, hm3, hc3, hb5⟩
        have HB5 := Lib.hid (below_step HBA2.out hb5)
        have HO1d := Lib.hid (HO1c.out.stays hb5); have HO2d := Lib.hid (HO2c.out.stays hb5)
        have HO3 := Lib.hid ho3.strs; have HR3 := Lib.hid hr3; have HM3 := Lib.hid hm3; have HC3 := Lib.hid hc3
        have HM1U : Hid (∀ t, ReachO L (txts (strsOf M1)) t → t ∈ txts A ++ allK L) := Lib.hid (fun t ht => by
          rw [txts_strsOf] at ht
          exact HUA.out A t ((reach_again HM1.out t).1 ht))
        have HM1L : Hid ((strsOf M1).length ≤ 800000) := Lib.hid (by
          rw [strsOf_len]
          have := List.Nodup.length_le_of_subset (rises_nodup HR1.out) (fun t ht => HUA.out A t ((HM1.out t).1 ht))
          rw [List.length_append, txts_len] at this
          have := HAL.out; have := hK.out; omega)
        have R4 := Lib.hid (CR.out _ (strsOf M1) w5 HB5.out HO1d.out (txts A ++ allK L) HM1U.out (by rw [List.length_append, txts_len]; have := HAL.out; have := hK.out; omega) HM1L.out)
        clear hb5 ho3 hr3 hm3 hc3
        go_wp2_with fail
        refine R4.out.mono ?_
        rintro e w6 ⟨a4, p4, M4, c4, rfl, ho4, hr4, hm4, hc4, hb6⟩
        have HB6 := Lib.hid (below_step HB5.out hb6)
        have HO1e := Lib.hid (HO1d.out.stays hb6); have HO2e := Lib.hid (HO2d.out.stays hb6); have HO3e := Lib.hid (HO3.out.stays hb6)
        rw [txts_strsOf] at hm4 hc4
        have e41 : M4 = M1 := rises_ext hr4 HR1.out (fun t => by rw [hm4, reach_again HM1.out, ← HM1.out])
        have ec41 : c4 = c1 := by
          rw [Bool.eq_iff_iff, hc4, HC1.out]
          exact whole_again HM1.out
        have HO4 := Lib.hid ho4.strs
        subst e41 ec41
        have C7 := Lib.hid (Same_eq _ _ (strsOf M4) w6 HO4.out HO1e.out)
        clear hb6 ho4 hr4 hm4 hc4
        have e3 : M3 = sift kOr M4 M2 := rises_ext HR3.out (sift_rises HR1.out HR2.out) (fun t => by
          rw [HM3.out, mem_or HR1.out HR2.out, HM1.out, HM2.out, txts_app]
          exact reach_two t)
        have ec3 : c3 = (c4 && c2) := by
          rw [Bool.eq_iff_iff, HC3.out, Bool.and_eq_true, HC1.out, HC2.out, txts_app]
          exact whole_two
        have HE3 := Lib.hid e3
        subst ec3
        clear e3
        have HML : Hid (M4.length + M2.length ≤ 800000) := Lib.hid (by
          have h1 := List.Nodup.length_le_of_subset (rises_nodup HR1.out) (fun t ht => HUA.out A t ((HM1.out t).1 ht))
          have h2 := List.Nodup.length_le_of_subset (rises_nodup HR2.out) (fun t ht => HUA.out B t ((HM2.out t).1 ht))
          rw [List.length_append, txts_len] at h1 h2
          have := HAL.out; have := HBL.out; have := hK.out; omega)
        have qc : (c4 == c4) = true := by simp
        go_wp2_with fail
        with_reducible refine C7.out.mono ?_
        rintro e w7 ⟨rfl, hb7⟩
        have HB7 := Lib.hid (below_step HB6.out hb7)
        have C8 := Lib.hid (refJoin_any_Kef _ _ (strsOf M4) (strsOf M2) w7 (HO1e.out.stays hb7) (HO2e.out.stays hb7) (by rw [strsOf_len, strsOf_len]; exact HML.out))
        rw [txts_strsOf, txts_strsOf, refJoin_eq HR1.out HR2.out] at C8
        have HO3f := Lib.hid (HO3e.out.stays hb7)
        clear hb7
        go_wp2_with fail
        refine C8.out.mono ?_
        rintro e w8 ⟨v8, rfl, hv8, hb8⟩
        have HB8 := Lib.hid (below_step HB7.out hb8)
        rw [← HE3.out] at hv8
        have C9 := Lib.hid (Same_eq _ _ (strsOf M3) w8 (HO3f.out.stays hb8) hv8)
        clear hb8 hv8
        go_wp2_with fail
        with_reducible refine C9.out.mono ?_
        rintro e w9 ⟨rfl, hb9⟩
        have HB9 := Lib.hid (below_step HB8.out hb9)
        have C10 := Lib.hid (CA.out w9 (HT.out.stays HB9.out))
        clear hb9
        clear CR HUA CS R1 R2 R3 R4 C7 C8 C9
        cases c4 <;> cases c2 <;>
          (go_wp2_with fail
           with_reducible refine C10.out.mono ?_
           rintro e w10 ⟨rfl, hb10⟩
           have HB10 := Lib.hid (below_step HB9.out hb10)
           clear hb10
           go_wp2
           go_ret
           exact ⟨rfl, HB10.out⟩)
      · have q2 : decide ((30 : Int) < (zb : Int)) = true := decide_eq_true (by omega)
        go_enter Tryz.func6, Tryz.ntmps6
        go_wp2_with fail
        with_reducible refine CS.out.mono ?_
        rintro e w1 ⟨rfl, hb1⟩
        have C1 := Lib.hid (CA.out w1 (HT.out.stays hb1)); have HB1 := Lib.hid hb1
        clear hb1
        go_wp2_with fail
        with_reducible refine C1.out.mono ?_
        rintro e w2 ⟨rfl, hb2⟩
        have HB2 := Lib.hid (below_step HB1.out hb2)
        clear hb2
        go_wp2
        go_ret
        exact ⟨rfl, HB2.out⟩
    · have q1 : decide ((30 : Int) < (za : Int)) = true := decide_eq_true (by omega)
      go_enter Tryz.func6, Tryz.ntmps6
      go_wp2_with fail
      with_reducible refine CS.out.mono ?_
      rintro e w1 ⟨rfl, hb1⟩
      have C1 := Lib.hid (CA.out w1 (HT.out.stays hb1)); have HB1 := Lib.hid hb1
      clear hb1
      go_wp2_with fail
      with_reducible refine C1.out.mono ?_
      rintro e w2 ⟨rfl, hb2⟩
      have HB2 := Lib.hid (below_step HB1.out hb2)
      clear hb2
      go_wp2
      go_ret
      exact ⟨rfl, HB2.out⟩
end Go.Proofs.YtjpjpmkadoaipaaGreatDoor

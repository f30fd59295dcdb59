/-
  CountSums as a walk over this translation. Written by wip/tools/gen_count_laws.py.
-/
import Derived.Test.YtokknppjeckppaaGreatDoorQa6
import Derived.Test.YtokknppjeckppaaGreatDoorYaCuj
import Derived.Test.YtokknppjeckppaaGreatDoorQa5
set_option linter.unusedVariables false
namespace Go.Proofs.YtokknppjeckppaaGreatDoor
open Go.RowKit
attribute [local go_sem] Oper.semAt_some
set_option maxRecDepth 100000 in
set_option maxHeartbeats 16000000 in
theorem CountSums_w (v : Value) (L : List Ob) (av : Value) (A : List ByteArray) (w0 : World) (h : IsObs w0 v L) (hz : ∀ x ∈ L, x.r.size ≤ 281474976710656) (ha : IsStrs w0 av A) (hT : ErrT w0) :
  Calls Tryz.prog 7 #[v, av] w0 fun e w' => e = .returned (.bool true) ∧ Below w0.heap.size w0 w' := by
 have CS := Lib.hid (small14_any v L w0 h hz)
 have HI := Lib.hid h; have HT := Lib.hid hT; have HA := Lib.hid ha
 have CA := Lib.hid (fun W (hW : ErrT W) => awake14_any W hW)
 obtain ⟨_, a, cap, hv, _, _⟩ := h
 obtain ⟨_, aa, ca, hva, _, _⟩ := ha
 obtain ⟨z, hzl⟩ : ∃ z, z = L.length := ⟨_, rfl⟩
 obtain ⟨za, hza⟩ : ∃ z, z = A.length := ⟨_, rfl⟩
 rw [← hzl] at hv; rw [← hza] at hva
 have HZA := Lib.hid hza
 clear hz hT hzl hza
 subst hv hva
 rcases hsm : small13B L with _ | _
 ·rw [hsm] at CS
  clear hsm
  go_enter Tryz.func7, Tryz.ntmps7
  go_wp2_with fail
  with_reducible refine CS.out.mono ?_
  rintro e w1 ⟨rfl, hb1⟩
  have C1 := Lib.hid (CA.out w1 (HT.out.stays hb1)); have HB1 := Lib.hid hb1
  clear hb1
  go_wp2_with fail
  with_reducible refine C1.out.mono ?_
  rintro e w2 ⟨rfl, hb2⟩
  have HB2 := Lib.hid (below_step HB1.out hb2)
  clear hb2
  go_wp2
  go_ret
  exact ⟨rfl, HB2.out⟩
 ·have hs := small13_iff.1 hsm
  have HR := Lib.hid hs.2.2.2.1
  have HZ := Lib.hid (fun y hy => Nat.le_trans (small_size hs y hy) (show 20000 ≤ 1000000 by decide))
  have HL120 := Lib.hid hs.1
  have HLL := Lib.hid (show L.length ≤ 1000000 from Nat.le_trans hs.1 (by decide))
  have HK := Lib.hid (show (allK L).length ≤ 132000 by have := allK_len L; have := hs.1; omega)
  have HUA : Hid (∀ F : List Txt, (∀ t, ReachO L F t → t ∈ (F ++ allK L).filter fun t => decide (t.length = 32))) := Lib.hid (fun F t ht => List.mem_filter.2 ⟨reach_all HR.out ht, decide_eq_true (reach_len ht)⟩)
  have HU32 : Hid (∀ F : List Txt, ∀ t ∈ (F ++ allK L).filter (fun t => decide (t.length = 32)), t.length = 32) := Lib.hid (fun F t ht => by have := (List.mem_filter.1 ht).2; simpa using this)
  have HUL : Hid (∀ F : List Txt, F.length ≤ 100 → ((F ++ allK L).filter fun t => decide (t.length = 32)).length ≤ 132100) := Lib.hid (fun F hF => Nat.le_trans (List.length_filter_le _ _) (by rw [List.length_append]; have := HK.out; omega))
  rw [hsm] at CS
  clear hsm hs
  by_cases h30 : za ≤ 30
  ·have q1 : decide ((30 : Int) < (za : Int)) = false := decide_eq_false (by omega)
   have HAL := Lib.hid (show A.length ≤ 30 by have := HZA.out; omega)
   have HTL : Hid ((txts A).length ≤ 100) := Lib.hid (by rw [txts_len]; have := HAL.out; omega)
   clear h30
   go_enter Tryz.func7, Tryz.ntmps7
   go_wp2_with fail
   with_reducible refine CS.out.mono ?_
   rintro e w1 ⟨rfl, hb1⟩
   have HB1 := Lib.hid hb1
   clear hb1
   have COF := Lib.hid (fun W (hW : Below w0.heap.size w0 W) => pOf_any (.slice a z cap) (.slice aa za ca) L A W (HI.out.stays hW) HR.out HLL.out HZ.out (HT.out.stays hW) (HA.out.stays hW) (by have := HAL.out; omega) _ (HUA.out (txts A)) (HU32.out (txts A)) (Nat.le_trans (HUL.out _ HTL.out) (by decide)))
   have CRR := Lib.hid (fun W (hW : Below w0.heap.size w0 W) => rReach_any (.slice a z cap) (.slice aa za ca) L A W (HI.out.stays hW) HR.out HZ.out (HA.out.stays hW) (by have := HAL.out; omega) _ (HUA.out (txts A)) (Nat.le_trans (HUL.out _ HTL.out) (by decide)))
   have C2 := Lib.hid (COF.out w1 HB1.out)
   go_wp2_with fail
   refine C2.out.mono ?_
   rintro e w2 ⟨v2, C, b, rfl, ho2, h21, h22, h23, hb2⟩
   have HB2 := Lib.hid (below_step HB1.out hb2)
   have H2 := Lib.hid (show (b = true ↔ WholeO L (txts A)) ∧ (b = false → C = []) ∧ (b = true → CountsOf L (txts A) C) from ⟨h21, h22, h23⟩)
   have HV2 := Lib.hid ho2.is
   have C3 := Lib.hid (CRR.out w2 HB2.out)
   obtain ⟨_, a2, c2, hv2, _, _⟩ := ho2.is
   obtain ⟨z2, hz2⟩ : ∃ z, z = C.length := ⟨_, rfl⟩
   rw [← hz2] at hv2
   have HZ2 := Lib.hid hz2
   subst hv2
   clear ho2 h21 h22 h23 hb2 hz2
   go_wp2_with fail
   refine C3.out.mono ?_
   rintro e w3 ⟨v3, M, c, rfl, ho3, hrM, hmM, hcw, hb3⟩
   obtain rfl : c = b := by rw [Bool.eq_iff_iff, hcw, H2.out.1]
   have HB3 := Lib.hid (below_step HB2.out hb3)
   have HV3 := Lib.hid (HV2.out.stays hb3)
   have HM3 := Lib.hid ho3.strs
   have HRM := Lib.hid hrM; have HMM := Lib.hid hmM
   obtain ⟨_, a3, c3, hv3, _, _⟩ := ho3.strs
   rw [strsOf_len] at hv3
   obtain ⟨z3, hz3⟩ : ∃ z, z = M.length := ⟨_, rfl⟩
   rw [← hz3] at hv3
   have HZ3 := Lib.hid hz3
   subst hv3
   clear ho3 hrM hmM hcw hb3 hz3
   cases c with
   | false =>
    have q0 : ((z2 : Int) == 0) = true := by rw [HZ2.out, H2.out.2.1 rfl]; rfl
    have C9 := Lib.hid (CA.out w3 (HT.out.stays HB3.out))
    go_wp2_with fail
    refine C9.out.mono ?_
    rintro e w9 ⟨rfl, hb9⟩
    have HB9 := Lib.hid (below_step HB3.out hb9)
    clear hb9
    go_wp2
    go_ret
    exact ⟨rfl, HB9.out⟩
   | true =>
    have HCT := Lib.hid (H2.out.2.2 rfl)
    have HSUM := Lib.hid (countsOf_sum HCT.out HRM.out HMM.out)
    obtain rfl : z2 = z3 := by rw [HZ2.out, HZ3.out, ← HSUM.out.1, List.length_map]
    have hz3m : z2 ≤ 132100 := by
     rw [HZ3.out]
     exact Nat.le_trans (nodup_len (risesT_nodup HRM.out) fun t ht => HUA.out (txts A) t ((HMM.out t).1 ht)) (HUL.out _ HTL.out)
    have hza30 : za ≤ 30 := by have := HAL.out; rw [HZA.out]; exact this
    go_wp2_with fail
    go_loopw [9, 60] (fun n i wr => ∃ (k s : Nat), i = .int .i64 k ∧ n = .int .i64 s ∧ k ≤ za ∧ s ≤ k ∧ s = (keysR ((txts A).take k)).length ∧ Below w3.heap.size w3 wr) (fun _ i _ => za - (intOf i).toNat)
    case atStart => exact ⟨0, 0, rfl, rfl, Nat.zero_le _, Nat.le_refl _, by simp [keysR], Below.refl _ _⟩
    case round =>
     obtain ⟨k, s, rfl, rfl, hk, hsk, hs, hB⟩ := hrel
     have HS := Lib.hid hs; have HB := Lib.hid hB
     clear hs
     by_cases hlt : k < za
     ·have hkA : k < A.length := by have := HZA.out; omega
      obtain ⟨_, _, _, hev, _, hc⟩ := HA.out.stays (below_step HB3.out hB)
      rw [← HZA.out] at hev
      cases hev
      obtain ⟨b1, o1, rfl, hbl, g1⟩ := hc (by omega)
      have q2 := g1 k hkA
      have hst := keysR_step (R := txts A) (i := k) (by rw [txts_len]; exact hkA)
      rw [txts_get hkA] at hst
      obtain ⟨y, hy⟩ : ∃ y, y = A[k] := ⟨_, rfl⟩
      rw [← hy] at q2 hst
      rw [← Lib.size_eq, ← HS.out] at hst
      have hbk : decide ((k : Int) < (za : Int)) = true := by simpa using (show (k : Int) < za by omega)
      clear g1 hc hy hB hkA
      by_cases h32 : y.size = 32
      ·rw [if_pos h32] at hst
       have HST := Lib.hid hst
       have h32b : (((y.size : Nat) : Int) == 32) = true := by rw [h32]; rfl
       have hadd : IntKind.i64.wrap ((s : Int) + 1) = (s : Int) + 1 := IntWalk.i64_in _ (by omega)
       clear hst h32
       go_wp2
       go_roundw
       case rel => exact ⟨k + 1, s + 1, by go_num, by go_num, by omega, by omega, HST.out.symm, HB.out⟩
       case measure => simp [intOf]; omega
      ·rw [if_neg h32] at hst
       have HST := Lib.hid hst
       have h32b : (((y.size : Nat) : Int) == 32) = false := by simp; omega
       clear hst
       go_wp2
       go_roundw
       case rel => exact ⟨k + 1, s, by go_num, rfl, by omega, by omega, HST.out.symm, HB.out⟩
       case measure => simp [intOf]; omega
     ·obtain rfl : k = za := by omega
      have hbk : decide ((k : Int) < (k : Int)) = false := by simp
      have HS1 : Hid (s = (keysR (txts A)).length) := Lib.hid (by
       have := HS.out
       rwa [List.take_of_length_le (by rw [txts_len, HZA.out]; exact Nat.le_refl _)] at this)
      clear hB hlt HS
      go_wp2_with fail
      go_loopw [9, 72] (fun n i wr => ∃ (j s : Nat), i = .int .i64 j ∧ n = .int .i64 s ∧ j ≤ z2 ∧ s ≤ 30 + 2000 * j ∧ s = (keysR (txts A)).length + kidsS L (M.take j) ∧ Below w3.heap.size w3 wr) (fun _ i _ => z2 - (intOf i).toNat)
      case atStart => exact ⟨0, s, rfl, rfl, Nat.zero_le _, by omega, by rw [HS1.out]; simp [kidsS], HB.out⟩
      case round =>
       clear hbk
       obtain ⟨j, s2, rfl, rfl, hj, hsj, hs2, hB⟩ := hrel
       have HS := Lib.hid hs2; have HBJ := Lib.hid hB
       clear hs2
       by_cases hlt : j < z2
       ·have hjM : j < M.length := by have := HZ3.out; omega
        obtain ⟨_, _, _, hev, _, hc⟩ := HM3.out.stays hB
        rw [strsOf_len, ← HZ3.out] at hev
        cases hev
        obtain ⟨b1, o1, rfl, hbl, g1⟩ := hc (by rw [strsOf_len]; omega)
        have q2 := g1 j (by rw [strsOf_len]; exact hjM)
        rw [strsOf_get hjM] at q2
        have hst := kidsS_step (O := L) (K := M) hjM
        obtain ⟨t, ht⟩ : ∃ t, t = M[j] := ⟨_, rfl⟩
        rw [← ht] at q2 hst
        obtain ⟨x, hx⟩ : ∃ x : ByteArray, x = ⟨t.toArray⟩ := ⟨_, rfl⟩
        rw [← hx] at q2
        have hxt : x.data.toList = t := by rw [hx]
        have CG := rGet_any _ L x _ (HI.out.stays (below_step HB3.out hB))
        rw [hxt] at CG
        have CR := fun W => rRead_any (gotO L t) (got_size HR.out HZ.out) W
        obtain ⟨S, hS⟩ : ∃ S, S = gotO L t := ⟨_, rfl⟩
        obtain ⟨gb, hgb⟩ : ∃ gb, gb = (getO L t).isSome := ⟨_, rfl⟩
        rw [← hS, ← hgb] at CG
        rw [← hS] at CR
        have HCG := Lib.hid CG; have HST := Lib.hid hst; have HCR := Lib.hid CR; have HSS := Lib.hid hS
        have hbj : decide ((j : Int) < (z2 : Int)) = true := by simpa using (show (j : Int) < z2 by omega)
        clear g1 hc hB hjM CG CR hst hS hgb ht hx hxt
        go_wp2_with fail
        refine HCG.out.mono ?_
        rintro e w5 ⟨rfl, hb5⟩
        have HB5 := Lib.hid (below_step HBJ.out hb5)
        clear hb5
        go_wp2_with fail
        refine (HCR.out w5).mono ?_
        rintro e w6 ⟨n, ee, hrd, pv, ev, rfl, hp, he, hb6⟩
        have HB6 := Lib.hid (below_step HB5.out hb6)
        obtain ⟨hkid, hfew⟩ := kids_gotL (O := L) (t := t) (by rw [← HSS.out]; exact hrd)
        obtain ⟨_, a1, cap1, hv1, _, _⟩ := id hp
        obtain ⟨_, a4, cap4, hv4, _, _⟩ := id he
        obtain ⟨y1, hy1⟩ : ∃ z, z = n.ps.length := ⟨_, rfl⟩
        obtain ⟨y4, hy4⟩ : ∃ z, z = n.es.length := ⟨_, rfl⟩
        rw [← hy1] at hv1; rw [← hy4] at hv4
        subst hv1 hv4
        have hb7 : Below w6.heap.size w6 (w6.alloc (.cells #[.int .i64 n.kd, .string n.d, .slice a1 y1 cap1, .slice a4 y4 cap4] 53)) := (Below.refl _ _).alloc (Nat.le_refl _) _
        have HB7 := Lib.hid (below_step HB6.out hb7)
        have CK := rKids_own n _ _ _ (hp.stays hb7) (he.stays hb7) hfew
        rw [hkid] at CK
        have HCK := Lib.hid CK
        clear hrd hp he hb6 hy1 hy4 hb7 hkid hfew CK
        go_wp2_with fail
        refine HCK.out.mono ?_
        rintro e w8 ⟨vk, rfl, hok, hb8⟩
        have HB8 := Lib.hid (below_step HB7.out hb8)
        obtain ⟨_, ka, kc, hvk, _, _⟩ := hok.strs
        rw [strsOf_len] at hvk
        obtain ⟨zk, hzk⟩ : ∃ z, z = (kidsL L t).length := ⟨_, rfl⟩
        rw [← hzk] at hvk
        have hzkm : zk ≤ 2000 := by rw [hzk]; exact kidsL_len L t
        have HS3 : Hid (s2 + zk = (keysR (txts A)).length + kidsS L (M.take (j + 1))) := Lib.hid (by rw [HST.out, ← hzk, HS.out]; omega)
        subst hvk
        have hadd : IntKind.i64.wrap ((s2 : Int) + (zk : Int)) = (s2 : Int) + (zk : Int) := IntWalk.i64_in _ (by omega)
        clear hok hb8 hzk
        go_wp2
        go_roundw
        case rel => exact ⟨j + 1, s2 + zk, by go_num, by go_num, by omega, by omega, HS3.out, HB8.out⟩
        case measure => simp [intOf]; omega
       ·obtain rfl : j = z2 := by omega
        have hbj : decide ((j : Int) < (j : Int)) = false := by simp
        have HS2 : Hid ((s2 : Int) = sumC C) := Lib.hid (by
         have h1 := HS.out
         rw [List.take_of_length_le (by rw [HZ3.out]; exact Nat.le_refl _)] at h1
         rw [HSUM.out.2, h1])
        clear hB hlt HS
        go_wp2_with fail
        go_loopw [9, 100] (fun n i wr => ∃ (m : Nat) (r : Int), i = .int .i64 m ∧ n = .int .i64 r ∧ m ≤ j ∧ r ≤ 300000000 ∧ r = sumC (C.drop m) ∧ Below w3.heap.size w3 wr) (fun _ i _ => j - (intOf i).toNat)
        case atStart => exact ⟨0, s2, rfl, rfl, Nat.zero_le _, by omega, by rw [HS2.out]; rfl, HBJ.out⟩
        case round =>
         clear hbj
         obtain ⟨m, r, rfl, rfl, hm, hrm, hr, hB⟩ := hrel
         have HBM := Lib.hid hB
         by_cases hlt : m < j
         ·have hmC : m < C.length := by have := HZ2.out; omega
          have hmM : m < M.length := by have := HZ3.out; omega
          obtain ⟨_, _, _, hev, _, hc⟩ := HV3.out.stays hB
          rw [← HZ2.out] at hev
          cases hev
          obtain ⟨b1, o1, rfl, hbl, g1⟩ := hc (by omega)
          obtain ⟨p1, p2⟩ := g1 m hmC
          obtain ⟨_, _, _, hev, _, hd⟩ := HM3.out.stays hB
          rw [strsOf_len, ← HZ3.out] at hev
          cases hev
          obtain ⟨b4, o4, rfl, hbl4, g4⟩ := hd (by rw [strsOf_len]; omega)
          have d0 := g4 m (by rw [strsOf_len]; exact hmM)
          rw [strsOf_get hmM] at d0
          have hkey : (⟨(M[m]).toArray⟩ : ByteArray) = C[m].k := by
           have e1 : M[m]? = (C.map Ct.t)[m]? := by rw [HSUM.out.1]
           rw [List.getElem?_eq_getElem hmM, List.getElem?_map, List.getElem?_eq_getElem hmC] at e1
           have e2 : M[m] = C[m].t := by simpa using e1
           rw [e2]; exact txt_str _
          rw [hkey] at d0
          have h1n := HCT.out.1.2 _ (List.getElem_mem hmC)
          have hst := sumC_step hmC
          have hpos := sumC_pos (C := C.drop (m + 1)) fun x hx => HCT.out.1.2 x (List.mem_of_mem_drop hx)
          rw [← hr] at hst
          obtain ⟨y, hy⟩ : ∃ y, y = C[m] := ⟨_, rfl⟩
          rw [← hy] at p1 p2 d0 h1n hst
          obtain ⟨r1, hr1⟩ : ∃ r1, r1 = sumC (C.drop (m + 1)) := ⟨_, rfl⟩
          rw [← hr1] at hst hpos
          have HR1 := Lib.hid hr1
          have hn1 : decide (y.n < 1) = false := decide_eq_false (by omega)
          have hsub : IntKind.i64.wrap (r - y.n) = r1 := by rw [IntWalk.i64_in _ (by omega)]; omega
          have hbm : decide ((m : Int) < (j : Int)) = true := by simpa using (show (m : Int) < j by omega)
          have hr1m : r1 ≤ 300000000 := by omega
          obtain ⟨X, hX⟩ : ∃ X, X = wr.alloc (.cells #[.string y.k, .int .i64 y.n] 58) := ⟨_, rfl⟩
          have hbX : Below wr.heap.size wr X := by rw [hX]; exact (Below.refl _ _).alloc (Nat.le_refl _) _
          have g5 := (ctBox_new wr y 58).1
          rw [← hX] at g5
          obtain ⟨e0, e1⟩ := g5
          have d1 := (hbX.cell (p := ⟨b4, o4 + m, none⟩) hbl4).trans d0
          have HBX := Lib.hid (below_step hB hbX)
          have HX := Lib.hid hX
          clear g1 g4 hc hd hB hmC hmM hkey hy hr1 hr hrm hpos hst h1n hX hbX
          go_wp2_with fail
          rw [← HX.out]
          clear p1 p2 d0 hbl hbl4
          go_quiet (fail)
          go_wp2
          go_roundw
          case rel => exact ⟨m + 1, r1, by go_num, rfl, by omega, hr1m, HR1.out, below_drewN HBX.out _⟩
          case measure => simp [intOf]; omega
         ·obtain rfl : m = j := by omega
          have hbm : decide ((m : Int) < (m : Int)) = false := by simp
          obtain rfl : r = 0 := by rw [hr]; exact sumC_end C (by have := HZ2.out; omega)
          have HB8 := Lib.hid (below_step HB3.out hB)
          have C9 := Lib.hid (CA.out _ (HT.out.stays HB8.out))
          clear hB hr hlt
          go_wp2_with fail
          refine C9.out.mono ?_
          rintro e w9 ⟨rfl, hb9⟩
          have HB9 := Lib.hid (below_step HB8.out hb9)
          clear hb9
          go_wp2
          go_ret
          exact ⟨rfl, HB9.out⟩
  ·have q1 : decide ((30 : Int) < (za : Int)) = true := decide_eq_true (by omega)
   clear h30
   go_enter Tryz.func7, Tryz.ntmps7
   go_wp2_with fail
   with_reducible refine CS.out.mono ?_
   rintro e w1 ⟨rfl, hb1⟩
   have C1 := Lib.hid (CA.out w1 (HT.out.stays hb1)); have HB1 := Lib.hid hb1
   clear hb1
   go_wp2_with fail
   with_reducible refine C1.out.mono ?_
   rintro e w2 ⟨rfl, hb2⟩
   have HB2 := Lib.hid (below_step HB1.out hb2)
   clear hb2
   go_wp2
   go_ret
   exact ⟨rfl, HB2.out⟩
end Go.Proofs.YtokknppjeckppaaGreatDoor

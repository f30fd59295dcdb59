/-
  CountDoes as a walk over this translation. Written by wip/tools/gen_count_laws.py.
-/
import Derived.Test.YtokknppjeckppaaGreatDoorQa6
set_option linter.unusedVariables false
namespace Go.Proofs.YtokknppjeckppaaGreatDoor
open Go.RowKit
attribute [local go_sem] Oper.semAt_some
theorem retOf_same {O : List Ob} {R : List Txt} {C D : List Ct} {b c : Bool} (h1 : b = true ↔ WholeO O R) (h2 : b = false → C = []) (h3 : b = true → CountsOf O R C) (k1 : c = true ↔ WholeO O R) (k2 : c = false → D = []) (k3 : c = true → CountsOf O R D) : c = b ∧ D = C ∧ FitC C := by
 have hbc : c = b := by rw [Bool.eq_iff_iff, k1, h1]
 subst hbc
 cases c with
 | true => exact ⟨rfl, countsOf_one (k3 rfl) (h3 rfl), (h3 rfl).1⟩
 | false =>
  rw [k2 rfl, h2 rfl]
  exact ⟨rfl, rfl, List.Pairwise.nil, fun x h => (by cases h)⟩
set_option maxRecDepth 100000 in
set_option maxHeartbeats 16000000 in
theorem CountDoes_w (v : Value) (L : List Ob) (av : Value) (A : List ByteArray) (k : ByteArray) (w0 : World) (h : IsObs w0 v L) (hz : ∀ x ∈ L, x.r.size ≤ 281474976710656) (ha : IsStrs w0 av A) (hT : ErrT w0) :
  Calls Tryz.prog 3 #[v, av, .string k] w0 fun e w' => e = .returned (.bool true) ∧ Below w0.heap.size w0 w' := by
 have CS := Lib.hid (small14_any v L w0 h hz)
 have HI := Lib.hid h; have HT := Lib.hid hT; have HA := Lib.hid ha
 have CA := Lib.hid (fun W (hW : ErrT W) => awake14_any W hW)
 obtain ⟨_, a, cap, hv, _, _⟩ := h
 obtain ⟨_, aa, ca, hva, _, _⟩ := ha
 obtain ⟨z, hzl⟩ : ∃ z, z = L.length := ⟨_, rfl⟩
 obtain ⟨za, hza⟩ : ∃ z, z = A.length := ⟨_, rfl⟩
 rw [← hzl] at hv; rw [← hza] at hva
 have HZA := Lib.hid hza
 clear hz hT hzl hza
 subst hv hva
 rcases hsm : small13B L with _ | _
 ·rw [hsm] at CS
  clear hsm
  go_enter Tryz.func3, Tryz.ntmps3
  go_wp2_with fail
  with_reducible refine CS.out.mono ?_
  rintro e w1 ⟨rfl, hb1⟩
  have C1 := Lib.hid (CA.out w1 (HT.out.stays hb1)); have HB1 := Lib.hid hb1
  clear hb1
  go_wp2_with fail
  with_reducible refine C1.out.mono ?_
  rintro e w2 ⟨rfl, hb2⟩
  have HB2 := Lib.hid (below_step HB1.out hb2)
  clear hb2
  go_wp2
  go_ret
  exact ⟨rfl, HB2.out⟩
 ·have hs := small13_iff.1 hsm
  have HR := Lib.hid hs.2.2.2.1
  have HZ := Lib.hid (fun y hy => Nat.le_trans (small_size hs y hy) (show 20000 ≤ 1000000 by decide))
  have HL120 := Lib.hid hs.1
  have HLL := Lib.hid (show L.length ≤ 1000000 from Nat.le_trans hs.1 (by decide))
  have HK := Lib.hid (show (allK L).length ≤ 132000 by have := allK_len L; have := hs.1; omega)
  have HUA : Hid (∀ F : List Txt, (∀ t, ReachO L F t → t ∈ (F ++ allK L).filter fun t => decide (t.length = 32))) := Lib.hid (fun F t ht => List.mem_filter.2 ⟨reach_all HR.out ht, decide_eq_true (reach_len ht)⟩)
  have HU32 : Hid (∀ F : List Txt, ∀ t ∈ (F ++ allK L).filter (fun t => decide (t.length = 32)), t.length = 32) := Lib.hid (fun F t ht => by have := (List.mem_filter.1 ht).2; simpa using this)
  have HUL : Hid (∀ F : List Txt, F.length ≤ 100 → ((F ++ allK L).filter fun t => decide (t.length = 32)).length ≤ 132100) := Lib.hid (fun F hF => Nat.le_trans (List.length_filter_le _ _) (by rw [List.length_append]; have := HK.out; omega))
  rw [hsm] at CS
  clear hsm hs
  by_cases h30 : za ≤ 30
  ·have q1 : decide ((30 : Int) < (za : Int)) = false := decide_eq_false (by omega)
   have HAL := Lib.hid (show A.length ≤ 30 by have := HZA.out; omega)
   have HTL : Hid ((txts A).length ≤ 100) := Lib.hid (by rw [txts_len]; have := HAL.out; omega)
   clear h30
   go_enter Tryz.func3, Tryz.ntmps3
   go_wp2_with fail
   with_reducible refine CS.out.mono ?_
   rintro e w1 ⟨rfl, hb1⟩
   have HB1 := Lib.hid hb1
   clear hb1
   have COF := Lib.hid (fun W (hW : Below w0.heap.size w0 W) => pOf_any (.slice a z cap) (.slice aa za ca) L A W (HI.out.stays hW) HR.out HLL.out HZ.out (HT.out.stays hW) (HA.out.stays hW) (by have := HAL.out; omega) _ (HUA.out (txts A)) (HU32.out (txts A)) (Nat.le_trans (HUL.out _ HTL.out) (by decide)))
   have CRO := Lib.hid (fun W (hW : Below w0.heap.size w0 W) => rOf_any (.slice a z cap) (.slice aa za ca) L A W (HI.out.stays hW) HR.out HZ.out (HA.out.stays hW) (by have := HAL.out; omega) _ (HUA.out (txts A)) (Nat.le_trans (HUL.out _ HTL.out) (by decide)))
   have C2 := Lib.hid (COF.out w1 HB1.out)
   go_wp2_with fail
   refine C2.out.mono ?_
   rintro e w2 ⟨v2, C, b, rfl, ho2, h21, h22, h23, hb2⟩
   have HB2 := Lib.hid (below_step HB1.out hb2)
   have H2 := Lib.hid (show (b = true ↔ WholeO L (txts A)) ∧ (b = false → C = []) ∧ (b = true → CountsOf L (txts A) C) from ⟨h21, h22, h23⟩)
   have HV2 := Lib.hid ho2.is
   have C3 := Lib.hid (CRO.out w2 HB2.out)
   obtain ⟨_, a2, c2, hv2, _, _⟩ := ho2.is
   obtain ⟨z2, hz2⟩ : ∃ z, z = C.length := ⟨_, rfl⟩
   rw [← hz2] at hv2
   subst hv2
   clear ho2 h21 h22 h23 hb2 hz2
   go_wp2_with fail
   refine C3.out.mono ?_
   rintro e w3 ⟨v3, D, c, rfl, ho3, h31, h32, h33, hb3⟩
   have HB3 := Lib.hid (below_step HB2.out hb3)
   obtain ⟨rfl, rfl, hfit⟩ := retOf_same H2.out.1 H2.out.2.1 H2.out.2.2 h31 h32 h33
   have HV23 := Lib.hid (HV2.out.stays hb3); have HV3 := Lib.hid ho3.is
   have HFIT := Lib.hid hfit
   obtain ⟨_, a3, c3, hv3, _, _⟩ := ho3.is
   obtain ⟨z3, hz3⟩ : ∃ z, z = D.length := ⟨_, rfl⟩
   rw [← hz3] at hv3
   subst hv3
   have C4 := rSameC_any _ _ D D w3 HV23.out HV3.out
   rw [sameC_yes rfl] at C4
   have HC4 := Lib.hid C4
   clear ho3 h31 h32 h33 hb3 hfit hz3 C4
   go_wp2_with fail
   refine HC4.out.mono ?_
   rintro e w4 ⟨rfl, hb4⟩
   have HB4 := Lib.hid (below_step HB3.out hb4)
   have HV24 := Lib.hid (HV23.out.stays hb4); have HV34 := Lib.hid (HV3.out.stays hb4)
   have C5 := pN_any _ D k w4 HV34.out
   obtain ⟨n, hn⟩ : ∃ n, n = nC D k.data.toList := ⟨_, rfl⟩
   rw [← hn] at C5
   have HC5 := Lib.hid C5; have HN := Lib.hid hn
   clear hb4 C5 hn
   go_wp2_with fail
   refine HC5.out.mono ?_
   rintro e w5 ⟨rfl, hb5⟩
   have HB5 := Lib.hid (below_step HB4.out hb5)
   have HV25 := Lib.hid (HV24.out.stays hb5); have HV35 := Lib.hid (HV34.out.stays hb5)
   have C6 := rN_any _ D k w5 HV35.out
   rw [← HN.out] at C6
   have HC6 := Lib.hid C6
   clear hb5 C6
   go_wp2_with fail
   refine HC6.out.mono ?_
   rintro e w6 ⟨rfl, hb6⟩
   have HB6 := Lib.hid (below_step HB5.out hb6)
   have HV26 := Lib.hid (HV25.out.stays hb6); have HV36 := Lib.hid (HV35.out.stays hb6)
   have C7 := pSameC_any _ _ D D w6 HV26.out HV36.out
   rw [sameC_yes rfl] at C7
   have HC7 := Lib.hid C7
   clear hb6 C7
   go_wp2_with fail
   refine HC7.out.mono ?_
   rintro e w7 ⟨rfl, hb7⟩
   have HB7 := Lib.hid (below_step HB6.out hb7)
   have HC8 := Lib.hid (rFitC_any _ D w7 (HV26.out.stays hb7) HFIT.out)
   clear hb7
   go_wp2_with fail
   refine HC8.out.mono ?_
   rintro e w8 ⟨rfl, hb8⟩
   have HB8 := Lib.hid (below_step HB7.out hb8)
   have C9 := Lib.hid (CA.out w8 (HT.out.stays HB8.out))
   clear hb8
   go_wp2_with fail
   refine C9.out.mono ?_
   rintro e w9 ⟨rfl, hb9⟩
   have HB9 := Lib.hid (below_step HB8.out hb9)
   clear hb9
   go_wp2
   go_ret
   exact ⟨rfl, HB9.out⟩
  ·have q1 : decide ((30 : Int) < (za : Int)) = true := decide_eq_true (by omega)
   clear h30
   go_enter Tryz.func3, Tryz.ntmps3
   go_wp2_with fail
   with_reducible refine CS.out.mono ?_
   rintro e w1 ⟨rfl, hb1⟩
   have C1 := Lib.hid (CA.out w1 (HT.out.stays hb1)); have HB1 := Lib.hid hb1
   clear hb1
   go_wp2_with fail
   with_reducible refine C1.out.mono ?_
   rintro e w2 ⟨rfl, hb2⟩
   have HB2 := Lib.hid (below_step HB1.out hb2)
   clear hb2
   go_wp2
   go_ret
   exact ⟨rfl, HB2.out⟩
end Go.Proofs.YtokknppjeckppaaGreatDoor

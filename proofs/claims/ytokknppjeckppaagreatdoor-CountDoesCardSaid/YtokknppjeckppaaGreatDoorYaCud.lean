/-
  CountMoves as a walk over this translation. Written by wip/tools/gen_count_laws.py.
-/
import Derived.Test.YtokknppjeckppaaGreatDoorQa6
set_option linter.unusedVariables false
namespace Go.Proofs.YtokknppjeckppaaGreatDoor
open Go.RowKit
attribute [local go_sem] Oper.semAt_some
set_option maxRecDepth 100000 in
set_option maxHeartbeats 16000000 in
theorem CountMoves_w (v : Value) (L : List Ob) (av : Value) (A : List ByteArray) (k : ByteArray) (w0 : World) (h : IsObs w0 v L) (hz : ∀ x ∈ L, x.r.size ≤ 281474976710656) (ha : IsStrs w0 av A) (hT : ErrT w0) :
  Calls Tryz.prog 4 #[v, av, .string k] w0 fun e w' => e = .returned (.bool true) ∧ Below w0.heap.size w0 w' := by
 have CS := Lib.hid (small14_any v L w0 h hz)
 have HI := Lib.hid h; have HT := Lib.hid hT; have HA := Lib.hid ha
 have CA := Lib.hid (fun W (hW : ErrT W) => awake14_any W hW)
 obtain ⟨_, a, cap, hv, _, _⟩ := h
 obtain ⟨_, aa, ca, hva, _, _⟩ := ha
 obtain ⟨z, hzl⟩ : ∃ z, z = L.length := ⟨_, rfl⟩
 obtain ⟨za, hza⟩ : ∃ z, z = A.length := ⟨_, rfl⟩
 rw [← hzl] at hv; rw [← hza] at hva
 have HZA := Lib.hid hza
 clear hz hT hzl hza
 subst hv hva
 rcases hsm : small13B L with _ | _
 ·rw [hsm] at CS
  clear hsm
  go_enter Tryz.func4, Tryz.ntmps4
  go_wp2_with fail
  with_reducible refine CS.out.mono ?_
  rintro e w1 ⟨rfl, hb1⟩
  have C1 := Lib.hid (CA.out w1 (HT.out.stays hb1)); have HB1 := Lib.hid hb1
  clear hb1
  go_wp2_with fail
  with_reducible refine C1.out.mono ?_
  rintro e w2 ⟨rfl, hb2⟩
  have HB2 := Lib.hid (below_step HB1.out hb2)
  clear hb2
  go_wp2
  go_ret
  exact ⟨rfl, HB2.out⟩
 ·have hs := small13_iff.1 hsm
  have HR := Lib.hid hs.2.2.2.1
  have HZ := Lib.hid (fun y hy => Nat.le_trans (small_size hs y hy) (show 20000 ≤ 1000000 by decide))
  have HL120 := Lib.hid hs.1
  have HLL := Lib.hid (show L.length ≤ 1000000 from Nat.le_trans hs.1 (by decide))
  have HK := Lib.hid (show (allK L).length ≤ 132000 by have := allK_len L; have := hs.1; omega)
  have HUA : Hid (∀ F : List Txt, (∀ t, ReachO L F t → t ∈ (F ++ allK L).filter fun t => decide (t.length = 32))) := Lib.hid (fun F t ht => List.mem_filter.2 ⟨reach_all HR.out ht, decide_eq_true (reach_len ht)⟩)
  have HU32 : Hid (∀ F : List Txt, ∀ t ∈ (F ++ allK L).filter (fun t => decide (t.length = 32)), t.length = 32) := Lib.hid (fun F t ht => by have := (List.mem_filter.1 ht).2; simpa using this)
  have HUL : Hid (∀ F : List Txt, F.length ≤ 100 → ((F ++ allK L).filter fun t => decide (t.length = 32)).length ≤ 132100) := Lib.hid (fun F hF => Nat.le_trans (List.length_filter_le _ _) (by rw [List.length_append]; have := HK.out; omega))
  rw [hsm] at CS
  clear hsm hs
  by_cases h30 : za ≤ 30
  ·have q1 : decide ((30 : Int) < (za : Int)) = false := decide_eq_false (by omega)
   have HAL := Lib.hid (show A.length ≤ 30 by have := HZA.out; omega)
   have HTL : Hid ((txts A).length ≤ 100) := Lib.hid (by rw [txts_len]; have := HAL.out; omega)
   clear h30
   go_enter Tryz.func4, Tryz.ntmps4
   go_wp2_with fail
   with_reducible refine CS.out.mono ?_
   rintro e w1 ⟨rfl, hb1⟩
   have HB1 := Lib.hid hb1
   clear hb1
   have CRO := Lib.hid (rOf_any (.slice a z cap) (.slice aa za ca) L A w1 (HI.out.stays HB1.out) HR.out HZ.out (HA.out.stays HB1.out) (by have := HAL.out; omega) _ (HUA.out (txts A)) (Nat.le_trans (HUL.out _ HTL.out) (by decide)))
   go_wp2_with fail
   refine CRO.out.mono ?_
   rintro e w2 ⟨v2, C, b, rfl, ho2, h21, h22, h23, hb2⟩
   have HB2 := Lib.hid (below_step HB1.out hb2)
   have HV2 := Lib.hid ho2.is
   obtain ⟨_, a2, c2, hv2, _, _⟩ := ho2.is
   obtain ⟨z2, hz2⟩ : ∃ z, z = C.length := ⟨_, rfl⟩
   rw [← hz2] at hv2
   subst hv2
   cases b with
   | false =>
    have C9 := Lib.hid (CA.out w2 (HT.out.stays HB2.out))
    clear ho2 h21 h22 h23 hb2 hz2
    go_wp2_with fail
    refine C9.out.mono ?_
    rintro e w9 ⟨rfl, hb9⟩
    have HB9 := Lib.hid (below_step HB2.out hb9)
    clear hb9
    go_wp2
    go_ret
    exact ⟨rfl, HB9.out⟩
   | true =>
    have hct := h23 rfl
    have HW := Lib.hid (h21.1 rfl)
    have HFT := Lib.hid hct.1
    have HN : Hid (∀ x ∈ C, x.n ≤ 1000000) := Lib.hid (fun x hx => by
     have h1 := countsOf_max hct (HUA.out (txts A)) x hx
     have h2 := HUL.out _ HTL.out
     have h3 := HTL.out
     omega)
    have HCU : Hid (∀ x ∈ C, x.t ∈ ((txts A ++ [k.data.toList]) ++ allK L).filter fun t => decide (t.length = 32)) := Lib.hid (fun x hx => by
     have h1 := (countsOf_mem hct).1 (List.mem_map.2 ⟨x, hx, rfl⟩)
     exact HUA.out _ _ (reach_incl (fun t ht => List.mem_append_left _ ht) h1))
    have HKU : Hid (∀ t, ReachO L [k.data.toList] t → t ∈ ((txts A ++ [k.data.toList]) ++ allK L).filter fun t => decide (t.length = 32)) := Lib.hid (fun t ht => HUA.out _ _ (reach_incl (fun t ht => List.mem_append_right _ ht) ht))
    have HUK : Hid ((((txts A ++ [k.data.toList]) ++ allK L).filter fun t => decide (t.length = 32)).length ≤ 132100) := Lib.hid (HUL.out _ (by rw [List.length_append, txts_len]; have := HAL.out; simp; omega))
    have HCL : Hid (C.length ≤ 120) := Lib.hid (by
     have := countsOf_len hct (U := L.map Ob.t) (fun t ht => whole_in HR.out HW.out ht)
     rw [List.length_map] at this
     exact Nat.le_trans this HL120.out)
    have H32 := Lib.hid (countsOf_32 hct)
    have CP := Lib.hid (fun W (hW : Below w0.heap.size w0 W) (hv : IsCts W (.slice a2 z2 c2) C) => pPlus_any (.slice a2 z2 c2) (.slice a z cap) C L k W (HI.out.stays hW) HR.out HLL.out HZ.out (HT.out.stays hW) hv HFT.out (fun x hx => Int.le_trans (HN.out x hx) (by decide)) _ HCU.out HKU.out (HU32.out _) (Nat.le_trans HUK.out (by decide)))
    have CRP := Lib.hid (fun W (hW : Below w0.heap.size w0 W) (hv : IsCts W (.slice a2 z2 c2) C) => rPlus_any (.slice a2 z2 c2) (.slice a z cap) C L k W (HI.out.stays hW) HR.out HZ.out hv HFT.out (fun x hx => Int.le_trans (HN.out x hx) (by decide)) (Nat.le_trans HCL.out (by decide)) (Nat.le_trans HL120.out (by decide)) _ HKU.out (Nat.le_trans HUK.out (by decide)))
    have CM := Lib.hid (fun W (hW : Below w0.heap.size w0 W) (hv : IsCts W (.slice a2 z2 c2) C) => pMinus_any (.slice a2 z2 c2) (.slice a z cap) C L k W (HI.out.stays hW) HR.out HLL.out HZ.out (HT.out.stays hW) hv HFT.out (fun x hx => Int.le_trans (HN.out x hx) (by decide)) H32.out (Nat.le_trans HCL.out (by decide)))
    have CRM := Lib.hid (fun W (hW : Below w0.heap.size w0 W) (hv : IsCts W (.slice a2 z2 c2) C) => rMinus_any (.slice a2 z2 c2) (.slice a z cap) C L k W (HI.out.stays hW) HR.out HZ.out hv HFT.out (fun x hx => Int.le_trans (HN.out x hx) (by decide)) (Nat.le_trans HCL.out (by decide)))
    have C3 := Lib.hid (CP.out w2 HB2.out HV2.out)
    clear ho2 h21 h22 h23 hb2 hz2 hct
    go_wp2_with fail
    refine C3.out.mono ?_
    rintro e w3 ⟨v3, D, ev, rfl, ho3, hp3, hb3⟩
    have HB3 := Lib.hid (below_step HB2.out hb3); have HV23 := Lib.hid (HV2.out.stays hb3); have HV3 := Lib.hid ho3.is; have HP3 := Lib.hid hp3
    have C4 := Lib.hid (CRP.out w3 HB3.out HV23.out)
    obtain ⟨_, a3, c3, hv3, _, _⟩ := ho3.is
    obtain ⟨z3, hz3⟩ : ∃ z, z = D.length := ⟨_, rfl⟩
    rw [← hz3] at hv3
    subst hv3
    clear ho3 hp3 hb3 hz3
    go_wp2_with fail
    refine C4.out.mono ?_
    rintro e w4 ⟨v4, D', ev', rfl, ho4, hp4, hb4⟩
    obtain ⟨hD, hev⟩ := plusRes_one hp4 HP3.out
    subst hD hev
    have HB4 := Lib.hid (below_step HB3.out hb4); have HV24 := Lib.hid (HV23.out.stays hb4); have HV34 := Lib.hid (HV3.out.stays hb4); have HV4 := Lib.hid ho4
    have C5 := Lib.hid (CM.out w4 HB4.out HV24.out)
    obtain ⟨_, a4, c4, hv4, _, _⟩ := ho4
    obtain ⟨z4, hz4⟩ : ∃ z, z = D'.length := ⟨_, rfl⟩
    rw [← hz4] at hv4
    subst hv4
    clear hp4 hb4 hz4
    go_wp2_with fail
    refine C5.out.mono ?_
    rintro e w5 ⟨v5, E, gv, rfl, ho5, hp5, hb5⟩
    have HB5 := Lib.hid (below_step HB4.out hb5); have HV25 := Lib.hid (HV24.out.stays hb5); have HV35 := Lib.hid (HV34.out.stays hb5); have HV45 := Lib.hid (HV4.out.stays hb5); have HV5 := Lib.hid ho5.is; have HP5 := Lib.hid hp5
    have C6 := Lib.hid (CRM.out w5 HB5.out HV25.out)
    obtain ⟨_, a5, c5, hv5, _, _⟩ := ho5.is
    obtain ⟨z5, hz5⟩ : ∃ z, z = E.length := ⟨_, rfl⟩
    rw [← hz5] at hv5
    subst hv5
    clear ho5 hp5 hb5 hz5
    go_wp2_with fail
    refine C6.out.mono ?_
    rintro e w6 ⟨v6, E', gv', rfl, ho6, hp6, hb6⟩
    obtain ⟨hE, hgv⟩ := minusRes_one hp6 HP5.out
    subst hE hgv
    have HB6 := Lib.hid (below_step HB5.out hb6); have HV36 := Lib.hid (HV35.out.stays hb6); have HV46 := Lib.hid (HV45.out.stays hb6); have HV56 := Lib.hid (HV5.out.stays hb6); have HV6 := Lib.hid ho6
    obtain ⟨_, a6, c6, hv6, _, _⟩ := ho6
    obtain ⟨z6, hz6⟩ : ∃ z, z = E'.length := ⟨_, rfl⟩
    rw [← hz6] at hv6
    subst hv6
    have C7 := rSameC_any _ _ D' D' w6 HV36.out HV46.out
    rw [sameC_yes rfl] at C7
    have HC7 := Lib.hid C7
    clear hp6 hb6 hz6 C7
    go_wp2_with fail
    refine HC7.out.mono ?_
    rintro e w7 ⟨rfl, hb7⟩
    have HB7 := Lib.hid (below_step HB6.out hb7)
    have C8 := rSameC_any _ _ E' E' w7 (HV56.out.stays hb7) (HV6.out.stays hb7)
    rw [sameC_yes rfl] at C8
    have HC8 := Lib.hid C8
    clear hb7 C8
    go_wp2_with fail
    refine HC8.out.mono ?_
    rintro e w8 ⟨rfl, hb8⟩
    have HB8 := Lib.hid (below_step HB7.out hb8)
    have C9 := Lib.hid (CA.out w8 (HT.out.stays HB8.out))
    clear hb8
    go_wp2_with fail
    refine C9.out.mono ?_
    rintro e w9 ⟨rfl, hb9⟩
    have HB9 := Lib.hid (below_step HB8.out hb9)
    clear hb9
    go_wp2
    go_ret
    exact ⟨rfl, HB9.out⟩
  ·have q1 : decide ((30 : Int) < (za : Int)) = true := decide_eq_true (by omega)
   clear h30
   go_enter Tryz.func4, Tryz.ntmps4
   go_wp2_with fail
   with_reducible refine CS.out.mono ?_
   rintro e w1 ⟨rfl, hb1⟩
   have C1 := Lib.hid (CA.out w1 (HT.out.stays hb1)); have HB1 := Lib.hid hb1
   clear hb1
   go_wp2_with fail
   with_reducible refine C1.out.mono ?_
   rintro e w2 ⟨rfl, hb2⟩
   have HB2 := Lib.hid (below_step HB1.out hb2)
   clear hb2
   go_wp2
   go_ret
   exact ⟨rfl, HB2.out⟩
end Go.Proofs.YtokknppjeckppaaGreatDoor

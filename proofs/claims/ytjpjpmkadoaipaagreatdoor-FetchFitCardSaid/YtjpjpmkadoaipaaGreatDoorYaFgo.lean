/-
  FetchFit as a walk over this translation.
-/
import Derived.Test.YtjpjpmkadoaipaaGreatDoorQa6
set_option linter.unusedVariables false
namespace Go.Proofs.YtjpjpmkadoaipaaGreatDoor
open Go.RowKit
attribute [local go_sem] Oper.semAt_some
set_option maxRecDepth 100000 in
set_option maxHeartbeats 8000000 in
theorem FetchFit_w (v : Value) (L : List Ob) (s : ByteArray) (w0 : World) (h : IsObs w0 v L) (hz : ∀ x ∈ L, x.r.size ≤ 281474976710656) (hT : ErrT w0) :
  Calls Tryz.prog 5 #[v, .string s] w0 fun e w' => e = .returned (.bool true) ∧ Below w0.heap.size w0 w' := by
 have CS := Lib.hid (small13_any v L w0 h hz)
 have HI := Lib.hid h; have HT := Lib.hid hT
 have CW := Lib.hid (fun W (hW : IsObs W v L) => wide_any v L W hW (fun x hx => Nat.le_trans (hz x hx) (by decide)))
 have CA := Lib.hid (fun W (hW : ErrT W) => awake13_any W hW)
 obtain ⟨_, a, cap, hv, _, _⟩ := h
 obtain ⟨z, hzl⟩ : ∃ z, z = L.length := ⟨_, rfl⟩
 rw [← hzl] at hv
 clear hz hT hzl
 subst hv
 rcases hsm : small13B L with _ | _
 ·rw [hsm] at CS
  clear hsm
  go_enter Tryz.func5, Tryz.ntmps5
  go_wp2_with fail
  with_reducible refine CS.out.mono ?_
  rintro e w1 ⟨rfl, hb1⟩
  have C1 := Lib.hid (CA.out w1 (HT.out.stays hb1)); have HB1 := Lib.hid hb1
  clear hb1
  go_wp2_with fail
  with_reducible refine C1.out.mono ?_
  rintro e w2 ⟨rfl, hb2⟩
  have HB2 := Lib.hid (below_step HB1.out hb2)
  clear hb2
  go_wp2
  go_ret
  exact ⟨rfl, HB2.out⟩
 ·have hs := small13_iff.1 hsm
  have HR := Lib.hid hs.2.2.2.1
  have HZ := Lib.hid (fun y hy => Nat.le_trans (small_size hs y hy) (show 20000 ≤ 1000000 by decide))
  have hl : L.length ≤ 1000000 := Nat.le_trans hs.1 (by decide)
  rw [hsm] at CS
  clear hsm hs
  rcases hwd : wideB L with _ | _
  ·rw [hwd] at CW
   clear hwd
   go_enter Tryz.func5, Tryz.ntmps5
   go_wp2_with fail
   with_reducible refine CS.out.mono ?_
   rintro e w1 ⟨rfl, hb1⟩
   have C1 := Lib.hid (CW.out w1 (HI.out.stays hb1)); have HB1 := Lib.hid hb1
   clear hb1
   go_wp2_with fail
   with_reducible refine C1.out.mono ?_
   rintro e w2 ⟨rfl, hb2⟩
   have HB2 := Lib.hid (below_step HB1.out hb2)
   have CT := Lib.hid (Tree_any _ L s w2 (HI.out.stays HB2.out) HR.out hl HZ.out (HT.out.stays HB2.out))
   clear hb2
   rcases htr : treeE L s.data.toList with k | M
   ·rw [htr] at CT
    have CT2 := Lib.hid (CT.out.mono fun e w' h => h.of_err)
    clear CT htr
    go_wp2_with fail
    refine CT2.out.mono ?_
    rintro e w3 ⟨v3, rfl, ho, hk, hb3⟩
    have HB3 := Lib.hid (below_step HB2.out hb3)
    obtain ⟨_, a3, c3, hv3, _, _⟩ := ho.items
    have hv3' : v3 = .slice a3 0 c3 := hv3
    subst hv3'
    have hk0 : k ≠ 0 := fun e => by subst e; revert hk; decide
    have q1 : (k == 0) = false := beq_eq_false_iff_ne.2 hk0
    have q2 : (k != 0) = true := bne_iff_ne.2 hk0
    have C4 := Lib.hid (CA.out w3 (HT.out.stays HB3.out))
    clear hb3 ho hv3 hk hk0
    go_wp2_with fail
    with_reducible refine C4.out.mono ?_
    rintro e w4 ⟨rfl, hb4⟩
    have HB4 := Lib.hid (below_step HB3.out hb4)
    clear hb4
    go_wp2
    go_ret
    exact ⟨rfl, HB4.out⟩
   ·rw [htr] at CT
    have CT2 := Lib.hid (CT.out.mono fun e w' h => h.of_ok)
    have HF := Lib.hid (tree_told htr)
    clear CT htr
    go_wp2_with fail
    refine CT2.out.mono ?_
    rintro e w3 ⟨v3, rfl, ho, hb3⟩
    have HB3 := Lib.hid (below_step HB2.out hb3)
    have C4 := Lib.hid (rFit_any_Tif v3 M w3 ho.items (fewB_fit HF.out))
    rw [fitT_yes HF.out] at C4
    clear hb3 ho
    go_wp2_with fail
    with_reducible refine C4.out.mono ?_
    rintro e w4 ⟨rfl, hb4⟩
    have HB4 := Lib.hid (below_step HB3.out hb4)
    have C5 := Lib.hid (CA.out w4 (HT.out.stays HB4.out))
    clear hb4
    go_wp2_with fail
    with_reducible refine C5.out.mono ?_
    rintro e w5 ⟨rfl, hb5⟩
    have HB5 := Lib.hid (below_step HB4.out hb5)
    clear hb5
    go_wp2
    go_ret
    exact ⟨rfl, HB5.out⟩
  ·rw [hwd] at CW
   clear hwd
   go_enter Tryz.func5, Tryz.ntmps5
   go_wp2_with fail
   with_reducible refine CS.out.mono ?_
   rintro e w1 ⟨rfl, hb1⟩
   have C1 := Lib.hid (CW.out w1 (HI.out.stays hb1)); have HB1 := Lib.hid hb1
   clear hb1
   go_wp2_with fail
   with_reducible refine C1.out.mono ?_
   rintro e w2 ⟨rfl, hb2⟩
   have HB2 := Lib.hid (below_step HB1.out hb2)
   have C3 := Lib.hid (CA.out w2 (HT.out.stays HB2.out))
   clear hb2
   go_wp2_with fail
   with_reducible refine C3.out.mono ?_
   rintro e w3 ⟨rfl, hb3⟩
   have HB3 := Lib.hid (below_step HB2.out hb3)
   clear hb3
   go_wp2
   go_ret
   exact ⟨rfl, HB3.out⟩
end Go.Proofs.YtjpjpmkadoaipaaGreatDoor

/-
  Layer 5: the statement KeysSets as a walk over this translation.
-/
import Derived.Test.YteiflmdnakhekaaKwd
set_option linter.unusedVariables false
namespace Go.Proofs.Yteiflmdnakhekaa
open Go.RowKit
attribute [local go_sem] Oper.semAt_some

set_option maxRecDepth 100000 in
set_option maxHeartbeats 8000000 in
theorem KeysSets_walk (u : Value) (K : List ByteArray) (v : Value) (L : List ByteArray) (x : ByteArray) (hx : x.size ≤ maxLen) (w : World) (hu0 : IsStrs w u K) (hv0 : IsStrs w v L) :
    Calls Try.prog 3 #[u, v, .string x] w fun e w' => e = .returned (.bool true) ∧ Below w.heap.size w w' := by
  have CW := Lib.hid awake_any
  have hB : Below w.heap.size w w := Below.refl _ _
  obtain ⟨au, cu, rfl⟩ := hu0.shape
  obtain ⟨av, cv, rfl⟩ := hv0.shape
  have hu := Lib.hid hu0; have hv := Lib.hid hv0
  clear hu0 hv0 hx
  by_cases hf : fewB [K, L] = true
  · have hl := fewB_two hf
    have lK := Lib.hid (show (txts K).length ≤ 1000 by rw [txts_len]; omega)
    have lKL := Lib.hid (show (txts K).length + (txts L).length ≤ 10000 by rw [txts_len, txts_len]; omega)
    have hfew := Lib.hid hf
    clear hf hl
    cases hk : fitB (txts K) with
    | false =>
      have hfk := Lib.hid hk; clear hk
      go_enter Try.func3, Try.ntmps3
      go_wp2_with fail
      refine (few_two (hu.out.stays hB) (hv.out.stays hB) _ hfew.out).mono ?_
      rintro e w1 ⟨rfl, b1⟩
      replace hB := below_step hB b1; clear b1
      go_wp2_with fail
      refine (Fit_set (isSet_of (hu.out.stays hB)) false hfk.out).mono ?_
      rintro e w2 ⟨rfl, b2⟩
      replace hB := below_step hB b2; clear b2
      go_wp2_with fail
      refine (refFit_set (isSet_of (hu.out.stays hB)) false hfk.out).mono ?_
      rintro e w3 ⟨rfl, b3⟩
      replace hB := below_step hB b3; clear b3
      go_wp2_with fail
      refine (Of_set (isSet_of (hu.out.stays hB)) lK.out).mono ?_
      rintro e w4 ⟨v4, rfl, h4, b4⟩
      replace hB := below_step hB b4; clear b4
      go_wp2_with fail
      refine (refOf_set (isSet_of (hu.out.stays hB)) lK.out).mono ?_
      rintro e w5 ⟨v5, rfl, h5, b5⟩
      replace h4 := h4.stays b5
      replace hB := below_step hB b5; clear b5
      go_wp2_with fail
      refine (Same_set h4 h5 rfl).mono ?_
      rintro e w6 ⟨rfl, b6⟩
      clear h4
      clear h5
      replace hB := below_step hB b6; clear b6
      go_wp2_with fail
      refine (refFit_set (isSet_of (hu.out.stays hB)) false hfk.out).mono ?_
      rintro e w7 ⟨rfl, b7⟩
      replace hB := below_step hB b7; clear b7
      go_wp2_with fail
      refine (CW.out _).mono ?_
      rintro e w8 ⟨rfl, b8⟩
      replace hB := below_step hB b8; clear b8
      go_wp2_with fail
      go_ret
      exact ⟨rfl, hB⟩
    | true =>
      have hfk := Lib.hid hk; clear hk
      have rK := Lib.hid (fit_rises (of_fit hfk.out))
      cases hl : fitB (txts L) with
      | false =>
        have hfl := Lib.hid hl; clear hl
        go_enter Try.func3, Try.ntmps3
        go_wp2_with fail
        refine (few_two (hu.out.stays hB) (hv.out.stays hB) _ hfew.out).mono ?_
        rintro e w1 ⟨rfl, b1⟩
        replace hB := below_step hB b1; clear b1
        go_wp2_with fail
        refine (Fit_set (isSet_of (hu.out.stays hB)) true hfk.out).mono ?_
        rintro e w2 ⟨rfl, b2⟩
        replace hB := below_step hB b2; clear b2
        go_wp2_with fail
        refine (refFit_set (isSet_of (hu.out.stays hB)) true hfk.out).mono ?_
        rintro e w3 ⟨rfl, b3⟩
        replace hB := below_step hB b3; clear b3
        go_wp2_with fail
        refine (Of_set (isSet_of (hu.out.stays hB)) lK.out).mono ?_
        rintro e w4 ⟨v4, rfl, h4, b4⟩
        replace hB := below_step hB b4; clear b4
        go_wp2_with fail
        refine (refOf_set (isSet_of (hu.out.stays hB)) lK.out).mono ?_
        rintro e w5 ⟨v5, rfl, h5, b5⟩
        replace h4 := h4.stays b5
        replace hB := below_step hB b5; clear b5
        go_wp2_with fail
        refine (Same_set h4 h5 rfl).mono ?_
        rintro e w6 ⟨rfl, b6⟩
        clear h4
        clear h5
        replace hB := below_step hB b6; clear b6
        go_wp2_with fail
        refine (refFit_set (isSet_of (hu.out.stays hB)) true hfk.out).mono ?_
        rintro e w7 ⟨rfl, b7⟩
        replace hB := below_step hB b7; clear b7
        go_wp2_with fail
        refine (refFit_set (isSet_of (hv.out.stays hB)) false hfl.out).mono ?_
        rintro e w8 ⟨rfl, b8⟩
        replace hB := below_step hB b8; clear b8
        go_wp2_with fail
        refine (CW.out _).mono ?_
        rintro e w9 ⟨rfl, b9⟩
        replace hB := below_step hB b9; clear b9
        go_wp2_with fail
        go_ret
        exact ⟨rfl, hB⟩
      | true =>
        have hfl := Lib.hid hl; clear hl
        have rL := Lib.hid (fit_rises (of_fit hfl.out))
        go_enter Try.func3, Try.ntmps3
        go_wp2_with fail
        refine (few_two (hu.out.stays hB) (hv.out.stays hB) _ hfew.out).mono ?_
        rintro e w1 ⟨rfl, b1⟩
        replace hB := below_step hB b1; clear b1
        go_wp2_with fail
        refine (Fit_set (isSet_of (hu.out.stays hB)) true hfk.out).mono ?_
        rintro e w2 ⟨rfl, b2⟩
        replace hB := below_step hB b2; clear b2
        go_wp2_with fail
        refine (refFit_set (isSet_of (hu.out.stays hB)) true hfk.out).mono ?_
        rintro e w3 ⟨rfl, b3⟩
        replace hB := below_step hB b3; clear b3
        go_wp2_with fail
        refine (Of_set (isSet_of (hu.out.stays hB)) lK.out).mono ?_
        rintro e w4 ⟨v4, rfl, h4, b4⟩
        replace hB := below_step hB b4; clear b4
        go_wp2_with fail
        refine (refOf_set (isSet_of (hu.out.stays hB)) lK.out).mono ?_
        rintro e w5 ⟨v5, rfl, h5, b5⟩
        replace h4 := h4.stays b5
        replace hB := below_step hB b5; clear b5
        go_wp2_with fail
        refine (Same_set h4 h5 rfl).mono ?_
        rintro e w6 ⟨rfl, b6⟩
        clear h4
        clear h5
        replace hB := below_step hB b6; clear b6
        go_wp2_with fail
        refine (refFit_set (isSet_of (hu.out.stays hB)) true hfk.out).mono ?_
        rintro e w7 ⟨rfl, b7⟩
        replace hB := below_step hB b7; clear b7
        go_wp2_with fail
        refine (refFit_set (isSet_of (hv.out.stays hB)) true hfl.out).mono ?_
        rintro e w8 ⟨rfl, b8⟩
        replace hB := below_step hB b8; clear b8
        go_wp2_with fail
        refine (Has_set x (isSet_of (hu.out.stays hB)) rK.out (Nat.le_trans lK.out (by decide)) _ rfl).mono ?_
        rintro e w9 ⟨rfl, b9⟩
        replace hB := below_step hB b9; clear b9
        go_wp2_with fail
        refine (refHas_set x (isSet_of (hu.out.stays hB)) _ rfl).mono ?_
        rintro e w10 ⟨rfl, b10⟩
        replace hB := below_step hB b10; clear b10
        go_wp2_with fail
        refine (Join_set (isSet_of (hu.out.stays hB)) (isSet_of (hv.out.stays hB)) lKL.out).mono ?_
        rintro e w11 ⟨v11, rfl, h11, b11⟩
        replace hB := below_step hB b11; clear b11
        go_wp2_with fail
        refine (refJoin_set (isSet_of (hu.out.stays hB)) (isSet_of (hv.out.stays hB)) rK.out rL.out lKL.out).mono ?_
        rintro e w12 ⟨v12, rfl, h12, b12⟩
        replace h11 := h11.stays b12
        replace hB := below_step hB b12; clear b12
        go_wp2_with fail
        refine (Same_set h11 h12 rfl).mono ?_
        rintro e w13 ⟨rfl, b13⟩
        clear h11
        clear h12
        replace hB := below_step hB b13; clear b13
        go_wp2_with fail
        refine (Both_set (isSet_of (hu.out.stays hB)) (isSet_of (hv.out.stays hB)) lKL.out).mono ?_
        rintro e w14 ⟨v14, rfl, h14, b14⟩
        replace hB := below_step hB b14; clear b14
        go_wp2_with fail
        refine (refBoth_set (isSet_of (hu.out.stays hB)) (isSet_of (hv.out.stays hB)) rK.out rL.out lKL.out).mono ?_
        rintro e w15 ⟨v15, rfl, h15, b15⟩
        replace h14 := h14.stays b15
        replace hB := below_step hB b15; clear b15
        go_wp2_with fail
        refine (Same_set h14 h15 rfl).mono ?_
        rintro e w16 ⟨rfl, b16⟩
        clear h14
        clear h15
        replace hB := below_step hB b16; clear b16
        go_wp2_with fail
        refine (Less_set (isSet_of (hu.out.stays hB)) (isSet_of (hv.out.stays hB)) lKL.out).mono ?_
        rintro e w17 ⟨v17, rfl, h17, b17⟩
        replace hB := below_step hB b17; clear b17
        go_wp2_with fail
        refine (refLess_set (isSet_of (hu.out.stays hB)) (isSet_of (hv.out.stays hB)) rK.out rL.out lKL.out).mono ?_
        rintro e w18 ⟨v18, rfl, h18, b18⟩
        replace h17 := h17.stays b18
        replace hB := below_step hB b18; clear b18
        go_wp2_with fail
        refine (Same_set h17 h18 rfl).mono ?_
        rintro e w19 ⟨rfl, b19⟩
        clear h17
        clear h18
        replace hB := below_step hB b19; clear b19
        go_wp2_with fail
        refine (CW.out _).mono ?_
        rintro e w20 ⟨rfl, b20⟩
        replace hB := below_step hB b20; clear b20
        go_wp2_with fail
        go_ret
        exact ⟨rfl, hB⟩
  · have hfew := Lib.hid (Bool.not_eq_true _ ▸ hf : fewB [K, L] = false)
    clear hf
    go_enter Try.func3, Try.ntmps3
    go_wp2_with fail
    refine (few_two (hu.out.stays hB) (hv.out.stays hB) _ hfew.out).mono ?_
    rintro e w1 ⟨rfl, b1⟩
    replace hB := below_step hB b1; clear b1
    go_wp2_with fail
    refine (few_two (hu.out.stays hB) (hv.out.stays hB) _ hfew.out).mono ?_
    rintro e w2 ⟨rfl, b2⟩
    replace hB := below_step hB b2; clear b2
    go_wp2_with fail
    refine (CW.out _).mono ?_
    rintro e w3 ⟨rfl, b3⟩
    replace hB := below_step hB b3; clear b3
    go_wp2_with fail
    go_ret
    exact ⟨rfl, hB⟩
end Go.Proofs.Yteiflmdnakhekaa

/-
  Layer 5: the statement KeysSwap as a walk over this translation.
-/
import Derived.Test.YteiflmdnakhekaaKwd
set_option linter.unusedVariables false
namespace Go.Proofs.Yteiflmdnakhekaa
open Go.RowKit
attribute [local go_sem] Oper.semAt_some

set_option maxRecDepth 100000 in
set_option maxHeartbeats 16000000 in
theorem KeysSwap_walk (u : Value) (K : List ByteArray) (v : Value) (L : List ByteArray) (z : Value) (N : List ByteArray) (w : World) (hu0 : IsStrs w u K) (hv0 : IsStrs w v L) (hz0 : IsStrs w z N) :
    Calls Try.prog 6 #[u, v, z] w fun e w' => e = .returned (.bool true) ∧ Below w.heap.size w w' := by
  have CW := Lib.hid awake_any
  have hB : Below w.heap.size w w := Below.refl _ _
  obtain ⟨au, cu, rfl⟩ := hu0.shape
  obtain ⟨av, cv, rfl⟩ := hv0.shape
  obtain ⟨az, cz, rfl⟩ := hz0.shape
  have hu := Lib.hid hu0; have hv := Lib.hid hv0; have hz := Lib.hid hz0
  clear hu0 hv0 hz0
  by_cases hf : fewB [K, L] = true
  · by_cases hg : fewB [N] = true
    · have hl := fewB_two hf
      have hn := fewB_one hg
      have lK := Lib.hid (show (txts K).length ≤ 1000 by rw [txts_len]; omega)
      have lL := Lib.hid (show (txts L).length ≤ 1000 by rw [txts_len]; omega)
      have lN := Lib.hid (show (txts N).length ≤ 1000 by rw [txts_len]; omega)
      have hfew := Lib.hid hf; have hfew1 := Lib.hid hg
      obtain ⟨A, hA⟩ : ∃ A, A = ofL (txts K) := ⟨_, rfl⟩
      obtain ⟨B, hBs⟩ : ∃ B, B = ofL (txts L) := ⟨_, rfl⟩
      obtain ⟨C, hC⟩ : ∃ C, C = ofL (txts N) := ⟨_, rfl⟩
      have rA := show Rises A by rw [hA]; exact (ofL_spec _).1
      have rB := show Rises B by rw [hBs]; exact (ofL_spec _).1
      have rC := show Rises C by rw [hC]; exact (ofL_spec _).1
      have lA : A.length ≤ 200 := by rw [hA]; have := ofL_len (txts K); rw [txts_len] at this; omega
      have lB : B.length ≤ 200 := by rw [hBs]; have := ofL_len (txts L); rw [txts_len] at this; omega
      have lC : C.length ≤ 200 := by rw [hC]; have := ofL_len (txts N); rw [txts_len] at this; omega
      have s1 := sift_len kOr A B; have s2 := sift_len kOr B C; have s3 := sift_len kLess A B; have s4 := sift_len kAnd A B
      have q1 := Lib.hid (or_comm' rA rB)
      have q2 := Lib.hid (and_comm' rA rB)
      have q3 := Lib.hid (or_assoc' rA rB rC)
      have q4 := Lib.hid (less_or rA rB rC)
      have q5 := Lib.hid (less_and rA rB)
      have x1 := Lib.hid (show A.length + B.length ≤ 10000 by omega)
      have x2 := Lib.hid (show B.length + A.length ≤ 10000 by omega)
      have x3 := Lib.hid (show (sift kOr A B).length + C.length ≤ 10000 by omega)
      have x4 := Lib.hid (show B.length + C.length ≤ 10000 by omega)
      have x5 := Lib.hid (show A.length + (sift kOr B C).length ≤ 10000 by omega)
      have x6 := Lib.hid (show (sift kLess A B).length + C.length ≤ 10000 by omega)
      have x7 := Lib.hid (show (sift kLess A B).length + (sift kAnd A B).length ≤ 10000 by omega)
      have eA := Lib.hid hA; have eB := Lib.hid hBs; have eC := Lib.hid hC
      clear hf hg hl hn hA hBs hC rA rB rC lA lB lC s1 s2 s3 s4
      go_enter Try.func6, Try.ntmps6
      go_wp2_with fail
      refine (few_two (hu.out.stays hB) (hv.out.stays hB) _ hfew.out).mono ?_
      rintro e w1 ⟨rfl, b1⟩
      replace hB := below_step hB b1; clear b1
      go_wp2_with fail
      refine (few_one (hz.out.stays hB) _ hfew1.out).mono ?_
      rintro e w2 ⟨rfl, b2⟩
      replace hB := below_step hB b2; clear b2
      go_wp2_with fail
      refine (Of_set (isSet_of (hu.out.stays hB)) lK.out).mono ?_
      rintro e w3 ⟨v3, rfl, h3, b3⟩
      replace hB := below_step hB b3; clear b3
      rw [← eA.out] at h3
      go_wp2_with fail
      refine (Of_set (isSet_of (hv.out.stays hB)) lL.out).mono ?_
      rintro e w4 ⟨v4, rfl, h4, b4⟩
      replace h3 := h3.stays b4
      replace hB := below_step hB b4; clear b4
      rw [← eB.out] at h4
      go_wp2_with fail
      refine (Of_set (isSet_of (hz.out.stays hB)) lN.out).mono ?_
      rintro e w5 ⟨v5, rfl, h5, b5⟩
      replace h3 := h3.stays b5
      replace h4 := h4.stays b5
      replace hB := below_step hB b5; clear b5
      rw [← eC.out] at h5
      go_wp2_with fail
      refine (Join_set h3 h4 x1.out).mono ?_
      rintro e w6 ⟨v6, rfl, h6, b6⟩
      replace h3 := h3.stays b6
      replace h4 := h4.stays b6
      replace h5 := h5.stays b6
      replace hB := below_step hB b6; clear b6
      go_wp2_with fail
      refine (Join_set h4 h3 x2.out).mono ?_
      rintro e w7 ⟨v7, rfl, h7, b7⟩
      replace h3 := h3.stays b7
      replace h4 := h4.stays b7
      replace h5 := h5.stays b7
      replace h6 := h6.stays b7
      replace hB := below_step hB b7; clear b7
      go_wp2_with fail
      refine (Same_set h6 h7 q1.out).mono ?_
      rintro e w8 ⟨rfl, b8⟩
      clear h6
      clear h7
      replace h3 := h3.stays b8
      replace h4 := h4.stays b8
      replace h5 := h5.stays b8
      replace hB := below_step hB b8; clear b8
      go_wp2_with fail
      refine (Both_set h3 h4 x1.out).mono ?_
      rintro e w9 ⟨v9, rfl, h9, b9⟩
      replace h3 := h3.stays b9
      replace h4 := h4.stays b9
      replace h5 := h5.stays b9
      replace hB := below_step hB b9; clear b9
      go_wp2_with fail
      refine (Both_set h4 h3 x2.out).mono ?_
      rintro e w10 ⟨v10, rfl, h10, b10⟩
      replace h3 := h3.stays b10
      replace h4 := h4.stays b10
      replace h5 := h5.stays b10
      replace h9 := h9.stays b10
      replace hB := below_step hB b10; clear b10
      go_wp2_with fail
      refine (Same_set h9 h10 q2.out).mono ?_
      rintro e w11 ⟨rfl, b11⟩
      clear h9
      clear h10
      replace h3 := h3.stays b11
      replace h4 := h4.stays b11
      replace h5 := h5.stays b11
      replace hB := below_step hB b11; clear b11
      go_wp2_with fail
      refine (Join_set h3 h4 x1.out).mono ?_
      rintro e w12 ⟨v12, rfl, h12, b12⟩
      replace h3 := h3.stays b12
      replace h4 := h4.stays b12
      replace h5 := h5.stays b12
      replace hB := below_step hB b12; clear b12
      go_wp2_with fail
      refine (Join_set h12 h5 x3.out).mono ?_
      rintro e w13 ⟨v13, rfl, h13, b13⟩
      clear h12
      replace h3 := h3.stays b13
      replace h4 := h4.stays b13
      replace h5 := h5.stays b13
      replace hB := below_step hB b13; clear b13
      go_wp2_with fail
      refine (Join_set h4 h5 x4.out).mono ?_
      rintro e w14 ⟨v14, rfl, h14, b14⟩
      replace h3 := h3.stays b14
      replace h4 := h4.stays b14
      replace h5 := h5.stays b14
      replace h13 := h13.stays b14
      replace hB := below_step hB b14; clear b14
      go_wp2_with fail
      refine (Join_set h3 h14 x5.out).mono ?_
      rintro e w15 ⟨v15, rfl, h15, b15⟩
      clear h14
      replace h3 := h3.stays b15
      replace h4 := h4.stays b15
      replace h5 := h5.stays b15
      replace h13 := h13.stays b15
      replace hB := below_step hB b15; clear b15
      go_wp2_with fail
      refine (Same_set h13 h15 q3.out).mono ?_
      rintro e w16 ⟨rfl, b16⟩
      clear h13
      clear h15
      replace h3 := h3.stays b16
      replace h4 := h4.stays b16
      replace h5 := h5.stays b16
      replace hB := below_step hB b16; clear b16
      go_wp2_with fail
      refine (Join_set h4 h5 x4.out).mono ?_
      rintro e w17 ⟨v17, rfl, h17, b17⟩
      replace h3 := h3.stays b17
      replace h4 := h4.stays b17
      replace h5 := h5.stays b17
      replace hB := below_step hB b17; clear b17
      go_wp2_with fail
      refine (Less_set h3 h17 x5.out).mono ?_
      rintro e w18 ⟨v18, rfl, h18, b18⟩
      clear h17
      replace h3 := h3.stays b18
      replace h4 := h4.stays b18
      replace h5 := h5.stays b18
      replace hB := below_step hB b18; clear b18
      go_wp2_with fail
      refine (Less_set h3 h4 x1.out).mono ?_
      rintro e w19 ⟨v19, rfl, h19, b19⟩
      replace h3 := h3.stays b19
      replace h4 := h4.stays b19
      replace h5 := h5.stays b19
      replace h18 := h18.stays b19
      replace hB := below_step hB b19; clear b19
      go_wp2_with fail
      refine (Less_set h19 h5 x6.out).mono ?_
      rintro e w20 ⟨v20, rfl, h20, b20⟩
      clear h19
      replace h3 := h3.stays b20
      replace h4 := h4.stays b20
      replace h5 := h5.stays b20
      replace h18 := h18.stays b20
      replace hB := below_step hB b20; clear b20
      go_wp2_with fail
      refine (Same_set h18 h20 q4.out).mono ?_
      rintro e w21 ⟨rfl, b21⟩
      clear h18
      clear h20
      replace h3 := h3.stays b21
      replace h4 := h4.stays b21
      replace h5 := h5.stays b21
      replace hB := below_step hB b21; clear b21
      go_wp2_with fail
      refine (Less_set h3 h4 x1.out).mono ?_
      rintro e w22 ⟨v22, rfl, h22, b22⟩
      replace h3 := h3.stays b22
      replace h4 := h4.stays b22
      replace h5 := h5.stays b22
      replace hB := below_step hB b22; clear b22
      go_wp2_with fail
      refine (Both_set h3 h4 x1.out).mono ?_
      rintro e w23 ⟨v23, rfl, h23, b23⟩
      replace h3 := h3.stays b23
      replace h4 := h4.stays b23
      replace h5 := h5.stays b23
      replace h22 := h22.stays b23
      replace hB := below_step hB b23; clear b23
      go_wp2_with fail
      refine (Join_set h22 h23 x7.out).mono ?_
      rintro e w24 ⟨v24, rfl, h24, b24⟩
      clear h22
      clear h23
      replace h3 := h3.stays b24
      replace h4 := h4.stays b24
      replace h5 := h5.stays b24
      replace hB := below_step hB b24; clear b24
      go_wp2_with fail
      refine (Same_set h24 h3 q5.out).mono ?_
      rintro e w25 ⟨rfl, b25⟩
      clear h24
      replace h3 := h3.stays b25
      replace h4 := h4.stays b25
      replace h5 := h5.stays b25
      replace hB := below_step hB b25; clear b25
      clear h3
      clear h4
      clear h5
      go_wp2_with fail
      refine (CW.out _).mono ?_
      rintro e w26 ⟨rfl, b26⟩
      replace hB := below_step hB b26; clear b26
      go_wp2_with fail
      go_ret
      exact ⟨rfl, hB⟩
    · have hfew := Lib.hid hf
      have hfew1 := Lib.hid (Bool.not_eq_true _ ▸ hg : fewB [N] = false)
      clear hf hg
      go_enter Try.func6, Try.ntmps6
      go_wp2_with fail
      refine (few_two (hu.out.stays hB) (hv.out.stays hB) _ hfew.out).mono ?_
      rintro e w1 ⟨rfl, b1⟩
      replace hB := below_step hB b1; clear b1
      go_wp2_with fail
      refine (few_one (hz.out.stays hB) _ hfew1.out).mono ?_
      rintro e w2 ⟨rfl, b2⟩
      replace hB := below_step hB b2; clear b2
      go_wp2_with fail
      refine (CW.out _).mono ?_
      rintro e w3 ⟨rfl, b3⟩
      replace hB := below_step hB b3; clear b3
      go_wp2_with fail
      go_ret
      exact ⟨rfl, hB⟩
  · have hfew := Lib.hid (Bool.not_eq_true _ ▸ hf : fewB [K, L] = false)
    clear hf
    go_enter Try.func6, Try.ntmps6
    go_wp2_with fail
    refine (few_two (hu.out.stays hB) (hv.out.stays hB) _ hfew.out).mono ?_
    rintro e w1 ⟨rfl, b1⟩
    replace hB := below_step hB b1; clear b1
    go_wp2_with fail
    refine (CW.out _).mono ?_
    rintro e w2 ⟨rfl, b2⟩
    replace hB := below_step hB b2; clear b2
    go_wp2_with fail
    go_ret
    exact ⟨rfl, hB⟩
end Go.Proofs.Yteiflmdnakhekaa

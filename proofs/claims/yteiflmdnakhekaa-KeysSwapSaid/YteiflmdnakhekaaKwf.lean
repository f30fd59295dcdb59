/-
  Layer 5: the statement KeysAsks as a walk over this translation.
-/
import Derived.Test.YteiflmdnakhekaaKwd
set_option linter.unusedVariables false
namespace Go.Proofs.Yteiflmdnakhekaa
open Go.RowKit
attribute [local go_sem] Oper.semAt_some

set_option maxRecDepth 100000 in
set_option maxHeartbeats 16000000 in
theorem KeysAsks_walk (u : Value) (K : List ByteArray) (v : Value) (L : List ByteArray) (x : ByteArray) (hx : x.size ≤ maxLen) (w : World) (hu0 : IsStrs w u K) (hv0 : IsStrs w v L) :
    Calls Try.prog 4 #[u, v, .string x] w fun e w' => e = .returned (.bool true) ∧ Below w.heap.size w w' := by
  have CW := Lib.hid awake_any
  have hB : Below w.heap.size w w := Below.refl _ _
  obtain ⟨au, cu, rfl⟩ := hu0.shape
  obtain ⟨av, cv, rfl⟩ := hv0.shape
  have hu := Lib.hid hu0; have hv := Lib.hid hv0
  clear hu0 hv0 hx
  by_cases hf : fewB [K, L] = true
  · have hl := fewB_two hf
    have lK := Lib.hid (show (txts K).length ≤ 1000 by rw [txts_len]; omega)
    have lL := Lib.hid (show (txts L).length ≤ 1000 by rw [txts_len]; omega)
    have hfew := Lib.hid hf
    have lk2 := Lib.hid hl.1; have ll2 := Lib.hid hl.2
    obtain ⟨A, hA⟩ : ∃ A, A = ofL (txts K) := ⟨_, rfl⟩
    obtain ⟨B, hBs⟩ : ∃ B, B = ofL (txts L) := ⟨_, rfl⟩
    have rA := Lib.hid (show Rises A by rw [hA]; exact (ofL_spec _).1)
    have rB := Lib.hid (show Rises B by rw [hBs]; exact (ofL_spec _).1)
    have fA := Lib.hid (show FitP A by rw [hA]; exact ofL_fit _)
    have fB := Lib.hid (show FitP B by rw [hBs]; exact ofL_fit _)
    have lA : A.length ≤ 200 := by rw [hA]; have := ofL_len (txts K); rw [txts_len] at this; omega
    have lB : B.length ≤ 200 := by rw [hBs]; have := ofL_len (txts L); rw [txts_len] at this; omega
    obtain ⟨J, hJ⟩ : ∃ J, J = sift kOr A B := ⟨_, rfl⟩
    obtain ⟨O, hO⟩ : ∃ O, O = sift kAnd A B := ⟨_, rfl⟩
    obtain ⟨S, hS⟩ : ∃ S, S = sift kLess A B := ⟨_, rfl⟩
    have nJ := Lib.hid (show J.length = S.length + B.length by rw [hJ, hS]; exact sift_or_len A B)
    have nA := Lib.hid (show A.length = S.length + O.length by rw [hO, hS]; exact sift_and_len A B)
    have rJ := Lib.hid (show Rises J by rw [hJ]; exact sift_rises rA.out rB.out)
    have rO := Lib.hid (show Rises O by rw [hO]; exact sift_rises rA.out rB.out)
    have rS := Lib.hid (show Rises S by rw [hS]; exact sift_rises rA.out rB.out)
    have fJ := Lib.hid (show fitB J = true by rw [hJ]; exact fitB_true (sift_fit fA.out fB.out))
    have fO := Lib.hid (show fitB O = true by rw [hO]; exact fitB_true (sift_fit fA.out fB.out))
    have fS := Lib.hid (show fitB S = true by rw [hS]; exact fitB_true (sift_fit fA.out fB.out))
    have fA2 := Lib.hid (fitB_true fA.out)
    have eJ := Lib.hid (show ofL (txts L ++ txts K) = J by rw [hJ, hA, hBs]; exact or_of _ _)
    obtain ⟨p, hp⟩ : ∃ p, hasB A x.data.toList = p := ⟨_, rfl⟩
    obtain ⟨q, hq⟩ : ∃ q, hasB B x.data.toList = q := ⟨_, rfl⟩
    have aJ := Lib.hid (show hasB J x.data.toList = (p || q) by rw [hJ, hasB_or rA.out rB.out, hp, hq])
    have aO := Lib.hid (show hasB O x.data.toList = (p && q) by rw [hO, hasB_and rA.out rB.out, hp, hq])
    have aS := Lib.hid (show hasB S x.data.toList = (p && !q) by rw [hS, hasB_less rA.out rB.out, hp, hq])
    have aA := Lib.hid hp; have aB := Lib.hid hq
    have lJ := Lib.hid (show J.length ≤ 10000 by rw [hJ]; have := sift_len kOr A B; omega)
    have lO := Lib.hid (show O.length ≤ 10000 by rw [hO]; have := sift_len kAnd A B; omega)
    have lS := Lib.hid (show S.length ≤ 10000 by rw [hS]; have := sift_len kLess A B; omega)
    have lA2 := Lib.hid (show A.length ≤ 10000 by omega)
    have lB2 := Lib.hid (show B.length ≤ 10000 by omega)
    have lAB := Lib.hid (show A.length + B.length ≤ 10000 by omega)
    have eA := Lib.hid hA; have eB := Lib.hid hBs; have eJ2 := Lib.hid hJ; have eO2 := Lib.hid hO; have eS2 := Lib.hid hS
    clear hf hl hA hBs hJ hO hS lA lB hp hq
    cases p <;> cases q
    · go_enter Try.func4, Try.ntmps4
      go_wp2_with fail
      refine (few_two (hu.out.stays hB) (hv.out.stays hB) _ hfew.out).mono ?_
      rintro e w1 ⟨rfl, b1⟩
      replace hB := below_step hB b1; clear b1
      go_wp2_with fail
      refine (Of_set (isSet_of (hu.out.stays hB)) lK.out).mono ?_
      rintro e w2 ⟨v2, rfl, h2, b2⟩
      replace hB := below_step hB b2; clear b2
      rw [← eA.out] at h2
      go_wp2_with fail
      refine (Of_set (isSet_of (hv.out.stays hB)) lL.out).mono ?_
      rintro e w3 ⟨v3, rfl, h3, b3⟩
      replace h2 := h2.stays b3
      replace hB := below_step hB b3; clear b3
      rw [← eB.out] at h3
      go_wp2_with fail
      refine (Has_set x h2 rA.out lA2.out _ aA.out).mono ?_
      rintro e w4 ⟨rfl, b4⟩
      replace h2 := h2.stays b4
      replace h3 := h3.stays b4
      replace hB := below_step hB b4; clear b4
      go_wp2_with fail
      refine (Has_set x h3 rB.out lB2.out _ aB.out).mono ?_
      rintro e w5 ⟨rfl, b5⟩
      replace h2 := h2.stays b5
      replace h3 := h3.stays b5
      replace hB := below_step hB b5; clear b5
      go_wp2_with fail
      refine (Join_set h2 h3 lAB.out).mono ?_
      rintro e w6 ⟨v6, rfl, h6, b6⟩
      replace h2 := h2.stays b6
      replace h3 := h3.stays b6
      replace hB := below_step hB b6; clear b6
      rw [← eJ2.out] at h6
      go_wp2_with fail
      refine (Both_set h2 h3 lAB.out).mono ?_
      rintro e w7 ⟨v7, rfl, h7, b7⟩
      replace h2 := h2.stays b7
      replace h3 := h3.stays b7
      replace h6 := h6.stays b7
      replace hB := below_step hB b7; clear b7
      rw [← eO2.out] at h7
      go_wp2_with fail
      refine (Less_set h2 h3 lAB.out).mono ?_
      rintro e w8 ⟨v8, rfl, h8, b8⟩
      replace h2 := h2.stays b8
      replace h3 := h3.stays b8
      replace h6 := h6.stays b8
      replace h7 := h7.stays b8
      replace hB := below_step hB b8; clear b8
      rw [← eS2.out] at h8
      obtain ⟨ava, cva, rfl⟩ := h2.shape
      obtain ⟨avb, cvb, rfl⟩ := h3.shape
      obtain ⟨avj, cvj, rfl⟩ := h6.shape
      obtain ⟨avo, cvo, rfl⟩ := h7.shape
      obtain ⟨avs, cvs, rfl⟩ := h8.shape
      have n1 : ((S.length : Nat) : Int) + ((B.length : Nat) : Int) = ((J.length : Nat) : Int) := by have := nJ.out; omega
      have n2 : ((S.length : Nat) : Int) + ((O.length : Nat) : Int) = ((A.length : Nat) : Int) := by have := nA.out; omega
      have N1 := Lib.hid n1; have N2 := Lib.hid n2
      have m1 : (((J.length : Nat) : Int) != ((S.length : Nat) : Int) + ((B.length : Nat) : Int)) = false := by rw [n1]; simp
      have m2 : (((A.length : Nat) : Int) != ((S.length : Nat) : Int) + ((O.length : Nat) : Int)) = false := by rw [n2]; simp
      have k1 := lJ.out; have k2 := lO.out; have k3 := lS.out; have k4 := lA2.out; have k5 := lB2.out
      clear n1 n2
      go_wp2_with fail
      refine (refFit_set h2 _ fA2.out).mono ?_
      rintro e w9 ⟨rfl, b9⟩
      replace h2 := h2.stays b9
      replace h3 := h3.stays b9
      replace h6 := h6.stays b9
      replace h7 := h7.stays b9
      replace h8 := h8.stays b9
      replace hB := below_step hB b9; clear b9
      go_wp2_with fail
      refine (refFit_set h6 _ fJ.out).mono ?_
      rintro e w10 ⟨rfl, b10⟩
      replace h2 := h2.stays b10
      replace h3 := h3.stays b10
      replace h6 := h6.stays b10
      replace h7 := h7.stays b10
      replace h8 := h8.stays b10
      replace hB := below_step hB b10; clear b10
      go_wp2_with fail
      refine (refFit_set h7 _ fO.out).mono ?_
      rintro e w11 ⟨rfl, b11⟩
      replace h2 := h2.stays b11
      replace h3 := h3.stays b11
      replace h6 := h6.stays b11
      replace h7 := h7.stays b11
      replace h8 := h8.stays b11
      replace hB := below_step hB b11; clear b11
      go_wp2_with fail
      refine (refFit_set h8 _ fS.out).mono ?_
      rintro e w12 ⟨rfl, b12⟩
      replace h2 := h2.stays b12
      replace h3 := h3.stays b12
      replace h6 := h6.stays b12
      replace h7 := h7.stays b12
      replace h8 := h8.stays b12
      replace hB := below_step hB b12; clear b12
      go_wp2_with fail
      refine (Has_set x h6 rJ.out lJ.out _ aJ.out).mono ?_
      rintro e w13 ⟨rfl, b13⟩
      replace h2 := h2.stays b13
      replace h3 := h3.stays b13
      replace h6 := h6.stays b13
      replace h7 := h7.stays b13
      replace h8 := h8.stays b13
      replace hB := below_step hB b13; clear b13
      go_wp2_with fail
      refine (Has_set x h7 rO.out lO.out _ aO.out).mono ?_
      rintro e w14 ⟨rfl, b14⟩
      replace h2 := h2.stays b14
      replace h3 := h3.stays b14
      replace h6 := h6.stays b14
      replace h7 := h7.stays b14
      replace h8 := h8.stays b14
      replace hB := below_step hB b14; clear b14
      go_wp2_with fail
      refine (Has_set x h8 rS.out lS.out _ aS.out).mono ?_
      rintro e w15 ⟨rfl, b15⟩
      replace h2 := h2.stays b15
      replace h3 := h3.stays b15
      replace h6 := h6.stays b15
      replace h7 := h7.stays b15
      replace h8 := h8.stays b15
      replace hB := below_step hB b15; clear b15
      clear h2
      clear h3
      clear h7
      clear h8
      go_wp2_with (at_builtin; refine wpList_append_all (W := w15) rfl _ _ rfl (M := []) (World.ownsRow_made w15 #[] 0 (Nat.le_refl _) (by decide) rfl) ((Below.refl _ _).alloc (Nat.le_refl _) _) (IsStrs.stays (hv.out.stays hB) ((Below.refl _ _).alloc (Nat.le_refl _) (.cells #[] 9))) rfl rfl (by have := ll2.out; simp; omega) ?_)
      intro va1 wa1 ha1 ba1
      have HA1 := Lib.hid ha1; clear ha1
      go_wp2_with (at_builtin; refine wpList_append_all rfl _ _ rfl HA1.out ba1 (IsStrs.stays (hu.out.stays hB) ba1) rfl rfl (by have := lk2.out; have := ll2.out; rw [txts_len]; omega) ?_)
      intro va2 wa2 ha2 ba2
      have hs2 := isSet_of ha2.strs
      rw [txts_strsOf] at hs2
      clear ha2 HA1 ba1
      replace h6 := h6.stays ba2
      replace hB := below_step hB ba2; clear ba2
      go_wp2_with fail
      refine (Of_set hs2 (by have := lK.out; have := lL.out; have := lk2.out; have := ll2.out; rw [List.length_append, txts_len, txts_len]; omega)).mono ?_
      rintro e w16 ⟨v16, rfl, h16, b16⟩
      clear hs2
      replace h6 := h6.stays b16
      replace hB := below_step hB b16; clear b16
      go_wp2_with fail
      refine (Same_set h16 h6 eJ.out).mono ?_
      rintro e w17 ⟨rfl, b17⟩
      clear h16
      clear h6
      replace hB := below_step hB b17; clear b17
      go_wp2_with fail
      refine (CW.out _).mono ?_
      rintro e w18 ⟨rfl, b18⟩
      replace hB := below_step hB b18; clear b18
      go_wp2_with fail
      go_ret
      exact ⟨rfl, hB⟩
    · go_enter Try.func4, Try.ntmps4
      go_wp2_with fail
      refine (few_two (hu.out.stays hB) (hv.out.stays hB) _ hfew.out).mono ?_
      rintro e w1 ⟨rfl, b1⟩
      replace hB := below_step hB b1; clear b1
      go_wp2_with fail
      refine (Of_set (isSet_of (hu.out.stays hB)) lK.out).mono ?_
      rintro e w2 ⟨v2, rfl, h2, b2⟩
      replace hB := below_step hB b2; clear b2
      rw [← eA.out] at h2
      go_wp2_with fail
      refine (Of_set (isSet_of (hv.out.stays hB)) lL.out).mono ?_
      rintro e w3 ⟨v3, rfl, h3, b3⟩
      replace h2 := h2.stays b3
      replace hB := below_step hB b3; clear b3
      rw [← eB.out] at h3
      go_wp2_with fail
      refine (Has_set x h2 rA.out lA2.out _ aA.out).mono ?_
      rintro e w4 ⟨rfl, b4⟩
      replace h2 := h2.stays b4
      replace h3 := h3.stays b4
      replace hB := below_step hB b4; clear b4
      go_wp2_with fail
      refine (Has_set x h3 rB.out lB2.out _ aB.out).mono ?_
      rintro e w5 ⟨rfl, b5⟩
      replace h2 := h2.stays b5
      replace h3 := h3.stays b5
      replace hB := below_step hB b5; clear b5
      go_wp2_with fail
      refine (Join_set h2 h3 lAB.out).mono ?_
      rintro e w6 ⟨v6, rfl, h6, b6⟩
      replace h2 := h2.stays b6
      replace h3 := h3.stays b6
      replace hB := below_step hB b6; clear b6
      rw [← eJ2.out] at h6
      go_wp2_with fail
      refine (Both_set h2 h3 lAB.out).mono ?_
      rintro e w7 ⟨v7, rfl, h7, b7⟩
      replace h2 := h2.stays b7
      replace h3 := h3.stays b7
      replace h6 := h6.stays b7
      replace hB := below_step hB b7; clear b7
      rw [← eO2.out] at h7
      go_wp2_with fail
      refine (Less_set h2 h3 lAB.out).mono ?_
      rintro e w8 ⟨v8, rfl, h8, b8⟩
      replace h2 := h2.stays b8
      replace h3 := h3.stays b8
      replace h6 := h6.stays b8
      replace h7 := h7.stays b8
      replace hB := below_step hB b8; clear b8
      rw [← eS2.out] at h8
      obtain ⟨ava, cva, rfl⟩ := h2.shape
      obtain ⟨avb, cvb, rfl⟩ := h3.shape
      obtain ⟨avj, cvj, rfl⟩ := h6.shape
      obtain ⟨avo, cvo, rfl⟩ := h7.shape
      obtain ⟨avs, cvs, rfl⟩ := h8.shape
      have n1 : ((S.length : Nat) : Int) + ((B.length : Nat) : Int) = ((J.length : Nat) : Int) := by have := nJ.out; omega
      have n2 : ((S.length : Nat) : Int) + ((O.length : Nat) : Int) = ((A.length : Nat) : Int) := by have := nA.out; omega
      have N1 := Lib.hid n1; have N2 := Lib.hid n2
      have m1 : (((J.length : Nat) : Int) != ((S.length : Nat) : Int) + ((B.length : Nat) : Int)) = false := by rw [n1]; simp
      have m2 : (((A.length : Nat) : Int) != ((S.length : Nat) : Int) + ((O.length : Nat) : Int)) = false := by rw [n2]; simp
      have k1 := lJ.out; have k2 := lO.out; have k3 := lS.out; have k4 := lA2.out; have k5 := lB2.out
      clear n1 n2
      go_wp2_with fail
      refine (refFit_set h2 _ fA2.out).mono ?_
      rintro e w9 ⟨rfl, b9⟩
      replace h2 := h2.stays b9
      replace h3 := h3.stays b9
      replace h6 := h6.stays b9
      replace h7 := h7.stays b9
      replace h8 := h8.stays b9
      replace hB := below_step hB b9; clear b9
      go_wp2_with fail
      refine (refFit_set h6 _ fJ.out).mono ?_
      rintro e w10 ⟨rfl, b10⟩
      replace h2 := h2.stays b10
      replace h3 := h3.stays b10
      replace h6 := h6.stays b10
      replace h7 := h7.stays b10
      replace h8 := h8.stays b10
      replace hB := below_step hB b10; clear b10
      go_wp2_with fail
      refine (refFit_set h7 _ fO.out).mono ?_
      rintro e w11 ⟨rfl, b11⟩
      replace h2 := h2.stays b11
      replace h3 := h3.stays b11
      replace h6 := h6.stays b11
      replace h7 := h7.stays b11
      replace h8 := h8.stays b11
      replace hB := below_step hB b11; clear b11
      go_wp2_with fail
      refine (refFit_set h8 _ fS.out).mono ?_
      rintro e w12 ⟨rfl, b12⟩
      replace h2 := h2.stays b12
      replace h3 := h3.stays b12
      replace h6 := h6.stays b12
      replace h7 := h7.stays b12
      replace h8 := h8.stays b12
      replace hB := below_step hB b12; clear b12
      go_wp2_with fail
      refine (Has_set x h6 rJ.out lJ.out _ aJ.out).mono ?_
      rintro e w13 ⟨rfl, b13⟩
      replace h2 := h2.stays b13
      replace h3 := h3.stays b13
      replace h6 := h6.stays b13
      replace h7 := h7.stays b13
      replace h8 := h8.stays b13
      replace hB := below_step hB b13; clear b13
      go_wp2_with fail
      refine (Has_set x h7 rO.out lO.out _ aO.out).mono ?_
      rintro e w14 ⟨rfl, b14⟩
      replace h2 := h2.stays b14
      replace h3 := h3.stays b14
      replace h6 := h6.stays b14
      replace h7 := h7.stays b14
      replace h8 := h8.stays b14
      replace hB := below_step hB b14; clear b14
      go_wp2_with fail
      refine (Has_set x h8 rS.out lS.out _ aS.out).mono ?_
      rintro e w15 ⟨rfl, b15⟩
      replace h2 := h2.stays b15
      replace h3 := h3.stays b15
      replace h6 := h6.stays b15
      replace h7 := h7.stays b15
      replace h8 := h8.stays b15
      replace hB := below_step hB b15; clear b15
      clear h2
      clear h3
      clear h7
      clear h8
      go_wp2_with (at_builtin; refine wpList_append_all (W := w15) rfl _ _ rfl (M := []) (World.ownsRow_made w15 #[] 0 (Nat.le_refl _) (by decide) rfl) ((Below.refl _ _).alloc (Nat.le_refl _) _) (IsStrs.stays (hv.out.stays hB) ((Below.refl _ _).alloc (Nat.le_refl _) (.cells #[] 9))) rfl rfl (by have := ll2.out; simp; omega) ?_)
      intro va1 wa1 ha1 ba1
      have HA1 := Lib.hid ha1; clear ha1
      go_wp2_with (at_builtin; refine wpList_append_all rfl _ _ rfl HA1.out ba1 (IsStrs.stays (hu.out.stays hB) ba1) rfl rfl (by have := lk2.out; have := ll2.out; rw [txts_len]; omega) ?_)
      intro va2 wa2 ha2 ba2
      have hs2 := isSet_of ha2.strs
      rw [txts_strsOf] at hs2
      clear ha2 HA1 ba1
      replace h6 := h6.stays ba2
      replace hB := below_step hB ba2; clear ba2
      go_wp2_with fail
      refine (Of_set hs2 (by have := lK.out; have := lL.out; have := lk2.out; have := ll2.out; rw [List.length_append, txts_len, txts_len]; omega)).mono ?_
      rintro e w16 ⟨v16, rfl, h16, b16⟩
      clear hs2
      replace h6 := h6.stays b16
      replace hB := below_step hB b16; clear b16
      go_wp2_with fail
      refine (Same_set h16 h6 eJ.out).mono ?_
      rintro e w17 ⟨rfl, b17⟩
      clear h16
      clear h6
      replace hB := below_step hB b17; clear b17
      go_wp2_with fail
      refine (CW.out _).mono ?_
      rintro e w18 ⟨rfl, b18⟩
      replace hB := below_step hB b18; clear b18
      go_wp2_with fail
      go_ret
      exact ⟨rfl, hB⟩
    · go_enter Try.func4, Try.ntmps4
      go_wp2_with fail
      refine (few_two (hu.out.stays hB) (hv.out.stays hB) _ hfew.out).mono ?_
      rintro e w1 ⟨rfl, b1⟩
      replace hB := below_step hB b1; clear b1
      go_wp2_with fail
      refine (Of_set (isSet_of (hu.out.stays hB)) lK.out).mono ?_
      rintro e w2 ⟨v2, rfl, h2, b2⟩
      replace hB := below_step hB b2; clear b2
      rw [← eA.out] at h2
      go_wp2_with fail
      refine (Of_set (isSet_of (hv.out.stays hB)) lL.out).mono ?_
      rintro e w3 ⟨v3, rfl, h3, b3⟩
      replace h2 := h2.stays b3
      replace hB := below_step hB b3; clear b3
      rw [← eB.out] at h3
      go_wp2_with fail
      refine (Has_set x h2 rA.out lA2.out _ aA.out).mono ?_
      rintro e w4 ⟨rfl, b4⟩
      replace h2 := h2.stays b4
      replace h3 := h3.stays b4
      replace hB := below_step hB b4; clear b4
      go_wp2_with fail
      refine (Has_set x h3 rB.out lB2.out _ aB.out).mono ?_
      rintro e w5 ⟨rfl, b5⟩
      replace h2 := h2.stays b5
      replace h3 := h3.stays b5
      replace hB := below_step hB b5; clear b5
      go_wp2_with fail
      refine (Join_set h2 h3 lAB.out).mono ?_
      rintro e w6 ⟨v6, rfl, h6, b6⟩
      replace h2 := h2.stays b6
      replace h3 := h3.stays b6
      replace hB := below_step hB b6; clear b6
      rw [← eJ2.out] at h6
      go_wp2_with fail
      refine (Both_set h2 h3 lAB.out).mono ?_
      rintro e w7 ⟨v7, rfl, h7, b7⟩
      replace h2 := h2.stays b7
      replace h3 := h3.stays b7
      replace h6 := h6.stays b7
      replace hB := below_step hB b7; clear b7
      rw [← eO2.out] at h7
      go_wp2_with fail
      refine (Less_set h2 h3 lAB.out).mono ?_
      rintro e w8 ⟨v8, rfl, h8, b8⟩
      replace h2 := h2.stays b8
      replace h3 := h3.stays b8
      replace h6 := h6.stays b8
      replace h7 := h7.stays b8
      replace hB := below_step hB b8; clear b8
      rw [← eS2.out] at h8
      obtain ⟨ava, cva, rfl⟩ := h2.shape
      obtain ⟨avb, cvb, rfl⟩ := h3.shape
      obtain ⟨avj, cvj, rfl⟩ := h6.shape
      obtain ⟨avo, cvo, rfl⟩ := h7.shape
      obtain ⟨avs, cvs, rfl⟩ := h8.shape
      have n1 : ((S.length : Nat) : Int) + ((B.length : Nat) : Int) = ((J.length : Nat) : Int) := by have := nJ.out; omega
      have n2 : ((S.length : Nat) : Int) + ((O.length : Nat) : Int) = ((A.length : Nat) : Int) := by have := nA.out; omega
      have N1 := Lib.hid n1; have N2 := Lib.hid n2
      have m1 : (((J.length : Nat) : Int) != ((S.length : Nat) : Int) + ((B.length : Nat) : Int)) = false := by rw [n1]; simp
      have m2 : (((A.length : Nat) : Int) != ((S.length : Nat) : Int) + ((O.length : Nat) : Int)) = false := by rw [n2]; simp
      have k1 := lJ.out; have k2 := lO.out; have k3 := lS.out; have k4 := lA2.out; have k5 := lB2.out
      clear n1 n2
      go_wp2_with fail
      refine (refFit_set h2 _ fA2.out).mono ?_
      rintro e w9 ⟨rfl, b9⟩
      replace h2 := h2.stays b9
      replace h3 := h3.stays b9
      replace h6 := h6.stays b9
      replace h7 := h7.stays b9
      replace h8 := h8.stays b9
      replace hB := below_step hB b9; clear b9
      go_wp2_with fail
      refine (refFit_set h6 _ fJ.out).mono ?_
      rintro e w10 ⟨rfl, b10⟩
      replace h2 := h2.stays b10
      replace h3 := h3.stays b10
      replace h6 := h6.stays b10
      replace h7 := h7.stays b10
      replace h8 := h8.stays b10
      replace hB := below_step hB b10; clear b10
      go_wp2_with fail
      refine (refFit_set h7 _ fO.out).mono ?_
      rintro e w11 ⟨rfl, b11⟩
      replace h2 := h2.stays b11
      replace h3 := h3.stays b11
      replace h6 := h6.stays b11
      replace h7 := h7.stays b11
      replace h8 := h8.stays b11
      replace hB := below_step hB b11; clear b11
      go_wp2_with fail
      refine (refFit_set h8 _ fS.out).mono ?_
      rintro e w12 ⟨rfl, b12⟩
      replace h2 := h2.stays b12
      replace h3 := h3.stays b12
      replace h6 := h6.stays b12
      replace h7 := h7.stays b12
      replace h8 := h8.stays b12
      replace hB := below_step hB b12; clear b12
      go_wp2_with fail
      refine (Has_set x h6 rJ.out lJ.out _ aJ.out).mono ?_
      rintro e w13 ⟨rfl, b13⟩
      replace h2 := h2.stays b13
      replace h3 := h3.stays b13
      replace h6 := h6.stays b13
      replace h7 := h7.stays b13
      replace h8 := h8.stays b13
      replace hB := below_step hB b13; clear b13
      go_wp2_with fail
      refine (Has_set x h7 rO.out lO.out _ aO.out).mono ?_
      rintro e w14 ⟨rfl, b14⟩
      replace h2 := h2.stays b14
      replace h3 := h3.stays b14
      replace h6 := h6.stays b14
      replace h7 := h7.stays b14
      replace h8 := h8.stays b14
      replace hB := below_step hB b14; clear b14
      go_wp2_with fail
      refine (Has_set x h8 rS.out lS.out _ aS.out).mono ?_
      rintro e w15 ⟨rfl, b15⟩
      replace h2 := h2.stays b15
      replace h3 := h3.stays b15
      replace h6 := h6.stays b15
      replace h7 := h7.stays b15
      replace h8 := h8.stays b15
      replace hB := below_step hB b15; clear b15
      clear h2
      clear h3
      clear h7
      clear h8
      go_wp2_with (at_builtin; refine wpList_append_all (W := w15) rfl _ _ rfl (M := []) (World.ownsRow_made w15 #[] 0 (Nat.le_refl _) (by decide) rfl) ((Below.refl _ _).alloc (Nat.le_refl _) _) (IsStrs.stays (hv.out.stays hB) ((Below.refl _ _).alloc (Nat.le_refl _) (.cells #[] 9))) rfl rfl (by have := ll2.out; simp; omega) ?_)
      intro va1 wa1 ha1 ba1
      have HA1 := Lib.hid ha1; clear ha1
      go_wp2_with (at_builtin; refine wpList_append_all rfl _ _ rfl HA1.out ba1 (IsStrs.stays (hu.out.stays hB) ba1) rfl rfl (by have := lk2.out; have := ll2.out; rw [txts_len]; omega) ?_)
      intro va2 wa2 ha2 ba2
      have hs2 := isSet_of ha2.strs
      rw [txts_strsOf] at hs2
      clear ha2 HA1 ba1
      replace h6 := h6.stays ba2
      replace hB := below_step hB ba2; clear ba2
      go_wp2_with fail
      refine (Of_set hs2 (by have := lK.out; have := lL.out; have := lk2.out; have := ll2.out; rw [List.length_append, txts_len, txts_len]; omega)).mono ?_
      rintro e w16 ⟨v16, rfl, h16, b16⟩
      clear hs2
      replace h6 := h6.stays b16
      replace hB := below_step hB b16; clear b16
      go_wp2_with fail
      refine (Same_set h16 h6 eJ.out).mono ?_
      rintro e w17 ⟨rfl, b17⟩
      clear h16
      clear h6
      replace hB := below_step hB b17; clear b17
      go_wp2_with fail
      refine (CW.out _).mono ?_
      rintro e w18 ⟨rfl, b18⟩
      replace hB := below_step hB b18; clear b18
      go_wp2_with fail
      go_ret
      exact ⟨rfl, hB⟩
    · go_enter Try.func4, Try.ntmps4
      go_wp2_with fail
      refine (few_two (hu.out.stays hB) (hv.out.stays hB) _ hfew.out).mono ?_
      rintro e w1 ⟨rfl, b1⟩
      replace hB := below_step hB b1; clear b1
      go_wp2_with fail
      refine (Of_set (isSet_of (hu.out.stays hB)) lK.out).mono ?_
      rintro e w2 ⟨v2, rfl, h2, b2⟩
      replace hB := below_step hB b2; clear b2
      rw [← eA.out] at h2
      go_wp2_with fail
      refine (Of_set (isSet_of (hv.out.stays hB)) lL.out).mono ?_
      rintro e w3 ⟨v3, rfl, h3, b3⟩
      replace h2 := h2.stays b3
      replace hB := below_step hB b3; clear b3
      rw [← eB.out] at h3
      go_wp2_with fail
      refine (Has_set x h2 rA.out lA2.out _ aA.out).mono ?_
      rintro e w4 ⟨rfl, b4⟩
      replace h2 := h2.stays b4
      replace h3 := h3.stays b4
      replace hB := below_step hB b4; clear b4
      go_wp2_with fail
      refine (Has_set x h3 rB.out lB2.out _ aB.out).mono ?_
      rintro e w5 ⟨rfl, b5⟩
      replace h2 := h2.stays b5
      replace h3 := h3.stays b5
      replace hB := below_step hB b5; clear b5
      go_wp2_with fail
      refine (Join_set h2 h3 lAB.out).mono ?_
      rintro e w6 ⟨v6, rfl, h6, b6⟩
      replace h2 := h2.stays b6
      replace h3 := h3.stays b6
      replace hB := below_step hB b6; clear b6
      rw [← eJ2.out] at h6
      go_wp2_with fail
      refine (Both_set h2 h3 lAB.out).mono ?_
      rintro e w7 ⟨v7, rfl, h7, b7⟩
      replace h2 := h2.stays b7
      replace h3 := h3.stays b7
      replace h6 := h6.stays b7
      replace hB := below_step hB b7; clear b7
      rw [← eO2.out] at h7
      go_wp2_with fail
      refine (Less_set h2 h3 lAB.out).mono ?_
      rintro e w8 ⟨v8, rfl, h8, b8⟩
      replace h2 := h2.stays b8
      replace h3 := h3.stays b8
      replace h6 := h6.stays b8
      replace h7 := h7.stays b8
      replace hB := below_step hB b8; clear b8
      rw [← eS2.out] at h8
      obtain ⟨ava, cva, rfl⟩ := h2.shape
      obtain ⟨avb, cvb, rfl⟩ := h3.shape
      obtain ⟨avj, cvj, rfl⟩ := h6.shape
      obtain ⟨avo, cvo, rfl⟩ := h7.shape
      obtain ⟨avs, cvs, rfl⟩ := h8.shape
      have n1 : ((S.length : Nat) : Int) + ((B.length : Nat) : Int) = ((J.length : Nat) : Int) := by have := nJ.out; omega
      have n2 : ((S.length : Nat) : Int) + ((O.length : Nat) : Int) = ((A.length : Nat) : Int) := by have := nA.out; omega
      have N1 := Lib.hid n1; have N2 := Lib.hid n2
      have m1 : (((J.length : Nat) : Int) != ((S.length : Nat) : Int) + ((B.length : Nat) : Int)) = false := by rw [n1]; simp
      have m2 : (((A.length : Nat) : Int) != ((S.length : Nat) : Int) + ((O.length : Nat) : Int)) = false := by rw [n2]; simp
      have k1 := lJ.out; have k2 := lO.out; have k3 := lS.out; have k4 := lA2.out; have k5 := lB2.out
      clear n1 n2
      go_wp2_with fail
      refine (refFit_set h2 _ fA2.out).mono ?_
      rintro e w9 ⟨rfl, b9⟩
      replace h2 := h2.stays b9
      replace h3 := h3.stays b9
      replace h6 := h6.stays b9
      replace h7 := h7.stays b9
      replace h8 := h8.stays b9
      replace hB := below_step hB b9; clear b9
      go_wp2_with fail
      refine (refFit_set h6 _ fJ.out).mono ?_
      rintro e w10 ⟨rfl, b10⟩
      replace h2 := h2.stays b10
      replace h3 := h3.stays b10
      replace h6 := h6.stays b10
      replace h7 := h7.stays b10
      replace h8 := h8.stays b10
      replace hB := below_step hB b10; clear b10
      go_wp2_with fail
      refine (refFit_set h7 _ fO.out).mono ?_
      rintro e w11 ⟨rfl, b11⟩
      replace h2 := h2.stays b11
      replace h3 := h3.stays b11
      replace h6 := h6.stays b11
      replace h7 := h7.stays b11
      replace h8 := h8.stays b11
      replace hB := below_step hB b11; clear b11
      go_wp2_with fail
      refine (refFit_set h8 _ fS.out).mono ?_
      rintro e w12 ⟨rfl, b12⟩
      replace h2 := h2.stays b12
      replace h3 := h3.stays b12
      replace h6 := h6.stays b12
      replace h7 := h7.stays b12
      replace h8 := h8.stays b12
      replace hB := below_step hB b12; clear b12
      go_wp2_with fail
      refine (Has_set x h6 rJ.out lJ.out _ aJ.out).mono ?_
      rintro e w13 ⟨rfl, b13⟩
      replace h2 := h2.stays b13
      replace h3 := h3.stays b13
      replace h6 := h6.stays b13
      replace h7 := h7.stays b13
      replace h8 := h8.stays b13
      replace hB := below_step hB b13; clear b13
      go_wp2_with fail
      refine (Has_set x h7 rO.out lO.out _ aO.out).mono ?_
      rintro e w14 ⟨rfl, b14⟩
      replace h2 := h2.stays b14
      replace h3 := h3.stays b14
      replace h6 := h6.stays b14
      replace h7 := h7.stays b14
      replace h8 := h8.stays b14
      replace hB := below_step hB b14; clear b14
      go_wp2_with fail
      refine (Has_set x h8 rS.out lS.out _ aS.out).mono ?_
      rintro e w15 ⟨rfl, b15⟩
      replace h2 := h2.stays b15
      replace h3 := h3.stays b15
      replace h6 := h6.stays b15
      replace h7 := h7.stays b15
      replace h8 := h8.stays b15
      replace hB := below_step hB b15; clear b15
      clear h2
      clear h3
      clear h7
      clear h8
      go_wp2_with (at_builtin; refine wpList_append_all (W := w15) rfl _ _ rfl (M := []) (World.ownsRow_made w15 #[] 0 (Nat.le_refl _) (by decide) rfl) ((Below.refl _ _).alloc (Nat.le_refl _) _) (IsStrs.stays (hv.out.stays hB) ((Below.refl _ _).alloc (Nat.le_refl _) (.cells #[] 9))) rfl rfl (by have := ll2.out; simp; omega) ?_)
      intro va1 wa1 ha1 ba1
      have HA1 := Lib.hid ha1; clear ha1
      go_wp2_with (at_builtin; refine wpList_append_all rfl _ _ rfl HA1.out ba1 (IsStrs.stays (hu.out.stays hB) ba1) rfl rfl (by have := lk2.out; have := ll2.out; rw [txts_len]; omega) ?_)
      intro va2 wa2 ha2 ba2
      have hs2 := isSet_of ha2.strs
      rw [txts_strsOf] at hs2
      clear ha2 HA1 ba1
      replace h6 := h6.stays ba2
      replace hB := below_step hB ba2; clear ba2
      go_wp2_with fail
      refine (Of_set hs2 (by have := lK.out; have := lL.out; have := lk2.out; have := ll2.out; rw [List.length_append, txts_len, txts_len]; omega)).mono ?_
      rintro e w16 ⟨v16, rfl, h16, b16⟩
      clear hs2
      replace h6 := h6.stays b16
      replace hB := below_step hB b16; clear b16
      go_wp2_with fail
      refine (Same_set h16 h6 eJ.out).mono ?_
      rintro e w17 ⟨rfl, b17⟩
      clear h16
      clear h6
      replace hB := below_step hB b17; clear b17
      go_wp2_with fail
      refine (CW.out _).mono ?_
      rintro e w18 ⟨rfl, b18⟩
      replace hB := below_step hB b18; clear b18
      go_wp2_with fail
      go_ret
      exact ⟨rfl, hB⟩
  · have hfew := Lib.hid (Bool.not_eq_true _ ▸ hf : fewB [K, L] = false)
    clear hf
    go_enter Try.func4, Try.ntmps4
    go_wp2_with fail
    refine (few_two (hu.out.stays hB) (hv.out.stays hB) _ hfew.out).mono ?_
    rintro e w1 ⟨rfl, b1⟩
    replace hB := below_step hB b1; clear b1
    go_wp2_with fail
    refine (CW.out _).mono ?_
    rintro e w2 ⟨rfl, b2⟩
    replace hB := below_step hB b2; clear b2
    go_wp2_with fail
    go_ret
    exact ⟨rfl, hB⟩
end Go.Proofs.Yteiflmdnakhekaa

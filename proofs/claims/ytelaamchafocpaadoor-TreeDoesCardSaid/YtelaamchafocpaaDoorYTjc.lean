/-
  Layer 10: the statement TreeDoes as a walk over this translation.
-/
import Derived.Test.YtelaamchafocpaaDoorYTja
import Derived.Test.YtelaamchafocpaaDoorYTjk
import Derived.Test.YtelaamchafocpaaDoorYTig
set_option linter.unusedVariables false
namespace Go.Proofs.YtelaamchafocpaaDoor
open Go.RowKit Go.Shelf
attribute [local go_sem] Oper.semAt_some

set_option maxRecDepth 100000 in
set_option maxHeartbeats 8000000 in
theorem TreeDoes_walk (v1 : Value) (L : List It) (x : It) (s : ByteArray) (w : World) (h1 : IsItems w v1 L) :
    Calls Tryd.prog 4 #[v1, itV x, .string s] w fun e w' => e = .returned (.bool true) ∧ Below w.heap.size w w' := by
  have HL := Lib.hid h1
  clear h1
  go_enter Tryd.func4, Tryd.ntmps4
  have hb := (Below.refl w.heap.size w).alloc (Nat.le_refl _) (.cells #[.string x.p, .bool x.d, .bool x.e, .string x.c] 27)
  have HB1 := Lib.hid hb
  have HL1 := Lib.hid (HL.out.stays hb)
  have HX1 := Lib.hid (inBox_new w x 27)
  clear hb HL
  go_wp2_with fail
  generalize w.alloc (.cells #[.string x.p, .bool x.d, .bool x.e, .string x.c] 27) = w1 at HB1 HL1 HX1 ⊢
  generalize w.heap.size = B1 at HX1 ⊢
  refine (few_any v1 L w1 HL1.out).mono ?_
  rintro e w2 ⟨rfl, hb⟩
  have HB2 := Lib.hid (below_step HB1.out hb)
  have HL2 := Lib.hid (HL1.out.stays hb)
  have HX2 := Lib.hid (HX1.out.stays hb)
  clear hb HB1 HL1 HX1
  rcases hf : fewB L with _ | _
  · go_wp2_with fail
    refine (tawake_any w2).mono ?_
    rintro e w3 ⟨rfl, hb⟩
    have HB3 := Lib.hid (below_step HB2.out hb)
    have HL3 := Lib.hid (HL2.out.stays hb)
    have HX3 := Lib.hid (HX2.out.stays hb)
    clear hb HB2 HL2 HX2
    go_wp2
    go_ret
    exact ⟨rfl, HB3.out⟩
  · have HF := Lib.hid hf
    clear hf
    obtain ⟨a00, a01, a02, a03⟩ := HX2.out.cells
    have hb := (Below.refl w2.heap.size w2).alloc (Nat.le_refl _) (.cells #[.string x.p, .bool x.d, .bool x.e, .string x.c] 27)
    have HB3 := Lib.hid (below_step HB2.out hb)
    have HL3 := Lib.hid (HL2.out.stays hb)
    have HX3 := Lib.hid (HX2.out.stays hb)
    have HY3 := Lib.hid (items_one w2 x 27)
    clear hb HB2 HL2 HX2
    go_wp2_with fail
    clear a00 a01 a02 a03
    generalize w2.alloc (.cells #[.string x.p, .bool x.d, .bool x.e, .string x.c] 27) = w3 at HB3 HL3 HX3 HY3 ⊢
    generalize w2.heap.size = B3 at HY3 ⊢
    refine (few_any _ [x] w3 HY3.out).mono ?_
    rintro e w4 ⟨rfl, hb⟩
    have HB4 := Lib.hid (below_step HB3.out hb)
    have HL4 := Lib.hid (HL3.out.stays hb)
    have HX4 := Lib.hid (HX3.out.stays hb)
    have HY4 := Lib.hid (HY3.out.stays hb)
    clear hb HB3 HL3 HX3 HY3
    clear HY4
    rcases hf2 : fewB [x] with _ | _
    · go_wp2_with fail
      refine (tawake_any w4).mono ?_
      rintro e w5 ⟨rfl, hb⟩
      have HB5 := Lib.hid (below_step HB4.out hb)
      have HL5 := Lib.hid (HL4.out.stays hb)
      have HX5 := Lib.hid (HX4.out.stays hb)
      clear hb HB4 HL4 HX4
      go_wp2
      go_ret
      exact ⟨rfl, HB5.out⟩
    · have HF2 := Lib.hid (few_one hf2)
      clear hf2
      by_cases hs : s.size ≤ 400
      · have e1 : decide ((400 : Int) < (s.size : Int)) = false := decide_eq_false (by omega)
        go_wp2_with fail
        refine (rFit_any v1 L w4 HL4.out HF.out).mono ?_
        rintro e w5 ⟨rfl, hb⟩
        have HB5 := Lib.hid (below_step HB4.out hb)
        have HL5 := Lib.hid (HL4.out.stays hb)
        have HX5 := Lib.hid (HX4.out.stays hb)
        clear hb HB4 HL4 HX4
        rcases hfit : fitT L with _ | _
        · go_wp2_with fail
          refine (tawake_any w5).mono ?_
          rintro e w6 ⟨rfl, hb⟩
          have HB6 := Lib.hid (below_step HB5.out hb)
          have HL6 := Lib.hid (HL5.out.stays hb)
          have HX6 := Lib.hid (HX5.out.stays hb)
          clear hb HB5 HL5 HX5
          go_wp2
          go_ret
          exact ⟨rfl, HB6.out⟩
        · have HT := Lib.hid (fitT_iff.1 hfit)
          clear hfit
          have P1 := Lib.hid (fun w h => pPut_any v1 L x w h HT.out.rise HF.out HF2.out.1 HF2.out.2)
          have P2 := Lib.hid (fun w h => rPut_any v1 L x w h HT.out.rise HF.out HF2.out.1 HF2.out.2)
          have P3 := Lib.hid (fun w h => pDrop_any v1 L s w h HT.out.rise HF.out hs)
          have P4 := Lib.hid (fun w h => rDrop_any v1 L s w h HF.out (Nat.le_trans hs (by decide)))
          have HPF := Lib.hid (few_put HT.out HF.out HF2.out.1 HF2.out.2)
          have HGF := Lib.hid (few_gone HF.out s.data.toList)
          have HPT := Lib.hid (fit_putT HT.out x)
          have HGT := Lib.hid (fit_gone HT.out s.data.toList)
          obtain ⟨q1, hq1⟩ : ∃ q : Int, q = ((wrongT L x : Nat) : Int) := ⟨_, rfl⟩
          obtain ⟨q2, hq2⟩ : ∃ q : Int, q = (if (findT L s.data.toList).isSome then 0 else 5) := ⟨_, rfl⟩
          rw [← hq1] at P1 P2
          rw [← hq2] at P3 P4
          clear hq1 hq2
          obtain ⟨M, hM⟩ : ∃ M, M = putT L x := ⟨_, rfl⟩
          obtain ⟨N, hN⟩ : ∃ N, N = goneT L s.data.toList := ⟨_, rfl⟩
          rw [← hM] at P1 P2 HPF HPT
          rw [← hN] at P3 P4 HGF HGT
          clear hM hN HT HF HF2 hs
          obtain ⟨a00, a01, a02, a03⟩ := HX5.out.cells
          go_wp2_with fail
          clear a00 a01 a02 a03
          refine (P1.out w5 HL5.out).mono ?_
          rintro e w6 ⟨va, rfl, ho, hb⟩
          have HB6 := Lib.hid (below_step HB5.out hb)
          have HL6 := Lib.hid (HL5.out.stays hb)
          have HX6 := Lib.hid (HX5.out.stays hb)
          clear hb HB5 HL5 HX5
          have HA6 := Lib.hid ho.items
          clear ho P1
          obtain ⟨a00, a01, a02, a03⟩ := HX6.out.cells
          go_wp2_with fail
          clear a00 a01 a02 a03
          refine (P2.out w6 HL6.out).mono ?_
          rintro e w7 ⟨vb, rfl, ho, hb⟩
          have HB7 := Lib.hid (below_step HB6.out hb)
          have HL7 := Lib.hid (HL6.out.stays hb)
          have HX7 := Lib.hid (HX6.out.stays hb)
          have HA7 := Lib.hid (HA6.out.stays hb)
          clear hb HB6 HL6 HX6 HA6
          have HC7 := Lib.hid ho
          clear ho P2
          go_wp2_with fail
          refine (P3.out w7 HL7.out).mono ?_
          rintro e w8 ⟨vc, rfl, ho, hb⟩
          have HB8 := Lib.hid (below_step HB7.out hb)
          have HL8 := Lib.hid (HL7.out.stays hb)
          have HX8 := Lib.hid (HX7.out.stays hb)
          have HA8 := Lib.hid (HA7.out.stays hb)
          have HC8 := Lib.hid (HC7.out.stays hb)
          clear hb HB7 HL7 HX7 HA7 HC7
          have HD8 := Lib.hid ho.items
          clear ho P3
          go_wp2_with fail
          refine (P4.out w8 HL8.out).mono ?_
          rintro e w9 ⟨vd, rfl, ho, hb⟩
          have HB9 := Lib.hid (below_step HB8.out hb)
          have HL9 := Lib.hid (HL8.out.stays hb)
          have HX9 := Lib.hid (HX8.out.stays hb)
          have HA9 := Lib.hid (HA8.out.stays hb)
          have HC9 := Lib.hid (HC8.out.stays hb)
          have HD9 := Lib.hid (HD8.out.stays hb)
          clear hb HB8 HL8 HX8 HA8 HC8 HD8
          have HE9 := Lib.hid ho
          clear ho P4
          go_wp2_with fail
          refine (rSame_any va vb M M w9 HA9.out HC9.out).mono ?_
          rintro e w10 ⟨rfl, hb⟩
          have HB10 := Lib.hid (below_step HB9.out hb)
          have HL10 := Lib.hid (HL9.out.stays hb)
          have HX10 := Lib.hid (HX9.out.stays hb)
          have HA10 := Lib.hid (HA9.out.stays hb)
          have HC10 := Lib.hid (HC9.out.stays hb)
          have HD10 := Lib.hid (HD9.out.stays hb)
          have HE10 := Lib.hid (HE9.out.stays hb)
          clear hb HB9 HL9 HX9 HA9 HC9 HD9 HE9
          rw [sameT_yes (rfl : M = M)]
          go_wp2_with fail
          refine (rSame_any vc vd N N w10 HD10.out HE10.out).mono ?_
          rintro e w11 ⟨rfl, hb⟩
          have HB11 := Lib.hid (below_step HB10.out hb)
          have HL11 := Lib.hid (HL10.out.stays hb)
          have HX11 := Lib.hid (HX10.out.stays hb)
          have HA11 := Lib.hid (HA10.out.stays hb)
          have HC11 := Lib.hid (HC10.out.stays hb)
          have HD11 := Lib.hid (HD10.out.stays hb)
          have HE11 := Lib.hid (HE10.out.stays hb)
          clear hb HB10 HL10 HX10 HA10 HC10 HD10 HE10
          rw [sameT_yes (rfl : N = N)]
          go_wp2_with fail
          refine (rFit_any va M w11 HA11.out HPF.out).mono ?_
          rintro e w12 ⟨rfl, hb⟩
          have HB12 := Lib.hid (below_step HB11.out hb)
          have HL12 := Lib.hid (HL11.out.stays hb)
          have HX12 := Lib.hid (HX11.out.stays hb)
          have HA12 := Lib.hid (HA11.out.stays hb)
          have HC12 := Lib.hid (HC11.out.stays hb)
          have HD12 := Lib.hid (HD11.out.stays hb)
          have HE12 := Lib.hid (HE11.out.stays hb)
          clear hb HB11 HL11 HX11 HA11 HC11 HD11 HE11
          rw [fitT_yes HPT.out]
          go_wp2_with fail
          refine (rFit_any vc N w12 HD12.out HGF.out).mono ?_
          rintro e w13 ⟨rfl, hb⟩
          have HB13 := Lib.hid (below_step HB12.out hb)
          have HL13 := Lib.hid (HL12.out.stays hb)
          have HX13 := Lib.hid (HX12.out.stays hb)
          have HA13 := Lib.hid (HA12.out.stays hb)
          have HC13 := Lib.hid (HC12.out.stays hb)
          have HD13 := Lib.hid (HD12.out.stays hb)
          have HE13 := Lib.hid (HE12.out.stays hb)
          clear hb HB12 HL12 HX12 HA12 HC12 HD12 HE12
          rw [fitT_yes HGT.out]
          go_wp2_with fail
          refine (tawake_any w13).mono ?_
          rintro e w14 ⟨rfl, hb⟩
          have HB14 := Lib.hid (below_step HB13.out hb)
          have HL14 := Lib.hid (HL13.out.stays hb)
          have HX14 := Lib.hid (HX13.out.stays hb)
          have HA14 := Lib.hid (HA13.out.stays hb)
          have HC14 := Lib.hid (HC13.out.stays hb)
          have HD14 := Lib.hid (HD13.out.stays hb)
          have HE14 := Lib.hid (HE13.out.stays hb)
          clear hb HB13 HL13 HX13 HA13 HC13 HD13 HE13
          go_wp2
          go_ret
          exact ⟨rfl, HB14.out⟩
      · have e1 : decide ((400 : Int) < (s.size : Int)) = true := decide_eq_true (by omega)
        go_wp2_with fail
        refine (tawake_any w4).mono ?_
        rintro e w5 ⟨rfl, hb⟩
        have HB5 := Lib.hid (below_step HB4.out hb)
        have HL5 := Lib.hid (HL4.out.stays hb)
        have HX5 := Lib.hid (HX4.out.stays hb)
        clear hb HB4 HL4 HX4
        go_wp2
        go_ret
        exact ⟨rfl, HB5.out⟩
end Go.Proofs.YtelaamchafocpaaDoor

/-
  Layer 10: the statement TreeOrders as a walk over this translation.
-/
import Derived.Test.YtelaamchafocpaaDoorYTja
import Derived.Test.YtelaamchafocpaaDoorYTjk
import Derived.Lib.QuietBelow
import Derived.IntWalk
import Derived.Test.YtelaamchafocpaaDoorYTig
set_option linter.unusedVariables false
namespace Go.Proofs.YtelaamchafocpaaDoor
open Go.RowKit Go.Shelf
attribute [local go_sem] Oper.semAt_some

set_option maxRecDepth 100000 in
set_option maxHeartbeats 8000000 in
theorem TreeOrders_walk (v1 : Value) (L : List It) (x y : It) (w : World) (h1 : IsItems w v1 L) :
    Calls Tryd.prog 6 #[v1, itV x, itV y] w fun e w' => e = .returned (.bool true) ∧ Below w.heap.size w w' := by
  have HL := Lib.hid h1
  clear h1
  go_enter Tryd.func6, Tryd.ntmps6
  go_wp2_with fail
  have hb := (Below.refl w.heap.size w).alloc (Nat.le_refl _) (.cells #[.string x.p, .bool x.d, .bool x.e, .string x.c] 27)
  have HB1 := Lib.hid hb
  have HL1 := Lib.hid (HL.out.stays hb)
  have HX1 := Lib.hid (inBox_new w x 27)
  clear hb HL
  have hsz1 : (w.alloc (.cells #[.string x.p, .bool x.d, .bool x.e, .string x.c] 27)).heap.size = w.heap.size + 1 := by simp
  generalize w.alloc (.cells #[.string x.p, .bool x.d, .bool x.e, .string x.c] 27) = w1 at HB1 HL1 hsz1 HX1 ⊢
  generalize w.heap.size = B1 at HX1 hsz1 ⊢
  have hb := (Below.refl w1.heap.size w1).alloc (Nat.le_refl _) (.cells #[.string y.p, .bool y.d, .bool y.e, .string y.c] 27)
  have HB2 := Lib.hid (below_step HB1.out hb)
  have HL2 := Lib.hid (HL1.out.stays hb)
  have HX2 := Lib.hid (HX1.out.stays hb)
  have HY2 := Lib.hid (inBox_new w1 y 27)
  clear hb HB1 HL1 HX1
  rw [hsz1] at HY2
  clear hsz1
  generalize w1.alloc (.cells #[.string y.p, .bool y.d, .bool y.e, .string y.c] 27) = w2 at HB2 HL2 HX2 HY2 ⊢
  generalize B1 + 1 = B2 at HY2 ⊢
  refine (few_any v1 L w2 HL2.out).mono ?_
  rintro e w3 ⟨rfl, hb⟩
  have HB3 := Lib.hid (below_step HB2.out hb)
  have HL3 := Lib.hid (HL2.out.stays hb)
  have HX3 := Lib.hid (HX2.out.stays hb)
  have HY3 := Lib.hid (HY2.out.stays hb)
  clear hb HB2 HL2 HX2 HY2
  rcases hf : fewB L with _ | _
  · go_wp2_with fail
    refine (tawake_any w3).mono ?_
    rintro e w4 ⟨rfl, hb⟩
    have HB4 := Lib.hid (below_step HB3.out hb)
    have HL4 := Lib.hid (HL3.out.stays hb)
    have HX4 := Lib.hid (HX3.out.stays hb)
    have HY4 := Lib.hid (HY3.out.stays hb)
    clear hb HB3 HL3 HX3 HY3
    go_wp2
    go_ret
    exact ⟨rfl, HB4.out⟩
  · have HF := Lib.hid hf
    clear hf
    obtain ⟨a00, a01, a02, a03⟩ := HX3.out.cells
    obtain ⟨a10, a11, a12, a13⟩ := HY3.out.cells
    have hb := (Below.refl w3.heap.size w3).alloc (Nat.le_refl _) (.cells #[.string x.p, .bool x.d, .bool x.e, .string x.c, .string y.p, .bool y.d, .bool y.e, .string y.c] 27)
    have HB4 := Lib.hid (below_step HB3.out hb)
    have HL4 := Lib.hid (HL3.out.stays hb)
    have HX4 := Lib.hid (HX3.out.stays hb)
    have HY4 := Lib.hid (HY3.out.stays hb)
    have HZ4 := Lib.hid (items_two w3 x y 27)
    clear hb HB3 HL3 HX3 HY3
    go_wp2_with fail
    clear a00 a01 a02 a03 a10 a11 a12 a13
    generalize w3.alloc (.cells #[.string x.p, .bool x.d, .bool x.e, .string x.c, .string y.p, .bool y.d, .bool y.e, .string y.c] 27) = w4 at HB4 HL4 HX4 HY4 HZ4 ⊢
    generalize w3.heap.size = B4 at HZ4 ⊢
    refine (few_any _ [x, y] w4 HZ4.out).mono ?_
    rintro e w5 ⟨rfl, hb⟩
    have HB5 := Lib.hid (below_step HB4.out hb)
    have HL5 := Lib.hid (HL4.out.stays hb)
    have HX5 := Lib.hid (HX4.out.stays hb)
    have HY5 := Lib.hid (HY4.out.stays hb)
    have HZ5 := Lib.hid (HZ4.out.stays hb)
    clear hb HB4 HL4 HX4 HY4 HZ4
    clear HZ5
    rcases hf2 : fewB [x, y] with _ | _
    · go_wp2_with fail
      refine (tawake_any w5).mono ?_
      rintro e w6 ⟨rfl, hb⟩
      have HB6 := Lib.hid (below_step HB5.out hb)
      have HL6 := Lib.hid (HL5.out.stays hb)
      have HX6 := Lib.hid (HX5.out.stays hb)
      have HY6 := Lib.hid (HY5.out.stays hb)
      clear hb HB5 HL5 HX5 HY5
      go_wp2
      go_ret
      exact ⟨rfl, HB6.out⟩
    · have HF2 := Lib.hid (few_two hf2)
      clear hf2
      go_wp2_with fail
      refine (rFit_any v1 L w5 HL5.out HF.out).mono ?_
      rintro e w6 ⟨rfl, hb⟩
      have HB6 := Lib.hid (below_step HB5.out hb)
      have HL6 := Lib.hid (HL5.out.stays hb)
      have HX6 := Lib.hid (HX5.out.stays hb)
      have HY6 := Lib.hid (HY5.out.stays hb)
      clear hb HB5 HL5 HX5 HY5
      rcases hfit : fitT L with _ | _
      · go_wp2_with fail
        refine (tawake_any w6).mono ?_
        rintro e w7 ⟨rfl, hb⟩
        have HB7 := Lib.hid (below_step HB6.out hb)
        have HL7 := Lib.hid (HL6.out.stays hb)
        have HX7 := Lib.hid (HX6.out.stays hb)
        have HY7 := Lib.hid (HY6.out.stays hb)
        clear hb HB6 HL6 HX6 HY6
        go_wp2
        go_ret
        exact ⟨rfl, HB7.out⟩
      · have HT := Lib.hid (fitT_iff.1 hfit)
        clear hfit
        rcases hd1 : x.d with _ | _
        · rcases hd2 : y.d with _ | _
          · by_cases hp : x.p = y.p
            · have f1 := beq_true hp
              obtain ⟨a00, a01, a02, a03⟩ := HX6.out.cells
              obtain ⟨a10, a11, a12, a13⟩ := HY6.out.cells
              go_wp2_with fail
              clear a00 a01 a02 a03 a10 a11 a12 a13
              refine (tawake_any w6).mono ?_
              rintro e w7 ⟨rfl, hb⟩
              have HB7 := Lib.hid (below_step HB6.out hb)
              have HL7 := Lib.hid (HL6.out.stays hb)
              have HX7 := Lib.hid (HX6.out.stays hb)
              have HY7 := Lib.hid (HY6.out.stays hb)
              clear hb HB6 HL6 HX6 HY6
              go_wp2
              go_ret
              exact ⟨rfl, HB7.out⟩
            · have f1 := beq_false hp
              have HN := Lib.hid (show x.t ≠ y.t from fun e => hp (ba_ext e))
              clear hp
              have HA0 := Lib.hid (fit_putT HT.out x).rise
              have HC0 := Lib.hid (fit_putT HT.out y).rise
              have HAF := Lib.hid (few_put HT.out HF.out HF2.out.1.1 HF2.out.1.2)
              have HCF := Lib.hid (few_put HT.out HF.out HF2.out.2.1 HF2.out.2.2)
              have P1 := Lib.hid (fun w h => pPut_any v1 L x w h HT.out.rise HF.out HF2.out.1.1 HF2.out.1.2)
              have P3 := Lib.hid (fun w h => pPut_any v1 L y w h HT.out.rise HF.out HF2.out.2.1 HF2.out.2.2)
              have P2 := Lib.hid (fun v w h => pPut_any v (putT L x) y w h HA0.out HAF.out HF2.out.2.1 HF2.out.2.2)
              have P4 := Lib.hid (fun v w h => pPut_any v (putT L y) x w h HC0.out HCF.out HF2.out.1.1 HF2.out.1.2)
              have P5 := Lib.hid (fun w h => pTreeFind_any v1 L x.p w h HT.out.rise HF.out HF2.out.1.1)
              have P6 := Lib.hid (fun w h => pTreeSize_any v1 L w h (by have := HT.out.size; omega))
              have P7 := Lib.hid (fun v w h => pTreeSize_any v (putT L x) w h (by have := (fit_putT HT.out x).size; omega))
              have HE := Lib.hid (put_two HT.out HN.out)
              have HS := Lib.hid (fun h => put_size (x := x) HT.out h)
              have hsl := HT.out.size
              have hsm := (fit_putT HT.out x).size
              have hof : (foundI L x.t).c.size ≤ sizeT L := findT_size
              have hxc := HF2.out.1.2
              rw [show x.p.data.toList = x.t from rfl] at P5
              obtain ⟨MA, hMA⟩ : ∃ M, M = putT L x := ⟨_, rfl⟩
              obtain ⟨MC, hMC⟩ : ∃ M, M = putT L y := ⟨_, rfl⟩
              rw [← hMA] at P1 P2 P7 HE HS hsm
              rw [← hMC] at P3 P4 HE
              obtain ⟨MB, hMB⟩ : ∃ M, M = putT MA y := ⟨_, rfl⟩
              obtain ⟨MD, hMD⟩ : ∃ M, M = putT MC x := ⟨_, rfl⟩
              rw [← hMB] at P2 HE
              rw [← hMD] at P4 HE
              obtain ⟨q1, hq1⟩ : ∃ q, q = wrongT L x := ⟨_, rfl⟩
              obtain ⟨q2, hq2⟩ : ∃ q, q = wrongT MA y := ⟨_, rfl⟩
              obtain ⟨q3, hq3⟩ : ∃ q, q = wrongT L y := ⟨_, rfl⟩
              obtain ⟨q4, hq4⟩ : ∃ q, q = wrongT MC x := ⟨_, rfl⟩
              rw [← hq1] at P1 HE HS
              rw [← hq2] at P2 HE
              rw [← hq3] at P3 HE
              rw [← hq4] at P4 HE
              obtain ⟨o, ho⟩ : ∃ o, o = foundI L x.t := ⟨_, rfl⟩
              obtain ⟨b, hb⟩ : ∃ b, b = (findT L x.t).isSome := ⟨_, rfl⟩
              rw [← ho, ← hb] at P5
              rw [← ho] at HS hof
              obtain ⟨zl, hzl⟩ : ∃ z, z = sizeT L := ⟨_, rfl⟩
              obtain ⟨za, hza⟩ : ∃ z, z = sizeT MA := ⟨_, rfl⟩
              rw [← hzl] at P6 HS hsl hof
              rw [← hza] at P7 HS hsm
              clear hMA hMC hMB hMD hq1 hq2 hq3 hq4 ho hb hzl hza HA0 HC0 HAF HCF HT HF HF2 HN
              simp only [itV, hd1] at P1
              obtain ⟨a00, a01, a02, a03⟩ := HX6.out.cells
              obtain ⟨a10, a11, a12, a13⟩ := HY6.out.cells
              go_wp2_with fail
              clear a00 a01 a02 a03 a10 a11 a12 a13
              refine (P1.out w6 HL6.out).mono ?_
              rintro e w7 ⟨va, rfl, ho, hb⟩
              have HB7 := Lib.hid (below_step HB6.out hb)
              have HL7 := Lib.hid (HL6.out.stays hb)
              have HX7 := Lib.hid (HX6.out.stays hb)
              have HY7 := Lib.hid (HY6.out.stays hb)
              clear hb HB6 HL6 HX6 HY6
              have HA7 := Lib.hid ho.items
              clear ho f1 hd1 hd2 P1
              obtain ⟨a00, a01, a02, a03⟩ := HY7.out.cells
              go_wp2_with fail
              clear a00 a01 a02 a03
              refine (P2.out va w7 HA7.out).mono ?_
              rintro e w8 ⟨vb, rfl, ho, hb⟩
              have HB8 := Lib.hid (below_step HB7.out hb)
              have HL8 := Lib.hid (HL7.out.stays hb)
              have HX8 := Lib.hid (HX7.out.stays hb)
              have HY8 := Lib.hid (HY7.out.stays hb)
              have HA8 := Lib.hid (HA7.out.stays hb)
              clear hb HB7 HL7 HX7 HY7 HA7
              have HV8 := Lib.hid ho.items
              clear ho P2
              obtain ⟨a00, a01, a02, a03⟩ := HY8.out.cells
              go_wp2_with fail
              clear a00 a01 a02 a03
              refine (P3.out w8 HL8.out).mono ?_
              rintro e w9 ⟨vc, rfl, ho, hb⟩
              have HB9 := Lib.hid (below_step HB8.out hb)
              have HL9 := Lib.hid (HL8.out.stays hb)
              have HX9 := Lib.hid (HX8.out.stays hb)
              have HY9 := Lib.hid (HY8.out.stays hb)
              have HA9 := Lib.hid (HA8.out.stays hb)
              have HV9 := Lib.hid (HV8.out.stays hb)
              clear hb HB8 HL8 HX8 HY8 HA8 HV8
              have HC9 := Lib.hid ho.items
              clear ho P3
              obtain ⟨a00, a01, a02, a03⟩ := HX9.out.cells
              go_wp2_with fail
              clear a00 a01 a02 a03
              refine (P4.out vc w9 HC9.out).mono ?_
              rintro e w10 ⟨vd, rfl, ho, hb⟩
              have HB10 := Lib.hid (below_step HB9.out hb)
              have HL10 := Lib.hid (HL9.out.stays hb)
              have HX10 := Lib.hid (HX9.out.stays hb)
              have HY10 := Lib.hid (HY9.out.stays hb)
              have HA10 := Lib.hid (HA9.out.stays hb)
              have HV10 := Lib.hid (HV9.out.stays hb)
              have HC10 := Lib.hid (HC9.out.stays hb)
              clear hb HB9 HL9 HX9 HY9 HA9 HV9 HC9
              have HD10 := Lib.hid ho.items
              clear ho P4
              by_cases hw1 : q1 = 0
              · have c1 : ((q1 : Int) == 0) = true := beq_iff_eq.2 (by omega)
                have d1 : ((q1 : Int) != 0) = false := by rw [bne, c1]; rfl
                by_cases hw2 : q2 = 0
                · have c2 : ((q2 : Int) == 0) = true := beq_iff_eq.2 (by omega)
                  have d2 : ((q2 : Int) != 0) = false := by rw [bne, c2]; rfl
                  by_cases hw3 : q3 = 0
                  · have c3 : ((q3 : Int) == 0) = true := beq_iff_eq.2 (by omega)
                    have d3 : ((q3 : Int) != 0) = false := by rw [bne, c3]; rfl
                    by_cases hw4 : q4 = 0
                    · have c4 : ((q4 : Int) == 0) = true := beq_iff_eq.2 (by omega)
                      have d4 : ((q4 : Int) != 0) = false := by rw [bne, c4]; rfl
                      have HE2 := Lib.hid (HE.out hw1 hw2 hw3 hw4)
                      have HS2 := Lib.hid (HS.out hw1)
                      clear hw1 hw2 hw3 hw4 HE HS
                      obtain ⟨a00, a01, a02, a03⟩ := HX10.out.cells
                      go_wp2_with fail
                      clear a00 a01 a02 a03
                      refine (P5.out w10 HL10.out).mono ?_
                      rintro e w11 ⟨rfl, hb⟩
                      have HB11 := Lib.hid (below_step HB10.out hb)
                      have HL11 := Lib.hid (HL10.out.stays hb)
                      have HX11 := Lib.hid (HX10.out.stays hb)
                      have HY11 := Lib.hid (HY10.out.stays hb)
                      have HA11 := Lib.hid (HA10.out.stays hb)
                      have HV11 := Lib.hid (HV10.out.stays hb)
                      have HC11 := Lib.hid (HC10.out.stays hb)
                      have HD11 := Lib.hid (HD10.out.stays hb)
                      clear hb HB10 HL10 HX10 HY10 HA10 HV10 HC10 HD10
                      clear P5 c1 c2 c3 c4 d1 d2 d3 d4
                      have hb := (Below.refl w11.heap.size w11).alloc (Nat.le_refl _) (.cells #[.string o.p, .bool o.d, .bool o.e, .string o.c] 27)
                      have HB12 := Lib.hid (below_step HB11.out hb)
                      have HL12 := Lib.hid (HL11.out.stays hb)
                      have HX12 := Lib.hid (HX11.out.stays hb)
                      have HY12 := Lib.hid (HY11.out.stays hb)
                      have HA12 := Lib.hid (HA11.out.stays hb)
                      have HV12 := Lib.hid (HV11.out.stays hb)
                      have HC12 := Lib.hid (HC11.out.stays hb)
                      have HD12 := Lib.hid (HD11.out.stays hb)
                      have HO12 := Lib.hid (inBox_new w11 o 27)
                      clear hb HB11 HL11 HX11 HY11 HA11 HV11 HC11 HD11
                      go_wp2_with fail
                      generalize w11.alloc (.cells #[.string o.p, .bool o.d, .bool o.e, .string o.c] 27) = w12 at HB12 HL12 HX12 HY12 HA12 HV12 HC12 HD12 HO12 ⊢
                      generalize w11.heap.size = B12 at HO12 ⊢
                      have y1 : IntKind.i64.wrap ((zl : Int) - (o.c.size : Int)) = (zl : Int) - (o.c.size : Int) := IntWalk.i64_in _ (by omega)
                      have y2 : IntKind.i64.wrap ((zl : Int) - (o.c.size : Int) + (x.c.size : Int)) = (zl : Int) - (o.c.size : Int) + (x.c.size : Int) := IntWalk.i64_in _ (by omega)
                      have y3 : ((za : Int) == (zl : Int) - (o.c.size : Int) + (x.c.size : Int)) = true := beq_iff_eq.2 HS2.out
                      have S1 := Lib.hid (fun w h h' => rSame_any vb vd MB MD w h h')
                      rw [sameT_yes HE2.out] at S1
                      obtain ⟨b00, b01, b02, b03⟩ := HX12.out.cells
                      obtain ⟨b10, b11, b12, b13⟩ := HO12.out.cells
                      have k0 := fun d os => cell_regrown b03 d os
                      have k1 := fun d os => cell_regrown b13 d os
                      refine wp_region_quiet_below (by kernel_rfl) (by kernel_rfl) ?_
                      repeat (first | go_big_quiet_step ((first | (go_at_call 12; exact Calls.regrown_of (S1.out _ (HV12.out.stays (below_regrown _ _ _)) (HD12.out.stays (below_regrown _ _ _)))) | (go_at_call 8; exact Calls.regrown_of (tawake_any _)) | (first | exact Calls.regrown_of (P7.out _ _ (HA12.out.stays (below_regrown _ _ _))) | exact Calls.regrown_of (P6.out _ (HL12.out.stays (below_regrown _ _ _)))))) | quiet_step ((first | (go_at_call 12; exact Calls.regrown_of (S1.out _ (HV12.out.stays (below_regrown _ _ _)) (HD12.out.stays (below_regrown _ _ _)))) | (go_at_call 8; exact Calls.regrown_of (tawake_any _)) | (first | exact Calls.regrown_of (P7.out _ _ (HA12.out.stays (below_regrown _ _ _))) | exact Calls.regrown_of (P6.out _ (HL12.out.stays (below_regrown _ _ _)))))))
                      refine wpQuiet_nil ?_
                      intro wq hwq
                      have hbq : Below w12.heap.size w12 wq := by obtain ⟨p, rfl⟩ := hwq; exact below_regrown _ _ _
                      have HBQ := Lib.hid (below_step HB12.out hbq)
                      clear hwq hbq
                      go_wp2
                      go_ret
                      exact ⟨rfl, HBQ.out⟩
                    · have c4 : ((q4 : Int) == 0) = false := beq_eq_false_iff_ne.2 (by omega)
                      have d4 : ((q4 : Int) != 0) = true := by rw [bne, c4]; rfl
                      go_wp2_with fail
                      refine (tawake_any w10).mono ?_
                      rintro e w11 ⟨rfl, hb⟩
                      have HB11 := Lib.hid (below_step HB10.out hb)
                      have HL11 := Lib.hid (HL10.out.stays hb)
                      have HX11 := Lib.hid (HX10.out.stays hb)
                      have HY11 := Lib.hid (HY10.out.stays hb)
                      have HA11 := Lib.hid (HA10.out.stays hb)
                      have HV11 := Lib.hid (HV10.out.stays hb)
                      have HC11 := Lib.hid (HC10.out.stays hb)
                      have HD11 := Lib.hid (HD10.out.stays hb)
                      clear hb HB10 HL10 HX10 HY10 HA10 HV10 HC10 HD10
                      go_wp2
                      go_ret
                      exact ⟨rfl, HB11.out⟩
                  · have c3 : ((q3 : Int) == 0) = false := beq_eq_false_iff_ne.2 (by omega)
                    have d3 : ((q3 : Int) != 0) = true := by rw [bne, c3]; rfl
                    go_wp2_with fail
                    refine (tawake_any w10).mono ?_
                    rintro e w11 ⟨rfl, hb⟩
                    have HB11 := Lib.hid (below_step HB10.out hb)
                    have HL11 := Lib.hid (HL10.out.stays hb)
                    have HX11 := Lib.hid (HX10.out.stays hb)
                    have HY11 := Lib.hid (HY10.out.stays hb)
                    have HA11 := Lib.hid (HA10.out.stays hb)
                    have HV11 := Lib.hid (HV10.out.stays hb)
                    have HC11 := Lib.hid (HC10.out.stays hb)
                    have HD11 := Lib.hid (HD10.out.stays hb)
                    clear hb HB10 HL10 HX10 HY10 HA10 HV10 HC10 HD10
                    go_wp2
                    go_ret
                    exact ⟨rfl, HB11.out⟩
                · have c2 : ((q2 : Int) == 0) = false := beq_eq_false_iff_ne.2 (by omega)
                  have d2 : ((q2 : Int) != 0) = true := by rw [bne, c2]; rfl
                  go_wp2_with fail
                  refine (tawake_any w10).mono ?_
                  rintro e w11 ⟨rfl, hb⟩
                  have HB11 := Lib.hid (below_step HB10.out hb)
                  have HL11 := Lib.hid (HL10.out.stays hb)
                  have HX11 := Lib.hid (HX10.out.stays hb)
                  have HY11 := Lib.hid (HY10.out.stays hb)
                  have HA11 := Lib.hid (HA10.out.stays hb)
                  have HV11 := Lib.hid (HV10.out.stays hb)
                  have HC11 := Lib.hid (HC10.out.stays hb)
                  have HD11 := Lib.hid (HD10.out.stays hb)
                  clear hb HB10 HL10 HX10 HY10 HA10 HV10 HC10 HD10
                  go_wp2
                  go_ret
                  exact ⟨rfl, HB11.out⟩
              · have c1 : ((q1 : Int) == 0) = false := beq_eq_false_iff_ne.2 (by omega)
                have d1 : ((q1 : Int) != 0) = true := by rw [bne, c1]; rfl
                go_wp2_with fail
                refine (tawake_any w10).mono ?_
                rintro e w11 ⟨rfl, hb⟩
                have HB11 := Lib.hid (below_step HB10.out hb)
                have HL11 := Lib.hid (HL10.out.stays hb)
                have HX11 := Lib.hid (HX10.out.stays hb)
                have HY11 := Lib.hid (HY10.out.stays hb)
                have HA11 := Lib.hid (HA10.out.stays hb)
                have HV11 := Lib.hid (HV10.out.stays hb)
                have HC11 := Lib.hid (HC10.out.stays hb)
                have HD11 := Lib.hid (HD10.out.stays hb)
                clear hb HB10 HL10 HX10 HY10 HA10 HV10 HC10 HD10
                go_wp2
                go_ret
                exact ⟨rfl, HB11.out⟩
          · obtain ⟨a00, a01, a02, a03⟩ := HX6.out.cells
            obtain ⟨a10, a11, a12, a13⟩ := HY6.out.cells
            go_wp2_with fail
            clear a00 a01 a02 a03 a10 a11 a12 a13
            refine (tawake_any w6).mono ?_
            rintro e w7 ⟨rfl, hb⟩
            have HB7 := Lib.hid (below_step HB6.out hb)
            have HL7 := Lib.hid (HL6.out.stays hb)
            have HX7 := Lib.hid (HX6.out.stays hb)
            have HY7 := Lib.hid (HY6.out.stays hb)
            clear hb HB6 HL6 HX6 HY6
            go_wp2
            go_ret
            exact ⟨rfl, HB7.out⟩
        · obtain ⟨a00, a01, a02, a03⟩ := HX6.out.cells
          go_wp2_with fail
          clear a00 a01 a02 a03
          refine (tawake_any w6).mono ?_
          rintro e w7 ⟨rfl, hb⟩
          have HB7 := Lib.hid (below_step HB6.out hb)
          have HL7 := Lib.hid (HL6.out.stays hb)
          have HX7 := Lib.hid (HX6.out.stays hb)
          have HY7 := Lib.hid (HY6.out.stays hb)
          clear hb HB6 HL6 HX6 HY6
          go_wp2
          go_ret
          exact ⟨rfl, HB7.out⟩
end Go.Proofs.YtelaamchafocpaaDoor

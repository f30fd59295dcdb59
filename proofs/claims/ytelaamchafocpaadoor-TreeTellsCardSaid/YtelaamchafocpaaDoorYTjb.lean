/-
  Layer 10: the statement TreeTells as a walk over this translation.
-/
import Derived.Test.YtelaamchafocpaaDoorYTja
import Derived.Test.YtelaamchafocpaaDoorYTig
set_option linter.unusedVariables false
namespace Go.Proofs.YtelaamchafocpaaDoor
open Go.RowKit Go.Shelf
attribute [local go_sem] Oper.semAt_some

set_option maxRecDepth 100000 in
set_option maxHeartbeats 8000000 in
theorem TreeTells_walk (v1 : Value) (L : List It) (v2 : Value) (M : List It) (s : ByteArray) (w : World) (h1 : IsItems w v1 L) (h2 : IsItems w v2 M) :
    Calls Tryd.prog 3 #[v1, v2, .string s] w fun e w' => e = .returned (.bool true) ∧ Below w.heap.size w w' := by
  have HL := Lib.hid h1; have HM := Lib.hid h2
  clear h1 h2
  go_enter Tryd.func3, Tryd.ntmps3
  go_wp2_with fail
  refine (few_any v1 L w HL.out).mono ?_
  rintro e w1 ⟨rfl, hb⟩
  have HB1 := Lib.hid hb
  have HL1 := Lib.hid (HL.out.stays hb)
  have HM1 := Lib.hid (HM.out.stays hb)
  clear hb HL HM
  rcases hf : fewB L with _ | _
  · go_wp2_with fail
    refine (tawake_any w1).mono ?_
    rintro e w2 ⟨rfl, hb⟩
    have HB2 := Lib.hid (below_step HB1.out hb)
    have HL2 := Lib.hid (HL1.out.stays hb)
    have HM2 := Lib.hid (HM1.out.stays hb)
    clear hb HB1 HL1 HM1
    go_wp2
    go_ret
    exact ⟨rfl, HB2.out⟩
  · have HF := Lib.hid hf
    clear hf
    go_wp2_with fail
    refine (few_any v2 M w1 HM1.out).mono ?_
    rintro e w2 ⟨rfl, hb⟩
    have HB2 := Lib.hid (below_step HB1.out hb)
    have HL2 := Lib.hid (HL1.out.stays hb)
    have HM2 := Lib.hid (HM1.out.stays hb)
    clear hb HB1 HL1 HM1
    rcases hf2 : fewB M with _ | _
    · go_wp2_with fail
      refine (tawake_any w2).mono ?_
      rintro e w3 ⟨rfl, hb⟩
      have HB3 := Lib.hid (below_step HB2.out hb)
      have HL3 := Lib.hid (HL2.out.stays hb)
      have HM3 := Lib.hid (HM2.out.stays hb)
      clear hb HB2 HL2 HM2
      go_wp2
      go_ret
      exact ⟨rfl, HB3.out⟩
    · clear hf2
      by_cases hs : s.size ≤ 400
      · have e1 : decide ((400 : Int) < (s.size : Int)) = false := decide_eq_false (by omega)
        go_wp2_with fail
        refine (pFit_any v1 L w2 HL2.out HF.out).mono ?_
        rintro e w3 ⟨rfl, hb⟩
        have HB3 := Lib.hid (below_step HB2.out hb)
        have HL3 := Lib.hid (HL2.out.stays hb)
        have HM3 := Lib.hid (HM2.out.stays hb)
        clear hb HB2 HL2 HM2
        go_wp2_with fail
        refine (rFit_any v1 L w3 HL3.out HF.out).mono ?_
        rintro e w4 ⟨rfl, hb⟩
        have HB4 := Lib.hid (below_step HB3.out hb)
        have HL4 := Lib.hid (HL3.out.stays hb)
        have HM4 := Lib.hid (HM3.out.stays hb)
        clear hb HB3 HL3 HM3
        go_wp2_with fail
        refine (pSame_any v1 v2 L M w4 HL4.out HM4.out).mono ?_
        rintro e w5 ⟨rfl, hb⟩
        have HB5 := Lib.hid (below_step HB4.out hb)
        have HL5 := Lib.hid (HL4.out.stays hb)
        have HM5 := Lib.hid (HM4.out.stays hb)
        clear hb HB4 HL4 HM4
        go_wp2_with fail
        refine (rSame_any v1 v2 L M w5 HL5.out HM5.out).mono ?_
        rintro e w6 ⟨rfl, hb⟩
        have HB6 := Lib.hid (below_step HB5.out hb)
        have HL6 := Lib.hid (HL5.out.stays hb)
        have HM6 := Lib.hid (HM5.out.stays hb)
        clear hb HB5 HL5 HM5
        go_wp2_with fail
        refine (pSame_any v1 v1 L L w6 HL6.out HL6.out).mono ?_
        rintro e w7 ⟨rfl, hb⟩
        have HB7 := Lib.hid (below_step HB6.out hb)
        have HL7 := Lib.hid (HL6.out.stays hb)
        have HM7 := Lib.hid (HM6.out.stays hb)
        clear hb HB6 HL6 HM6
        rw [sameT_yes (rfl : L = L)]
        go_wp2_with fail
        refine (rFit_any v1 L w7 HL7.out HF.out).mono ?_
        rintro e w8 ⟨rfl, hb⟩
        have HB8 := Lib.hid (below_step HB7.out hb)
        have HL8 := Lib.hid (HL7.out.stays hb)
        have HM8 := Lib.hid (HM7.out.stays hb)
        clear hb HB7 HL7 HM7
        rcases hfit : fitT L with _ | _
        · go_wp2_with fail
          refine (tawake_any w8).mono ?_
          rintro e w9 ⟨rfl, hb⟩
          have HB9 := Lib.hid (below_step HB8.out hb)
          have HL9 := Lib.hid (HL8.out.stays hb)
          have HM9 := Lib.hid (HM8.out.stays hb)
          clear hb HB8 HL8 HM8
          go_wp2
          go_ret
          exact ⟨rfl, HB9.out⟩
        · have HT := Lib.hid (fitT_iff.1 hfit)
          clear hfit
          go_wp2_with fail
          refine (pTreeFind_any v1 L s w8 HL8.out HT.out.rise HF.out hs).mono ?_
          rintro e w9 ⟨rfl, hb⟩
          have HB9 := Lib.hid (below_step HB8.out hb)
          have HL9 := Lib.hid (HL8.out.stays hb)
          have HM9 := Lib.hid (HM8.out.stays hb)
          clear hb HB8 HL8 HM8
          have RF := Lib.hid (fun w h => rFind_any v1 L s w h)
          obtain ⟨x, hx⟩ : ∃ x, x = foundI L s.data.toList := ⟨_, rfl⟩
          obtain ⟨q, hq⟩ : ∃ q, q = (findT L s.data.toList).isSome := ⟨_, rfl⟩
          rw [← hx, ← hq] at RF
          rw [← hx, ← hq]
          clear hx hq
          have hb := (Below.refl w9.heap.size w9).alloc (Nat.le_refl _) (.cells #[.string x.p, .bool x.d, .bool x.e, .string x.c] 27)
          have HB10 := Lib.hid (below_step HB9.out hb)
          have HL10 := Lib.hid (HL9.out.stays hb)
          have HM10 := Lib.hid (HM9.out.stays hb)
          have HXa10 := Lib.hid (inBox_new w9 x 27)
          clear hb HB9 HL9 HM9
          go_wp2_with fail
          generalize w9.alloc (.cells #[.string x.p, .bool x.d, .bool x.e, .string x.c] 27) = w10 at HB10 HL10 HM10 HXa10 ⊢
          generalize w9.heap.size = B10 at HXa10 ⊢
          refine (RF.out w10 HL10.out).mono ?_
          rintro e w11 ⟨rfl, hb⟩
          have HB11 := Lib.hid (below_step HB10.out hb)
          have HL11 := Lib.hid (HL10.out.stays hb)
          have HM11 := Lib.hid (HM10.out.stays hb)
          have HXa11 := Lib.hid (HXa10.out.stays hb)
          clear hb HB10 HL10 HM10 HXa10
          clear RF
          have hb := (Below.refl w11.heap.size w11).alloc (Nat.le_refl _) (.cells #[.string x.p, .bool x.d, .bool x.e, .string x.c] 27)
          have HB12 := Lib.hid (below_step HB11.out hb)
          have HL12 := Lib.hid (HL11.out.stays hb)
          have HM12 := Lib.hid (HM11.out.stays hb)
          have HXa12 := Lib.hid (HXa11.out.stays hb)
          have HXb12 := Lib.hid (inBox_new w11 x 27)
          clear hb HB11 HL11 HM11 HXa11
          obtain ⟨a0, a1, a2, a3⟩ := HXa12.out.cells
          have qe : eqI x x = true := eqI_yes rfl
          have hne' : ∀ (x y : It) (w : World), Sem.run Tryd.prog (binOp .eql 27 (itV x) (itV y)) w = .ok (.bool (eqI x y)) w := fun x y w => eqItem x y w
          have hgd' : ∀ (op : BinOp) (a b : Operand) (x y : It) (w : World), Sem.run Tryd.prog (eqGuard op 27 a b (itV x) (itV y)) w = .ok () w := fun op a b x y w => guardItem op a b x y w
          go_wp2_with fail
          clear a0 a1 a2 a3 qe hne' hgd'
          generalize w11.alloc (.cells #[.string x.p, .bool x.d, .bool x.e, .string x.c] 27) = w12 at HB12 HL12 HM12 HXa12 HXb12 ⊢
          generalize w11.heap.size = B12 at HXb12 ⊢
          clear HXa12 HXb12
          refine (pNames_any v1 L s w12 HL12.out HF.out HT.out.path).mono ?_
          rintro e w13 ⟨u1, rfl, hs1, hb⟩
          have HB13 := Lib.hid (below_step HB12.out hb)
          have HL13 := Lib.hid (HL12.out.stays hb)
          have HM13 := Lib.hid (HM12.out.stays hb)
          clear hb HB12 HL12 HM12
          have HS13 := Lib.hid hs1
          clear hs1
          go_wp2_with fail
          refine (rNames_any v1 L s w13 HL13.out HF.out HT.out.path).mono ?_
          rintro e w14 ⟨u2, rfl, hs2, hb⟩
          have HB14 := Lib.hid (below_step HB13.out hb)
          have HL14 := Lib.hid (HL13.out.stays hb)
          have HM14 := Lib.hid (HM13.out.stays hb)
          have HS14 := Lib.hid (HS13.out.stays hb)
          clear hb HB13 HL13 HM13 HS13
          have HR14 := Lib.hid hs2
          clear hs2
          go_wp2_with fail
          refine (lSame_any u1 u2 _ w14 HS14.out HR14.out).mono ?_
          rintro e w15 ⟨rfl, hb⟩
          have HB15 := Lib.hid (below_step HB14.out hb)
          have HL15 := Lib.hid (HL14.out.stays hb)
          have HM15 := Lib.hid (HM14.out.stays hb)
          have HS15 := Lib.hid (HS14.out.stays hb)
          have HR15 := Lib.hid (HR14.out.stays hb)
          clear hb HB14 HL14 HM14 HS14 HR14
          clear HS15 HR15
          go_wp2_with fail
          refine (pTreeSize_any v1 L w15 HL15.out (by have := HT.out.size; omega)).mono ?_
          rintro e w16 ⟨rfl, hb⟩
          have HB16 := Lib.hid (below_step HB15.out hb)
          have HL16 := Lib.hid (HL15.out.stays hb)
          have HM16 := Lib.hid (HM15.out.stays hb)
          clear hb HB15 HL15 HM15
          have RS := Lib.hid (fun w h => rSize_any v1 L w h (by have := HT.out.size; omega))
          obtain ⟨z, hz⟩ : ∃ z, z = sizeT L := ⟨_, rfl⟩
          rw [← hz] at RS
          rw [← hz]
          clear hz
          go_wp2_with fail
          refine (RS.out w16 HL16.out).mono ?_
          rintro e wz ⟨rfl, rfl⟩
          clear RS
          go_wp2_with fail
          refine (tawake_any w16).mono ?_
          rintro e w17 ⟨rfl, hb⟩
          have HB17 := Lib.hid (below_step HB16.out hb)
          have HL17 := Lib.hid (HL16.out.stays hb)
          have HM17 := Lib.hid (HM16.out.stays hb)
          clear hb HB16 HL16 HM16
          go_wp2
          go_ret
          exact ⟨rfl, HB17.out⟩
      · have e1 : decide ((400 : Int) < (s.size : Int)) = true := decide_eq_true (by omega)
        go_wp2_with fail
        refine (tawake_any w2).mono ?_
        rintro e w3 ⟨rfl, hb⟩
        have HB3 := Lib.hid (below_step HB2.out hb)
        have HL3 := Lib.hid (HL2.out.stays hb)
        have HM3 := Lib.hid (HM2.out.stays hb)
        clear hb HB2 HL2 HM2
        go_wp2
        go_ret
        exact ⟨rfl, HB3.out⟩
end Go.Proofs.YtelaamchafocpaaDoor

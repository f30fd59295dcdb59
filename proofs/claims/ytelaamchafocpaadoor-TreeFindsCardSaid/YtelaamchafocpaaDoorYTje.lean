/-
  Layer 10: the statement TreeFinds as a walk over this translation.
-/
import Derived.Test.YtelaamchafocpaaDoorYTja
import Derived.Test.YtelaamchafocpaaDoorYTjk
import Derived.Test.YtelaamchafocpaaDoorYTig
set_option linter.unusedVariables false
namespace Go.Proofs.YtelaamchafocpaaDoor
open Go.RowKit Go.Shelf
attribute [local go_sem] Oper.semAt_some

set_option maxRecDepth 100000 in
set_option maxHeartbeats 8000000 in
theorem TreeFinds_walk (v1 : Value) (L : List It) (x : It) (w : World) (h1 : IsItems w v1 L) :
    Calls Tryd.prog 5 #[v1, itV x] w fun e w' => e = .returned (.bool true) ∧ Below w.heap.size w w' := by
  have HL := Lib.hid h1
  obtain ⟨hm, al, capl, rfl, _, hc⟩ := h1
  have hmm : L.length ≤ 9223372036854775807 := by unfold maxLen at hm; omega
  clear hm hc
  obtain ⟨v1, hv1⟩ : ∃ v1, v1 = Value.slice al L.length capl := ⟨_, rfl⟩
  have HV1 := Lib.hid hv1
  rw [← hv1] at HL ⊢
  clear hv1
  go_enter Tryd.func5, Tryd.ntmps5
  go_wp2_with fail
  have hb := (Below.refl w.heap.size w).alloc (Nat.le_refl _) (.cells #[.string x.p, .bool x.d, .bool x.e, .string x.c] 27)
  have HB1 := Lib.hid hb
  have HL1 := Lib.hid (HL.out.stays hb)
  have HX1 := Lib.hid (inBox_new w x 27)
  clear hb HL
  generalize w.alloc (.cells #[.string x.p, .bool x.d, .bool x.e, .string x.c] 27) = w1 at HB1 HL1 HX1 ⊢
  generalize w.heap.size = B1 at HX1 ⊢
  refine (few_any v1 L w1 HL1.out).mono ?_
  rintro e w2 ⟨rfl, hb⟩
  have HB2 := Lib.hid (below_step HB1.out hb)
  have HL2 := Lib.hid (HL1.out.stays hb)
  have HX2 := Lib.hid (HX1.out.stays hb)
  clear hb HB1 HL1 HX1
  rcases hf : fewB L with _ | _
  · go_wp2_with fail
    refine (tawake_any w2).mono ?_
    rintro e w3 ⟨rfl, hb⟩
    have HB3 := Lib.hid (below_step HB2.out hb)
    have HL3 := Lib.hid (HL2.out.stays hb)
    have HX3 := Lib.hid (HX2.out.stays hb)
    clear hb HB2 HL2 HX2
    go_wp2
    go_ret
    exact ⟨rfl, HB3.out⟩
  · have HF := Lib.hid hf
    clear hf
    obtain ⟨a00, a01, a02, a03⟩ := HX2.out.cells
    have hb := (Below.refl w2.heap.size w2).alloc (Nat.le_refl _) (.cells #[.string x.p, .bool x.d, .bool x.e, .string x.c] 27)
    have HB3 := Lib.hid (below_step HB2.out hb)
    have HL3 := Lib.hid (HL2.out.stays hb)
    have HX3 := Lib.hid (HX2.out.stays hb)
    have HY3 := Lib.hid (items_one w2 x 27)
    clear hb HB2 HL2 HX2
    go_wp2_with fail
    clear a00 a01 a02 a03
    generalize w2.alloc (.cells #[.string x.p, .bool x.d, .bool x.e, .string x.c] 27) = w3 at HB3 HL3 HX3 HY3 ⊢
    generalize w2.heap.size = B3 at HY3 ⊢
    refine (few_any _ [x] w3 HY3.out).mono ?_
    rintro e w4 ⟨rfl, hb⟩
    have HB4 := Lib.hid (below_step HB3.out hb)
    have HL4 := Lib.hid (HL3.out.stays hb)
    have HX4 := Lib.hid (HX3.out.stays hb)
    have HY4 := Lib.hid (HY3.out.stays hb)
    clear hb HB3 HL3 HX3 HY3
    clear HY4
    rcases hf2 : fewB [x] with _ | _
    · go_wp2_with fail
      refine (tawake_any w4).mono ?_
      rintro e w5 ⟨rfl, hb⟩
      have HB5 := Lib.hid (below_step HB4.out hb)
      have HL5 := Lib.hid (HL4.out.stays hb)
      have HX5 := Lib.hid (HX4.out.stays hb)
      clear hb HB4 HL4 HX4
      go_wp2
      go_ret
      exact ⟨rfl, HB5.out⟩
    · have HF2 := Lib.hid (few_one hf2)
      clear hf2
      go_wp2_with fail
      refine (rFit_any v1 L w4 HL4.out HF.out).mono ?_
      rintro e w5 ⟨rfl, hb⟩
      have HB5 := Lib.hid (below_step HB4.out hb)
      have HL5 := Lib.hid (HL4.out.stays hb)
      have HX5 := Lib.hid (HX4.out.stays hb)
      clear hb HB4 HL4 HX4
      rcases hfit : fitT L with _ | _
      · go_wp2_with fail
        refine (tawake_any w5).mono ?_
        rintro e w6 ⟨rfl, hb⟩
        have HB6 := Lib.hid (below_step HB5.out hb)
        have HL6 := Lib.hid (HL5.out.stays hb)
        have HX6 := Lib.hid (HX5.out.stays hb)
        clear hb HB5 HL5 HX5
        go_wp2
        go_ret
        exact ⟨rfl, HB6.out⟩
      · have HT := Lib.hid (fitT_iff.1 hfit)
        clear hfit
        obtain ⟨a00, a01, a02, a03⟩ := HX5.out.cells
        go_wp2_with fail
        clear a00 a01 a02 a03
        refine (pPut_any v1 L x w5 HL5.out HT.out.rise HF.out HF2.out.1 HF2.out.2).mono ?_
        rintro e w6 ⟨va, rfl, ho, hb⟩
        have HB6 := Lib.hid (below_step HB5.out hb)
        have HL6 := Lib.hid (HL5.out.stays hb)
        have HX6 := Lib.hid (HX5.out.stays hb)
        clear hb HB5 HL5 HX5
        have HA6 := Lib.hid ho.items
        clear ho
        by_cases hw : wrongT L x = 0
        · have g0 : (((wrongT L x : Nat) : Int) == 0) = true := beq_iff_eq.2 (by omega)
          have g1 : (((wrongT L x : Nat) : Int) != 0) = false := by rw [bne, g0]; rfl
          have HMF := Lib.hid (few_put HT.out HF.out HF2.out.1 HF2.out.2)
          have HMR := Lib.hid (fit_putT HT.out x).rise
          have HNF := Lib.hid (few_gone HMF.out x.t)
          have HNR := Lib.hid (fit_gone (fit_putT HT.out x) x.t).rise
          have HE := Lib.hid (put_finds HT.out hw)
          have HK := Lib.hid (fun y hy hne => put_keeps (y := y) HT.out hw hy hne)
          have HG := Lib.hid (gone_finds HT.out hw)
          have HH := Lib.hid (fun y hy => gone_keeps (y := y) HT.out hw hy)
          have hlen := put_len HT.out x
          have h70 := few_len HF.out
          obtain ⟨M, hM⟩ : ∃ M, M = putT L x := ⟨_, rfl⟩
          rw [← hM] at HMF HMR HNF HNR HE HK HG HH hlen HA6
          obtain ⟨N, hN⟩ : ∃ N, N = goneT M x.t := ⟨_, rfl⟩
          rw [← hN] at HNF HNR HG HH
          have HN := Lib.hid hN
          clear hM hN hw
          obtain ⟨a00, a01, a02, a03⟩ := HX6.out.cells
          go_wp2_with fail
          clear a00 a01 a02 a03
          refine (pTreeFind_any va M x.p w6 HA6.out HMR.out HMF.out HF2.out.1).mono ?_
          rintro e w7 ⟨rfl, hb⟩
          have HB7 := Lib.hid (below_step HB6.out hb)
          have HL7 := Lib.hid (HL6.out.stays hb)
          have HX7 := Lib.hid (HX6.out.stays hb)
          have HA7 := Lib.hid (HA6.out.stays hb)
          clear hb HB6 HL6 HX6 HA6
          rw [show x.p.data.toList = x.t from rfl, HE.out, foundI_some HE.out, Option.isSome_some]
          clear g0 g1
          have hb := (Below.refl w7.heap.size w7).alloc (Nat.le_refl _) (.cells #[.string x.p, .bool x.d, .bool x.e, .string x.c] 27)
          have HB8 := Lib.hid (below_step HB7.out hb)
          have HL8 := Lib.hid (HL7.out.stays hb)
          have HX8 := Lib.hid (HX7.out.stays hb)
          have HA8 := Lib.hid (HA7.out.stays hb)
          have HY8 := Lib.hid (inBox_new w7 x 27)
          clear hb HB7 HL7 HX7 HA7
          obtain ⟨a10, a11, a12, a13⟩ := HX8.out.cells
          have hzz : eqI x x = true := eqI_yes rfl
          have hne' : ∀ (x y : It) (w : World), Sem.run Tryd.prog (binOp .neq 27 (itV x) (itV y)) w = .ok (.bool (!eqI x y)) w := fun x y w => neqItem x y w
          have hgd' : ∀ (op : BinOp) (a b : Operand) (x y : It) (w : World), Sem.run Tryd.prog (eqGuard op 27 a b (itV x) (itV y)) w = .ok () w := fun op a b x y w => guardItem op a b x y w
          go_wp2_with fail
          clear a10 a11 a12 a13 hzz hne' hgd'
          generalize w7.alloc (.cells #[.string x.p, .bool x.d, .bool x.e, .string x.c] 27) = w8 at HB8 HL8 HX8 HA8 HY8 ⊢
          generalize w7.heap.size = B8 at HY8 ⊢
          clear HY8
          refine (pDrop_any va M x.p w8 HA8.out HMR.out HMF.out HF2.out.1).mono ?_
          rintro e w9 ⟨vb, rfl, ho, hb⟩
          have HB9 := Lib.hid (below_step HB8.out hb)
          have HL9 := Lib.hid (HL8.out.stays hb)
          have HX9 := Lib.hid (HX8.out.stays hb)
          have HA9 := Lib.hid (HA8.out.stays hb)
          clear hb HB8 HL8 HX8 HA8
          rw [show x.p.data.toList = x.t from rfl, ← HN.out] at ho
          rw [show x.p.data.toList = x.t from rfl, HE.out, Option.isSome_some, if_pos rfl]
          have HC9 := Lib.hid ho.items
          clear ho
          obtain ⟨a00, a01, a02, a03⟩ := HX9.out.cells
          go_wp2_with fail
          clear a00 a01 a02 a03
          refine (pTreeFind_any vb N x.p w9 HC9.out HNR.out HNF.out HF2.out.1).mono ?_
          rintro e w10 ⟨rfl, hb⟩
          have HB10 := Lib.hid (below_step HB9.out hb)
          have HL10 := Lib.hid (HL9.out.stays hb)
          have HX10 := Lib.hid (HX9.out.stays hb)
          have HA10 := Lib.hid (HA9.out.stays hb)
          have HC10 := Lib.hid (HC9.out.stays hb)
          clear hb HB9 HL9 HX9 HA9 HC9
          rw [show x.p.data.toList = x.t from rfl, HG.out, foundI_none HG.out, Option.isSome_none]
          obtain ⟨z0, hz0⟩ : ∃ z, z = zeroIt := ⟨_, rfl⟩
          rw [← hz0]
          clear hz0
          have hb := (Below.refl w10.heap.size w10).alloc (Nat.le_refl _) (.cells #[.string z0.p, .bool z0.d, .bool z0.e, .string z0.c] 27)
          have HB11 := Lib.hid (below_step HB10.out hb)
          have HL11 := Lib.hid (HL10.out.stays hb)
          have HX11 := Lib.hid (HX10.out.stays hb)
          have HA11 := Lib.hid (HA10.out.stays hb)
          have HC11 := Lib.hid (HC10.out.stays hb)
          have HY11 := Lib.hid (inBox_new w10 z0 27)
          clear hb HB10 HL10 HX10 HA10 HC10
          obtain rfl := HV1.out
          go_wp2
          generalize w10.alloc (.cells #[.string z0.p, .bool z0.d, .bool z0.e, .string z0.c] 27) = w11 at HB11 HL11 HX11 HA11 HC11 HY11 ⊢
          generalize w10.heap.size = B11 at HY11 ⊢
          clear HY11 HG HV1
          go_loopw [82] (fun i wr => ∃ (k : Nat) (W : World), W = wr ∧ k ≤ L.length ∧ i = .int .i64 k ∧ IsItems W (.slice al L.length capl) L ∧ InBox W B1 x ∧ IsItems W va M ∧ IsItems W vb N ∧ Below w.heap.size w W) (fun i _ => L.length - (intOf i).toNat)
          case atStart => exact ⟨0, _, rfl, Nat.zero_le _, rfl, HL11.out, HX11.out, HA11.out, HC11.out, HB11.out⟩
          case round =>
            clear HB11 HL11 HX11 HA11 HC11
            obtain ⟨k, w12, rfl, hk, rfl, hl', hx', ha', hc', hB⟩ := hrel
            have HB12 := Lib.hid hB; have HL12 := Lib.hid hl'; have HX12 := Lib.hid hx'; have HA12 := Lib.hid ha'; have HC12 := Lib.hid hc'
            clear hB hl' hx' ha' hc'
            by_cases hlt : k < L.length
            · have hbk : decide ((k : Int) < (L.length : Int)) = true := decide_eq_true (by omega)
              obtain ⟨_, _, _, e, _, hc⟩ := HL12.out
              cases e
              obtain ⟨b, off, rfl, hbl, hg⟩ := hc (by omega)
              obtain ⟨c0, c1, c2, c3⟩ := hg k hlt
              have HYM := Lib.hid (few_mem HF.out _ (List.getElem_mem hlt))
              have HYK := Lib.hid (HK.out _ (List.getElem_mem hlt))
              have HYH := Lib.hid (HH.out _ (List.getElem_mem hlt))
              clear hg hc
              obtain ⟨y, hy⟩ : ∃ y, y = L[k] := ⟨_, rfl⟩
              rw [← hy] at c0 c1 c2 c3 HYM HYK HYH
              clear hy
              have hb := (Below.refl w12.heap.size w12).alloc (Nat.le_refl _) (.cells #[.string y.p, .bool y.d, .bool y.e, .string y.c] 27)
              have HB13 := Lib.hid (below_step HB12.out hb)
              have HL13 := Lib.hid (HL12.out.stays hb)
              have HX13 := Lib.hid (HX12.out.stays hb)
              have HA13 := Lib.hid (HA12.out.stays hb)
              have HC13 := Lib.hid (HC12.out.stays hb)
              have HY13 := Lib.hid (inBox_new w12 y 27)
              clear hb HB12 HL12 HX12 HA12 HC12
              go_wp2_with fail
              clear c0 c1 c2 c3 hbl hbk
              generalize w12.alloc (.cells #[.string y.p, .bool y.d, .bool y.e, .string y.c] 27) = w13 at HB13 HL13 HX13 HA13 HC13 HY13 ⊢
              generalize w12.heap.size = B13 at HY13 ⊢
              refine (pTreeFind_any va M y.p w13 HA13.out HMR.out HMF.out HYM.out.1).mono ?_
              rintro e w14 ⟨rfl, hb⟩
              have HB14 := Lib.hid (below_step HB13.out hb)
              have HL14 := Lib.hid (HL13.out.stays hb)
              have HX14 := Lib.hid (HX13.out.stays hb)
              have HA14 := Lib.hid (HA13.out.stays hb)
              have HC14 := Lib.hid (HC13.out.stays hb)
              have HY14 := Lib.hid (HY13.out.stays hb)
              clear hb HB13 HL13 HX13 HA13 HC13 HY13
              rw [show y.p.data.toList = y.t from rfl]
              by_cases hp : y.p = x.p
              · have f1 := beq_true hp
                have f2 : (y.p.toList != x.p.toList) = false := by rw [bne, f1]; rfl
                have HT2 : Hid (y.t = x.t) := show _ = _ by unfold It.t; rw [hp]
                have HQ : Hid ((findT N y.t).isSome = false) := show _ = _ by rw [HYH.out, decide_eq_true HT2.out]; rfl
                clear hp
                rw [HT2.out, HE.out, foundI_some HE.out, Option.isSome_some]
                have hb := (Below.refl w14.heap.size w14).alloc (Nat.le_refl _) (.cells #[.string x.p, .bool x.d, .bool x.e, .string x.c] 27)
                have HB15 := Lib.hid (below_step HB14.out hb)
                have HL15 := Lib.hid (HL14.out.stays hb)
                have HX15 := Lib.hid (HX14.out.stays hb)
                have HA15 := Lib.hid (HA14.out.stays hb)
                have HC15 := Lib.hid (HC14.out.stays hb)
                have HY15 := Lib.hid (HY14.out.stays hb)
                have HZ15 := Lib.hid (inBox_new w14 x 27)
                clear hb HB14 HL14 HX14 HA14 HC14 HY14
                obtain ⟨a00, a01, a02, a03⟩ := HX15.out.cells
                obtain ⟨a10, a11, a12, a13⟩ := HY15.out.cells
                go_wp2_with fail
                clear a00 a01 a02 a03 a10 a11 a12 a13
                generalize w14.alloc (.cells #[.string x.p, .bool x.d, .bool x.e, .string x.c] 27) = w15 at HB15 HL15 HX15 HA15 HC15 HY15 HZ15 ⊢
                generalize w14.heap.size = B15 at HZ15 ⊢
                obtain ⟨a00, a01, a02, a03⟩ := HX15.out.cells
                obtain ⟨a10, a11, a12, a13⟩ := HY15.out.cells
                go_wp2_with fail
                go_quiet (fail)
                clear a00 a01 a02 a03 a10 a11 a12 a13
                have hb := below_drewN (Below.refl w15.heap.size w15) nq
                have HB16 := Lib.hid (below_step HB15.out hb)
                have HL16 := Lib.hid (HL15.out.stays hb)
                have HX16 := Lib.hid (HX15.out.stays hb)
                have HA16 := Lib.hid (HA15.out.stays hb)
                have HC16 := Lib.hid (HC15.out.stays hb)
                have HY16 := Lib.hid (HY15.out.stays hb)
                have HZ16 := Lib.hid (HZ15.out.stays hb)
                clear hb HB15 HL15 HX15 HA15 HC15 HY15 HZ15
                generalize w15.drewN nq = w16 at HB16 HL16 HX16 HA16 HC16 HY16 HZ16 ⊢
                clear f1 f2
                obtain ⟨a00, a01, a02, a03⟩ := HY16.out.cells
                go_wp2_with fail
                clear a00 a01 a02 a03
                refine (pTreeFind_any vb N y.p w16 HC16.out HNR.out HNF.out HYM.out.1).mono ?_
                rintro e w17 ⟨rfl, hb⟩
                have HB17 := Lib.hid (below_step HB16.out hb)
                have HL17 := Lib.hid (HL16.out.stays hb)
                have HX17 := Lib.hid (HX16.out.stays hb)
                have HA17 := Lib.hid (HA16.out.stays hb)
                have HC17 := Lib.hid (HC16.out.stays hb)
                have HY17 := Lib.hid (HY16.out.stays hb)
                have HZ17 := Lib.hid (HZ16.out.stays hb)
                clear hb HB16 HL16 HX16 HA16 HC16 HY16 HZ16
                rw [show y.p.data.toList = y.t from rfl, HQ.out]
                obtain ⟨z3, hz3⟩ : ∃ z, z = foundI N y.t := ⟨_, rfl⟩
                rw [← hz3]
                clear hz3
                go_wp2
                go_roundw
                case rel => exact ⟨k + 1, w17, rfl, by omega, by go_num, HL17.out, HX17.out, HA17.out, HC17.out, HB17.out⟩
                case measure => simp [intOf]; omega
              · have f1 := beq_false hp
                have f2 : (y.p.toList != x.p.toList) = true := by rw [bne, f1]; rfl
                have HT2 : Hid (y.t ≠ x.t) := show y.t ≠ x.t from fun e => hp (ba_ext e)
                clear hp
                rw [HYK.out HT2.out, foundI_some (HYK.out HT2.out), Option.isSome_some]
                have hb := (Below.refl w14.heap.size w14).alloc (Nat.le_refl _) (.cells #[.string y.p, .bool y.d, .bool y.e, .string y.c] 27)
                have HB15 := Lib.hid (below_step HB14.out hb)
                have HL15 := Lib.hid (HL14.out.stays hb)
                have HX15 := Lib.hid (HX14.out.stays hb)
                have HA15 := Lib.hid (HA14.out.stays hb)
                have HC15 := Lib.hid (HC14.out.stays hb)
                have HY15 := Lib.hid (HY14.out.stays hb)
                have HZ15 := Lib.hid (inBox_new w14 y 27)
                clear hb HB14 HL14 HX14 HA14 HC14 HY14
                obtain ⟨a00, a01, a02, a03⟩ := HX15.out.cells
                obtain ⟨a10, a11, a12, a13⟩ := HY15.out.cells
                have hzz : eqI y y = true := eqI_yes rfl
                have hne' : ∀ (x y : It) (w : World), Sem.run Tryd.prog (binOp .neq 27 (itV x) (itV y)) w = .ok (.bool (!eqI x y)) w := fun x y w => neqItem x y w
                have hgd' : ∀ (op : BinOp) (a b : Operand) (x y : It) (w : World), Sem.run Tryd.prog (eqGuard op 27 a b (itV x) (itV y)) w = .ok () w := fun op a b x y w => guardItem op a b x y w
                go_wp2_with fail
                clear hzz hne' hgd' a00 a01 a02 a03 a10 a11 a12 a13
                generalize w14.alloc (.cells #[.string y.p, .bool y.d, .bool y.e, .string y.c] 27) = w15 at HB15 HL15 HX15 HA15 HC15 HY15 HZ15 ⊢
                generalize w14.heap.size = B15 at HZ15 ⊢
                by_cases hsz : x.p.size < y.p.size
                · have e2 : decide ((x.p.size : Int) < (y.p.size : Int)) = true := decide_eq_true (by omega)
                  have hx4 := HF2.out.1
                  have h1 : ¬ 9223372036854775807 < x.p.size + (⟨#[47]⟩ : ByteArray).size := by have : (⟨#[47]⟩ : ByteArray).size = 1 := rfl; omega
                  have hd := fun W => run_slice_to (P := Tryd.prog) Tryd.underlying9 y.p (x.p.size + 1) (by omega) W
                  rw [show ((x.p.size + 1 : Nat) : Int) = (x.p.size : Int) + 1 from by omega] at hd
                  have HBE : Hid (belowB y.t x.t = true ↔ y.p.extract 0 (x.p.size + 1) = x.p ++ ⟨#[47]⟩) := below_ext hsz
                  obtain ⟨t, ht⟩ : ∃ t, t = y.p.extract 0 (x.p.size + 1) := ⟨_, rfl⟩
                  rw [← ht] at hd HBE
                  clear ht
                  by_cases he : t = x.p ++ ⟨#[47]⟩
                  · have f3 := beq_true he
                    have HQ : Hid ((findT N y.t).isSome = false) := show _ = _ by rw [HYH.out, HBE.out.2 he]; simp
                    clear he
                    obtain ⟨a00, a01, a02, a03⟩ := HX15.out.cells
                    obtain ⟨a10, a11, a12, a13⟩ := HY15.out.cells
                    go_wp2_with fail
                    go_quiet (fail)
                    clear a00 a01 a02 a03 a10 a11 a12 a13
                    have hb := below_drewN (Below.refl w15.heap.size w15) nq
                    have HB16 := Lib.hid (below_step HB15.out hb)
                    have HL16 := Lib.hid (HL15.out.stays hb)
                    have HX16 := Lib.hid (HX15.out.stays hb)
                    have HA16 := Lib.hid (HA15.out.stays hb)
                    have HC16 := Lib.hid (HC15.out.stays hb)
                    have HY16 := Lib.hid (HY15.out.stays hb)
                    have HZ16 := Lib.hid (HZ15.out.stays hb)
                    clear hb HB15 HL15 HX15 HA15 HC15 HY15 HZ15
                    generalize w15.drewN nq = w16 at HB16 HL16 HX16 HA16 HC16 HY16 HZ16 ⊢
                    clear f1 f2 f3 hd h1 e2
                    obtain ⟨a00, a01, a02, a03⟩ := HY16.out.cells
                    go_wp2_with fail
                    clear a00 a01 a02 a03
                    refine (pTreeFind_any vb N y.p w16 HC16.out HNR.out HNF.out HYM.out.1).mono ?_
                    rintro e w17 ⟨rfl, hb⟩
                    have HB17 := Lib.hid (below_step HB16.out hb)
                    have HL17 := Lib.hid (HL16.out.stays hb)
                    have HX17 := Lib.hid (HX16.out.stays hb)
                    have HA17 := Lib.hid (HA16.out.stays hb)
                    have HC17 := Lib.hid (HC16.out.stays hb)
                    have HY17 := Lib.hid (HY16.out.stays hb)
                    have HZ17 := Lib.hid (HZ16.out.stays hb)
                    clear hb HB16 HL16 HX16 HA16 HC16 HY16 HZ16
                    rw [show y.p.data.toList = y.t from rfl, HQ.out]
                    obtain ⟨z3, hz3⟩ : ∃ z, z = foundI N y.t := ⟨_, rfl⟩
                    rw [← hz3]
                    clear hz3
                    go_wp2
                    go_roundw
                    case rel => exact ⟨k + 1, w17, rfl, by omega, by go_num, HL17.out, HX17.out, HA17.out, HC17.out, HB17.out⟩
                    case measure => simp [intOf]; omega
                  · have f3 := beq_false he
                    have HQ : Hid ((findT N y.t).isSome = true) := show _ = _ by rw [HYH.out, decide_eq_false HT2.out, Bool.eq_false_iff.2 (fun e => he (HBE.out.1 e))]; rfl
                    clear he
                    obtain ⟨a00, a01, a02, a03⟩ := HX15.out.cells
                    obtain ⟨a10, a11, a12, a13⟩ := HY15.out.cells
                    go_wp2_with fail
                    go_quiet (fail)
                    clear a00 a01 a02 a03 a10 a11 a12 a13
                    have hb := below_drewN (Below.refl w15.heap.size w15) nq
                    have HB16 := Lib.hid (below_step HB15.out hb)
                    have HL16 := Lib.hid (HL15.out.stays hb)
                    have HX16 := Lib.hid (HX15.out.stays hb)
                    have HA16 := Lib.hid (HA15.out.stays hb)
                    have HC16 := Lib.hid (HC15.out.stays hb)
                    have HY16 := Lib.hid (HY15.out.stays hb)
                    have HZ16 := Lib.hid (HZ15.out.stays hb)
                    clear hb HB15 HL15 HX15 HA15 HC15 HY15 HZ15
                    generalize w15.drewN nq = w16 at HB16 HL16 HX16 HA16 HC16 HY16 HZ16 ⊢
                    clear f1 f2 f3 hd h1 e2
                    obtain ⟨a00, a01, a02, a03⟩ := HY16.out.cells
                    go_wp2_with fail
                    clear a00 a01 a02 a03
                    refine (pTreeFind_any vb N y.p w16 HC16.out HNR.out HNF.out HYM.out.1).mono ?_
                    rintro e w17 ⟨rfl, hb⟩
                    have HB17 := Lib.hid (below_step HB16.out hb)
                    have HL17 := Lib.hid (HL16.out.stays hb)
                    have HX17 := Lib.hid (HX16.out.stays hb)
                    have HA17 := Lib.hid (HA16.out.stays hb)
                    have HC17 := Lib.hid (HC16.out.stays hb)
                    have HY17 := Lib.hid (HY16.out.stays hb)
                    have HZ17 := Lib.hid (HZ16.out.stays hb)
                    clear hb HB16 HL16 HX16 HA16 HC16 HY16 HZ16
                    rw [show y.p.data.toList = y.t from rfl, HQ.out]
                    obtain ⟨z3, hz3⟩ : ∃ z, z = foundI N y.t := ⟨_, rfl⟩
                    rw [← hz3]
                    clear hz3
                    go_wp2
                    go_roundw
                    case rel => exact ⟨k + 1, w17, rfl, by omega, by go_num, HL17.out, HX17.out, HA17.out, HC17.out, HB17.out⟩
                    case measure => simp [intOf]; omega
                · have e2 : decide ((x.p.size : Int) < (y.p.size : Int)) = false := decide_eq_false (by omega)
                  have HQ : Hid ((findT N y.t).isSome = true) := show _ = _ by rw [HYH.out, decide_eq_false HT2.out, show belowB y.t x.t = false from below_short hsz]; rfl
                  obtain ⟨a00, a01, a02, a03⟩ := HX15.out.cells
                  obtain ⟨a10, a11, a12, a13⟩ := HY15.out.cells
                  go_wp2_with fail
                  go_quiet (fail)
                  clear a00 a01 a02 a03 a10 a11 a12 a13
                  have hb := below_drewN (Below.refl w15.heap.size w15) nq
                  have HB16 := Lib.hid (below_step HB15.out hb)
                  have HL16 := Lib.hid (HL15.out.stays hb)
                  have HX16 := Lib.hid (HX15.out.stays hb)
                  have HA16 := Lib.hid (HA15.out.stays hb)
                  have HC16 := Lib.hid (HC15.out.stays hb)
                  have HY16 := Lib.hid (HY15.out.stays hb)
                  have HZ16 := Lib.hid (HZ15.out.stays hb)
                  clear hb HB15 HL15 HX15 HA15 HC15 HY15 HZ15
                  generalize w15.drewN nq = w16 at HB16 HL16 HX16 HA16 HC16 HY16 HZ16 ⊢
                  clear f1 f2 e2
                  obtain ⟨a00, a01, a02, a03⟩ := HY16.out.cells
                  go_wp2_with fail
                  clear a00 a01 a02 a03
                  refine (pTreeFind_any vb N y.p w16 HC16.out HNR.out HNF.out HYM.out.1).mono ?_
                  rintro e w17 ⟨rfl, hb⟩
                  have HB17 := Lib.hid (below_step HB16.out hb)
                  have HL17 := Lib.hid (HL16.out.stays hb)
                  have HX17 := Lib.hid (HX16.out.stays hb)
                  have HA17 := Lib.hid (HA16.out.stays hb)
                  have HC17 := Lib.hid (HC16.out.stays hb)
                  have HY17 := Lib.hid (HY16.out.stays hb)
                  have HZ17 := Lib.hid (HZ16.out.stays hb)
                  clear hb HB16 HL16 HX16 HA16 HC16 HY16 HZ16
                  rw [show y.p.data.toList = y.t from rfl, HQ.out]
                  obtain ⟨z3, hz3⟩ : ∃ z, z = foundI N y.t := ⟨_, rfl⟩
                  rw [← hz3]
                  clear hz3
                  go_wp2
                  go_roundw
                  case rel => exact ⟨k + 1, w17, rfl, by omega, by go_num, HL17.out, HX17.out, HA17.out, HC17.out, HB17.out⟩
                  case measure => simp [intOf]; omega
            · obtain ⟨_, a2, cap2, e2, _, _⟩ := HA12.out
              subst e2
              have q1 : decide ((k : Int) < (L.length : Int)) = false := decide_eq_false (by omega)
              have y1 : IntKind.i64.wrap ((M.length : Int) - (L.length : Int)) = (M.length : Int) - (L.length : Int) := IntWalk.i64_in _ (by omega)
              have q2 : decide ((0 : Int) ≤ (M.length : Int) - (L.length : Int)) = true := decide_eq_true (by omega)
              have q3 : decide ((M.length : Int) - (L.length : Int) ≤ 1) = true := decide_eq_true (by omega)
              go_wp2_with fail
              refine (tawake_any w12).mono ?_
              rintro e w13 ⟨rfl, hb⟩
              have HB13 := Lib.hid (below_step HB12.out hb)
              have HL13 := Lib.hid (HL12.out.stays hb)
              have HX13 := Lib.hid (HX12.out.stays hb)
              have HA13 := Lib.hid (HA12.out.stays hb)
              have HC13 := Lib.hid (HC12.out.stays hb)
              clear hb HB12 HL12 HX12 HA12 HC12
              go_wp2
              go_ret
              exact ⟨rfl, HB13.out⟩
        · have g0 : (((wrongT L x : Nat) : Int) == 0) = false := beq_eq_false_iff_ne.2 (by omega)
          have g1 : (((wrongT L x : Nat) : Int) != 0) = true := by rw [bne, g0]; rfl
          have HM := Lib.hid (put_no hw)
          clear hw
          rw [HM.out] at HA6
          go_wp2_with fail
          refine (rSame_any va v1 L L w6 HA6.out HL6.out).mono ?_
          rintro e w7 ⟨rfl, hb⟩
          have HB7 := Lib.hid (below_step HB6.out hb)
          have HL7 := Lib.hid (HL6.out.stays hb)
          have HX7 := Lib.hid (HX6.out.stays hb)
          have HA7 := Lib.hid (HA6.out.stays hb)
          clear hb HB6 HL6 HX6 HA6
          rw [sameT_yes (rfl : L = L)]
          go_wp2_with fail
          refine (tawake_any w7).mono ?_
          rintro e w8 ⟨rfl, hb⟩
          have HB8 := Lib.hid (below_step HB7.out hb)
          have HL8 := Lib.hid (HL7.out.stays hb)
          have HX8 := Lib.hid (HX7.out.stays hb)
          have HA8 := Lib.hid (HA7.out.stays hb)
          clear hb HB7 HL7 HX7 HA7
          go_wp2
          go_ret
          exact ⟨rfl, HB8.out⟩
end Go.Proofs.YtelaamchafocpaaDoor

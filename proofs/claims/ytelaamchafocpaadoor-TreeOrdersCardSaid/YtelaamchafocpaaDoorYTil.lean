/-
  Contracts over this translation: what is wrong with an item that is to be put in.
-/
import Derived.Test.YtelaamchafocpaaDoorQ2
import Derived.Test.YtelaamchafocpaaDoorQ1
import Derived.Lib.QuietBelow
import Derived.IntWalk
set_option linter.unusedVariables false
namespace Go.Proofs.YtelaamchafocpaaDoor
open Go.RowKit Go.Shelf
attribute [local go_sem] Oper.semAt_some
/-- What is said of each operation of a region of keeper.wrong. -/
def twrU (W4 : World) (kb B1 : Nat) (vs : Value) (x : It) (o : It) (q : Bool) : Nat → Value → Value → World → Prop
  | 0 => fun v _ _ => v = .pointer (some ⟨kb, 0, none⟩)
  | 1 => fun v _ _ => v = .pointer (some ⟨kb, 0, none⟩)
  | 2 => fun v _ _ => v = .pointer (some ⟨kb, 0, none⟩)
  | 3 => fun v _ _ => v = vs
  | 4 => fun v _ _ => v = .pointer (some ⟨B1, 0, none⟩)
  | 5 => fun v _ _ => v = .string x.p
  | 6 => fun v _ _ => v = (.tuple #[itV o, .bool q])
  | 7 => fun v _ _ => v = (.tuple #[itV o, .bool q])
  | 8 => fun v _ _ => v = itV o
  | 9 => fun v _ _ => v = .bool q
  | 10 => fun v _ w => FreshI W4.heap.size w v
  | 11 => fun _ e w => BoxI W4.heap.size w e o
  | 12 => fun v _ _ => v = .bool q
  | _ => fun _ _ _ => True
def twrN : List (List Nat) := [[], [0], [1], [2], [], [4], [3, 5], [6], [7], [7], [], [10, 8], [9]]
def twrE : Nat → Option Tmp
  | 11 => some 8
  | _ => none
def twrB : List (Nat × Nat) := [(11, 10)]
theorem twr_T (W4 : World) (kb B1 : Nat) (vs : Value) (x : It) (o : It) (q : Bool) (ix kx : Nat) (v e : Value) (w w' : World) (hk : kx < 13) (hne : kx ≠ ix) (hbd : (ix, kx) ∉ twrB) (hU : (twrU W4 kb B1 vs x o q) kx v e w) (hT : (appT 11 (Below W4.heap.size)) ix w w') : (twrU W4 kb B1 vs x o q) kx v e w' := by
  by_cases hi11 : ix = 11
  · subst hi11
    have hR := appT_in hT
    rcases (show kx = 0 ∨ kx = 1 ∨ kx = 2 ∨ kx = 3 ∨ kx = 4 ∨ kx = 5 ∨ kx = 6 ∨ kx = 7 ∨ kx = 8 ∨ kx = 9 ∨ kx = 10 ∨ kx = 11 ∨ kx = 12 by omega) with rfl | rfl | rfl | rfl | rfl | rfl | rfl | rfl | rfl | rfl | rfl | rfl | rfl
    · exact hU
    · exact hU
    · exact hU
    · exact hU
    · exact hU
    · exact hU
    · exact hU
    · exact hU
    · exact hU
    · exact hU
    · exact absurd (by decide) hbd
    · exact absurd rfl hne
    · exact hU
  have hb : Below w.heap.size w w' := appT_out hi11 hT
  rcases (show kx = 0 ∨ kx = 1 ∨ kx = 2 ∨ kx = 3 ∨ kx = 4 ∨ kx = 5 ∨ kx = 6 ∨ kx = 7 ∨ kx = 8 ∨ kx = 9 ∨ kx = 10 ∨ kx = 11 ∨ kx = 12 by omega) with rfl | rfl | rfl | rfl | rfl | rfl | rfl | rfl | rfl | rfl | rfl | rfl | rfl
  · exact hU
  · exact hU
  · exact hU
  · exact hU
  · exact hU
  · exact hU
  · exact hU
  · exact hU
  · exact hU
  · exact hU
  · exact FreshI.stays hU hb
  · exact BoxI.stays hU hb
  · exact hU
set_option maxRecDepth 100000 in
set_option maxHeartbeats 80000000 in
theorem pWrong_any (kb : Nat) (vs : Value) (L : List It) (x : It) (w : World) (hk : w.cell? ⟨kb, 0, none⟩ = some vs) (h : IsItems w vs L) (hr : Rise L) (hf : fewB L = true) (hx : x.p.size ≤ 400) (hxc : x.c.size ≤ 40000) :
    Calls Tryd.prog 41 #[.pointer (some ⟨kb, 0, none⟩), itV x] w fun e w' => e = .returned (.int .i64 (wrongT L x)) ∧ Below w.heap.size w w' := by
  have HI := Lib.hid h
  have hsz : sizeT L ≤ 10000000 := by have := sizeT_few (fun x hx => (few_mem hf x hx).2); have := few_len hf; omega
  have P1 := Lib.hid (Fit_any x.p (by omega))
  have D1 := Lib.hid (Dir_any x.p (by omega))
  have hdl : (⟨(dirS x.t).toArray⟩ : ByteArray).size ≤ 400 := by
    have := dirS_le x.t
    have h2 : x.t.length = x.p.size := (Lib.size_eq _).symm
    show (dirS x.t).toArray.size ≤ 400
    simp; omega
  have F1 := Lib.hid (fun w h => pFind_any vs L ⟨(dirS x.t).toArray⟩ w h hr hf hdl)
  have F2 := Lib.hid (fun w h => pFind_any vs L x.p w h hr hf hx)
  have SI := Lib.hid (fun w h => pSize_any vs L w h (by omega))
  have hol : (foundI L x.t).c.size ≤ sizeT L := findT_size
  rw [show x.p.data.toList = x.t from rfl] at P1 D1 F2
  obtain ⟨o, ho⟩ : ∃ o, o = foundI L x.t := ⟨_, rfl⟩
  obtain ⟨q, hq⟩ : ∃ q, q = (findT L x.t).isSome := ⟨_, rfl⟩
  obtain ⟨u, hu⟩ : ∃ u, u = foundI L (dirS x.t) := ⟨_, rfl⟩
  obtain ⟨qd, hqd⟩ : ∃ qd, qd = (findT L (dirS x.t)).isSome := ⟨_, rfl⟩
  rw [← ho, ← hq] at F2
  rw [show (⟨(dirS x.t).toArray⟩ : ByteArray).data.toList = dirS x.t by simp, ← hu, ← hqd] at F1
  rw [← ho] at hol
  have HOE := Lib.hid ho; have HQE := Lib.hid hq; have HUE := Lib.hid hu; have HQDE := Lib.hid hqd
  clear ho hq hu hqd hdl
  have h2 := h
  obtain ⟨hm, a, cap, hv, _, hc⟩ := h2
  have hmm : L.length ≤ 9223372036854775807 := by unfold maxLen at hm; omega
  have HVV := Lib.hid hv
  clear hc hf hr hm h hv
  have HKB : Hid (kb < w.heap.size) := block_lt_of_cell hk
  have HKC := Lib.hid hk
  clear hk
  go_enter Tryd.func41, Tryd.ntmps41
  go_wp2_with fail
  have HX := Lib.hid (inBox_new w x 27)
  have hb0 := (Below.refl w.heap.size w).alloc (Nat.le_refl _) (.cells #[.string x.p, .bool x.d, .bool x.e, .string x.c] 27)
  have HB1 := Lib.hid hb0
  have HI1 := Lib.hid (HI.out.stays hb0)
  have HKC1 := Lib.hid ((hb0.cell (p := ⟨kb, 0, none⟩) HKB.out).trans HKC.out)
  have HKB1 : Hid (kb < (w.alloc (.cells #[.string x.p, .bool x.d, .bool x.e, .string x.c] 27)).heap.size) := Nat.lt_of_lt_of_le HKB.out hb0.size
  generalize w.alloc (.cells #[.string x.p, .bool x.d, .bool x.e, .string x.c] 27) = W1 at HX hb0 HB1 HI1 HKC1 HKB1 ⊢
  generalize w.heap.size = B1 at HX ⊢
  clear hb0 HI HKC HKB
  refine (D1.out _).mono ?_
  rintro e w2 ⟨rfl, hb⟩
  have HB2 := Lib.hid (below_step HB1.out hb)
  have HX2 := Lib.hid (HX.out.stays hb)
  have HI2 := Lib.hid (HI1.out.stays hb)
  have kc := (hb.cell (p := ⟨kb, 0, none⟩) HKB1.out).trans HKC1.out
  have HKB2 : Hid (kb < w2.heap.size) := Nat.lt_of_lt_of_le HKB1.out hb.size
  have HKC2 := Lib.hid kc
  clear hb HX HI1 HB1 D1 HKC1 HKB1
  go_wp2_with fail
  refine (F1.out _ HI2.out).mono ?_
  rintro e w3 ⟨rfl, hb⟩
  have HB3 := Lib.hid (below_step HB2.out hb)
  have HX3 := Lib.hid (HX2.out.stays hb)
  have HI3 := Lib.hid (HI2.out.stays hb)
  have HKC3 := Lib.hid ((hb.cell (p := ⟨kb, 0, none⟩) HKB2.out).trans HKC2.out)
  have HKB3 : Hid (kb < w3.heap.size) := Nat.lt_of_lt_of_le HKB2.out hb.size
  clear hb HX2 HI2 HB2 F1 HKC2 HKB2 kc
  go_wp2_with fail
  have HU4 := Lib.hid (inBox_new w3 u 27)
  have hb4 := (Below.refl w3.heap.size w3).alloc (Nat.le_refl _) (.cells #[.string u.p, .bool u.d, .bool u.e, .string u.c] 27)
  have HB4 := Lib.hid (below_step HB3.out hb4)
  have HX4 := Lib.hid (HX3.out.stays hb4)
  have HI4 := Lib.hid (HI3.out.stays hb4)
  have HKC := Lib.hid ((hb4.cell (p := ⟨kb, 0, none⟩) HKB3.out).trans HKC3.out)
  have HKB : Hid (kb < (w3.alloc (.cells #[.string u.p, .bool u.d, .bool u.e, .string u.c] 27)).heap.size) := Nat.lt_of_lt_of_le HKB3.out hb4.size
  generalize w3.alloc (.cells #[.string u.p, .bool u.d, .bool u.e, .string u.c] 27) = W4 at HU4 hb4 HB4 HX4 HI4 HKC HKB ⊢
  generalize w3.heap.size = B4 at HU4 ⊢
  clear hb4 HX3 HI3 HB3 HKC3 HKB3
  refine wp_region_wordsG (by kernel_rfl) (by kernel_rfl) (appT 11 (Below W4.heap.size)) (HeldI W4) twrE (twrU W4 kb B1 vs x o q) 13 twrN [11, 12] (by kernel_rfl) (by kernel_rfl) (by kernel_rfl)
    twrB (by kernel_rfl) (fun ix kx v e w w' hi hk hne hb hU hT => twr_T _ _ _ _ _ _ _  ix kx v e w w' hk hne hb hU hT) (by decide) (HeldI.drew _) (fun k hk hge => absurd hk (Nat.not_lt.2 (show 13 ≤ k from hge)))
    [23, 24, 25, 26, 27, 28, 29, 22, 30, 31, 8, 9] (by kernel_rfl) (forall_ops ?steps) ?behind
  case steps =>
    refine ⟨?_, ?_, ?_, ?_, ?_, ?_, ?_, ?_, ?_, ?_, ?_, ?_, ?_, trivial⟩
    · refine stepG_of rfl ?_
      exact stepR_value (t := 23) (.pointer (some ⟨kb, 0, none⟩)) rfl (fun _ => appT_other (by decide) (Below.refl _ _)) (fun ac w hG hN hO => by
        have e0 : slot ac 0 = .pointer (some ⟨kb, 0, none⟩) := hO 0 (by kernel_rfl)
        exact run_move_slot (.inl rfl) e0) (fun ac w hG hN => rfl)
    · refine stepG_of rfl ?_
      exact stepR_value (t := 24) (.pointer (some ⟨kb, 0, none⟩)) rfl (fun _ => appT_other (by decide) (Below.refl _ _)) (fun ac w hG hN hO => by
        have e23 : slot ac 23 = .pointer (some ⟨kb, 0, none⟩) := hN 0 (by decide)
        have f23 := slot_at e23
        unfold execOp; go_simp) (fun ac w hG hN => rfl)
    · refine stepG_of rfl ?_
      exact stepR_value (t := 25) (.pointer (some ⟨kb, 0, none⟩)) rfl (fun _ => appT_other (by decide) (Below.refl _ _)) (fun ac w hG hN hO => by
        have e24 : slot ac 24 = .pointer (some ⟨kb, 0, none⟩) := hN 1 (by decide)
        have f24 := slot_at e24
        unfold execOp; go_simp) (fun ac w hG hN => rfl)
    · refine stepG_of rfl ?_
      exact stepR_value (t := 26) (vs) rfl (fun _ => appT_other (by decide) (Below.refl _ _)) (fun ac w hG hN hO => by
        have e25 : slot ac 25 = .pointer (some ⟨kb, 0, none⟩) := hN 2 (by decide)
        have q1 := (hG.below.cell (p := ⟨kb, 0, none⟩) HKB.out).trans HKC.out
        have q2 := (hG.below.cell (p := ⟨B1, 0, none⟩) HX4.out.2).trans HX4.out.cells.1
        have f25 := slot_at e25
        unfold execOp; go_simp) (fun ac w hG hN => rfl)
    · refine stepG_of rfl ?_
      exact stepR_value (t := 27) (.pointer (some ⟨B1, 0, none⟩)) rfl (fun _ => appT_other (by decide) (Below.refl _ _)) (fun ac w hG hN hO => by
        have e3 : slot ac 3 = .pointer (some ⟨B1, 0, none⟩) := hO 3 (by kernel_rfl)
        have f3 := slot_at e3
        unfold execOp; go_simp) (fun ac w hG hN => rfl)
    · refine stepG_of rfl ?_
      exact stepR_value (t := 28) (.string x.p) rfl (fun _ => appT_other (by decide) (Below.refl _ _)) (fun ac w hG hN hO => by
        have e27 : slot ac 27 = .pointer (some ⟨B1, 0, none⟩) := hN 4 (by decide)
        have q1 := (hG.below.cell (p := ⟨kb, 0, none⟩) HKB.out).trans HKC.out
        have q2 := (hG.below.cell (p := ⟨B1, 0, none⟩) HX4.out.2).trans HX4.out.cells.1
        have f27 := slot_at e27
        unfold execOp; go_simp) (fun ac w hG hN => rfl)
    · refine stepG_of rfl ?_
      intro ac w hG hN hO
      have e26 : slot ac 26 = vs := hN 3 (by decide)
      have e28 : slot ac 28 = .string x.p := hN 5 (by decide)
      refine wp_callx 30 _ _ rfl (enters_of Tryd.func30 (by kernel_rfl) rfl) #[vs, .string x.p] (by simp [eval_slot, e26, e28]) (calls_val (F2.out w (HI4.out.stays hG.below))) ?_
      rintro v w'' ⟨hv, hb⟩
      exact ⟨v, rfl, (appT_other (by decide) hb), hG.on hb, hv⟩
    · refine stepG_of rfl ?_
      exact stepR_value (t := 22) ((.tuple #[itV o, .bool q])) rfl (fun _ => appT_other (by decide) (Below.refl _ _)) (fun ac w hG hN hO => by
        have e29 : slot ac 29 = (.tuple #[itV o, .bool q]) := hN 6 (by decide)
        exact run_move_slot (.inl rfl) e29) (fun ac w hG hN => rfl)
    · refine stepG_of rfl ?_
      exact stepR_value (t := 30) (itV o) rfl (fun _ => appT_other (by decide) (Below.refl _ _)) (fun ac w hG hN hO => by
        have e22 : slot ac 22 = (.tuple #[itV o, .bool q]) := hN 7 (by decide)
        have f22 := slot_at e22
        unfold execOp; go_simp) (fun ac w hG hN => rfl)
    · refine stepG_of rfl ?_
      exact stepR_value (t := 31) (.bool q) rfl (fun _ => appT_other (by decide) (Below.refl _ _)) (fun ac w hG hN hO => by
        have e22 : slot ac 22 = (.tuple #[itV o, .bool q]) := hN 7 (by decide)
        have f22 := slot_at e22
        unfold execOp; go_simp) (fun ac w hG hN => rfl)
    · refine stepG_of rfl ?_
      intro ac w hG hN hO
      refine wp_alloc_item rfl ?_
      exact ⟨_, rfl, appT_other (by decide) ((Below.refl _ _).alloc (Nat.le_refl _) _), hG.on ((Below.refl _ _).alloc (Nat.le_refl _) _), freshI_new w _ hG.below.size⟩
    · refine stepG_of rfl ?_
      intro ac w hG hN hO
      have e8 : FreshI W4.heap.size w (slot ac 8) := hN 10 (by decide)
      have e30 : slot ac 30 = itV o := hN 8 (by decide)
      refine wp_store_item (.tmp 8) (.tmp 30) rfl (B := W4.heap.size) e8 e30 ?_
      intro w' hb hbox
      exact ⟨_, rfl, appT_at hb, hG.onB hb, hbox⟩
    · refine stepG_of rfl ?_
      exact stepR_value (t := 9) (.bool q) rfl (fun _ => appT_other (by decide) (Below.refl _ _)) (fun ac w hG hN hO => by
        have e31 : slot ac 31 = .bool q := hN 9 (by decide)
        exact run_move_slot (.inr rfl) e31) (fun ac w hG hN => rfl)
  case behind =>
    intro ac w5 hG hV hS ha
    have h11 : BoxI W4.heap.size w5 (slot ac 8) o := hV 11 (by decide) (by decide)
    have h12 : slot ac 9 = .bool q := hV 12 (by decide) (by decide)
    generalize slot ac = sl at ha h11 h12
    subst ha
    simp only [patchL, List.contains_cons, List.contains_nil, Nat.reduceBEq, Bool.or_false, Bool.or_true, if_true, Bool.false_eq_true, if_false, Nat.reduceAdd]
    generalize sl 23 = s23
    generalize sl 24 = s24
    generalize sl 25 = s25
    generalize sl 26 = s26
    generalize sl 27 = s27
    generalize sl 28 = s28
    generalize sl 29 = s29
    generalize sl 22 = s22
    generalize sl 30 = s30
    generalize sl 31 = s31
    generalize sl 8 = s8 at h11 ⊢
    generalize sl 9 = s9 at h12 ⊢
    subst h12
    clear hV hS
    obtain ⟨A, hA, hAB, HOB⟩ := h11
    have HO5 := Lib.hid HOB
    have HB5 := Lib.hid (HB4.out.trans (hG.below.mono HB4.out.size))
    have HX5 := Lib.hid (HX4.out.stays hG.below)
    have HU5 := Lib.hid (HU4.out.stays hG.below)
    have HI5 := Lib.hid (HI4.out.stays hG.below)
    have HKB5 : Hid (kb < w5.heap.size) := Nat.lt_of_lt_of_le HKB.out hG.below.size
    have HKC5 := Lib.hid ((hG.below.cell (p := ⟨kb, 0, none⟩) HKB.out).trans HKC.out)
    subst hA
    clear hG hAB HOB HB4 HX4 HU4 HI4 HKB HKC F2
    obtain ⟨d0, d1, d2, d3⟩ := HX5.out.cells
    go_wp2_with fail
    refine (P1.out _).mono ?_
    rintro e w6 ⟨rfl, hb⟩
    have HB6 := Lib.hid (below_step HB5.out hb)
    have HX6 := Lib.hid (HX5.out.stays hb)
    have HU6 := Lib.hid (HU5.out.stays hb)
    have HO6 := Lib.hid (HO5.out.stays hb)
    have HI6 := Lib.hid (HI5.out.stays hb)
    have HKC6 := Lib.hid ((hb.cell (p := ⟨kb, 0, none⟩) HKB5.out).trans HKC5.out)
    clear hb HX5 HU5 HO5 HI5 HB5 HKC5 HKB5 P1 d0 d1 d2 d3
    rw [show isPath x.t = pathB x.t from rfl]
    obtain ⟨d0, d1, d2, d3⟩ := HX6.out.cells
    obtain ⟨u0, u1, u2, u3⟩ := HU6.out.cells
    obtain ⟨o0, o1, o2, o3⟩ := HO6.out.cells
    clear u0 u2 u3 o0 o2
    rcases hpb : pathB x.t with _ | _
    · have HPB := Lib.hid hpb
      clear hpb
      have HV := Lib.hid (wrong_7 (L := L) HPB.out)
      clear SI
      go_wp2
      go_ret
      exact ⟨by rw [HV.out]; rfl, HB6.out⟩
    · have HPB := Lib.hid hpb
      clear hpb
      rcases hdd : x.d with _ | _
      · have HFM : Hid (badI x = false) := show _ = _ by unfold badI; rw [hdd]; rfl
        rw [hdd] at d1
        have HDD := Lib.hid hdd
        clear hdd
        by_cases hd : dirS x.t = []
        · have hd2 : (dirS x.t).isEmpty = true := by rw [hd]; rfl
          have HUP : Hid (UpOk L x) := Or.inl hd
          clear hd
          rcases hqq : q with _ | _
          · subst hqq
            have HFN : Hid (findT L x.t = none) := show _ = _ by have := HQE.out; simpa using this.symm
            have HKO : Hid (KindOk L x) := show ∀ o, _ from fun o h => by rw [HFN.out] at h; cases h
            by_cases hs1 : 32768 < x.c.size
            · have g1 : decide ((32768 : Int) < (x.c.size : Int)) = true := decide_eq_true (by omega)
              have HC := Lib.hid hs1
              clear hs1
              have HV := Lib.hid (wrong_4 HPB.out HFM.out HUP.out HKO.out (.inl HC.out))
              clear SI
              go_wp2
              go_ret
              exact ⟨by rw [HV.out]; rfl, HB6.out⟩
            · have g1 : decide ((32768 : Int) < (x.c.size : Int)) = false := decide_eq_false (by omega)
              have y1 : IntKind.i64.wrap ((sizeT L : Int) - (o.c.size : Int)) = (sizeT L : Int) - (o.c.size : Int) := IntWalk.i64_in _ (by omega)
              have y2 : IntKind.i64.wrap ((sizeT L : Int) - (o.c.size : Int) + (x.c.size : Int)) = (sizeT L : Int) - (o.c.size : Int) + (x.c.size : Int) := IntWalk.i64_in _ (by omega)
              have kc := HKC6.out
              have k1 := fun d os => cell_regrown kc d os
              have k2 := fun d os => cell_regrown o3 d os
              have k3 := fun d os => cell_regrown d3 d os
              by_cases hs2 : 65536 + o.c.size < sizeT L + x.c.size
              · have g2 : decide ((65536 : Int) < (sizeT L : Int) - (o.c.size : Int) + (x.c.size : Int)) = true := decide_eq_true (by omega)
                have HC : Hid (65536 + (foundI L x.t).c.size < sizeT L + x.c.size) := show _ < _ by rw [← HOE.out]; exact hs2
                clear hs1 hs2
                go_wp2_with fail
                refine wp_region_quiet_below (by kernel_rfl) (by kernel_rfl) ?_
                repeat (first | go_big_quiet_step ((exact Calls.regrown_of (SI.out _ (HI6.out.stays (below_regrown _ _ _))))) | quiet_step ((exact Calls.regrown_of (SI.out _ (HI6.out.stays (below_regrown _ _ _))))))
                refine wpQuiet_nil ?_
                intro wq hwq
                have hbq : Below w6.heap.size w6 wq := by obtain ⟨p, rfl⟩ := hwq; exact below_regrown _ _ _
                have HBq := Lib.hid (below_step HB6.out hbq)
                clear hwq hbq k1 k2 k3 d0 d1 d2 d3 o1 o3 u1 kc y1 y2
                have HV := Lib.hid (wrong_4 HPB.out HFM.out HUP.out HKO.out (.inr HC.out))
                clear SI
                go_wp2
                go_ret
                exact ⟨by rw [HV.out]; rfl, HBq.out⟩
              · have g2 : decide ((65536 : Int) < (sizeT L : Int) - (o.c.size : Int) + (x.c.size : Int)) = false := decide_eq_false (by omega)
                have HC : Hid (¬ (32768 < x.c.size ∨ 65536 + (foundI L x.t).c.size < sizeT L + x.c.size)) := show ¬ _ from fun h => by rw [← HOE.out] at h; exact h.elim hs1 hs2
                clear hs1 hs2
                go_wp2_with fail
                refine wp_region_quiet_below (by kernel_rfl) (by kernel_rfl) ?_
                repeat (first | go_big_quiet_step ((exact Calls.regrown_of (SI.out _ (HI6.out.stays (below_regrown _ _ _))))) | quiet_step ((exact Calls.regrown_of (SI.out _ (HI6.out.stays (below_regrown _ _ _))))))
                refine wpQuiet_nil ?_
                intro wq hwq
                have hbq : Below w6.heap.size w6 wq := by obtain ⟨p, rfl⟩ := hwq; exact below_regrown _ _ _
                have HBq := Lib.hid (below_step HB6.out hbq)
                have kq := (hbq.cell (p := ⟨kb, 0, none⟩) (block_lt_of_cell HKC6.out)).trans HKC6.out
                clear hwq hbq k1 k2 k3 d0 d1 d2 d3 o1 o3 u1 kc y1 y2
                by_cases h6 : 60 ≤ L.length
                · have g3 : decide ((60 : Int) ≤ (L.length : Int)) = true := decide_eq_true (by omega)
                  have HM := Lib.hid h6
                  clear h6
                  rw [HVV.out] at kq
                  have HV := Lib.hid (wrong_9 HPB.out HFM.out HUP.out HKO.out HC.out HFN.out HM.out)
                  clear SI
                  go_wp2
                  go_ret
                  exact ⟨by rw [HV.out]; rfl, HBq.out⟩
                · have g3 : decide ((60 : Int) ≤ (L.length : Int)) = false := decide_eq_false (by omega)
                  have HM := Lib.hid h6
                  clear h6
                  rw [HVV.out] at kq
                  have HV := Lib.hid (wrong_0 HPB.out HFM.out HUP.out HKO.out HC.out (fun h => HM.out h.2))
                  clear SI
                  go_wp2
                  go_ret
                  exact ⟨by rw [HV.out]; rfl, HBq.out⟩
          · subst hqq
            have HFN : Hid (findT L x.t = some o) := show _ = _ by
              obtain ⟨o', ho'⟩ := Option.isSome_iff_exists.1 HQE.out.symm
              rw [HOE.out, foundI_some ho', ho']
            rcases hod : o.d with _ | _
            · rw [hod] at o1
              have HKO : Hid (KindOk L x) := show ∀ o, _ from fun o' h => by rw [HFN.out] at h; cases h; rw [hod, HDD.out]
              clear hod
              by_cases hs1 : 32768 < x.c.size
              · have g1 : decide ((32768 : Int) < (x.c.size : Int)) = true := decide_eq_true (by omega)
                have HC := Lib.hid hs1
                clear hs1
                have HV := Lib.hid (wrong_4 HPB.out HFM.out HUP.out HKO.out (.inl HC.out))
                clear SI
                go_wp2
                go_ret
                exact ⟨by rw [HV.out]; rfl, HB6.out⟩
              · have g1 : decide ((32768 : Int) < (x.c.size : Int)) = false := decide_eq_false (by omega)
                have y1 : IntKind.i64.wrap ((sizeT L : Int) - (o.c.size : Int)) = (sizeT L : Int) - (o.c.size : Int) := IntWalk.i64_in _ (by omega)
                have y2 : IntKind.i64.wrap ((sizeT L : Int) - (o.c.size : Int) + (x.c.size : Int)) = (sizeT L : Int) - (o.c.size : Int) + (x.c.size : Int) := IntWalk.i64_in _ (by omega)
                have kc := HKC6.out
                have k1 := fun d os => cell_regrown kc d os
                have k2 := fun d os => cell_regrown o3 d os
                have k3 := fun d os => cell_regrown d3 d os
                by_cases hs2 : 65536 + o.c.size < sizeT L + x.c.size
                · have g2 : decide ((65536 : Int) < (sizeT L : Int) - (o.c.size : Int) + (x.c.size : Int)) = true := decide_eq_true (by omega)
                  have HC : Hid (65536 + (foundI L x.t).c.size < sizeT L + x.c.size) := show _ < _ by rw [← HOE.out]; exact hs2
                  clear hs1 hs2
                  go_wp2_with fail
                  refine wp_region_quiet_below (by kernel_rfl) (by kernel_rfl) ?_
                  repeat (first | go_big_quiet_step ((exact Calls.regrown_of (SI.out _ (HI6.out.stays (below_regrown _ _ _))))) | quiet_step ((exact Calls.regrown_of (SI.out _ (HI6.out.stays (below_regrown _ _ _))))))
                  refine wpQuiet_nil ?_
                  intro wq hwq
                  have hbq : Below w6.heap.size w6 wq := by obtain ⟨p, rfl⟩ := hwq; exact below_regrown _ _ _
                  have HBq := Lib.hid (below_step HB6.out hbq)
                  clear hwq hbq k1 k2 k3 d0 d1 d2 d3 o1 o3 u1 kc y1 y2
                  have HV := Lib.hid (wrong_4 HPB.out HFM.out HUP.out HKO.out (.inr HC.out))
                  clear SI
                  go_wp2
                  go_ret
                  exact ⟨by rw [HV.out]; rfl, HBq.out⟩
                · have g2 : decide ((65536 : Int) < (sizeT L : Int) - (o.c.size : Int) + (x.c.size : Int)) = false := decide_eq_false (by omega)
                  have HC : Hid (¬ (32768 < x.c.size ∨ 65536 + (foundI L x.t).c.size < sizeT L + x.c.size)) := show ¬ _ from fun h => by rw [← HOE.out] at h; exact h.elim hs1 hs2
                  clear hs1 hs2
                  go_wp2_with fail
                  refine wp_region_quiet_below (by kernel_rfl) (by kernel_rfl) ?_
                  repeat (first | go_big_quiet_step ((exact Calls.regrown_of (SI.out _ (HI6.out.stays (below_regrown _ _ _))))) | quiet_step ((exact Calls.regrown_of (SI.out _ (HI6.out.stays (below_regrown _ _ _))))))
                  refine wpQuiet_nil ?_
                  intro wq hwq
                  have hbq : Below w6.heap.size w6 wq := by obtain ⟨p, rfl⟩ := hwq; exact below_regrown _ _ _
                  have HBq := Lib.hid (below_step HB6.out hbq)
                  have kq := (hbq.cell (p := ⟨kb, 0, none⟩) (block_lt_of_cell HKC6.out)).trans HKC6.out
                  clear hwq hbq k1 k2 k3 d0 d1 d2 d3 o1 o3 u1 kc y1 y2
                  have HV := Lib.hid (wrong_0 HPB.out HFM.out HUP.out HKO.out HC.out (fun h => by rw [HFN.out] at h; cases h.1))
                  clear SI
                  go_wp2
                  go_ret
                  exact ⟨by rw [HV.out]; rfl, HBq.out⟩
            · rw [hod] at o1
              have HKO : Hid (o.d ≠ x.d) := show ¬ _ from fun h => by rw [hod, HDD.out] at h; cases h
              clear hod
              have HV := Lib.hid (wrong_10b HPB.out HFM.out HUP.out HFN.out HKO.out)
              clear SI
              go_wp2
              go_ret
              exact ⟨by rw [HV.out]; rfl, HB6.out⟩
        · have hd2 : (dirS x.t).isEmpty = false := by simpa using hd
          have HD := Lib.hid hd
          clear hd
          rcases hqd : qd with _ | _
          · subst hqd
            have HFS := Lib.hid HQDE.out.symm
            have HV := Lib.hid (wrong_5 HPB.out HFM.out HD.out HFS.out)
            clear SI
            go_wp2
            go_ret
            exact ⟨by rw [HV.out]; rfl, HB6.out⟩
          · subst hqd
            have HFS := Lib.hid HQDE.out.symm
            rcases hud : u.d with _ | _
            · rw [hud] at u1
              have HUD : Hid ((foundI L (dirS x.t)).d = false) := show _ = _ by rw [← HUE.out]; exact hud
              clear hud
              have HV := Lib.hid (wrong_10a HPB.out HFM.out HD.out HFS.out HUD.out)
              clear SI
              go_wp2
              go_ret
              exact ⟨by rw [HV.out]; rfl, HB6.out⟩
            · rw [hud] at u1
              have HUP : Hid (UpOk L x) := Or.inr ⟨HFS.out, by rw [← HUE.out]; exact hud⟩
              clear hud
              rcases hqq : q with _ | _
              · subst hqq
                have HFN : Hid (findT L x.t = none) := show _ = _ by have := HQE.out; simpa using this.symm
                have HKO : Hid (KindOk L x) := show ∀ o, _ from fun o h => by rw [HFN.out] at h; cases h
                by_cases hs1 : 32768 < x.c.size
                · have g1 : decide ((32768 : Int) < (x.c.size : Int)) = true := decide_eq_true (by omega)
                  have HC := Lib.hid hs1
                  clear hs1
                  have HV := Lib.hid (wrong_4 HPB.out HFM.out HUP.out HKO.out (.inl HC.out))
                  clear SI
                  go_wp2
                  go_ret
                  exact ⟨by rw [HV.out]; rfl, HB6.out⟩
                · have g1 : decide ((32768 : Int) < (x.c.size : Int)) = false := decide_eq_false (by omega)
                  have y1 : IntKind.i64.wrap ((sizeT L : Int) - (o.c.size : Int)) = (sizeT L : Int) - (o.c.size : Int) := IntWalk.i64_in _ (by omega)
                  have y2 : IntKind.i64.wrap ((sizeT L : Int) - (o.c.size : Int) + (x.c.size : Int)) = (sizeT L : Int) - (o.c.size : Int) + (x.c.size : Int) := IntWalk.i64_in _ (by omega)
                  have kc := HKC6.out
                  have k1 := fun d os => cell_regrown kc d os
                  have k2 := fun d os => cell_regrown o3 d os
                  have k3 := fun d os => cell_regrown d3 d os
                  by_cases hs2 : 65536 + o.c.size < sizeT L + x.c.size
                  · have g2 : decide ((65536 : Int) < (sizeT L : Int) - (o.c.size : Int) + (x.c.size : Int)) = true := decide_eq_true (by omega)
                    have HC : Hid (65536 + (foundI L x.t).c.size < sizeT L + x.c.size) := show _ < _ by rw [← HOE.out]; exact hs2
                    clear hs1 hs2
                    go_wp2_with fail
                    refine wp_region_quiet_below (by kernel_rfl) (by kernel_rfl) ?_
                    repeat (first | go_big_quiet_step ((exact Calls.regrown_of (SI.out _ (HI6.out.stays (below_regrown _ _ _))))) | quiet_step ((exact Calls.regrown_of (SI.out _ (HI6.out.stays (below_regrown _ _ _))))))
                    refine wpQuiet_nil ?_
                    intro wq hwq
                    have hbq : Below w6.heap.size w6 wq := by obtain ⟨p, rfl⟩ := hwq; exact below_regrown _ _ _
                    have HBq := Lib.hid (below_step HB6.out hbq)
                    clear hwq hbq k1 k2 k3 d0 d1 d2 d3 o1 o3 u1 kc y1 y2
                    have HV := Lib.hid (wrong_4 HPB.out HFM.out HUP.out HKO.out (.inr HC.out))
                    clear SI
                    go_wp2
                    go_ret
                    exact ⟨by rw [HV.out]; rfl, HBq.out⟩
                  · have g2 : decide ((65536 : Int) < (sizeT L : Int) - (o.c.size : Int) + (x.c.size : Int)) = false := decide_eq_false (by omega)
                    have HC : Hid (¬ (32768 < x.c.size ∨ 65536 + (foundI L x.t).c.size < sizeT L + x.c.size)) := show ¬ _ from fun h => by rw [← HOE.out] at h; exact h.elim hs1 hs2
                    clear hs1 hs2
                    go_wp2_with fail
                    refine wp_region_quiet_below (by kernel_rfl) (by kernel_rfl) ?_
                    repeat (first | go_big_quiet_step ((exact Calls.regrown_of (SI.out _ (HI6.out.stays (below_regrown _ _ _))))) | quiet_step ((exact Calls.regrown_of (SI.out _ (HI6.out.stays (below_regrown _ _ _))))))
                    refine wpQuiet_nil ?_
                    intro wq hwq
                    have hbq : Below w6.heap.size w6 wq := by obtain ⟨p, rfl⟩ := hwq; exact below_regrown _ _ _
                    have HBq := Lib.hid (below_step HB6.out hbq)
                    have kq := (hbq.cell (p := ⟨kb, 0, none⟩) (block_lt_of_cell HKC6.out)).trans HKC6.out
                    clear hwq hbq k1 k2 k3 d0 d1 d2 d3 o1 o3 u1 kc y1 y2
                    by_cases h6 : 60 ≤ L.length
                    · have g3 : decide ((60 : Int) ≤ (L.length : Int)) = true := decide_eq_true (by omega)
                      have HM := Lib.hid h6
                      clear h6
                      rw [HVV.out] at kq
                      have HV := Lib.hid (wrong_9 HPB.out HFM.out HUP.out HKO.out HC.out HFN.out HM.out)
                      clear SI
                      go_wp2
                      go_ret
                      exact ⟨by rw [HV.out]; rfl, HBq.out⟩
                    · have g3 : decide ((60 : Int) ≤ (L.length : Int)) = false := decide_eq_false (by omega)
                      have HM := Lib.hid h6
                      clear h6
                      rw [HVV.out] at kq
                      have HV := Lib.hid (wrong_0 HPB.out HFM.out HUP.out HKO.out HC.out (fun h => HM.out h.2))
                      clear SI
                      go_wp2
                      go_ret
                      exact ⟨by rw [HV.out]; rfl, HBq.out⟩
              · subst hqq
                have HFN : Hid (findT L x.t = some o) := show _ = _ by
                  obtain ⟨o', ho'⟩ := Option.isSome_iff_exists.1 HQE.out.symm
                  rw [HOE.out, foundI_some ho', ho']
                rcases hod : o.d with _ | _
                · rw [hod] at o1
                  have HKO : Hid (KindOk L x) := show ∀ o, _ from fun o' h => by rw [HFN.out] at h; cases h; rw [hod, HDD.out]
                  clear hod
                  by_cases hs1 : 32768 < x.c.size
                  · have g1 : decide ((32768 : Int) < (x.c.size : Int)) = true := decide_eq_true (by omega)
                    have HC := Lib.hid hs1
                    clear hs1
                    have HV := Lib.hid (wrong_4 HPB.out HFM.out HUP.out HKO.out (.inl HC.out))
                    clear SI
                    go_wp2
                    go_ret
                    exact ⟨by rw [HV.out]; rfl, HB6.out⟩
                  · have g1 : decide ((32768 : Int) < (x.c.size : Int)) = false := decide_eq_false (by omega)
                    have y1 : IntKind.i64.wrap ((sizeT L : Int) - (o.c.size : Int)) = (sizeT L : Int) - (o.c.size : Int) := IntWalk.i64_in _ (by omega)
                    have y2 : IntKind.i64.wrap ((sizeT L : Int) - (o.c.size : Int) + (x.c.size : Int)) = (sizeT L : Int) - (o.c.size : Int) + (x.c.size : Int) := IntWalk.i64_in _ (by omega)
                    have kc := HKC6.out
                    have k1 := fun d os => cell_regrown kc d os
                    have k2 := fun d os => cell_regrown o3 d os
                    have k3 := fun d os => cell_regrown d3 d os
                    by_cases hs2 : 65536 + o.c.size < sizeT L + x.c.size
                    · have g2 : decide ((65536 : Int) < (sizeT L : Int) - (o.c.size : Int) + (x.c.size : Int)) = true := decide_eq_true (by omega)
                      have HC : Hid (65536 + (foundI L x.t).c.size < sizeT L + x.c.size) := show _ < _ by rw [← HOE.out]; exact hs2
                      clear hs1 hs2
                      go_wp2_with fail
                      refine wp_region_quiet_below (by kernel_rfl) (by kernel_rfl) ?_
                      repeat (first | go_big_quiet_step ((exact Calls.regrown_of (SI.out _ (HI6.out.stays (below_regrown _ _ _))))) | quiet_step ((exact Calls.regrown_of (SI.out _ (HI6.out.stays (below_regrown _ _ _))))))
                      refine wpQuiet_nil ?_
                      intro wq hwq
                      have hbq : Below w6.heap.size w6 wq := by obtain ⟨p, rfl⟩ := hwq; exact below_regrown _ _ _
                      have HBq := Lib.hid (below_step HB6.out hbq)
                      clear hwq hbq k1 k2 k3 d0 d1 d2 d3 o1 o3 u1 kc y1 y2
                      have HV := Lib.hid (wrong_4 HPB.out HFM.out HUP.out HKO.out (.inr HC.out))
                      clear SI
                      go_wp2
                      go_ret
                      exact ⟨by rw [HV.out]; rfl, HBq.out⟩
                    · have g2 : decide ((65536 : Int) < (sizeT L : Int) - (o.c.size : Int) + (x.c.size : Int)) = false := decide_eq_false (by omega)
                      have HC : Hid (¬ (32768 < x.c.size ∨ 65536 + (foundI L x.t).c.size < sizeT L + x.c.size)) := show ¬ _ from fun h => by rw [← HOE.out] at h; exact h.elim hs1 hs2
                      clear hs1 hs2
                      go_wp2_with fail
                      refine wp_region_quiet_below (by kernel_rfl) (by kernel_rfl) ?_
                      repeat (first | go_big_quiet_step ((exact Calls.regrown_of (SI.out _ (HI6.out.stays (below_regrown _ _ _))))) | quiet_step ((exact Calls.regrown_of (SI.out _ (HI6.out.stays (below_regrown _ _ _))))))
                      refine wpQuiet_nil ?_
                      intro wq hwq
                      have hbq : Below w6.heap.size w6 wq := by obtain ⟨p, rfl⟩ := hwq; exact below_regrown _ _ _
                      have HBq := Lib.hid (below_step HB6.out hbq)
                      have kq := (hbq.cell (p := ⟨kb, 0, none⟩) (block_lt_of_cell HKC6.out)).trans HKC6.out
                      clear hwq hbq k1 k2 k3 d0 d1 d2 d3 o1 o3 u1 kc y1 y2
                      have HV := Lib.hid (wrong_0 HPB.out HFM.out HUP.out HKO.out HC.out (fun h => by rw [HFN.out] at h; cases h.1))
                      clear SI
                      go_wp2
                      go_ret
                      exact ⟨by rw [HV.out]; rfl, HBq.out⟩
                · rw [hod] at o1
                  have HKO : Hid (o.d ≠ x.d) := show ¬ _ from fun h => by rw [hod, HDD.out] at h; cases h
                  clear hod
                  have HV := Lib.hid (wrong_10b HPB.out HFM.out HUP.out HFN.out HKO.out)
                  clear SI
                  go_wp2
                  go_ret
                  exact ⟨by rw [HV.out]; rfl, HB6.out⟩
      · rw [hdd] at d1
        rcases hcc : x.c.toList.isEmpty with _ | _
        · have HFM : Hid (badI x = true) := show _ = _ by unfold badI; have := hcc; rw [c_empty] at this; rw [hdd, decide_eq_true (of_decide_eq_false this)]; rfl
          clear hdd
          have HV := Lib.hid (wrong_2 (L := L) HPB.out HFM.out)
          clear SI
          go_wp2
          go_ret
          exact ⟨by rw [HV.out]; rfl, HB6.out⟩
        · rcases hee : x.e with _ | _
          · have HFM : Hid (badI x = false) := show _ = _ by unfold badI; have := hcc; rw [c_empty] at this; rw [hdd, hee, decide_eq_false (fun h => h (of_decide_eq_true this))]; rfl
            rw [hee] at d2
            have HDD := Lib.hid hdd
            clear hdd hee
            by_cases hd : dirS x.t = []
            · have hd2 : (dirS x.t).isEmpty = true := by rw [hd]; rfl
              have HUP : Hid (UpOk L x) := Or.inl hd
              clear hd
              rcases hqq : q with _ | _
              · subst hqq
                have HFN : Hid (findT L x.t = none) := show _ = _ by have := HQE.out; simpa using this.symm
                have HKO : Hid (KindOk L x) := show ∀ o, _ from fun o h => by rw [HFN.out] at h; cases h
                by_cases hs1 : 32768 < x.c.size
                · have g1 : decide ((32768 : Int) < (x.c.size : Int)) = true := decide_eq_true (by omega)
                  have HC := Lib.hid hs1
                  clear hs1
                  have HV := Lib.hid (wrong_4 HPB.out HFM.out HUP.out HKO.out (.inl HC.out))
                  clear SI
                  go_wp2
                  go_ret
                  exact ⟨by rw [HV.out]; rfl, HB6.out⟩
                · have g1 : decide ((32768 : Int) < (x.c.size : Int)) = false := decide_eq_false (by omega)
                  have y1 : IntKind.i64.wrap ((sizeT L : Int) - (o.c.size : Int)) = (sizeT L : Int) - (o.c.size : Int) := IntWalk.i64_in _ (by omega)
                  have y2 : IntKind.i64.wrap ((sizeT L : Int) - (o.c.size : Int) + (x.c.size : Int)) = (sizeT L : Int) - (o.c.size : Int) + (x.c.size : Int) := IntWalk.i64_in _ (by omega)
                  have kc := HKC6.out
                  have k1 := fun d os => cell_regrown kc d os
                  have k2 := fun d os => cell_regrown o3 d os
                  have k3 := fun d os => cell_regrown d3 d os
                  by_cases hs2 : 65536 + o.c.size < sizeT L + x.c.size
                  · have g2 : decide ((65536 : Int) < (sizeT L : Int) - (o.c.size : Int) + (x.c.size : Int)) = true := decide_eq_true (by omega)
                    have HC : Hid (65536 + (foundI L x.t).c.size < sizeT L + x.c.size) := show _ < _ by rw [← HOE.out]; exact hs2
                    clear hs1 hs2
                    go_wp2_with fail
                    refine wp_region_quiet_below (by kernel_rfl) (by kernel_rfl) ?_
                    repeat (first | go_big_quiet_step ((exact Calls.regrown_of (SI.out _ (HI6.out.stays (below_regrown _ _ _))))) | quiet_step ((exact Calls.regrown_of (SI.out _ (HI6.out.stays (below_regrown _ _ _))))))
                    refine wpQuiet_nil ?_
                    intro wq hwq
                    have hbq : Below w6.heap.size w6 wq := by obtain ⟨p, rfl⟩ := hwq; exact below_regrown _ _ _
                    have HBq := Lib.hid (below_step HB6.out hbq)
                    clear hwq hbq k1 k2 k3 d0 d1 d2 d3 o1 o3 u1 kc y1 y2
                    have HV := Lib.hid (wrong_4 HPB.out HFM.out HUP.out HKO.out (.inr HC.out))
                    clear SI
                    go_wp2
                    go_ret
                    exact ⟨by rw [HV.out]; rfl, HBq.out⟩
                  · have g2 : decide ((65536 : Int) < (sizeT L : Int) - (o.c.size : Int) + (x.c.size : Int)) = false := decide_eq_false (by omega)
                    have HC : Hid (¬ (32768 < x.c.size ∨ 65536 + (foundI L x.t).c.size < sizeT L + x.c.size)) := show ¬ _ from fun h => by rw [← HOE.out] at h; exact h.elim hs1 hs2
                    clear hs1 hs2
                    go_wp2_with fail
                    refine wp_region_quiet_below (by kernel_rfl) (by kernel_rfl) ?_
                    repeat (first | go_big_quiet_step ((exact Calls.regrown_of (SI.out _ (HI6.out.stays (below_regrown _ _ _))))) | quiet_step ((exact Calls.regrown_of (SI.out _ (HI6.out.stays (below_regrown _ _ _))))))
                    refine wpQuiet_nil ?_
                    intro wq hwq
                    have hbq : Below w6.heap.size w6 wq := by obtain ⟨p, rfl⟩ := hwq; exact below_regrown _ _ _
                    have HBq := Lib.hid (below_step HB6.out hbq)
                    have kq := (hbq.cell (p := ⟨kb, 0, none⟩) (block_lt_of_cell HKC6.out)).trans HKC6.out
                    clear hwq hbq k1 k2 k3 d0 d1 d2 d3 o1 o3 u1 kc y1 y2
                    by_cases h6 : 60 ≤ L.length
                    · have g3 : decide ((60 : Int) ≤ (L.length : Int)) = true := decide_eq_true (by omega)
                      have HM := Lib.hid h6
                      clear h6
                      rw [HVV.out] at kq
                      have HV := Lib.hid (wrong_9 HPB.out HFM.out HUP.out HKO.out HC.out HFN.out HM.out)
                      clear SI
                      go_wp2
                      go_ret
                      exact ⟨by rw [HV.out]; rfl, HBq.out⟩
                    · have g3 : decide ((60 : Int) ≤ (L.length : Int)) = false := decide_eq_false (by omega)
                      have HM := Lib.hid h6
                      clear h6
                      rw [HVV.out] at kq
                      have HV := Lib.hid (wrong_0 HPB.out HFM.out HUP.out HKO.out HC.out (fun h => HM.out h.2))
                      clear SI
                      go_wp2
                      go_ret
                      exact ⟨by rw [HV.out]; rfl, HBq.out⟩
              · subst hqq
                have HFN : Hid (findT L x.t = some o) := show _ = _ by
                  obtain ⟨o', ho'⟩ := Option.isSome_iff_exists.1 HQE.out.symm
                  rw [HOE.out, foundI_some ho', ho']
                rcases hod : o.d with _ | _
                · rw [hod] at o1
                  have HKO : Hid (o.d ≠ x.d) := show ¬ _ from fun h => by rw [hod, HDD.out] at h; cases h
                  clear hod
                  have HV := Lib.hid (wrong_10b HPB.out HFM.out HUP.out HFN.out HKO.out)
                  clear SI
                  go_wp2
                  go_ret
                  exact ⟨by rw [HV.out]; rfl, HB6.out⟩
                · rw [hod] at o1
                  have HKO : Hid (KindOk L x) := show ∀ o, _ from fun o' h => by rw [HFN.out] at h; cases h; rw [hod, HDD.out]
                  clear hod
                  by_cases hs1 : 32768 < x.c.size
                  · have g1 : decide ((32768 : Int) < (x.c.size : Int)) = true := decide_eq_true (by omega)
                    have HC := Lib.hid hs1
                    clear hs1
                    have HV := Lib.hid (wrong_4 HPB.out HFM.out HUP.out HKO.out (.inl HC.out))
                    clear SI
                    go_wp2
                    go_ret
                    exact ⟨by rw [HV.out]; rfl, HB6.out⟩
                  · have g1 : decide ((32768 : Int) < (x.c.size : Int)) = false := decide_eq_false (by omega)
                    have y1 : IntKind.i64.wrap ((sizeT L : Int) - (o.c.size : Int)) = (sizeT L : Int) - (o.c.size : Int) := IntWalk.i64_in _ (by omega)
                    have y2 : IntKind.i64.wrap ((sizeT L : Int) - (o.c.size : Int) + (x.c.size : Int)) = (sizeT L : Int) - (o.c.size : Int) + (x.c.size : Int) := IntWalk.i64_in _ (by omega)
                    have kc := HKC6.out
                    have k1 := fun d os => cell_regrown kc d os
                    have k2 := fun d os => cell_regrown o3 d os
                    have k3 := fun d os => cell_regrown d3 d os
                    by_cases hs2 : 65536 + o.c.size < sizeT L + x.c.size
                    · have g2 : decide ((65536 : Int) < (sizeT L : Int) - (o.c.size : Int) + (x.c.size : Int)) = true := decide_eq_true (by omega)
                      have HC : Hid (65536 + (foundI L x.t).c.size < sizeT L + x.c.size) := show _ < _ by rw [← HOE.out]; exact hs2
                      clear hs1 hs2
                      go_wp2_with fail
                      refine wp_region_quiet_below (by kernel_rfl) (by kernel_rfl) ?_
                      repeat (first | go_big_quiet_step ((exact Calls.regrown_of (SI.out _ (HI6.out.stays (below_regrown _ _ _))))) | quiet_step ((exact Calls.regrown_of (SI.out _ (HI6.out.stays (below_regrown _ _ _))))))
                      refine wpQuiet_nil ?_
                      intro wq hwq
                      have hbq : Below w6.heap.size w6 wq := by obtain ⟨p, rfl⟩ := hwq; exact below_regrown _ _ _
                      have HBq := Lib.hid (below_step HB6.out hbq)
                      clear hwq hbq k1 k2 k3 d0 d1 d2 d3 o1 o3 u1 kc y1 y2
                      have HV := Lib.hid (wrong_4 HPB.out HFM.out HUP.out HKO.out (.inr HC.out))
                      clear SI
                      go_wp2
                      go_ret
                      exact ⟨by rw [HV.out]; rfl, HBq.out⟩
                    · have g2 : decide ((65536 : Int) < (sizeT L : Int) - (o.c.size : Int) + (x.c.size : Int)) = false := decide_eq_false (by omega)
                      have HC : Hid (¬ (32768 < x.c.size ∨ 65536 + (foundI L x.t).c.size < sizeT L + x.c.size)) := show ¬ _ from fun h => by rw [← HOE.out] at h; exact h.elim hs1 hs2
                      clear hs1 hs2
                      go_wp2_with fail
                      refine wp_region_quiet_below (by kernel_rfl) (by kernel_rfl) ?_
                      repeat (first | go_big_quiet_step ((exact Calls.regrown_of (SI.out _ (HI6.out.stays (below_regrown _ _ _))))) | quiet_step ((exact Calls.regrown_of (SI.out _ (HI6.out.stays (below_regrown _ _ _))))))
                      refine wpQuiet_nil ?_
                      intro wq hwq
                      have hbq : Below w6.heap.size w6 wq := by obtain ⟨p, rfl⟩ := hwq; exact below_regrown _ _ _
                      have HBq := Lib.hid (below_step HB6.out hbq)
                      have kq := (hbq.cell (p := ⟨kb, 0, none⟩) (block_lt_of_cell HKC6.out)).trans HKC6.out
                      clear hwq hbq k1 k2 k3 d0 d1 d2 d3 o1 o3 u1 kc y1 y2
                      have HV := Lib.hid (wrong_0 HPB.out HFM.out HUP.out HKO.out HC.out (fun h => by rw [HFN.out] at h; cases h.1))
                      clear SI
                      go_wp2
                      go_ret
                      exact ⟨by rw [HV.out]; rfl, HBq.out⟩
            · have hd2 : (dirS x.t).isEmpty = false := by simpa using hd
              have HD := Lib.hid hd
              clear hd
              rcases hqd : qd with _ | _
              · subst hqd
                have HFS := Lib.hid HQDE.out.symm
                have HV := Lib.hid (wrong_5 HPB.out HFM.out HD.out HFS.out)
                clear SI
                go_wp2
                go_ret
                exact ⟨by rw [HV.out]; rfl, HB6.out⟩
              · subst hqd
                have HFS := Lib.hid HQDE.out.symm
                rcases hud : u.d with _ | _
                · rw [hud] at u1
                  have HUD : Hid ((foundI L (dirS x.t)).d = false) := show _ = _ by rw [← HUE.out]; exact hud
                  clear hud
                  have HV := Lib.hid (wrong_10a HPB.out HFM.out HD.out HFS.out HUD.out)
                  clear SI
                  go_wp2
                  go_ret
                  exact ⟨by rw [HV.out]; rfl, HB6.out⟩
                · rw [hud] at u1
                  have HUP : Hid (UpOk L x) := Or.inr ⟨HFS.out, by rw [← HUE.out]; exact hud⟩
                  clear hud
                  rcases hqq : q with _ | _
                  · subst hqq
                    have HFN : Hid (findT L x.t = none) := show _ = _ by have := HQE.out; simpa using this.symm
                    have HKO : Hid (KindOk L x) := show ∀ o, _ from fun o h => by rw [HFN.out] at h; cases h
                    by_cases hs1 : 32768 < x.c.size
                    · have g1 : decide ((32768 : Int) < (x.c.size : Int)) = true := decide_eq_true (by omega)
                      have HC := Lib.hid hs1
                      clear hs1
                      have HV := Lib.hid (wrong_4 HPB.out HFM.out HUP.out HKO.out (.inl HC.out))
                      clear SI
                      go_wp2
                      go_ret
                      exact ⟨by rw [HV.out]; rfl, HB6.out⟩
                    · have g1 : decide ((32768 : Int) < (x.c.size : Int)) = false := decide_eq_false (by omega)
                      have y1 : IntKind.i64.wrap ((sizeT L : Int) - (o.c.size : Int)) = (sizeT L : Int) - (o.c.size : Int) := IntWalk.i64_in _ (by omega)
                      have y2 : IntKind.i64.wrap ((sizeT L : Int) - (o.c.size : Int) + (x.c.size : Int)) = (sizeT L : Int) - (o.c.size : Int) + (x.c.size : Int) := IntWalk.i64_in _ (by omega)
                      have kc := HKC6.out
                      have k1 := fun d os => cell_regrown kc d os
                      have k2 := fun d os => cell_regrown o3 d os
                      have k3 := fun d os => cell_regrown d3 d os
                      by_cases hs2 : 65536 + o.c.size < sizeT L + x.c.size
                      · have g2 : decide ((65536 : Int) < (sizeT L : Int) - (o.c.size : Int) + (x.c.size : Int)) = true := decide_eq_true (by omega)
                        have HC : Hid (65536 + (foundI L x.t).c.size < sizeT L + x.c.size) := show _ < _ by rw [← HOE.out]; exact hs2
                        clear hs1 hs2
                        go_wp2_with fail
                        refine wp_region_quiet_below (by kernel_rfl) (by kernel_rfl) ?_
                        repeat (first | go_big_quiet_step ((exact Calls.regrown_of (SI.out _ (HI6.out.stays (below_regrown _ _ _))))) | quiet_step ((exact Calls.regrown_of (SI.out _ (HI6.out.stays (below_regrown _ _ _))))))
                        refine wpQuiet_nil ?_
                        intro wq hwq
                        have hbq : Below w6.heap.size w6 wq := by obtain ⟨p, rfl⟩ := hwq; exact below_regrown _ _ _
                        have HBq := Lib.hid (below_step HB6.out hbq)
                        clear hwq hbq k1 k2 k3 d0 d1 d2 d3 o1 o3 u1 kc y1 y2
                        have HV := Lib.hid (wrong_4 HPB.out HFM.out HUP.out HKO.out (.inr HC.out))
                        clear SI
                        go_wp2
                        go_ret
                        exact ⟨by rw [HV.out]; rfl, HBq.out⟩
                      · have g2 : decide ((65536 : Int) < (sizeT L : Int) - (o.c.size : Int) + (x.c.size : Int)) = false := decide_eq_false (by omega)
                        have HC : Hid (¬ (32768 < x.c.size ∨ 65536 + (foundI L x.t).c.size < sizeT L + x.c.size)) := show ¬ _ from fun h => by rw [← HOE.out] at h; exact h.elim hs1 hs2
                        clear hs1 hs2
                        go_wp2_with fail
                        refine wp_region_quiet_below (by kernel_rfl) (by kernel_rfl) ?_
                        repeat (first | go_big_quiet_step ((exact Calls.regrown_of (SI.out _ (HI6.out.stays (below_regrown _ _ _))))) | quiet_step ((exact Calls.regrown_of (SI.out _ (HI6.out.stays (below_regrown _ _ _))))))
                        refine wpQuiet_nil ?_
                        intro wq hwq
                        have hbq : Below w6.heap.size w6 wq := by obtain ⟨p, rfl⟩ := hwq; exact below_regrown _ _ _
                        have HBq := Lib.hid (below_step HB6.out hbq)
                        have kq := (hbq.cell (p := ⟨kb, 0, none⟩) (block_lt_of_cell HKC6.out)).trans HKC6.out
                        clear hwq hbq k1 k2 k3 d0 d1 d2 d3 o1 o3 u1 kc y1 y2
                        by_cases h6 : 60 ≤ L.length
                        · have g3 : decide ((60 : Int) ≤ (L.length : Int)) = true := decide_eq_true (by omega)
                          have HM := Lib.hid h6
                          clear h6
                          rw [HVV.out] at kq
                          have HV := Lib.hid (wrong_9 HPB.out HFM.out HUP.out HKO.out HC.out HFN.out HM.out)
                          clear SI
                          go_wp2
                          go_ret
                          exact ⟨by rw [HV.out]; rfl, HBq.out⟩
                        · have g3 : decide ((60 : Int) ≤ (L.length : Int)) = false := decide_eq_false (by omega)
                          have HM := Lib.hid h6
                          clear h6
                          rw [HVV.out] at kq
                          have HV := Lib.hid (wrong_0 HPB.out HFM.out HUP.out HKO.out HC.out (fun h => HM.out h.2))
                          clear SI
                          go_wp2
                          go_ret
                          exact ⟨by rw [HV.out]; rfl, HBq.out⟩
                  · subst hqq
                    have HFN : Hid (findT L x.t = some o) := show _ = _ by
                      obtain ⟨o', ho'⟩ := Option.isSome_iff_exists.1 HQE.out.symm
                      rw [HOE.out, foundI_some ho', ho']
                    rcases hod : o.d with _ | _
                    · rw [hod] at o1
                      have HKO : Hid (o.d ≠ x.d) := show ¬ _ from fun h => by rw [hod, HDD.out] at h; cases h
                      clear hod
                      have HV := Lib.hid (wrong_10b HPB.out HFM.out HUP.out HFN.out HKO.out)
                      clear SI
                      go_wp2
                      go_ret
                      exact ⟨by rw [HV.out]; rfl, HB6.out⟩
                    · rw [hod] at o1
                      have HKO : Hid (KindOk L x) := show ∀ o, _ from fun o' h => by rw [HFN.out] at h; cases h; rw [hod, HDD.out]
                      clear hod
                      by_cases hs1 : 32768 < x.c.size
                      · have g1 : decide ((32768 : Int) < (x.c.size : Int)) = true := decide_eq_true (by omega)
                        have HC := Lib.hid hs1
                        clear hs1
                        have HV := Lib.hid (wrong_4 HPB.out HFM.out HUP.out HKO.out (.inl HC.out))
                        clear SI
                        go_wp2
                        go_ret
                        exact ⟨by rw [HV.out]; rfl, HB6.out⟩
                      · have g1 : decide ((32768 : Int) < (x.c.size : Int)) = false := decide_eq_false (by omega)
                        have y1 : IntKind.i64.wrap ((sizeT L : Int) - (o.c.size : Int)) = (sizeT L : Int) - (o.c.size : Int) := IntWalk.i64_in _ (by omega)
                        have y2 : IntKind.i64.wrap ((sizeT L : Int) - (o.c.size : Int) + (x.c.size : Int)) = (sizeT L : Int) - (o.c.size : Int) + (x.c.size : Int) := IntWalk.i64_in _ (by omega)
                        have kc := HKC6.out
                        have k1 := fun d os => cell_regrown kc d os
                        have k2 := fun d os => cell_regrown o3 d os
                        have k3 := fun d os => cell_regrown d3 d os
                        by_cases hs2 : 65536 + o.c.size < sizeT L + x.c.size
                        · have g2 : decide ((65536 : Int) < (sizeT L : Int) - (o.c.size : Int) + (x.c.size : Int)) = true := decide_eq_true (by omega)
                          have HC : Hid (65536 + (foundI L x.t).c.size < sizeT L + x.c.size) := show _ < _ by rw [← HOE.out]; exact hs2
                          clear hs1 hs2
                          go_wp2_with fail
                          refine wp_region_quiet_below (by kernel_rfl) (by kernel_rfl) ?_
                          repeat (first | go_big_quiet_step ((exact Calls.regrown_of (SI.out _ (HI6.out.stays (below_regrown _ _ _))))) | quiet_step ((exact Calls.regrown_of (SI.out _ (HI6.out.stays (below_regrown _ _ _))))))
                          refine wpQuiet_nil ?_
                          intro wq hwq
                          have hbq : Below w6.heap.size w6 wq := by obtain ⟨p, rfl⟩ := hwq; exact below_regrown _ _ _
                          have HBq := Lib.hid (below_step HB6.out hbq)
                          clear hwq hbq k1 k2 k3 d0 d1 d2 d3 o1 o3 u1 kc y1 y2
                          have HV := Lib.hid (wrong_4 HPB.out HFM.out HUP.out HKO.out (.inr HC.out))
                          clear SI
                          go_wp2
                          go_ret
                          exact ⟨by rw [HV.out]; rfl, HBq.out⟩
                        · have g2 : decide ((65536 : Int) < (sizeT L : Int) - (o.c.size : Int) + (x.c.size : Int)) = false := decide_eq_false (by omega)
                          have HC : Hid (¬ (32768 < x.c.size ∨ 65536 + (foundI L x.t).c.size < sizeT L + x.c.size)) := show ¬ _ from fun h => by rw [← HOE.out] at h; exact h.elim hs1 hs2
                          clear hs1 hs2
                          go_wp2_with fail
                          refine wp_region_quiet_below (by kernel_rfl) (by kernel_rfl) ?_
                          repeat (first | go_big_quiet_step ((exact Calls.regrown_of (SI.out _ (HI6.out.stays (below_regrown _ _ _))))) | quiet_step ((exact Calls.regrown_of (SI.out _ (HI6.out.stays (below_regrown _ _ _))))))
                          refine wpQuiet_nil ?_
                          intro wq hwq
                          have hbq : Below w6.heap.size w6 wq := by obtain ⟨p, rfl⟩ := hwq; exact below_regrown _ _ _
                          have HBq := Lib.hid (below_step HB6.out hbq)
                          have kq := (hbq.cell (p := ⟨kb, 0, none⟩) (block_lt_of_cell HKC6.out)).trans HKC6.out
                          clear hwq hbq k1 k2 k3 d0 d1 d2 d3 o1 o3 u1 kc y1 y2
                          have HV := Lib.hid (wrong_0 HPB.out HFM.out HUP.out HKO.out HC.out (fun h => by rw [HFN.out] at h; cases h.1))
                          clear SI
                          go_wp2
                          go_ret
                          exact ⟨by rw [HV.out]; rfl, HBq.out⟩
          · have HFM : Hid (badI x = true) := show _ = _ by unfold badI; rw [hdd, hee]; simp
            rw [hee] at d2
            clear hdd hee
            have HV := Lib.hid (wrong_2 (L := L) HPB.out HFM.out)
            clear SI
            go_wp2
            go_ret
            exact ⟨by rw [HV.out]; rfl, HB6.out⟩
end Go.Proofs.YtelaamchafocpaaDoor

/-
  Layer 7 as walks over this translation: the chapter's examples.
-/
import Derived.Test.YtclmkedbioommaaDoorCdp
import Derived.BigQuiet
import Derived.Test.YtclmkedbioommaaDoorRly
import Derived.Test.YtclmkedbioommaaDoorRow
import Derived.Lib.QuietBelow
set_option linter.unusedVariables false
namespace Go.Proofs.YtclmkedbioommaaDoor
open Go.RowKit Go.Shelf

theorem fit248 : FitAt (2 : Nat) (4 : Nat) (8 : Nat) 2 := ⟨by decide, by decide, by decide, by decide, by decide, by decide, by decide⟩
theorem pcs_ab : strsOf (pcs (cutN 2 2 8) [97, 98]) = [⟨#[97, 98]⟩] := by
  have : pcs (cutN 2 2 8) [97, 98] = [[97, 98]] := by decide +kernel
  rw [this]; rfl
theorem ex_ab (w : World) (hT : Tabs w) : Calls Tryd.prog 10 #[pV 2 4 8, .string ⟨#[97, 98]⟩] w fun e w' => ∃ b off cap, e = .returned (.slice (some ⟨b, off, none⟩) 1 cap) ∧ b < w'.heap.size ∧ w'.cell? ⟨b, off, none⟩ = some (.string ⟨#[97, 98]⟩) ∧ Below w.heap.size w w' := by
  refine (Pieces_any 2 4 2 8 fit248 ⟨#[97, 98]⟩ (by decide) w hT).mono ?_
  rintro e w' ⟨v, rfl, hv, hb⟩
  have hl : (⟨#[97, 98]⟩ : ByteArray).data.toList = [97, 98] := rfl
  rw [hl, pcs_ab] at hv
  obtain ⟨_, a, cap, rfl, _, hc⟩ := hv
  obtain ⟨b, off, rfl, hlt, hcell⟩ := hc (by decide)
  exact ⟨b, off, cap, rfl, hlt, hcell 0 (by decide), hb⟩
theorem ex_none (w : World) (hT : Tabs w) : Calls Tryd.prog 10 #[pV 2 4 8, .string ⟨#[]⟩] w fun e w' => ∃ a cap, e = .returned (.slice a 0 cap) ∧ Below w.heap.size w w' := by
  refine (Pieces_any 2 4 2 8 fit248 ⟨#[]⟩ (by decide) w hT).mono ?_
  rintro e w' ⟨v, rfl, hv, hb⟩
  obtain ⟨_, a, cap, rfl, _, hc⟩ := hv
  exact ⟨a, cap, rfl, hb⟩
theorem ex_fit (w : World) : Calls Tryd.prog 7 #[pV 2 4 8] w fun e w' => e = .returned (.bool true) ∧ Below w.heap.size w w' := by
  refine (Fit_any 2 4 8 w).mono ?_
  rintro e w' ⟨rfl, hb⟩
  have : fitB 2 4 8 = true := fitB_of fit248
  exact ⟨by rw [this], hb⟩
theorem ex_unfit (w : World) : Calls Tryd.prog 7 #[pV 0 0 0] w fun e w' => e = .returned (.bool false) ∧ Below w.heap.size w w' := by
  refine (Fit_any 0 0 0 w).mono ?_
  rintro e w' ⟨rfl, hb⟩
  have : fitB 0 0 0 = false := by
    rcases h : fitB 0 0 0 with _ | _
    · rfl
    · obtain ⟨b, hb⟩ := fitB_true h; exact absurd hb.h1 (by decide)
  exact ⟨by rw [this], hb⟩

set_option maxRecDepth 100000 in
set_option maxHeartbeats 1000000 in
theorem awake_any (w : World) (hT : Tabs w) : Calls Tryd.prog 9 #[] w fun e w' => e = .returned (.bool true) ∧ Below w.heap.size w w' := by
  obtain ⟨V, hV⟩ : ∃ V, V = w.alloc (.cells #[.int .i64 2, .int .i64 4, .int .i64 8] 23) := ⟨_, rfl⟩
  have hRV : Row V w.heap.size #[.int .i64 2, .int .i64 4, .int .i64 8] 23 := by rw [hV]; exact Row.made _ _ _
  have hBV : Below w.heap.size w V := by rw [hV]; exact (Below.refl _ _).alloc (Nat.le_refl _) _
  have HTV := Lib.hid (hT.stays hBV)
  have HV := Lib.hid hV; have HRV := Lib.hid hRV
  clear hV hRV hT
  go_enter Tryd.func9, Tryd.ntmps9
  go_wp2_with fail
  rw [← HV.out]
  refine (ex_ab _ HTV.out).mono ?_
  rintro e w1 ⟨b, off, cap, rfl, hlt, hc, hb1⟩
  have HT1 := Lib.hid (HTV.out.stays hb1)
  have HR1 := Lib.hid (HRV.out.step hb1)
  have hB1 := hBV.trans (hb1.mono hBV.size)
  clear hb1 HRV HTV hBV HV
  have g0 := HR1.out.cell 0; have g1 := HR1.out.cell 1; have g2 := HR1.out.cell 2
  simp only [List.getElem?_toArray, List.getElem?_cons_zero, List.getElem?_cons_succ] at g0 g1 g2
  go_wp2_with fail
  refine (ex_none _ HT1.out).mono ?_
  rintro e w2 ⟨a2, cap2, rfl, hb2⟩
  have HR2 := Lib.hid (HR1.out.step hb2)
  have hB2 := below_step hB1 hb2
  clear hb2 g0 g1 g2 hc hB1 HR1 HT1 hlt
  have g0 := HR2.out.cell 0; have g1 := HR2.out.cell 1; have g2 := HR2.out.cell 2
  simp only [List.getElem?_toArray, List.getElem?_cons_zero, List.getElem?_cons_succ] at g0 g1 g2
  go_wp2_with fail
  refine (ex_fit _).mono ?_
  rintro e w3 ⟨rfl, hb3⟩
  have hB3 := below_step hB2 hb3
  clear g0 g1 g2 hB2 HR2 hb3
  go_wp2_with fail
  refine (ex_unfit _).mono ?_
  rintro e w4 ⟨rfl, hb4⟩
  have hB4 := below_step hB3 hb4
  clear hB3 hb4
  go_wp2
  go_ret
  exact ⟨rfl, hB4⟩

/-- Fit parameters are small numbers. -/
theorem fit_nats {mn av mx : Int} (h : fitB mn av mx = true) : ∃ (m a x b : Nat), mn = m ∧ av = a ∧ mx = x ∧ FitAt m a x b := by
  obtain ⟨b, hb⟩ := fitB_true h
  have h1 := hb.h1; have h2 := hb.h2; have h3 := hb.h3
  obtain ⟨m, rfl⟩ : ∃ m : Nat, mn = m := ⟨mn.toNat, by omega⟩
  obtain ⟨a, rfl⟩ : ∃ a : Nat, av = a := ⟨av.toNat, by omega⟩
  obtain ⟨x, rfl⟩ : ∃ x : Nat, mx = x := ⟨mx.toNat, by omega⟩
  exact ⟨m, a, x, b, rfl, rfl, rfl, hb⟩

theorem below_drewN {B : Nat} {a w : World} (h : Below B a w) (n : Nat) : Below B a (w.drewN n) := h.trans ⟨rfl, rfl, rfl, Nat.le_refl _, fun _ _ => rfl⟩
/-! ## Two calls in one region -/
structure TwoG (W0 : World) (P : Nat) (mn av mx : Int) (w : World) : Prop where
  row : Row w P #[.int .i64 mn, .int .i64 av, .int .i64 mx] 23
  tabs : Tabs w
  below : Below W0.heap.size W0 w
def twoT (_ : Nat) (w w' : World) : Prop := Below w.heap.size w w'
theorem twoT_refl (i : Nat) (w : World) : twoT i w w := Below.refl _ _
theorem TwoG.on {W0 : World} {P : Nat} {mn av mx : Int} {w w' : World} (h : TwoG W0 P mn av mx w) (hb : Below w.heap.size w w') : TwoG W0 P mn av mx w' :=
  ⟨h.row.step hb, h.tabs.stays hb, below_step h.below hb⟩
theorem TwoG.cells {W0 : World} {P : Nat} {mn av mx : Int} {w : World} (h : TwoG W0 P mn av mx w) : w.cell? ⟨P, 0, none⟩ = some (.int .i64 mn) ∧ w.cell? ⟨P, 1, none⟩ = some (.int .i64 av) ∧ w.cell? ⟨P, 2, none⟩ = some (.int .i64 mx) :=
  ⟨h.row.cell 0, h.row.cell 1, h.row.cell 2⟩
theorem wp_callx {P : Program} {o : Oper} {a : Act} {w : World} {K : Act → World → Prop} {Q : Exit → Act → World → Prop} (f : FuncId) (args : Array Operand) (tys : Array TypeId) (ho : o.op = .call { callee := .value (.func f), args := args, argTypes := tys })
    (hen : ∀ xs w, (callFunc f xs).run P w = .ok (.enter f xs) w) (xs : Array Value) (hxs : args.map a.eval = xs) {R : Value → World → Prop} (h : Calls P f xs w fun e w' => ∃ v, e = .returned v ∧ R v w') (hk : ∀ v w', R v w' → K (a.put o.dst v) w') : o.wp P a w K Q := by
  unfold Oper.wp execOp
  simp only [ho]
  simp [hxs, go_sem, hen]
  refine h.mono ?_
  rintro e w' ⟨v, rfl, hr⟩
  exact hk v w' hr
end Go.Proofs.YtclmkedbioommaaDoor

/-
  Layer 8 as walks over this translation: the chapter's example; what the laws' regions hold.
-/
import Derived.Test.YtciajgdjddepdaaDoorStd
import Derived.Test.YtciajgdjddepdaaDoorReg
set_option linter.unusedVariables false
namespace Go.Proofs.YtciajgdjddepdaaDoor
open Go.RowKit Go.Shelf

theorem fit248 : FitAt (2 : Nat) (4 : Nat) (8 : Nat) 2 := ⟨by decide, by decide, by decide, by decide, by decide, by decide, by decide⟩
theorem pcs_ab : strsOf (pcs (cutN 2 2 8) [97, 98]) = [⟨#[97, 98]⟩] := by
  have : pcs (cutN 2 2 8) [97, 98] = [[97, 98]] := by decide +kernel
  rw [this]; rfl
theorem ex_feed (w : World) (hT : Tabs w) : Calls Tryd.prog 9 #[pV 2 4 8, sV ⟨#[]⟩, .string ⟨#[97, 98]⟩] w fun e w' => ∃ a cap, e = .returned (.tuple #[sV ⟨#[97, 98]⟩, .slice a 0 cap]) ∧ Below w.heap.size w w' := by
  refine (Feed_any 2 4 2 8 fit248 ⟨#[]⟩ ⟨#[97, 98]⟩ ⟨#[97, 98]⟩ (by decide +kernel) (by decide) w hT).mono ?_
  rintro e w' ⟨v, rfl, hv, hb⟩
  have hl : (⟨#[97, 98]⟩ : ByteArray).data.toList = [97, 98] := rfl
  have hf : fed (cutN 2 2 8) 8 [97, 98] = [] := by decide +kernel
  have hr : left (cutN 2 2 8) 8 [97, 98] = [97, 98] := by decide +kernel
  rw [hl, hf] at hv
  rw [hl, hr]
  obtain ⟨_, a, cap, rfl, _, hc⟩ := hv.strs
  exact ⟨a, cap, rfl, hb⟩
theorem ex_end (w : World) (hT : Tabs w) : Calls Tryd.prog 12 #[pV 2 4 8, sV ⟨#[97, 98]⟩] w fun e w' => ∃ b off cap, e = .returned (.slice (some ⟨b, off, none⟩) 1 cap) ∧ b < w'.heap.size ∧ w'.cell? ⟨b, off, none⟩ = some (.string ⟨#[97, 98]⟩) ∧ Below w.heap.size w w' := by
  refine (End_any 2 4 2 8 fit248 ⟨#[97, 98]⟩ (by decide) w hT).mono ?_
  rintro e w' ⟨v, rfl, hv, hb⟩
  have hl : (⟨#[97, 98]⟩ : ByteArray).data.toList = [97, 98] := rfl
  rw [hl, pcs_ab] at hv
  obtain ⟨_, a, cap, rfl, _, hc⟩ := hv
  obtain ⟨b, off, rfl, hlt, hcell⟩ := hc (by decide)
  exact ⟨b, off, cap, rfl, hlt, hcell 0 (by decide), hb⟩

set_option maxRecDepth 100000 in
set_option maxHeartbeats 1000000 in
theorem awake_any (w : World) (hT : Tabs w) : Calls Tryd.prog 8 #[] w fun e w' => e = .returned (.bool true) ∧ Below w.heap.size w w' := by
  obtain ⟨V, hV⟩ : ∃ V, V = w.alloc (.cells #[.int .i64 2, .int .i64 4, .int .i64 8] 23) := ⟨_, rfl⟩
  have hRV : Row V w.heap.size #[.int .i64 2, .int .i64 4, .int .i64 8] 23 := by rw [hV]; exact Row.made _ _ _
  have hBV : Below w.heap.size w V := by rw [hV]; exact (Below.refl _ _).alloc (Nat.le_refl _) _
  have HTV := Lib.hid (hT.stays hBV)
  have HV := Lib.hid hV; have HRV := Lib.hid hRV
  clear hV hRV hT
  go_enter Tryd.func8, Tryd.ntmps8
  go_wp2_with fail
  rw [← HV.out]
  refine (ex_feed _ HTV.out).mono ?_
  rintro e w1 ⟨a1, cap1, rfl, hb1⟩
  have HT1 := Lib.hid (HTV.out.stays hb1)
  have HR1 := Lib.hid (HRV.out.step hb1)
  have hB1 := hBV.trans (hb1.mono hBV.size)
  clear hb1 HRV HTV hBV HV
  have g0 := HR1.out.cell 0; have g1 := HR1.out.cell 1; have g2 := HR1.out.cell 2
  simp only [List.getElem?_toArray, List.getElem?_cons_zero, List.getElem?_cons_succ] at g0 g1 g2
  have hz := HR1.out.lt
  go_wp2_with fail
  obtain ⟨V2, hV2⟩ : ∃ V2, V2 = w1.alloc (.cells #[.string ⟨#[97, 98]⟩] 25) := ⟨_, rfl⟩
  have hb2 : Below w1.heap.size w1 V2 := by rw [hV2]; exact (Below.refl _ _).alloc (Nat.le_refl _) _
  have hB2 := below_step hB1 hb2
  have HT2 := Lib.hid (HT1.out.stays hb2)
  rw [← hV2]
  clear hV2 hb2 hB1 g0 g1 g2 hz HR1 HT1
  refine (ex_end _ HT2.out).mono ?_
  rintro e w2 ⟨b, off, cap, rfl, hlt, hc, hb3⟩
  have hB3 := below_step hB2 hb3
  clear hB2 hb3
  go_wp2
  go_ret
  exact ⟨rfl, hB3⟩

/-! ## What a region holds -/
structure Held (W0 : World) (L : List (Nat × Array Value × TypeId)) (w : World) : Prop where
  rows : ∀ x ∈ L, Row w x.1 x.2.1 x.2.2
  tabs : Tabs w
  below : Below W0.heap.size W0 w
theorem Held.on {W0 : World} {L : List (Nat × Array Value × TypeId)} {w w' : World} (h : Held W0 L w) (hb : Below w.heap.size w w') : Held W0 L w' :=
  ⟨fun x hx => (h.rows x hx).step hb, h.tabs.stays hb, below_step h.below hb⟩
theorem Held.onB {W0 : World} {L : List (Nat × Array Value × TypeId)} {w w' : World} {B : Nat} (h : Held W0 L w) (hb : Below B w w') (hB : W0.heap.size ≤ B) (h1 : 1 < B) (hL : ∀ x ∈ L, x.1 < B) : Held W0 L w' :=
  ⟨fun x hx => (h.rows x hx).below hb (hL x hx), fun j hj => by rw [hb.cell (p := ⟨1, j, none⟩) h1]; exact h.tabs j hj, h.below.trans (hb.mono hB)⟩
/-- What one operation does (number j), and all others. -/
def appT (j : Nat) (R : World → World → Prop) (i : Nat) (w w' : World) : Prop := if i = j then R w w' else Below w.heap.size w w'
theorem appT_at {j : Nat} {R : World → World → Prop} {w w' : World} (h : R w w') : appT j R j w w' := by unfold appT; rw [if_pos rfl]; exact h
theorem appT_in {j : Nat} {R : World → World → Prop} {w w' : World} (h : appT j R j w w') : R w w' := by unfold appT at h; rw [if_pos rfl] at h; exact h
theorem appT_other {j i : Nat} {R : World → World → Prop} {w w' : World} (hi : i ≠ j) (h : Below w.heap.size w w') : appT j R i w w' := by unfold appT; rw [if_neg hi]; exact h
theorem appT_out {j i : Nat} {R : World → World → Prop} {w w' : World} (hi : i ≠ j) (h : appT j R i w w') : Below w.heap.size w w' := by unfold appT at h; rw [if_neg hi] at h; exact h
/-- A stream is stored at a place from B on that holds one, a stream alone. -/
def putS (B : Nat) (w w' : World) : Prop := ∃ A z u, B ≤ A ∧ Row w A #[z] 25 ∧ w' = w.setCell ⟨A, 0, none⟩ u
theorem putS_below {B : Nat} {w w' : World} (h : putS B w w') : Below B w w' := by
  obtain ⟨A, z, u, h1, _, rfl⟩ := h
  exact (Below.refl _ _).setCell (p := ⟨A, 0, none⟩) h1 _
theorem putS_own {B : Nat} {w w' : World} (h : putS B w w') {v : Value} {L : List ByteArray} (ho : OwnS w v L) : OwnS w' v L := by
  obtain ⟨A, z, u, _, h2, rfl⟩ := h
  exact ho.set h2 (by decide) u
def allT (_ : Nat) (w w' : World) : Prop := Below w.heap.size w w'
theorem calls_val {P : Program} {f : FuncId} {xs : Array Value} {w : World} {v : Value} {R : World → Prop} (h : Calls P f xs w fun e w' => e = .returned v ∧ R w') : Calls P f xs w fun e w' => ∃ u, e = .returned u ∧ (u = v ∧ R w') :=
  h.mono fun _ _ ⟨a, b⟩ => ⟨_, a, rfl, b⟩
/-- Fit parameters are small numbers. -/
theorem fit_nats {mn av mx : Int} (h : fitB mn av mx = true) : ∃ (m a x b : Nat), mn = m ∧ av = a ∧ mx = x ∧ FitAt m a x b := by
  obtain ⟨b, hb⟩ := fitB_true h
  have h1 := hb.h1; have h2 := hb.h2; have h3 := hb.h3
  obtain ⟨m, rfl⟩ : ∃ m : Nat, mn = m := ⟨mn.toNat, by omega⟩
  obtain ⟨a, rfl⟩ : ∃ a : Nat, av = a := ⟨av.toNat, by omega⟩
  obtain ⟨x, rfl⟩ : ∃ x : Nat, mx = x := ⟨mx.toNat, by omega⟩
  exact ⟨m, a, x, b, rfl, rfl, rfl, hb⟩
theorem yields_slice {P : Program} {ρ : Operand → Value} {o : Oper} {t : TypeId} {x : Operand} {lo hi : Option Operand} {vx v : Value} {l h : Option Value} {W : World} (hu : P.underlying t = some .string) (ho : o.op = .slice t x lo hi none) (hx : ρ x = vx) (hl : lo.map ρ = l) (hh : hi.map ρ = h) (hr : (Instr.slice t vx l h none).run P W = .ok v W) : (execOp ρ o).run P W = .ok (.value v) W := by
  subst hx hl hh
  unfold execOp
  rw [ho]
  simp [run_sliceAt_string W t (ρ x) (lo.map ρ) (hi.map ρ) none hu, hr]
theorem wp_callx {P : Program} {o : Oper} {a : Act} {w : World} {K : Act → World → Prop} {Q : Exit → Act → World → Prop} (f : FuncId) (args : Array Operand) (tys : Array TypeId) (ho : o.op = .call { callee := .value (.func f), args := args, argTypes := tys })
    (hen : ∀ xs w, (callFunc f xs).run P w = .ok (.enter f xs) w) (xs : Array Value) (hxs : args.map a.eval = xs) {R : Value → World → Prop} (h : Calls P f xs w fun e w' => ∃ v, e = .returned v ∧ R v w') (hk : ∀ v w', R v w' → K (a.put o.dst v) w') : o.wp P a w K Q := by
  unfold Oper.wp execOp
  simp only [ho]
  simp [hxs, go_sem, hen]
  refine h.mono ?_
  rintro e w' ⟨v, rfl, hr⟩
  exact hk v w' hr
end Go.Proofs.YtciajgdjddepdaaDoor

/-
  Texts put together: contracts and laws that this seat's proofs share.
-/
import Derived.Test.YtlccihidedfemaaGreatDoorQc3
import Derived.Test.YtlccihidedfemaaGreatDoorYcShr
import Derived.Test.YtlccihidedfemaaGreatDoorQc0
import Derived.Test.YtlccihidedfemaaGreatDoorYcNdi
import Derived.Test.YtlccihidedfemaaGreatDoorQc1
set_option linter.unusedVariables false
namespace Go.Proofs.YtlccihidedfemaaGreatDoor
open Go.RowKit
attribute [local go_sem] Oper.semAt_some
set_option maxRecDepth 100000 in
set_option maxHeartbeats 1000000 in
theorem rKey_any (n : Nd) (pv ev : Value) (w : World) (hp : IsParts w pv n.ps) (he : IsEntries w ev n.es) :
  Calls Tryz.prog 77 #[ndV n pv ev] w fun e w' => e = .returned (.string ⟨(keyN n).toArray⟩) ∧ Below w.heap.size w w' := by
 have HP := Lib.hid hp; have HE := Lib.hid he
 obtain ⟨_, a1, cap1, hv1, _, _⟩ := hp
 obtain ⟨_, a2, cap2, hv2, _, _⟩ := he
 subst hv1 hv2
 have hb0 := (Below.refl w.heap.size w).alloc (Nat.le_refl _) (.cells #[.int .i64 n.kd, .string n.d, .slice a1 n.ps.length cap1, .slice a2 n.es.length cap2] 44)
 have FA := Lib.hid (rFit_any n _ _ _ (HP.out.stays hb0) (HE.out.stays hb0))
 have HX := Lib.hid (ndBox_new w n (.slice a1 n.ps.length cap1) (.slice a2 n.es.length cap2) 44)
 rcases hf : fitN n with _ | _
 ·rw [hf] at FA
  have HK := Lib.hid (keyN_un hf)
  clear hf
  go_enter Tryz.func77, Tryz.ntmps77
  go_wp2_with fail
  with_reducible refine FA.out.mono ?_
  rintro e w1 ⟨rfl, hb1⟩
  go_wp2
  go_ret
  exact ⟨by rw [HK.out]; rfl, below_step hb0 hb1⟩
 ·rw [hf] at FA
  have hl := wrL_len hf
  obtain ⟨Y, hY1, hY2⟩ := ex_str (wrL n)
  have WA := Lib.hid (fun w h1 h2 => rWriteF_any n (.slice a1 n.ps.length cap1) (.slice a2 n.es.length cap2) w h1 h2 hf)
  rw [wrN_fit hf, ← hY1] at WA
  have SA := Lib.hid (fun w => refSum_any Y (by rw [Lib.size_eq, hY2]; omega) w)
  rw [hY2] at SA
  have HK := Lib.hid (keyN_fit hf)
  clear hf hY1 hY2 hl
  go_enter Tryz.func77, Tryz.ntmps77
  go_wp2_with fail
  with_reducible refine FA.out.mono ?_
  rintro e w1 ⟨rfl, hb1⟩
  have HB1 := Lib.hid (below_step hb0 hb1)
  obtain ⟨x0, x1, x2, x3⟩ := (HX.out.stays hb1).cells
  clear hb0 hb1
  go_wp2_with fail
  refine (WA.out _ (HP.out.stays HB1.out) (HE.out.stays HB1.out)).mono ?_
  rintro e w2 ⟨rfl, hb2⟩
  have HB2 := Lib.hid (below_step HB1.out hb2)
  clear hb2 x0 x1 x2 x3
  go_wp2_with fail
  with_reducible refine (SA.out _).mono ?_
  rintro e w3 ⟨rfl, hb3⟩
  go_wp2
  go_ret
  exact ⟨by rw [HK.out]; rfl, below_step HB2.out hb3⟩
set_option maxRecDepth 100000 in
set_option maxHeartbeats 1000000 in
theorem pKey_any (n : Nd) (pv ev : Value) (w : World) (hp : IsParts w pv n.ps) (he : IsEntries w ev n.es) (hd : n.d.size ≤ 1000000000) :
  Calls Tryz.prog 89 #[ndV n pv ev] w fun e w' => e = .returned (.string ⟨(keyN n).toArray⟩) ∧ Below w.heap.size w w' := by
 have HP := Lib.hid hp; have HE := Lib.hid he
 obtain ⟨_, a1, cap1, hv1, _, _⟩ := hp
 obtain ⟨_, a2, cap2, hv2, _, _⟩ := he
 subst hv1 hv2
 have hb0 := (Below.refl w.heap.size w).alloc (Nat.le_refl _) (.cells #[.int .i64 n.kd, .string n.d, .slice a1 n.ps.length cap1, .slice a2 n.es.length cap2] 44)
 have WA := Lib.hid (pWrite_any n _ _ _ (HP.out.stays hb0) (HE.out.stays hb0) hd)
 obtain ⟨Y, hY1, hY2⟩ := ex_str (wrN n)
 rw [← hY1] at WA
 rcases hf : fitN n with _ | _
 ·have q : Y.toList.isEmpty = true := by rw [Lib.toList_data, hY2, wrN_un hf]; rfl
  have HK := Lib.hid (keyN_un hf)
  clear hf hY1 hY2
  go_enter Tryz.func89, Tryz.ntmps89
  go_wp2_with fail
  with_reducible refine WA.out.mono ?_
  rintro e w1 ⟨rfl, hb1⟩
  go_wp2
  go_ret
  exact ⟨by rw [HK.out]; rfl, below_step hb0 hb1⟩
 ·have hl := wrL_len hf
  have hY3 : Y.data.toList = wrL n := by rw [hY2, wrN_fit hf]
  have q : Y.toList.isEmpty = false := by
   rw [Lib.toList_data, hY3]
   cases hw : wrL n with
   | nil => rw [hw] at hl; exact absurd hl.1 (by decide)
   | cons => rfl
  have SA := Lib.hid (fun w => Sum_any Y (by rw [Lib.size_eq, hY3]; omega) w)
  rw [hY3] at SA
  have HK := Lib.hid (keyN_fit hf)
  clear hf hY1 hY2 hY3 hl
  go_enter Tryz.func89, Tryz.ntmps89
  go_wp2_with fail
  with_reducible refine WA.out.mono ?_
  rintro e w1 ⟨rfl, hb1⟩
  go_wp2_with fail
  with_reducible refine (SA.out _).mono ?_
  rintro e w2 ⟨rfl, hb2⟩
  go_wp2
  go_ret
  exact ⟨by rw [HK.out]; rfl, below_step (below_step hb0 hb1) hb2⟩
def AddOn (L : List Ob) (x : Ob) (k : Nat) (d : Bool) (out : List Ob) : Prop := out.length = k + (if d then 1 else 0) ∧ out ++ (if d then L.drop k else insO (L.drop k) x) = insO L x
theorem addOn_zero (L : List Ob) (x : Ob) : AddOn L x 0 false [] := ⟨by simp, by simp⟩
theorem addOn_len {L : List Ob} {x : Ob} {k : Nat} {d : Bool} {out : List Ob} (h : AddOn L x k d out) : out.length ≤ k + 1 := by have := h.1; split at this <;> omega
theorem addOn_done {L : List Ob} {x : Ob} {k : Nat} {out : List Ob} (h : AddOn L x k true out) (hk : k < L.length) : AddOn L x (k + 1) true (out ++ [L[k]]) :=
 ⟨by have := h.1; simp at this ⊢; omega, by have := h.2; rw [if_pos rfl, List.drop_eq_getElem_cons hk] at this; rw [if_pos rfl, ← this]; simp⟩
theorem addOn_here {L : List Ob} {x : Ob} {k : Nat} {out : List Ob} (h : AddOn L x k false out) (hk : k < L.length) (hx : x.t < L[k].t) : AddOn L x (k + 1) true ((out ++ [x]) ++ [L[k]]) :=
 ⟨by have := h.1; simp at this ⊢; omega, by
  have := h.2
  rw [if_neg (by decide), List.drop_eq_getElem_cons hk, insO_cons, if_pos hx] at this
  rw [if_pos rfl, ← this]; simp⟩
theorem addOn_past {L : List Ob} {x : Ob} {k : Nat} {out : List Ob} (h : AddOn L x k false out) (hk : k < L.length) (hx : ¬ x.t < L[k].t) : AddOn L x (k + 1) false (out ++ [L[k]]) :=
 ⟨by have := h.1; simp at this ⊢; omega, by
  have := h.2
  rw [if_neg (by decide), List.drop_eq_getElem_cons hk, insO_cons, if_neg hx] at this
  rw [if_neg (by decide), ← this]; simp⟩
theorem addOn_end {L : List Ob} {x : Ob} {k : Nat} {d : Bool} {out : List Ob} (h : AddOn L x k d out) (hk : L.length ≤ k) : out ++ (if d then [] else [x]) = insO L x := by
 have := h.2
 rw [List.drop_of_length_le hk] at this
 cases d
 ·exact this
 ·exact this
theorem wpList_append_ob {ops : Array Oper} {rest : List Oper} {o : Oper} {a : Act} {W w0 : World} {z : Nat} {Q : Exit → Act → World → Prop} (hgd : o.guard = none) (s x : Operand)
  (ho : o.op = .call { callee := .builtin .append, args := #[s, x], argTypes := #[27, 27] })
  {v : Value} {M : List Ob} {y : Ob} (hown : OwnO W.heap.size w0 v M) (hb : Below W.heap.size W w0) (hz : z = w0.heap.size) (hs : a.eval s = v)
  (hx : a.eval x = .slice (some ⟨z, 0, none⟩) 1 1) (hlen : M.length ≤ 1000000)
  (h : ∀ v' w', OwnO W.heap.size w' v' (M ++ [y]) → Below W.heap.size W w' → wpList Tryz.prog ops Q rest (a.put o.dst v') w') :
  wpList Tryz.prog ops Q (o :: rest) a (w0.alloc (.cells #[.string y.k, .string y.r] 33)) := by
 subst hz
 refine wpList_append_obs hgd s x ho hown hb.size hs hx hlen ?_
 intro v' w' h1 h2
 exact h v' w' h1 (hb.grown h2 hb.size (fun j hj => (hown.lt j hj).1))
set_option maxRecDepth 100000 in
set_option maxHeartbeats 8000000 in
theorem rAdd_any (v : Value) (L : List Ob) (x : Ob) (w : World) (h : IsObs w v L) (hL : L.length ≤ 900000) :
  Calls Tryz.prog 21 #[v, obV x] w fun e w' => ∃ v', e = .returned v' ∧ IsObs w' v' (addO L x) ∧ Below w.heap.size w w' ∧ (v' = v ∧ addO L x = L ∨ OwnO w.heap.size w' v' (addO L x)) := by
 obtain ⟨V, hV⟩ : ∃ V, V = w.alloc (.cells #[.string x.k, .string x.r] 33) := ⟨_, rfl⟩
 have hbV : Below w.heap.size w V := by rw [hV]; exact (Below.refl _ _).alloc (Nat.le_refl _) _
 have HX : Hid (ObBox V w.heap.size x) := Lib.hid (by rw [hV]; exact obBox_new w x _)
 have HI := Lib.hid (h.stays hbV)
 have HV := Lib.hid hV; have HB0 := Lib.hid hbV
 have G := Lib.hid (rGet_any v L x.k V HI.out)
 obtain ⟨_, a, cap, rfl, _, _⟩ := h
 clear hV hbV
 obtain ⟨d0, d1⟩ := HX.out.cells
 by_cases hin : (getO L x.t).isSome = true ∨ x.t.length ≠ 32
 ·have HR := Lib.hid (addO_there hin)
  rcases hg : (getO L x.t).isSome with _ | _
  ·have h32 : (((x.k.size : Nat) : Int) != 32) = true := by
    have := hin.resolve_left (by rw [hg]; decide)
    rw [Ob.t, ← Lib.size_eq] at this
    simp; omega
   rw [show getO L x.k.data.toList = getO L x.t from rfl, hg] at G
   clear hg hin
   go_enter Tryz.func21, Tryz.ntmps21
   go_wp2_with fail
   rw [← HV.out]
   go_wp2_with fail
   with_reducible refine G.out.mono ?_
   rintro e w1 ⟨rfl, hb⟩
   obtain ⟨e0, e1⟩ := (HX.out.stays hb).cells
   clear d0 d1
   go_wp2
   go_ret
   exact ⟨.slice a L.length cap, rfl, by rw [HR.out]; exact HI.out.stays hb, below_step HB0.out hb, .inl ⟨rfl, HR.out⟩⟩
  ·rw [show getO L x.k.data.toList = getO L x.t from rfl, hg] at G
   clear hg hin
   go_enter Tryz.func21, Tryz.ntmps21
   go_wp2_with fail
   rw [← HV.out]
   go_wp2_with fail
   with_reducible refine G.out.mono ?_
   rintro e w1 ⟨rfl, hb⟩
   clear d0 d1
   go_wp2
   go_ret
   exact ⟨.slice a L.length cap, rfl, by rw [HR.out]; exact HI.out.stays hb, below_step HB0.out hb, .inl ⟨rfl, HR.out⟩⟩
 ·have HR : Hid (addO L x = insO L x) := Lib.hid (if_neg hin)
  rw [not_or] at hin
  have h32 : (((x.k.size : Nat) : Int) != 32) = false := by
   have := Decidable.not_not.1 hin.2
   rw [Ob.t, ← Lib.size_eq] at this
   rw [this]; rfl
  rw [show (getO L x.k.data.toList).isSome = false by simpa [Ob.t] using hin.1] at G
  clear hin
  go_enter Tryz.func21, Tryz.ntmps21
  go_wp2_with fail
  rw [← HV.out]
  go_wp2_with fail
  with_reducible refine G.out.mono ?_
  rintro e w1 ⟨rfl, hb⟩
  have HX1 := Lib.hid (HX.out.stays hb)
  have HI1 := Lib.hid (HI.out.stays hb)
  have HB1 := Lib.hid (below_step HB0.out hb)
  clear d0 d1 hb HX HI HB0 HV
  obtain ⟨d0, d1⟩ := HX1.out.cells
  go_wp2
  obtain ⟨B, hB⟩ : ∃ B, B = w.heap.size := ⟨_, rfl⟩
  rw [← hB] at HX1 d0 d1 ⊢
  have HBE := Lib.hid hB; clear hB
  go_loopw [7, 8, 9] (fun o d i wr => ∃ (k : Nat) (db : Bool) (out : List Ob), k ≤ L.length ∧ i = .int .i64 k ∧ d = .bool db ∧ AddOn L x k db out ∧ OwnO w1.heap.size wr o out ∧ Below w1.heap.size w1 wr) (fun _ _ i _ => L.length - (intOf i).toNat)
  case atStart => exact ⟨0, false, [], Nat.zero_le _, rfl, rfl, addOn_zero _ _, obs_own_nil _ _, Below.refl _ _⟩
  case round =>
   clear d0 d1
   obtain ⟨k, db, out, hk, rfl, rfl, hA, hO, hB⟩ := hrel
   have hlen := addOn_len hA
   have hol : out.length ≤ 1000000 := by omega
   have HA := Lib.hid hA; have HO := Lib.hid hO
   have HX2 := Lib.hid (HX1.out.stays hB)
   obtain ⟨d0, d1⟩ := HX2.out.cells
   clear hA hO hlen
   by_cases hlt : k < L.length
   ·obtain ⟨_, _, _, e, _, hc⟩ := HI1.out
    cases e
    obtain ⟨b, off, rfl, hbl, g⟩ := hc (by omega)
    obtain ⟨c0, c1⟩ := (g k hlt).stays hbl hB
    have HG := Lib.hid (g k hlt)
    clear g hc
    have hbk : decide ((k : Int) < (L.length : Int)) = true := by simpa using (show (k : Int) < L.length by omega)
    cases db with
    | true =>
     have HS := Lib.hid (addOn_done HA.out hlt)
     obtain ⟨y, hy⟩ : ∃ y, y = L[k] := ⟨_, rfl⟩
     rw [← hy] at c0 c1 HG HS
     clear hy
     go_wp2_with fail
     go_quiet (fail)
     have hbq : Below wr.heap.size wr (wr.drewN nq) := below_drewN (Below.refl _ _) _
     have HO2 := Lib.hid (HO.out.stays hbq)
     have hB2 := below_step hB hbq
     obtain ⟨e0, e1⟩ := HG.out.stays hbl hB2
     clear c0 c1 d0 d1 hB
     generalize wr.drewN nq = wq at HO2 hB2 e0 e1 hbq ⊢
     go_wp2_with (at_builtin; refine wpList_append_ob rfl _ _ rfl HO2.out hB2 rfl rfl rfl hol ?_)
     intro v' w2 hown' hb2
     have HO3 := Lib.hid hown'; clear hown'
     go_wp2
     go_roundw
     case rel => exact ⟨k + 1, true, _, by omega, by go_num, rfl, HS.out, HO3.out, hb2⟩
     case measure => simp [intOf]; omega
    | false =>
     by_cases hlx : x.t < L[k].t
     ·have HS := Lib.hid (addOn_here HA.out hlt hlx)
      obtain ⟨y, hy⟩ : ∃ y, y = L[k] := ⟨_, rfl⟩
      rw [← hy] at c0 c1 HG HS hlx
      clear hy
      have l1 : Op.bytesLess y.k.toList x.k.toList = false := by rw [less_eq]; exact decide_eq_false (t_asymm hlx)
      have l2 : (y.k.toList == x.k.toList) = false := beq_false (fun e => t_irrefl _ (show x.t < x.t by
       have : y.t = x.t := by unfold Ob.t; rw [e]
       rw [this] at hlx; exact hlx))
      clear hlx
      have hol2 : (out ++ [x]).length ≤ 1000000 := by have := HA.out.1; simp at this; rw [List.length_append, List.length_singleton]; omega
      go_wp2_with fail
      go_quiet (fail)
      have hbq : Below wr.heap.size wr (wr.drewN nq) := below_drewN (Below.refl _ _) _
      have HO2 := Lib.hid (HO.out.stays hbq)
      have hB2 := below_step hB hbq
      clear c0 c1 d0 d1 hB
      generalize wr.drewN nq = wq at HO2 hB2 hbq ⊢
      obtain ⟨d0, d1⟩ := (HX1.out.stays hB2).cells
      go_wp2_with (at_builtin; refine wpList_append_ob rfl _ _ rfl HO2.out hB2 rfl rfl rfl hol ?_)
      intro v1 w2 hown1 hb1
      have HO3 := Lib.hid hown1; clear hown1
      clear d0 d1
      obtain ⟨e0, e1⟩ := HG.out.stays hbl hb1
      go_wp2_with (at_builtin; refine wpList_append_ob rfl _ _ rfl HO3.out hb1 rfl rfl rfl hol2 ?_)
      intro v' w3 hown' hb2
      have HO4 := Lib.hid hown'; clear hown'
      go_wp2
      go_roundw
      case rel => exact ⟨k + 1, true, _, by omega, by go_num, rfl, HS.out, by simpa using HO4.out, hb2⟩
      case measure => simp [intOf]; omega
     ·have HS := Lib.hid (addOn_past HA.out hlt hlx)
      obtain ⟨y, hy⟩ : ∃ y, y = L[k] := ⟨_, rfl⟩
      rw [← hy] at c0 c1 HG HS hlx
      clear hy
      have l0 : (Op.bytesLess y.k.toList x.k.toList || (y.k.toList == x.k.toList)) = true := by
       rw [less_eq]
       by_cases e : y.k = x.k
       ·rw [beq_true e, Bool.or_true]
       ·rw [decide_eq_true (Classical.byContradiction fun c => e (str_eq' (t_tri _ _ c hlx))), Bool.true_or]
      clear hlx
      go_wp2_with fail
      go_quiet (fail)
      have hbq : Below wr.heap.size wr (wr.drewN nq) := below_drewN (Below.refl _ _) _
      have HO2 := Lib.hid (HO.out.stays hbq)
      have hB2 := below_step hB hbq
      obtain ⟨e0, e1⟩ := HG.out.stays hbl hB2
      clear c0 c1 d0 d1 hB
      generalize wr.drewN nq = wq at HO2 hB2 e0 e1 hbq ⊢
      go_wp2_with (at_builtin; refine wpList_append_ob rfl _ _ rfl HO2.out hB2 rfl rfl rfl hol ?_)
      intro v' w2 hown' hb2
      have HO3 := Lib.hid hown'; clear hown'
      go_wp2
      go_roundw
      case rel => exact ⟨k + 1, false, _, by omega, by go_num, rfl, HS.out, HO3.out, hb2⟩
      case measure => simp [intOf]; omega
   ·have HE := Lib.hid (addOn_end HA.out (by omega))
    have hge : decide ((k : Int) < (L.length : Int)) = false := by simp; omega
    cases db with
    | true =>
     go_wp2
     go_ret
     exact ⟨u7, rfl, by have h := HO.out.is; rw [HR.out, ← HE.out]; simpa using h, below_step HB1.out (hB.mono (Nat.le_refl _)), .inr (by have h := HO.out.low HB1.out.size; rw [HR.out, ← HE.out]; simpa [HBE.out] using h)⟩
    | false =>
     go_wp2_with (at_builtin; refine wpList_append_ob rfl _ _ rfl HO.out hB rfl rfl rfl hol ?_)
     intro v' w2 hown' hb2
     have HO3 := Lib.hid hown'; clear hown'
     go_wp2
     go_ret
     exact ⟨v', rfl, by have h := HO3.out.is; rw [HR.out, ← HE.out]; simpa using h, below_step HB1.out hb2, .inr (by have h := HO3.out.low HB1.out.size; rw [HR.out, ← HE.out]; simpa using h)⟩
noncomputable def clashB (T : List (List UInt8)) : Bool := @decide (Clash T) (Classical.propDecidable _)
theorem clashB_yes {T : List (List UInt8)} (h : Clash T) : clashB T = true := @decide_eq_true _ (Classical.propDecidable _) h
theorem clashB_no {T : List (List UInt8)} (h : ¬ Clash T) : clashB T = false := @decide_eq_false _ (Classical.propDecidable _) h
structure ClOn (T : List (List UInt8)) (k : Nat) (O : List Ob) : Prop where
 fit : FitO O
 from_ : ∀ y ∈ O, y.u ∈ T.take k ∧ y.t = shaSum y.u
 all : ∀ t ∈ T.take k, ∃ y ∈ O, y.u = t ∧ y.t = shaSum t
 len : O.length ≤ k
theorem clOn_zero (T : List (List UInt8)) : ClOn T 0 [] := ⟨fitO_nil, fun _ h => (by cases h), fun _ h => (by simp at h), Nat.le_refl _⟩
def sumO (t : List UInt8) : Ob := ⟨⟨(shaSum t).toArray⟩, ⟨t.toArray⟩⟩
theorem sumO_t (t : List UInt8) : (sumO t).t = shaSum t := by unfold sumO Ob.t; simp
theorem sumO_u (t : List UInt8) : (sumO t).u = t := by unfold sumO Ob.u; simp
theorem take_mem {T : List (List UInt8)} {k : Nat} (hk : k < T.length) {t : List UInt8} : t ∈ T.take (k + 1) ↔ t ∈ T.take k ∨ t = T[k] := by
 rw [List.take_succ_eq_append_getElem hk, List.mem_append, List.mem_singleton]
theorem clOn_clash {T : List (List UInt8)} {k : Nat} {O : List Ob} (h : ClOn T k O) (hk : k < T.length) {y : Ob} (hy : getO O (shaSum T[k]) = some y) (hne : y.u ≠ T[k]) : Clash T := by
 obtain ⟨h1, h2⟩ := getO_mem hy
 obtain ⟨h3, h4⟩ := h.from_ y h1
 exact ⟨y.u, List.mem_of_mem_take h3, T[k], List.getElem_mem hk, hne, by rw [← h4, h2]⟩
theorem clOn_step {T : List (List UInt8)} {k : Nat} {O : List Ob} (h : ClOn T k O) (hk : k < T.length) (hy : ∀ y, getO O (shaSum T[k]) = some y → y.u = T[k]) : ClOn T (k + 1) (addO O (sumO T[k])) := by
 refine ⟨addO_fit h.fit _, fun y hm => ?_, fun t ht => ?_, by have := (addO_len_le O (sumO T[k])).2; have := h.len; omega⟩
 ·rcases mem_addO.1 hm with h1 | ⟨rfl, _, _⟩
  ·exact ⟨(take_mem hk).2 (.inl (h.from_ y h1).1), (h.from_ y h1).2⟩
  ·rw [sumO_u, sumO_t]; exact ⟨(take_mem hk).2 (.inr rfl), rfl⟩
 ·rcases (take_mem hk).1 ht with h1 | rfl
  ·obtain ⟨y, h2, h3⟩ := h.all t h1
   exact ⟨y, mem_addO.2 (.inl h2), h3⟩
  ·cases hg : getO O (shaSum T[k]) with
   | some y => exact ⟨y, mem_addO.2 (.inl (getO_mem hg).1), hy y hg, (getO_mem hg).2⟩
   | none => exact ⟨sumO T[k], mem_addO.2 (.inr ⟨rfl, by rw [sumO_t]; exact hg, by rw [sumO_t]; exact shaSum_len _⟩), sumO_u _, sumO_t _⟩
theorem clOn_end {T : List (List UInt8)} {k : Nat} {O : List Ob} (h : ClOn T k O) (hk : T.length ≤ k) : ¬ Clash T := by
 rintro ⟨a, ha, b, hb, hne, e⟩
 rw [← List.take_of_length_le hk] at ha hb
 obtain ⟨y, hy, h1, h2⟩ := h.all a ha
 obtain ⟨z, hz, h3, h4⟩ := h.all b hb
 have := rise_one h.fit.1 hy hz (by rw [h2, h4, e])
 rw [this, h3] at h1
 exact hne h1.symm
set_option maxRecDepth 100000 in
set_option maxHeartbeats 8000000 in
theorem rClash_any (v : Value) (T : List ByteArray) (w : World) (h : IsStrs w v T) (hs : ∀ x ∈ T, x.size ≤ 60000) (hT : T.length ≤ 600000) :
  Calls Tryz.prog 26 #[v] w fun e w' => e = .returned (.bool (clashB (txts T))) ∧ Below w.heap.size w w' := by
 have HI := Lib.hid h
 have HS := Lib.hid hs
 obtain ⟨hm, a, cap, rfl, _, hc⟩ := h
 clear hc hs
 go_enter Tryz.func26, Tryz.ntmps26
 go_wp2
 go_loopw [3, 4] (fun o i wr => ∃ (k : Nat) (O : List Ob), k ≤ T.length ∧ i = .int .i64 k ∧ IsObs wr o O ∧ ClOn (txts T) k O ∧ Below w.heap.size w wr) (fun _ i _ => T.length - (intOf i).toNat)
 case atStart => exact ⟨0, [], Nat.zero_le _, rfl, obs_nil _, clOn_zero _, Below.refl _ _⟩
 case round =>
  obtain ⟨k, O, hk, rfl, hO, hC, hB⟩ := hrel
  have hol := hC.len
  have HO := Lib.hid hO; have HC := Lib.hid hC
  obtain ⟨_, ao, co, rfl, _, _⟩ := hO
  clear hC
  by_cases hlt : k < T.length
  ·obtain ⟨_, _, _, e, _, hc⟩ := HI.out
   cases e
   obtain ⟨b1, o1, rfl, hbl, g⟩ := hc (by omega)
   have q0 := g k hlt
   have q1 := (hB.cell (p := ⟨b1, o1 + k, none⟩) hbl).trans q0
   clear g hc
   have hbk : decide ((k : Int) < (T.length : Int)) = true := by simpa using (show (k : Int) < T.length by omega)
   have hkl : k < (txts T).length := by rw [txts_len]; exact hlt
   have hty := txts_get hlt
   have hsz := HS.out _ (List.getElem_mem hlt)
   have hcl := fun y => clOn_clash (y := y) HC.out hkl
   have hst := clOn_step HC.out hkl
   rw [hty] at hcl hst
   obtain ⟨y, hy⟩ : ∃ y, T[k]'hlt = y := ⟨_, rfl⟩
   rw [hy] at q0 q1 hcl hst hsz
   clear hy hty
   have CS := Lib.hid (refSum_any y (by omega) wr)
   obtain ⟨K, hK⟩ : ∃ K : ByteArray, K = ⟨(shaSum y.data.toList).toArray⟩ := ⟨_, rfl⟩
   rw [← hK] at CS
   have hKl : K.data.toList = shaSum y.data.toList := by rw [hK]
   have HX : Hid ((⟨K, y⟩ : Ob) = sumO y.data.toList) := Lib.hid (by unfold sumO; rw [hK])
   have HCL := Lib.hid hcl; have HST := Lib.hid hst; have HKL := Lib.hid hKl; have HQ := Lib.hid q0
   have hol2 : O.length ≤ 900000 := by omega
   clear hcl hst hK hKl q0
   go_wp2_with fail
   with_reducible refine CS.out.mono ?_
   rintro e w1 ⟨rfl, hb1⟩
   have hB1 := below_step hB hb1
   have HO1 := Lib.hid (HO.out.stays hb1)
   have CG := Lib.hid (rGet_any (.slice ao O.length co) O K w1 HO1.out)
   rw [HKL.out] at CG
   have q1 := (hB1.cell (p := ⟨b1, o1 + k, none⟩) hbl).trans HQ.out
   clear hb1
   cases hg : getO O (shaSum y.data.toList) with
   | none =>
    rw [hg, gotO_none hg] at CG
    have hgn : ∀ z, getO O (shaSum y.data.toList) = some z → z.u = y.data.toList := fun z hz => by rw [hg] at hz; cases hz
    have HST2 := Lib.hid (HST.out hgn)
    clear hg hgn
    go_wp2_with fail
    with_reducible refine CG.out.mono ?_
    rintro e w2 ⟨rfl, hb2⟩
    have hB2 := below_step hB1 hb2
    have CA := Lib.hid (rAdd_any (.slice ao O.length co) O ⟨K, y⟩ w2 (HO1.out.stays hb2) hol2)
    have q1 := (hB2.cell (p := ⟨b1, o1 + k, none⟩) hbl).trans HQ.out
    clear hb2
    go_wp2_with fail
    with_reducible refine CA.out.mono ?_
    rintro e w3 ⟨v3, rfl, hs3, hb3, _⟩
    have HS3 := Lib.hid hs3
    have hB3 := below_step hB2 hb3
    clear hs3 hb3
    go_wp2_with fail
    go_roundw
    case rel => exact ⟨k + 1, _, by omega, by go_num, by rw [← HX.out]; exact HS3.out, HST2.out, hB3⟩
    case measure => simp [intOf]; omega
   | some z =>
    rw [hg, gotO_some hg] at CG
    by_cases hz : z.r = y
    ·have hb0 : (z.r.toList == y.toList) = true := beq_true hz
     have hgn : ∀ u, getO O (shaSum y.data.toList) = some u → u.u = y.data.toList := fun u hu => by rw [hg] at hu; cases hu; unfold Ob.u; rw [hz]
     have HST2 := Lib.hid (HST.out hgn)
     have hre : z.r = y := hz
     clear hg hgn hz
     go_wp2_with fail
     with_reducible refine CG.out.mono ?_
     rintro e w2 ⟨rfl, hb2⟩
     have hB2 := below_step hB1 hb2
     have CA := Lib.hid (rAdd_any (.slice ao O.length co) O ⟨K, y⟩ w2 (HO1.out.stays hb2) hol2)
     have q1 := (hB2.cell (p := ⟨b1, o1 + k, none⟩) hbl).trans HQ.out
     clear hb2 hre
     go_wp2_with fail
     with_reducible refine CA.out.mono ?_
     rintro e w3 ⟨v3, rfl, hs3, hb3, _⟩
     have HS3 := Lib.hid hs3
     have hB3 := below_step hB2 hb3
     clear hs3 hb3
     go_wp2_with fail
     go_roundw
     case rel => exact ⟨k + 1, _, by omega, by go_num, by rw [← HX.out]; exact HS3.out, HST2.out, hB3⟩
     case measure => simp [intOf]; omega
    ·have hb0 : (z.r.toList == y.toList) = false := beq_false hz
     have HN := Lib.hid (clashB_yes (HCL.out z hg (fun e => hz (str_eq' e))))
     clear hg hz
     go_wp2_with fail
     with_reducible refine CG.out.mono ?_
     rintro e w2 ⟨rfl, hb2⟩
     have hB2 := below_step hB1 hb2
     have q1 := (hB2.cell (p := ⟨b1, o1 + k, none⟩) hbl).trans HQ.out
     clear hb2
     go_wp2
     go_ret
     exact ⟨by rw [HN.out]; rfl, hB2⟩
  ·have HN := Lib.hid (clashB_no (clOn_end HC.out (by rw [txts_len]; omega)))
   have hge : decide ((k : Int) < (T.length : Int)) = false := by simp; omega
   go_wp2
   go_ret
   exact ⟨by rw [HN.out]; rfl, hB⟩
end Go.Proofs.YtlccihidedfemaaGreatDoor

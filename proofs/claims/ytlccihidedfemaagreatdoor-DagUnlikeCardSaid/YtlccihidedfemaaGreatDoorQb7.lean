/-
  Texts put together: contracts and laws that this seat's proofs share.
-/
import Derived.Test.YtlccihidedfemaaGreatDoorQb5
import Derived.Test.YtlccihidedfemaaGreatDoorYbShr
import Derived.Test.YtlccihidedfemaaGreatDoorQb0
import Derived.Test.YtlccihidedfemaaGreatDoorYbNdi
import Derived.Test.YtlccihidedfemaaGreatDoorQb2
set_option linter.unusedVariables false
namespace Go.Proofs.YtlccihidedfemaaGreatDoor
open Go.RowKit
attribute [local go_sem] Oper.semAt_some
set_option maxRecDepth 100000 in
set_option maxHeartbeats 1000000 in
theorem rKey_any (n : Nd) (pv ev : Value) (w : World) (hp : IsParts w pv n.ps) (he : IsEntries w ev n.es) :
  Calls Tryz.prog 77 #[ndV n pv ev] w fun e w' => e = .returned (.string ⟨(keyN n).toArray⟩) ∧ Below w.heap.size w w' := by
 have HP := Lib.hid hp; have HE := Lib.hid he
 obtain ⟨_, a1, cap1, hv1, _, _⟩ := hp
 obtain ⟨_, a2, cap2, hv2, _, _⟩ := he
 subst hv1 hv2
 have hb0 := (Below.refl w.heap.size w).alloc (Nat.le_refl _) (.cells #[.int .i64 n.kd, .string n.d, .slice a1 n.ps.length cap1, .slice a2 n.es.length cap2] 44)
 have FA := Lib.hid (rFit_any n _ _ _ (HP.out.stays hb0) (HE.out.stays hb0))
 have HX := Lib.hid (ndBox_new w n (.slice a1 n.ps.length cap1) (.slice a2 n.es.length cap2) 44)
 rcases hf : fitN n with _ | _
 ·rw [hf] at FA
  have HK := Lib.hid (keyN_un hf)
  clear hf
  go_enter Tryz.func77, Tryz.ntmps77
  go_wp2_with fail
  with_reducible refine FA.out.mono ?_
  rintro e w1 ⟨rfl, hb1⟩
  go_wp2
  go_ret
  exact ⟨by rw [HK.out]; rfl, below_step hb0 hb1⟩
 ·rw [hf] at FA
  have hl := wrL_len hf
  obtain ⟨Y, hY1, hY2⟩ := ex_str (wrL n)
  have WA := Lib.hid (fun w h1 h2 => rWriteF_any n (.slice a1 n.ps.length cap1) (.slice a2 n.es.length cap2) w h1 h2 hf)
  rw [wrN_fit hf, ← hY1] at WA
  have SA := Lib.hid (fun w => refSum_any Y (by rw [Lib.size_eq, hY2]; omega) w)
  rw [hY2] at SA
  have HK := Lib.hid (keyN_fit hf)
  clear hf hY1 hY2 hl
  go_enter Tryz.func77, Tryz.ntmps77
  go_wp2_with fail
  with_reducible refine FA.out.mono ?_
  rintro e w1 ⟨rfl, hb1⟩
  have HB1 := Lib.hid (below_step hb0 hb1)
  obtain ⟨x0, x1, x2, x3⟩ := (HX.out.stays hb1).cells
  clear hb0 hb1
  go_wp2_with fail
  refine (WA.out _ (HP.out.stays HB1.out) (HE.out.stays HB1.out)).mono ?_
  rintro e w2 ⟨rfl, hb2⟩
  have HB2 := Lib.hid (below_step HB1.out hb2)
  clear hb2 x0 x1 x2 x3
  go_wp2_with fail
  with_reducible refine (SA.out _).mono ?_
  rintro e w3 ⟨rfl, hb3⟩
  go_wp2
  go_ret
  exact ⟨by rw [HK.out]; rfl, below_step HB2.out hb3⟩
set_option maxRecDepth 100000 in
set_option maxHeartbeats 1000000 in
theorem pKey_any (n : Nd) (pv ev : Value) (w : World) (hp : IsParts w pv n.ps) (he : IsEntries w ev n.es) (hd : n.d.size ≤ 1000000000) :
  Calls Tryz.prog 89 #[ndV n pv ev] w fun e w' => e = .returned (.string ⟨(keyN n).toArray⟩) ∧ Below w.heap.size w w' := by
 have HP := Lib.hid hp; have HE := Lib.hid he
 obtain ⟨_, a1, cap1, hv1, _, _⟩ := hp
 obtain ⟨_, a2, cap2, hv2, _, _⟩ := he
 subst hv1 hv2
 have hb0 := (Below.refl w.heap.size w).alloc (Nat.le_refl _) (.cells #[.int .i64 n.kd, .string n.d, .slice a1 n.ps.length cap1, .slice a2 n.es.length cap2] 44)
 have WA := Lib.hid (pWrite_any n _ _ _ (HP.out.stays hb0) (HE.out.stays hb0) hd)
 obtain ⟨Y, hY1, hY2⟩ := ex_str (wrN n)
 rw [← hY1] at WA
 rcases hf : fitN n with _ | _
 ·have q : Y.toList.isEmpty = true := by rw [Lib.toList_data, hY2, wrN_un hf]; rfl
  have HK := Lib.hid (keyN_un hf)
  clear hf hY1 hY2
  go_enter Tryz.func89, Tryz.ntmps89
  go_wp2_with fail
  with_reducible refine WA.out.mono ?_
  rintro e w1 ⟨rfl, hb1⟩
  go_wp2
  go_ret
  exact ⟨by rw [HK.out]; rfl, below_step hb0 hb1⟩
 ·have hl := wrL_len hf
  have hY3 : Y.data.toList = wrL n := by rw [hY2, wrN_fit hf]
  have q : Y.toList.isEmpty = false := by
   rw [Lib.toList_data, hY3]
   cases hw : wrL n with
   | nil => rw [hw] at hl; exact absurd hl.1 (by decide)
   | cons => rfl
  have SA := Lib.hid (fun w => Sum_any Y (by rw [Lib.size_eq, hY3]; omega) w)
  rw [hY3] at SA
  have HK := Lib.hid (keyN_fit hf)
  clear hf hY1 hY2 hY3 hl
  go_enter Tryz.func89, Tryz.ntmps89
  go_wp2_with fail
  with_reducible refine WA.out.mono ?_
  rintro e w1 ⟨rfl, hb1⟩
  go_wp2_with fail
  with_reducible refine (SA.out _).mono ?_
  rintro e w2 ⟨rfl, hb2⟩
  go_wp2
  go_ret
  exact ⟨by rw [HK.out]; rfl, below_step (below_step hb0 hb1) hb2⟩
def AddOn (L : List Ob) (x : Ob) (k : Nat) (d : Bool) (out : List Ob) : Prop := out.length = k + (if d then 1 else 0) ∧ out ++ (if d then L.drop k else insO (L.drop k) x) = insO L x
theorem addOn_zero (L : List Ob) (x : Ob) : AddOn L x 0 false [] := ⟨by simp, by simp⟩
theorem addOn_len {L : List Ob} {x : Ob} {k : Nat} {d : Bool} {out : List Ob} (h : AddOn L x k d out) : out.length ≤ k + 1 := by have := h.1; split at this <;> omega
theorem addOn_done {L : List Ob} {x : Ob} {k : Nat} {out : List Ob} (h : AddOn L x k true out) (hk : k < L.length) : AddOn L x (k + 1) true (out ++ [L[k]]) :=
 ⟨by have := h.1; simp at this ⊢; omega, by have := h.2; rw [if_pos rfl, List.drop_eq_getElem_cons hk] at this; rw [if_pos rfl, ← this]; simp⟩
theorem addOn_here {L : List Ob} {x : Ob} {k : Nat} {out : List Ob} (h : AddOn L x k false out) (hk : k < L.length) (hx : x.t < L[k].t) : AddOn L x (k + 1) true ((out ++ [x]) ++ [L[k]]) :=
 ⟨by have := h.1; simp at this ⊢; omega, by
  have := h.2
  rw [if_neg (by decide), List.drop_eq_getElem_cons hk, insO_cons, if_pos hx] at this
  rw [if_pos rfl, ← this]; simp⟩
theorem addOn_past {L : List Ob} {x : Ob} {k : Nat} {out : List Ob} (h : AddOn L x k false out) (hk : k < L.length) (hx : ¬ x.t < L[k].t) : AddOn L x (k + 1) false (out ++ [L[k]]) :=
 ⟨by have := h.1; simp at this ⊢; omega, by
  have := h.2
  rw [if_neg (by decide), List.drop_eq_getElem_cons hk, insO_cons, if_neg hx] at this
  rw [if_neg (by decide), ← this]; simp⟩
theorem addOn_end {L : List Ob} {x : Ob} {k : Nat} {d : Bool} {out : List Ob} (h : AddOn L x k d out) (hk : L.length ≤ k) : out ++ (if d then [] else [x]) = insO L x := by
 have := h.2
 rw [List.drop_of_length_le hk] at this
 cases d
 ·exact this
 ·exact this
theorem wpList_append_ob {ops : Array Oper} {rest : List Oper} {o : Oper} {a : Act} {W w0 : World} {z : Nat} {Q : Exit → Act → World → Prop} (hgd : o.guard = none) (s x : Operand)
  (ho : o.op = .call { callee := .builtin .append, args := #[s, x], argTypes := #[27, 27] })
  {v : Value} {M : List Ob} {y : Ob} (hown : OwnO W.heap.size w0 v M) (hb : Below W.heap.size W w0) (hz : z = w0.heap.size) (hs : a.eval s = v)
  (hx : a.eval x = .slice (some ⟨z, 0, none⟩) 1 1) (hlen : M.length ≤ 1000000)
  (h : ∀ v' w', OwnO W.heap.size w' v' (M ++ [y]) → Below W.heap.size W w' → wpList Tryz.prog ops Q rest (a.put o.dst v') w') :
  wpList Tryz.prog ops Q (o :: rest) a (w0.alloc (.cells #[.string y.k, .string y.r] 33)) := by
 subst hz
 refine wpList_append_obs hgd s x ho hown hb.size hs hx hlen ?_
 intro v' w' h1 h2
 exact h v' w' h1 (hb.grown h2 hb.size (fun j hj => (hown.lt j hj).1))
set_option maxRecDepth 100000 in
set_option maxHeartbeats 8000000 in
theorem rAdd_any (v : Value) (L : List Ob) (x : Ob) (w : World) (h : IsObs w v L) (hL : L.length ≤ 900000) :
  Calls Tryz.prog 21 #[v, obV x] w fun e w' => ∃ v', e = .returned v' ∧ IsObs w' v' (addO L x) ∧ Below w.heap.size w w' ∧ (v' = v ∧ addO L x = L ∨ OwnO w.heap.size w' v' (addO L x)) := by
 obtain ⟨V, hV⟩ : ∃ V, V = w.alloc (.cells #[.string x.k, .string x.r] 33) := ⟨_, rfl⟩
 have hbV : Below w.heap.size w V := by rw [hV]; exact (Below.refl _ _).alloc (Nat.le_refl _) _
 have HX : Hid (ObBox V w.heap.size x) := Lib.hid (by rw [hV]; exact obBox_new w x _)
 have HI := Lib.hid (h.stays hbV)
 have HV := Lib.hid hV; have HB0 := Lib.hid hbV
 have G := Lib.hid (rGet_any v L x.k V HI.out)
 obtain ⟨_, a, cap, rfl, _, _⟩ := h
 clear hV hbV
 obtain ⟨d0, d1⟩ := HX.out.cells
 by_cases hin : (getO L x.t).isSome = true ∨ x.t.length ≠ 32
 ·have HR := Lib.hid (addO_there hin)
  rcases hg : (getO L x.t).isSome with _ | _
  ·have h32 : (((x.k.size : Nat) : Int) != 32) = true := by
    have := hin.resolve_left (by rw [hg]; decide)
    rw [Ob.t, ← Lib.size_eq] at this
    simp; omega
   rw [show getO L x.k.data.toList = getO L x.t from rfl, hg] at G
   clear hg hin
   go_enter Tryz.func21, Tryz.ntmps21
   go_wp2_with fail
   rw [← HV.out]
   go_wp2_with fail
   with_reducible refine G.out.mono ?_
   rintro e w1 ⟨rfl, hb⟩
   obtain ⟨e0, e1⟩ := (HX.out.stays hb).cells
   clear d0 d1
   go_wp2
   go_ret
   exact ⟨.slice a L.length cap, rfl, by rw [HR.out]; exact HI.out.stays hb, below_step HB0.out hb, .inl ⟨rfl, HR.out⟩⟩
  ·rw [show getO L x.k.data.toList = getO L x.t from rfl, hg] at G
   clear hg hin
   go_enter Tryz.func21, Tryz.ntmps21
   go_wp2_with fail
   rw [← HV.out]
   go_wp2_with fail
   with_reducible refine G.out.mono ?_
   rintro e w1 ⟨rfl, hb⟩
   clear d0 d1
   go_wp2
   go_ret
   exact ⟨.slice a L.length cap, rfl, by rw [HR.out]; exact HI.out.stays hb, below_step HB0.out hb, .inl ⟨rfl, HR.out⟩⟩
 ·have HR : Hid (addO L x = insO L x) := Lib.hid (if_neg hin)
  rw [not_or] at hin
  have h32 : (((x.k.size : Nat) : Int) != 32) = false := by
   have := Decidable.not_not.1 hin.2
   rw [Ob.t, ← Lib.size_eq] at this
   rw [this]; rfl
  rw [show (getO L x.k.data.toList).isSome = false by simpa [Ob.t] using hin.1] at G
  clear hin
  go_enter Tryz.func21, Tryz.ntmps21
  go_wp2_with fail
  rw [← HV.out]
  go_wp2_with fail
  with_reducible refine G.out.mono ?_
  rintro e w1 ⟨rfl, hb⟩
  have HX1 := Lib.hid (HX.out.stays hb)
  have HI1 := Lib.hid (HI.out.stays hb)
  have HB1 := Lib.hid (below_step HB0.out hb)
  clear d0 d1 hb HX HI HB0 HV
  obtain ⟨d0, d1⟩ := HX1.out.cells
  go_wp2
  obtain ⟨B, hB⟩ : ∃ B, B = w.heap.size := ⟨_, rfl⟩
  rw [← hB] at HX1 d0 d1 ⊢
  have HBE := Lib.hid hB; clear hB
  go_loopw [7, 8, 9] (fun o d i wr => ∃ (k : Nat) (db : Bool) (out : List Ob), k ≤ L.length ∧ i = .int .i64 k ∧ d = .bool db ∧ AddOn L x k db out ∧ OwnO w1.heap.size wr o out ∧ Below w1.heap.size w1 wr) (fun _ _ i _ => L.length - (intOf i).toNat)
  case atStart => exact ⟨0, false, [], Nat.zero_le _, rfl, rfl, addOn_zero _ _, obs_own_nil _ _, Below.refl _ _⟩
  case round =>
   clear d0 d1
   obtain ⟨k, db, out, hk, rfl, rfl, hA, hO, hB⟩ := hrel
   have hlen := addOn_len hA
   have hol : out.length ≤ 1000000 := by omega
   have HA := Lib.hid hA; have HO := Lib.hid hO
   have HX2 := Lib.hid (HX1.out.stays hB)
   obtain ⟨d0, d1⟩ := HX2.out.cells
   clear hA hO hlen
   by_cases hlt : k < L.length
   ·obtain ⟨_, _, _, e, _, hc⟩ := HI1.out
    cases e
    obtain ⟨b, off, rfl, hbl, g⟩ := hc (by omega)
    obtain ⟨c0, c1⟩ := (g k hlt).stays hbl hB
    have HG := Lib.hid (g k hlt)
    clear g hc
    have hbk : decide ((k : Int) < (L.length : Int)) = true := by simpa using (show (k : Int) < L.length by omega)
    cases db with
    | true =>
     have HS := Lib.hid (addOn_done HA.out hlt)
     obtain ⟨y, hy⟩ : ∃ y, y = L[k] := ⟨_, rfl⟩
     rw [← hy] at c0 c1 HG HS
     clear hy
     go_wp2_with fail
     go_quiet (fail)
     have hbq : Below wr.heap.size wr (wr.drewN nq) := below_drewN (Below.refl _ _) _
     have HO2 := Lib.hid (HO.out.stays hbq)
     have hB2 := below_step hB hbq
     obtain ⟨e0, e1⟩ := HG.out.stays hbl hB2
     clear c0 c1 d0 d1 hB
     generalize wr.drewN nq = wq at HO2 hB2 e0 e1 hbq ⊢
     go_wp2_with (at_builtin; refine wpList_append_ob rfl _ _ rfl HO2.out hB2 rfl rfl rfl hol ?_)
     intro v' w2 hown' hb2
     have HO3 := Lib.hid hown'; clear hown'
     go_wp2
     go_roundw
     case rel => exact ⟨k + 1, true, _, by omega, by go_num, rfl, HS.out, HO3.out, hb2⟩
     case measure => simp [intOf]; omega
    | false =>
     by_cases hlx : x.t < L[k].t
     ·have HS := Lib.hid (addOn_here HA.out hlt hlx)
      obtain ⟨y, hy⟩ : ∃ y, y = L[k] := ⟨_, rfl⟩
      rw [← hy] at c0 c1 HG HS hlx
      clear hy
      have l1 : Op.bytesLess y.k.toList x.k.toList = false := by rw [less_eq]; exact decide_eq_false (t_asymm hlx)
      have l2 : (y.k.toList == x.k.toList) = false := beq_false (fun e => t_irrefl _ (show x.t < x.t by
       have : y.t = x.t := by unfold Ob.t; rw [e]
       rw [this] at hlx; exact hlx))
      clear hlx
      have hol2 : (out ++ [x]).length ≤ 1000000 := by have := HA.out.1; simp at this; rw [List.length_append, List.length_singleton]; omega
      go_wp2_with fail
      go_quiet (fail)
      have hbq : Below wr.heap.size wr (wr.drewN nq) := below_drewN (Below.refl _ _) _
      have HO2 := Lib.hid (HO.out.stays hbq)
      have hB2 := below_step hB hbq
      clear c0 c1 d0 d1 hB
      generalize wr.drewN nq = wq at HO2 hB2 hbq ⊢
      obtain ⟨d0, d1⟩ := (HX1.out.stays hB2).cells
      go_wp2_with (at_builtin; refine wpList_append_ob rfl _ _ rfl HO2.out hB2 rfl rfl rfl hol ?_)
      intro v1 w2 hown1 hb1
      have HO3 := Lib.hid hown1; clear hown1
      clear d0 d1
      obtain ⟨e0, e1⟩ := HG.out.stays hbl hb1
      go_wp2_with (at_builtin; refine wpList_append_ob rfl _ _ rfl HO3.out hb1 rfl rfl rfl hol2 ?_)
      intro v' w3 hown' hb2
      have HO4 := Lib.hid hown'; clear hown'
      go_wp2
      go_roundw
      case rel => exact ⟨k + 1, true, _, by omega, by go_num, rfl, HS.out, by simpa using HO4.out, hb2⟩
      case measure => simp [intOf]; omega
     ·have HS := Lib.hid (addOn_past HA.out hlt hlx)
      obtain ⟨y, hy⟩ : ∃ y, y = L[k] := ⟨_, rfl⟩
      rw [← hy] at c0 c1 HG HS hlx
      clear hy
      have l0 : (Op.bytesLess y.k.toList x.k.toList || (y.k.toList == x.k.toList)) = true := by
       rw [less_eq]
       by_cases e : y.k = x.k
       ·rw [beq_true e, Bool.or_true]
       ·rw [decide_eq_true (Classical.byContradiction fun c => e (str_eq' (t_tri _ _ c hlx))), Bool.true_or]
      clear hlx
      go_wp2_with fail
      go_quiet (fail)
      have hbq : Below wr.heap.size wr (wr.drewN nq) := below_drewN (Below.refl _ _) _
      have HO2 := Lib.hid (HO.out.stays hbq)
      have hB2 := below_step hB hbq
      obtain ⟨e0, e1⟩ := HG.out.stays hbl hB2
      clear c0 c1 d0 d1 hB
      generalize wr.drewN nq = wq at HO2 hB2 e0 e1 hbq ⊢
      go_wp2_with (at_builtin; refine wpList_append_ob rfl _ _ rfl HO2.out hB2 rfl rfl rfl hol ?_)
      intro v' w2 hown' hb2
      have HO3 := Lib.hid hown'; clear hown'
      go_wp2
      go_roundw
      case rel => exact ⟨k + 1, false, _, by omega, by go_num, rfl, HS.out, HO3.out, hb2⟩
      case measure => simp [intOf]; omega
   ·have HE := Lib.hid (addOn_end HA.out (by omega))
    have hge : decide ((k : Int) < (L.length : Int)) = false := by simp; omega
    cases db with
    | true =>
     go_wp2
     go_ret
     exact ⟨u7, rfl, by have h := HO.out.is; rw [HR.out, ← HE.out]; simpa using h, below_step HB1.out (hB.mono (Nat.le_refl _)), .inr (by have h := HO.out.low HB1.out.size; rw [HR.out, ← HE.out]; simpa [HBE.out] using h)⟩
    | false =>
     go_wp2_with (at_builtin; refine wpList_append_ob rfl _ _ rfl HO.out hB rfl rfl rfl hol ?_)
     intro v' w2 hown' hb2
     have HO3 := Lib.hid hown'; clear hown'
     go_wp2
     go_ret
     exact ⟨v', rfl, by have h := HO3.out.is; rw [HR.out, ← HE.out]; simpa using h, below_step HB1.out hb2, .inr (by have h := HO3.out.low HB1.out.size; rw [HR.out, ← HE.out]; simpa using h)⟩
def RetOK (v : Value) (L L' : List Ob) (k : List UInt8) (w : World) (e : Ending) (w' : World) : Prop := ∃ v', e = .returned (.tuple #[v', .string ⟨k.toArray⟩]) ∧ IsObs w' v' L' ∧ Below w.heap.size w w' ∧ (v' = v ∧ L' = L ∨ OwnO w.heap.size w' v' L')
set_option maxRecDepth 100000 in
set_option maxHeartbeats 4000000 in
theorem rPut_any (v : Value) (L : List Ob) (n : Nd) (pv ev : Value) (w : World) (h : IsObs w v L) (hL : L.length ≤ 900000) (hp : IsParts w pv n.ps) (he : IsEntries w ev n.es) :
  Calls Tryz.prog 63 #[v, ndV n pv ev] w (RetOK v L (putN L n) (keyN n) w) := by
 obtain ⟨V, hV⟩ : ∃ V, V = w.alloc (.cells #[.int .i64 n.kd, .string n.d, pv, ev] 44) := ⟨_, rfl⟩
 have hbV : Below w.heap.size w V := by rw [hV]; exact (Below.refl _ _).alloc (Nat.le_refl _) _
 have HX : Hid (NdBox V w.heap.size n pv ev) := Lib.hid (by rw [hV]; exact ndBox_new w n _ _ _)
 have HI := Lib.hid (h.stays hbV); have HP := Lib.hid (hp.stays hbV); have HE := Lib.hid (he.stays hbV)
 obtain ⟨_, a0, cap0, rfl, _, _⟩ := h
 obtain ⟨_, a1, cap1, rfl, _, _⟩ := hp
 obtain ⟨_, a2, cap2, rfl, _, _⟩ := he
 obtain ⟨z1, hz1⟩ : ∃ z, z = n.ps.length := ⟨_, rfl⟩
 obtain ⟨z2, hz2⟩ : ∃ z, z = n.es.length := ⟨_, rfl⟩
 obtain ⟨z0, hz0⟩ : ∃ z, z = L.length := ⟨_, rfl⟩
 rw [← hz1] at HX HP hV ⊢; rw [← hz2] at HX HE hV ⊢; rw [← hz0] at HI hL ⊢
 have HZ := Lib.hid hz0
 clear hz0 hz1 hz2
 have HV := Lib.hid hV; have HB0 := Lib.hid hbV
 obtain ⟨K, hK⟩ : ∃ K : ByteArray, K = ⟨(keyN n).toArray⟩ := ⟨_, rfl⟩
 obtain ⟨S, hS⟩ : ∃ S : ByteArray, S = ⟨(wrN n).toArray⟩ := ⟨_, rfl⟩
 have CK := Lib.hid (rKey_any n (.slice a1 z1 cap1) (.slice a2 z2 cap2) V HP.out HE.out)
 rw [← hK] at CK
 have CW := Lib.hid (fun W (hb : Below V.heap.size V W) => rWrite_any n (.slice a1 z1 cap1) (.slice a2 z2 cap2) W (HP.out.stays hb) (HE.out.stays hb))
 rw [← hS] at CW
 have HO : Hid ((⟨K, S⟩ : Ob) = obN n) := Lib.hid (by rw [hK, hS]; rfl)
 have HK := Lib.hid hK
 clear hV hbV hK hS HP HE
 obtain ⟨d0, d1, d2, d3⟩ := HX.out.cells
 go_enter Tryz.func63, Tryz.ntmps63
 go_wp2_with fail
 rw [← HV.out]
 go_wp2_with fail
 with_reducible refine CK.out.mono ?_
 rintro e w1 ⟨rfl, hb1⟩
 have HX1 := Lib.hid (HX.out.stays hb1)
 clear d0 d1 d2 d3
 obtain ⟨d0, d1, d2, d3⟩ := HX1.out.cells
 go_wp2_with fail
 with_reducible refine (CW.out _ hb1).mono ?_
 rintro e w2 ⟨rfl, hb2⟩
 have hb3 := below_step hb1 hb2
 have CA := Lib.hid (rAdd_any (.slice a0 z0 cap0) L ⟨K, S⟩ w2 (HI.out.stays hb3) (by rw [← HZ.out]; exact hL))
 have HB3 := Lib.hid (below_step HB0.out hb3)
 clear d0 d1 d2 d3 hb1 hb2 hb3
 go_wp2_with fail
 with_reducible refine CA.out.mono ?_
 rintro e w4 ⟨v4, rfl, hs4, hb4, hv4⟩
 have HS4 := Lib.hid hs4; have HV4 := Lib.hid hv4
 obtain ⟨_, a4, cap4, rfl, _, _⟩ := hs4
 have HB4 := Lib.hid (below_step HB3.out hb4)
 have hv5 := HV4.out.imp id fun h => h.low HB3.out.size
 have HV5 := Lib.hid hv5
 clear hb4 hv4 hv5
 go_wp2
 exact bodyPost_ret (v := .tuple #[.slice a4 (addO L ⟨K, S⟩).length cap4, .string K]) (by simp [results, Tryz.results63, go_sem]) rfl ⟨_, by rw [← HK.out], by unfold putN; rw [← HO.out]; exact HS4.out, HB4.out, by unfold putN; rw [← HO.out]; exact HV5.out⟩
end Go.Proofs.YtlccihidedfemaaGreatDoor

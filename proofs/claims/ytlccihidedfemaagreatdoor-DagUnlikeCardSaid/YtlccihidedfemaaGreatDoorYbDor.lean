/-
  Contracts over this translation: the document's Clash (have two of some texts that are unlike one sum?).
-/
import Derived.Test.YtlccihidedfemaaGreatDoorQb7
import Derived.Test.YtlccihidedfemaaGreatDoorYbShr
set_option linter.unusedVariables false
namespace Go.Proofs.YtlccihidedfemaaGreatDoor
open Go.RowKit
attribute [local go_sem] Oper.semAt_some
noncomputable def clashB (T : List (List UInt8)) : Bool := @decide (Clash T) (Classical.propDecidable _)
theorem clashB_yes {T : List (List UInt8)} (h : Clash T) : clashB T = true := @decide_eq_true _ (Classical.propDecidable _) h
theorem clashB_no {T : List (List UInt8)} (h : ¬ Clash T) : clashB T = false := @decide_eq_false _ (Classical.propDecidable _) h
structure ClOn (T : List (List UInt8)) (k : Nat) (O : List Ob) : Prop where
 fit : FitO O
 from_ : ∀ y ∈ O, y.u ∈ T.take k ∧ y.t = shaSum y.u
 all : ∀ t ∈ T.take k, ∃ y ∈ O, y.u = t ∧ y.t = shaSum t
 len : O.length ≤ k
theorem clOn_zero (T : List (List UInt8)) : ClOn T 0 [] := ⟨fitO_nil, fun _ h => (by cases h), fun _ h => (by simp at h), Nat.le_refl _⟩
def sumO (t : List UInt8) : Ob := ⟨⟨(shaSum t).toArray⟩, ⟨t.toArray⟩⟩
theorem sumO_t (t : List UInt8) : (sumO t).t = shaSum t := by unfold sumO Ob.t; simp
theorem sumO_u (t : List UInt8) : (sumO t).u = t := by unfold sumO Ob.u; simp
theorem take_mem {T : List (List UInt8)} {k : Nat} (hk : k < T.length) {t : List UInt8} : t ∈ T.take (k + 1) ↔ t ∈ T.take k ∨ t = T[k] := by
 rw [List.take_succ_eq_append_getElem hk, List.mem_append, List.mem_singleton]
theorem clOn_clash {T : List (List UInt8)} {k : Nat} {O : List Ob} (h : ClOn T k O) (hk : k < T.length) {y : Ob} (hy : getO O (shaSum T[k]) = some y) (hne : y.u ≠ T[k]) : Clash T := by
 obtain ⟨h1, h2⟩ := getO_mem hy
 obtain ⟨h3, h4⟩ := h.from_ y h1
 exact ⟨y.u, List.mem_of_mem_take h3, T[k], List.getElem_mem hk, hne, by rw [← h4, h2]⟩
theorem clOn_step {T : List (List UInt8)} {k : Nat} {O : List Ob} (h : ClOn T k O) (hk : k < T.length) (hy : ∀ y, getO O (shaSum T[k]) = some y → y.u = T[k]) : ClOn T (k + 1) (addO O (sumO T[k])) := by
 refine ⟨addO_fit h.fit _, fun y hm => ?_, fun t ht => ?_, by have := (addO_len_le O (sumO T[k])).2; have := h.len; omega⟩
 ·rcases mem_addO.1 hm with h1 | ⟨rfl, _, _⟩
  ·exact ⟨(take_mem hk).2 (.inl (h.from_ y h1).1), (h.from_ y h1).2⟩
  ·rw [sumO_u, sumO_t]; exact ⟨(take_mem hk).2 (.inr rfl), rfl⟩
 ·rcases (take_mem hk).1 ht with h1 | rfl
  ·obtain ⟨y, h2, h3⟩ := h.all t h1
   exact ⟨y, mem_addO.2 (.inl h2), h3⟩
  ·cases hg : getO O (shaSum T[k]) with
   | some y => exact ⟨y, mem_addO.2 (.inl (getO_mem hg).1), hy y hg, (getO_mem hg).2⟩
   | none => exact ⟨sumO T[k], mem_addO.2 (.inr ⟨rfl, by rw [sumO_t]; exact hg, by rw [sumO_t]; exact shaSum_len _⟩), sumO_u _, sumO_t _⟩
theorem clOn_end {T : List (List UInt8)} {k : Nat} {O : List Ob} (h : ClOn T k O) (hk : T.length ≤ k) : ¬ Clash T := by
 rintro ⟨a, ha, b, hb, hne, e⟩
 rw [← List.take_of_length_le hk] at ha hb
 obtain ⟨y, hy, h1, h2⟩ := h.all a ha
 obtain ⟨z, hz, h3, h4⟩ := h.all b hb
 have := rise_one h.fit.1 hy hz (by rw [h2, h4, e])
 rw [this, h3] at h1
 exact hne h1.symm
set_option maxRecDepth 100000 in
set_option maxHeartbeats 8000000 in
theorem rClash_any (v : Value) (T : List ByteArray) (w : World) (h : IsStrs w v T) (hs : ∀ x ∈ T, x.size ≤ 60000) (hT : T.length ≤ 600000) :
  Calls Tryz.prog 26 #[v] w fun e w' => e = .returned (.bool (clashB (txts T))) ∧ Below w.heap.size w w' := by
 have HI := Lib.hid h
 have HS := Lib.hid hs
 obtain ⟨hm, a, cap, rfl, _, hc⟩ := h
 clear hc hs
 go_enter Tryz.func26, Tryz.ntmps26
 go_wp2
 go_loopw [3, 4] (fun o i wr => ∃ (k : Nat) (O : List Ob), k ≤ T.length ∧ i = .int .i64 k ∧ IsObs wr o O ∧ ClOn (txts T) k O ∧ Below w.heap.size w wr) (fun _ i _ => T.length - (intOf i).toNat)
 case atStart => exact ⟨0, [], Nat.zero_le _, rfl, obs_nil _, clOn_zero _, Below.refl _ _⟩
 case round =>
  obtain ⟨k, O, hk, rfl, hO, hC, hB⟩ := hrel
  have hol := hC.len
  have HO := Lib.hid hO; have HC := Lib.hid hC
  obtain ⟨_, ao, co, rfl, _, _⟩ := hO
  clear hC
  by_cases hlt : k < T.length
  ·obtain ⟨_, _, _, e, _, hc⟩ := HI.out
   cases e
   obtain ⟨b1, o1, rfl, hbl, g⟩ := hc (by omega)
   have q0 := g k hlt
   have q1 := (hB.cell (p := ⟨b1, o1 + k, none⟩) hbl).trans q0
   clear g hc
   have hbk : decide ((k : Int) < (T.length : Int)) = true := by simpa using (show (k : Int) < T.length by omega)
   have hkl : k < (txts T).length := by rw [txts_len]; exact hlt
   have hty := txts_get hlt
   have hsz := HS.out _ (List.getElem_mem hlt)
   have hcl := fun y => clOn_clash (y := y) HC.out hkl
   have hst := clOn_step HC.out hkl
   rw [hty] at hcl hst
   obtain ⟨y, hy⟩ : ∃ y, T[k]'hlt = y := ⟨_, rfl⟩
   rw [hy] at q0 q1 hcl hst hsz
   clear hy hty
   have CS := Lib.hid (refSum_any y (by omega) wr)
   obtain ⟨K, hK⟩ : ∃ K : ByteArray, K = ⟨(shaSum y.data.toList).toArray⟩ := ⟨_, rfl⟩
   rw [← hK] at CS
   have hKl : K.data.toList = shaSum y.data.toList := by rw [hK]
   have HX : Hid ((⟨K, y⟩ : Ob) = sumO y.data.toList) := Lib.hid (by unfold sumO; rw [hK])
   have HCL := Lib.hid hcl; have HST := Lib.hid hst; have HKL := Lib.hid hKl; have HQ := Lib.hid q0
   have hol2 : O.length ≤ 900000 := by omega
   clear hcl hst hK hKl q0
   go_wp2_with fail
   with_reducible refine CS.out.mono ?_
   rintro e w1 ⟨rfl, hb1⟩
   have hB1 := below_step hB hb1
   have HO1 := Lib.hid (HO.out.stays hb1)
   have CG := Lib.hid (rGet_any (.slice ao O.length co) O K w1 HO1.out)
   rw [HKL.out] at CG
   have q1 := (hB1.cell (p := ⟨b1, o1 + k, none⟩) hbl).trans HQ.out
   clear hb1
   cases hg : getO O (shaSum y.data.toList) with
   | none =>
    rw [hg, gotO_none hg] at CG
    have hgn : ∀ z, getO O (shaSum y.data.toList) = some z → z.u = y.data.toList := fun z hz => by rw [hg] at hz; cases hz
    have HST2 := Lib.hid (HST.out hgn)
    clear hg hgn
    go_wp2_with fail
    with_reducible refine CG.out.mono ?_
    rintro e w2 ⟨rfl, hb2⟩
    have hB2 := below_step hB1 hb2
    have CA := Lib.hid (rAdd_any (.slice ao O.length co) O ⟨K, y⟩ w2 (HO1.out.stays hb2) hol2)
    have q1 := (hB2.cell (p := ⟨b1, o1 + k, none⟩) hbl).trans HQ.out
    clear hb2
    go_wp2_with fail
    with_reducible refine CA.out.mono ?_
    rintro e w3 ⟨v3, rfl, hs3, hb3, _⟩
    have HS3 := Lib.hid hs3
    have hB3 := below_step hB2 hb3
    clear hs3 hb3
    go_wp2_with fail
    go_roundw
    case rel => exact ⟨k + 1, _, by omega, by go_num, by rw [← HX.out]; exact HS3.out, HST2.out, hB3⟩
    case measure => simp [intOf]; omega
   | some z =>
    rw [hg, gotO_some hg] at CG
    by_cases hz : z.r = y
    ·have hb0 : (z.r.toList == y.toList) = true := beq_true hz
     have hgn : ∀ u, getO O (shaSum y.data.toList) = some u → u.u = y.data.toList := fun u hu => by rw [hg] at hu; cases hu; unfold Ob.u; rw [hz]
     have HST2 := Lib.hid (HST.out hgn)
     have hre : z.r = y := hz
     clear hg hgn hz
     go_wp2_with fail
     with_reducible refine CG.out.mono ?_
     rintro e w2 ⟨rfl, hb2⟩
     have hB2 := below_step hB1 hb2
     have CA := Lib.hid (rAdd_any (.slice ao O.length co) O ⟨K, y⟩ w2 (HO1.out.stays hb2) hol2)
     have q1 := (hB2.cell (p := ⟨b1, o1 + k, none⟩) hbl).trans HQ.out
     clear hb2 hre
     go_wp2_with fail
     with_reducible refine CA.out.mono ?_
     rintro e w3 ⟨v3, rfl, hs3, hb3, _⟩
     have HS3 := Lib.hid hs3
     have hB3 := below_step hB2 hb3
     clear hs3 hb3
     go_wp2_with fail
     go_roundw
     case rel => exact ⟨k + 1, _, by omega, by go_num, by rw [← HX.out]; exact HS3.out, HST2.out, hB3⟩
     case measure => simp [intOf]; omega
    ·have hb0 : (z.r.toList == y.toList) = false := beq_false hz
     have HN := Lib.hid (clashB_yes (HCL.out z hg (fun e => hz (str_eq' e))))
     clear hg hz
     go_wp2_with fail
     with_reducible refine CG.out.mono ?_
     rintro e w2 ⟨rfl, hb2⟩
     have hB2 := below_step hB1 hb2
     have q1 := (hB2.cell (p := ⟨b1, o1 + k, none⟩) hbl).trans HQ.out
     clear hb2
     go_wp2
     go_ret
     exact ⟨by rw [HN.out]; rfl, hB2⟩
  ·have HN := Lib.hid (clashB_no (clOn_end HC.out (by rw [txts_len]; omega)))
   have hge : decide ((k : Int) < (T.length : Int)) = false := by simp; omega
   go_wp2
   go_ret
   exact ⟨by rw [HN.out]; rfl, hB⟩
end Go.Proofs.YtlccihidedfemaaGreatDoor

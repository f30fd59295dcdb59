/-
  Contracts over this translation: tree's Names; the law's same.
-/
import Derived.Test.YtelaamchafocpaaDoorQ1
set_option linter.unusedVariables false
namespace Go.Proofs.YtelaamchafocpaaDoor
open Go.RowKit
attribute [local go_sem] Oper.semAt_some

set_option maxRecDepth 100000 in
set_option maxHeartbeats 2000000 in
theorem pNames_any (v : Value) (L : List It) (s : ByteArray) (w : World) (h : IsItems w v L) (hf : fewB L = true) (hp : ∀ x ∈ L, pathB x.t = true) :
    Calls Tryd.prog 16 #[v, .string s] w (RetL (namesT L s.data.toList) w) := by
  have HI := Lib.hid h
  have HFEW := Lib.hid (few_mem hf)
  have h70 := few_len hf
  have HP := Lib.hid hp
  have CD := Lib.hid Dir_any
  have CS := Lib.hid Split_any
  obtain ⟨hm, a, cap, rfl, _, hc⟩ := h
  clear hc hf hp
  obtain ⟨t, ht⟩ : ∃ t, t = s.data.toList := ⟨_, rfl⟩
  rw [← ht]
  have HT := Lib.hid ht
  clear ht
  go_enter Tryd.func16, Tryd.ntmps16
  go_wp2
  go_loopw [5, 11] (fun o i wr => ∃ k : Nat, k ≤ L.length ∧ i = .int .i64 k ∧ OwnTxt w wr o (namesT (L.take k) t) ∧ Below w.heap.size w wr) (fun _ i _ => L.length - (intOf i).toNat)
  case atStart => exact ⟨0, Nat.zero_le _, rfl, ownTxt_nil _, Below.refl _ _⟩
  case round =>
    obtain ⟨k, hk, rfl, hown, hB⟩ := hrel
    have HO := Lib.hid hown; clear hown
    by_cases hlt : k < L.length
    · obtain ⟨_, _, _, e, _, hc⟩ := HI.out.stays hB
      cases e
      obtain ⟨b, off, rfl, hbl, g⟩ := hc (by omega)
      obtain ⟨c0, c1, c2, c3⟩ := g k hlt
      clear g hc
      have hbk : decide ((k : Int) < (L.length : Int)) = true := by simpa using (show (k : Int) < L.length by omega)
      have HST := Lib.hid (names_step' (d := t) hlt)
      have hol : (namesT (L.take k) t).length ≤ 1000000 := Nat.le_trans (namesT_len _ _) (by rw [List.length_take]; omega)
      have hxs := (HFEW.out _ (List.getElem_mem hlt)).1
      have hxp := Lib.hid (HP.out _ (List.getElem_mem hlt))
      obtain ⟨x, hx⟩ : ∃ x, x = L[k] := ⟨_, rfl⟩
      rw [← hx] at c0 c1 c2 c3 HST hxs hxp
      clear hx
      have C := Lib.hid (CD.out x.p (by omega))
      have S := Lib.hid (CS.out x.p (by omega))
      rw [show x.p.data.toList = x.t from rfl] at C S
      have HL := Lib.hid (last_at hxp.out)
      have hsz := hB.size
      go_wp2_with fail
      have HX := Lib.hid (inBox_new wr x 27)
      have hb0 := (Below.refl wr.heap.size wr).alloc (Nat.le_refl _) (.cells #[.string x.p, .bool x.d, .bool x.e, .string x.c] 27)
      have hB0 := below_step hB hb0
      have HO0 := Lib.hid (HO.out.stays hb0)
      generalize wr.alloc (.cells #[.string x.p, .bool x.d, .bool x.e, .string x.c] 27) = W1 at HX hb0 hB0 HO0 ⊢
      generalize wr.heap.size = B1 at HX ⊢
      clear hb0 HO hB hsz c0 c1 c2 c3 hbl
      refine (S.out _).mono ?_
      rintro e w2 ⟨v2, rfl, hv2, hb2⟩
      have hB2 := below_step hB0 hb2
      have HO2 := Lib.hid (HO0.out.stays hb2)
      have HX2 := Lib.hid (HX.out.stays hb2)
      clear hb2 HO0 hB0 HX
      obtain ⟨d0, d1, d2, d3⟩ := HX2.out.cells
      clear d1 d2 d3
      have HV2 := Lib.hid hv2
      obtain ⟨M, hM⟩ : ∃ M, M = strsOf (splitS x.t) := ⟨_, rfl⟩
      rw [← hM] at HL HV2 hv2
      clear hM
      obtain ⟨hm2, a2, cap2, rfl, _, hc2⟩ := hv2
      have hmm2 : M.length ≤ 9223372036854775807 := by unfold maxLen at hm2; omega
      have hpos := HL.out.1
      have hpi : decide ((0 : Int) < (M.length : Int)) = true := decide_eq_true (by omega)
      clear hc2
      by_cases hd : dirS x.t = t
      · have f1 : ((dirS x.t) == s.toList) = true := by rw [beq_iff_eq, Lib.toList_data, ← HT.out]; exact hd
        have HE : Hid (namesT (L.take (k + 1)) t = namesT (L.take k) t ++ [lastN x.t]) := show _ = _ by rw [HST.out, if_pos hd]
        clear hd HST
        go_wp2_with fail
        refine (C.out _).mono ?_
        rintro e w3 ⟨rfl, hb3⟩
        have hB3 := below_step hB2 hb3
        have HO3 := Lib.hid (HO2.out.stays hb3)
        have hv3 := HV2.out.stays hb3
        clear hb3 HO2 hB2 d0 HV2
        obtain ⟨_, _, _, e3, _, hc3⟩ := hv3
        cases e3
        obtain ⟨b2, o2, rfl, _, g2⟩ := hc3 hpos
        have q := g2 (M.length - 1) (by omega)
        have HZ := Lib.hid (HL.out.2 (by omega))
        obtain ⟨z, hz⟩ : ∃ z, z = M[M.length - 1] := ⟨_, rfl⟩
        rw [← hz] at q HZ
        clear hz g2 hc3
        rw [← HZ.out] at HE
        go_wp2_with (at_builtin; refine wpList_append_txt rfl _ _ rfl HO3.out hB3 rfl rfl hol ?_)
        intro v' w4 hown' hb4
        have HO4 := Lib.hid hown'; clear hown'
        go_wp2_with fail
        go_roundw
        case rel => exact ⟨k + 1, by omega, by go_num, by rw [HE.out]; exact HO4.out, hb4⟩
        case measure => simp [intOf]; omega
      · have f1 : ((dirS x.t) == s.toList) = false := by rw [beq_eq_false_iff_ne, Lib.toList_data, ← HT.out]; exact hd
        have HE : Hid (namesT (L.take (k + 1)) t = namesT (L.take k) t) := show _ = _ by rw [HST.out, if_neg hd, List.append_nil]
        clear hd HST
        go_wp2_with fail
        refine (C.out _).mono ?_
        rintro e w3 ⟨rfl, hb3⟩
        have hB3 := below_step hB2 hb3
        have HO3 := Lib.hid (HO2.out.stays hb3)
        clear hb3 HO2 hB2 d0 HV2
        go_wp2_with fail
        go_roundw
        case rel => exact ⟨k + 1, by omega, by go_num, by rw [HE.out]; exact HO3.out, hB3⟩
        case measure => simp [intOf]; omega
    · have HST := Lib.hid (by have := HO.out.strs; rw [List.take_of_length_le (by omega)] at this; exact this)
      go_wp2
      go_ret
      exact ⟨_, rfl, HST.out, hB⟩

set_option maxRecDepth 100000 in
set_option maxHeartbeats 1000000 in
/-- The law's same of two that are the same. -/
theorem lSame_any (v1 v2 : Value) (L : List ByteArray) (w : World) (h1 : IsStrs w v1 L) (h2 : IsStrs w v2 L) :
    Calls Tryd.prog 15 #[v1, v2] w fun e w' => e = .returned (.bool true) ∧ Below w.heap.size w w' := by
  obtain ⟨hm, a1, c1, rfl, _, hc1⟩ := h1
  obtain ⟨_, a2, c2, rfl, _, hc2⟩ := h2
  have hmm : L.length ≤ 9223372036854775807 := by unfold maxLen at hm; omega
  have H1 := Lib.hid hc1; have H2 := Lib.hid hc2
  clear hc1 hc2 hm
  go_enter Tryd.func15, Tryd.ntmps15
  go_wp2
  go_loopw [13] (fun i wr => ∃ k m : Nat, k ≤ L.length ∧ i = .int .i64 k ∧ wr = w.drewN m) (fun i _ => L.length - (intOf i).toNat)
  case atStart => exact ⟨0, 0, Nat.zero_le _, rfl, rfl⟩
  case round =>
    obtain ⟨k, m, hk, rfl, rfl⟩ := hrel
    by_cases hlt : k < L.length
    · obtain ⟨b1, o1, rfl, _, g1⟩ := H1.out (by omega)
      obtain ⟨b2, o2, rfl, _, g2⟩ := H2.out (by omega)
      have q1 := g1 k hlt
      have q2 := g2 k hlt
      clear g1 g2
      have hbk : decide ((k : Int) < (L.length : Int)) = true := by simpa using (show (k : Int) < L.length by omega)
      go_wp2_with fail
      go_quiet (fail)
      go_wp2
      go_roundw
      case rel => exact ⟨k + 1, m + nq, by omega, by go_num, by simp [World.drewN]⟩
      case measure => simp [intOf]; omega
    · go_wp2
      go_ret
      exact ⟨rfl, below_drewN (Below.refl _ _) _⟩
end Go.Proofs.YtelaamchafocpaaDoor

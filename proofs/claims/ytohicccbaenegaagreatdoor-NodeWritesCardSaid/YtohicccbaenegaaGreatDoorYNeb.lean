/-
  Contracts over this translation: slices.Equal at parts and at entries; node's Same.
-/
import Derived.Test.YtohicccbaenegaaGreatDoorYNdg
set_option linter.unusedVariables false
namespace Go.Proofs.YtohicccbaenegaaGreatDoor
open Go.RowKit
attribute [local go_sem] Oper.semAt_some

open Classical in
noncomputable def samePs (L M : List Pt) : Bool := decide (L = M)
open Classical in
noncomputable def sameEs (L M : List En) : Bool := decide (L = M)
theorem samePs_yes {L M : List Pt} (h : L = M) : samePs L M = true := by simp [samePs, h]
theorem samePs_no {L M : List Pt} (h : L ≠ M) : samePs L M = false := by simp [samePs, h]
theorem sameEs_yes {L M : List En} (h : L = M) : sameEs L M = true := by simp [sameEs, h]
theorem sameEs_no {L M : List En} (h : L ≠ M) : sameEs L M = false := by simp [sameEs, h]
set_option maxRecDepth 100000 in
set_option maxHeartbeats 2000000 in
theorem equalP_any (v1 v2 : Value) (L M : List Pt) (w : World) (h1 : IsParts w v1 L) (h2 : IsParts w v2 M) :
    Calls Tryz.prog 29 #[v1, v2] w fun e w' => e = .returned (.bool (samePs L M)) ∧ Below w.heap.size w w' := by
  obtain ⟨hm1, a1, cap1, rfl, _, hc1⟩ := h1
  obtain ⟨hm2, a2, cap2, rfl, _, hc2⟩ := h2
  have hmm1 : L.length ≤ 9223372036854775807 := by unfold maxLen at hm1; omega
  have hmm2 : M.length ≤ 9223372036854775807 := by unfold maxLen at hm2; omega
  have H1 := Lib.hid hc1; have H2 := Lib.hid hc2
  clear hc1 hm1 hc2 hm2
  have hne' : ∀ (x y : Pt) (w : World), Sem.run Tryz.prog (binOp .neq 40 (ptV x) (ptV y)) w = .ok (.bool (!eqP x y)) w := fun x y w => eqP_neq x y w
  have hgd' : ∀ (op : BinOp) (a b : Operand) (x y : Pt) (w : World), Sem.run Tryz.prog (eqGuard op 40 a b (ptV x) (ptV y)) w = .ok () w := fun op a b x y w => eqP_guard op a b x y w
  by_cases hl : L.length = M.length
  · have hll : ((L.length : Int) == (M.length : Int)) = true := beq_iff_eq.2 (by omega)
    have HL := Lib.hid hl
    clear hl
    go_enter Tryz.func29, Tryz.ntmps29
    go_wp2
    go_loopw [13] (fun i wr => ∃ k m : Nat, k ≤ L.length ∧ i = .int .i64 k ∧ L.take k = M.take k ∧ wr = w.drewN m) (fun i _ => L.length - (intOf i).toNat)
    case atStart => exact ⟨0, 0, Nat.zero_le _, rfl, rfl, rfl⟩
    case round =>
      obtain ⟨k, m, hk, rfl, he, rfl⟩ := hrel
      have HE := Lib.hid he; clear he
      by_cases hlt : k < L.length
      · have hlt2 : k < M.length := by have := HL.out; omega
        obtain ⟨b1, o1, rfl, _, g1⟩ := H1.out (by omega)
        obtain ⟨b2, o2, rfl, _, g2⟩ := H2.out (by omega)
        obtain ⟨c0, c1⟩ := g1 k hlt
        obtain ⟨d0, d1⟩ := g2 k hlt2
        clear g1 g2
        have hbk : decide ((k : Int) < (L.length : Int)) = true := by simpa using (show (k : Int) < L.length by omega)
        have hbk2 : decide ((k : Int) < (M.length : Int)) = true := by simpa using (show (k : Int) < M.length by omega)
        have HT := Lib.hid (takeP_same hlt hlt2 HE.out)
        have HG := Lib.hid (show L[k] ≠ M[k] → L ≠ M from fun h e => h (by subst e; rfl))
        obtain ⟨x, hx⟩ : ∃ x, x = L[k] := ⟨_, rfl⟩
        obtain ⟨y, hy⟩ : ∃ y, y = M[k] := ⟨_, rfl⟩
        rw [← hx] at c0 c1 HT HG
        rw [← hy] at d0 d1 HT HG
        clear hx hy
        by_cases hxy : x = y
        · have q := eqP_yes hxy
          have HT2 := Lib.hid (HT.out hxy)
          clear hxy
          go_wp2_with fail
          go_quiet (fail)
          go_wp2
          go_roundw
          case rel => exact ⟨k + 1, m + nq, by omega, by go_num, HT2.out, by simp [World.drewN]⟩
          case measure => simp [intOf]; omega
        · have q := eqP_no hxy
          have HN := Lib.hid (samePs_no (HG.out hxy))
          clear hxy
          go_wp2_with fail
          go_quiet (fail)
          go_wp2
          go_ret
          exact ⟨by rw [HN.out]; rfl, below_drewN (below_drewN (Below.refl _ _) _) _⟩
      · have hk' : k = L.length := by omega
        have HS : Hid (samePs L M = true) := samePs_yes (by have := HE.out; rwa [hk', List.take_length, HL.out, List.take_length] at this)
        clear hk'
        go_wp2
        go_ret
        exact ⟨by rw [HS.out]; rfl, below_drewN (Below.refl _ _) _⟩
  · have hll : ((L.length : Int) == (M.length : Int)) = false := beq_eq_false_iff_ne.2 (by omega)
    have HN := Lib.hid (samePs_no (show L ≠ M from fun e => hl (by rw [e])))
    clear hl
    go_enter Tryz.func29, Tryz.ntmps29
    go_wp2
    go_ret
    exact ⟨by rw [HN.out]; rfl, Below.refl _ _⟩
set_option maxRecDepth 100000 in
set_option maxHeartbeats 2000000 in
theorem equalE_any (v1 v2 : Value) (L M : List En) (w : World) (h1 : IsEntries w v1 L) (h2 : IsEntries w v2 M) :
    Calls Tryz.prog 30 #[v1, v2] w fun e w' => e = .returned (.bool (sameEs L M)) ∧ Below w.heap.size w w' := by
  obtain ⟨hm1, a1, cap1, rfl, _, hc1⟩ := h1
  obtain ⟨hm2, a2, cap2, rfl, _, hc2⟩ := h2
  have hmm1 : L.length ≤ 9223372036854775807 := by unfold maxLen at hm1; omega
  have hmm2 : M.length ≤ 9223372036854775807 := by unfold maxLen at hm2; omega
  have H1 := Lib.hid hc1; have H2 := Lib.hid hc2
  clear hc1 hm1 hc2 hm2
  have hne' : ∀ (x y : En) (w : World), Sem.run Tryz.prog (binOp .neq 43 (enV x) (enV y)) w = .ok (.bool (!eqE x y)) w := fun x y w => eqE_neq x y w
  have hgd' : ∀ (op : BinOp) (a b : Operand) (x y : En) (w : World), Sem.run Tryz.prog (eqGuard op 43 a b (enV x) (enV y)) w = .ok () w := fun op a b x y w => eqE_guard op a b x y w
  by_cases hl : L.length = M.length
  · have hll : ((L.length : Int) == (M.length : Int)) = true := beq_iff_eq.2 (by omega)
    have HL := Lib.hid hl
    clear hl
    go_enter Tryz.func30, Tryz.ntmps30
    go_wp2
    go_loopw [13] (fun i wr => ∃ k m : Nat, k ≤ L.length ∧ i = .int .i64 k ∧ L.take k = M.take k ∧ wr = w.drewN m) (fun i _ => L.length - (intOf i).toNat)
    case atStart => exact ⟨0, 0, Nat.zero_le _, rfl, rfl, rfl⟩
    case round =>
      obtain ⟨k, m, hk, rfl, he, rfl⟩ := hrel
      have HE := Lib.hid he; clear he
      by_cases hlt : k < L.length
      · have hlt2 : k < M.length := by have := HL.out; omega
        obtain ⟨b1, o1, rfl, _, g1⟩ := H1.out (by omega)
        obtain ⟨b2, o2, rfl, _, g2⟩ := H2.out (by omega)
        obtain ⟨c0, c1, c2, c3⟩ := g1 k hlt
        obtain ⟨d0, d1, d2, d3⟩ := g2 k hlt2
        clear g1 g2
        have hbk : decide ((k : Int) < (L.length : Int)) = true := by simpa using (show (k : Int) < L.length by omega)
        have hbk2 : decide ((k : Int) < (M.length : Int)) = true := by simpa using (show (k : Int) < M.length by omega)
        have HT := Lib.hid (takeE_same hlt hlt2 HE.out)
        have HG := Lib.hid (show L[k] ≠ M[k] → L ≠ M from fun h e => h (by subst e; rfl))
        obtain ⟨x, hx⟩ : ∃ x, x = L[k] := ⟨_, rfl⟩
        obtain ⟨y, hy⟩ : ∃ y, y = M[k] := ⟨_, rfl⟩
        rw [← hx] at c0 c1 c2 c3 HT HG
        rw [← hy] at d0 d1 d2 d3 HT HG
        clear hx hy
        by_cases hxy : x = y
        · have q := eqE_yes hxy
          have HT2 := Lib.hid (HT.out hxy)
          clear hxy
          go_wp2_with fail
          go_quiet (fail)
          go_wp2
          go_roundw
          case rel => exact ⟨k + 1, m + nq, by omega, by go_num, HT2.out, by simp [World.drewN]⟩
          case measure => simp [intOf]; omega
        · have q := eqE_no hxy
          have HN := Lib.hid (sameEs_no (HG.out hxy))
          clear hxy
          go_wp2_with fail
          go_quiet (fail)
          go_wp2
          go_ret
          exact ⟨by rw [HN.out]; rfl, below_drewN (below_drewN (Below.refl _ _) _) _⟩
      · have hk' : k = L.length := by omega
        have HS : Hid (sameEs L M = true) := sameEs_yes (by have := HE.out; rwa [hk', List.take_length, HL.out, List.take_length] at this)
        clear hk'
        go_wp2
        go_ret
        exact ⟨by rw [HS.out]; rfl, below_drewN (Below.refl _ _) _⟩
  · have hll : ((L.length : Int) == (M.length : Int)) = false := beq_eq_false_iff_ne.2 (by omega)
    have HN := Lib.hid (sameEs_no (show L ≠ M from fun e => hl (by rw [e])))
    clear hl
    go_enter Tryz.func30, Tryz.ntmps30
    go_wp2
    go_ret
    exact ⟨by rw [HN.out]; rfl, Below.refl _ _⟩
set_option maxRecDepth 100000 in
set_option maxHeartbeats 4000000 in
theorem pSame_any (n m : Nd) (pv ev pv2 ev2 : Value) (w : World) (hp : IsParts w pv n.ps) (he : IsEntries w ev n.es) (hp2 : IsParts w pv2 m.ps) (he2 : IsEntries w ev2 m.es) :
    Calls Tryz.prog 11 #[ndV n pv ev, ndV m pv2 ev2] w fun e w' => e = .returned (.bool (sameN n m)) ∧ Below w.heap.size w w' := by
  have HP := Lib.hid hp; have HE := Lib.hid he; have HP2 := Lib.hid hp2; have HE2 := Lib.hid he2
  obtain ⟨_, a1, cap1, hv1, _, _⟩ := hp
  obtain ⟨_, a2, cap2, hv2, _, _⟩ := he
  obtain ⟨_, a3, cap3, hv3, _, _⟩ := hp2
  obtain ⟨_, a4, cap4, hv4, _, _⟩ := he2
  subst hv1 hv2 hv3 hv4
  obtain ⟨V, hV⟩ : ∃ V, V = (w.alloc (.cells #[.int .i64 n.kd, .string n.d, .slice a1 n.ps.length cap1, .slice a2 n.es.length cap2] 25)).alloc (.cells #[.int .i64 m.kd, .string m.d, .slice a3 m.ps.length cap3, .slice a4 m.es.length cap4] 25) := ⟨_, rfl⟩
  have hbV : Below w.heap.size w V := by rw [hV]; exact ((Below.refl _ _).alloc (Nat.le_refl _) _).alloc (by simp) _
  have hbox := ndBox2 w n m (.slice a1 n.ps.length cap1) (.slice a2 n.es.length cap2) (.slice a3 m.ps.length cap3) (.slice a4 m.es.length cap4) 25
  rw [← hV] at hbox
  have QP := Lib.hid (equalP_any _ _ n.ps m.ps V (HP.out.stays hbV) (HP2.out.stays hbV))
  have QE := Lib.hid (fun W hW => equalE_any _ _ n.es m.es W ((HE.out.stays hbV).stays hW) ((HE2.out.stays hbV).stays hW))
  have HV := Lib.hid hV; have HBV := Lib.hid hbV; have HBX := Lib.hid hbox
  obtain ⟨c0, c1, c2, c3⟩ := hbox.1.cells
  obtain ⟨d0, d1, d2, d3⟩ := hbox.2.cells
  clear hbV hbox HP HE HP2 HE2 hV
  by_cases k1 : n.kd = m.kd
  · have q1 := ie_t k1
    have K1 := Lib.hid k1; clear k1
    by_cases k2 : n.d = m.d
    · have q2 := beq_true k2
      have K2 := Lib.hid k2; clear k2
      by_cases k3 : n.ps = m.ps
      · rw [samePs_yes k3] at QP
        have K3 := Lib.hid k3; clear k3
        have HF : Hid (sameN n m = sameEs n.es m.es) := Lib.hid (by
          by_cases k4 : n.es = m.es
          · rw [sameEs_yes k4, sameN_yes (nd_ext K1.out K2.out K3.out k4)]
          · rw [sameEs_no k4, sameN_no (fun e => k4 (by rw [e]))])
        go_enter Tryz.func11, Tryz.ntmps11
        go_wp2_with fail
        rw [← HV.out]
        go_wp2_with fail
        with_reducible refine QP.out.mono ?_
        rintro e w1 ⟨rfl, hb1⟩
        have hx1 := (HBX.out.1.stays hb1).cells
        have hx2 := (HBX.out.2.stays hb1).cells
        clear c0 c1 c2 c3 d0 d1 d2 d3
        obtain ⟨c0, c1, c2, c3⟩ := hx1
        obtain ⟨d0, d1, d2, d3⟩ := hx2
        go_wp2_with fail
        with_reducible refine (QE.out _ hb1).mono ?_
        rintro e w2 ⟨rfl, hb2⟩
        go_wp2
        go_ret
        exact ⟨by rw [HF.out]; rfl, below_step (below_step HBV.out hb1) hb2⟩
      · rw [samePs_no k3] at QP
        have HF := Lib.hid (sameN_no (show n ≠ m from fun e => k3 (by rw [e])))
        clear k3
        go_enter Tryz.func11, Tryz.ntmps11
        go_wp2_with fail
        rw [← HV.out]
        go_wp2_with fail
        with_reducible refine QP.out.mono ?_
        rintro e w1 ⟨rfl, hb1⟩
        go_wp2
        go_ret
        exact ⟨by rw [HF.out]; rfl, below_step HBV.out hb1⟩
    · have qk2 := beq_false k2
      have HF := Lib.hid (sameN_no (show n ≠ m from fun e => k2 (by rw [e])))
      clear k2
      go_enter Tryz.func11, Tryz.ntmps11
      go_wp2_with fail
      rw [← HV.out]
      go_wp2
      go_ret
      exact ⟨by rw [HF.out]; rfl, HBV.out⟩
  · have qk1 := ie_f k1
    have HF := Lib.hid (sameN_no (show n ≠ m from fun e => k1 (by rw [e])))
    clear k1
    go_enter Tryz.func11, Tryz.ntmps11
    go_wp2_with fail
    rw [← HV.out]
    go_wp2
    go_ret
    exact ⟨by rw [HF.out]; rfl, HBV.out⟩
end Go.Proofs.YtohicccbaenegaaGreatDoor

/-
  Contracts over this translation: the document's Order.
-/
import Derived.Test.YtkodbobjaejgjaaDoorPau
set_option linter.unusedVariables false
namespace Go.Proofs.YtkodbobjaejgjaaDoor
open Go.RowKit
attribute [local go_sem] Oper.semAt_some

set_option maxRecDepth 100000 in
set_option maxHeartbeats 4000000 in
theorem refOrder_any (a b : ByteArray) (ha : a.size ≤ 100000) (hb : b.size ≤ 100000) (w : World) :
    Calls Tryd.prog 19 #[.string a, .string b] w fun e w' => e = .returned (.int .i64 (orderS a.data.toList b.data.toList)) ∧ Below w.heap.size w w' := by
  have C1 := Lib.hid (parts_any a ha)
  have C2 := Lib.hid (parts_any b hb)
  unfold orderS
  obtain ⟨X, hX⟩ : ∃ X, X = pts a.data.toList := ⟨_, rfl⟩
  obtain ⟨Y, hY⟩ : ∃ Y, Y = pts b.data.toList := ⟨_, rfl⟩
  rw [← hX] at C1 ⊢
  rw [← hY] at C2 ⊢
  clear hX hY ha hb
  go_enter Tryd.func19, Tryd.ntmps19
  go_wp2_with fail
  refine (C1.out _).mono ?_
  rintro e w1 ⟨v1, rfl, hv1, hb1⟩
  have HV1 := Lib.hid hv1; clear hv1
  go_wp2_with fail
  refine (C2.out _).mono ?_
  rintro e w2 ⟨v2, rfl, hv2, hb2⟩
  have hB := below_step hb1 hb2
  have hv1 := HV1.out.stays hb2
  clear HV1 hb1 hb2 C1 C2
  obtain ⟨hm, a1, c1, rfl, _, hc1⟩ := hv1
  obtain ⟨hm2, a2, c2, rfl, _, hc2⟩ := hv2
  have hmm : (strsOf X).length ≤ 9223372036854775807 := by unfold maxLen at hm; omega
  have hmm2 : (strsOf Y).length ≤ 9223372036854775807 := by unfold maxLen at hm2; omega
  have HK := Lib.hid (strsOf_len X); have HL := Lib.hid (strsOf_len Y)
  have HI1 := Lib.hid (strsOf_at X); have HI2 := Lib.hid (strsOf_at Y)
  clear hm hm2
  obtain ⟨K, hK⟩ : ∃ K, K = strsOf X := ⟨_, rfl⟩
  obtain ⟨L, hL⟩ : ∃ L, L = strsOf Y := ⟨_, rfl⟩
  rw [← hK] at HK HI1 hc1 hmm ⊢
  rw [← hL] at HL HI2 hc2 hmm2 ⊢
  have H1 := Lib.hid hc1; have H2 := Lib.hid hc2
  clear hc1 hc2 hK hL
  go_wp2
  go_loopw [7] (fun i wr => ∃ k m : Nat, k ≤ K.length ∧ k ≤ L.length ∧ i = .int .i64 k ∧ wr = w2.drewN m ∧ SameTo X Y k) (fun i _ => K.length - (intOf i).toNat)
  case atStart => exact ⟨0, 0, Nat.zero_le _, Nat.zero_le _, rfl, rfl, same_zero _ _⟩
  case round =>
    obtain ⟨k, m, hk, hk2, rfl, rfl, hn⟩ := hrel
    have HN := Lib.hid hn; clear hn
    by_cases hlt : k < K.length
    · by_cases hlt2 : k < L.length
      · obtain ⟨b1, o1, rfl, _, g1⟩ := H1.out (by omega)
        have q1 := g1 k hlt
        obtain ⟨b2, o2, rfl, _, g2⟩ := H2.out (by omega)
        have q2 := g2 k hlt2
        clear g1 g2
        have hbk : decide ((k : Int) < (K.length : Int)) = true := by simpa using (show (k : Int) < K.length by omega)
        have hbk2 : decide ((k : Int) < (L.length : Int)) = true := by simpa using (show (k : Int) < L.length by omega)
        have hx := HI1.out k hlt (by rw [← HK.out]; exact hlt)
        have hy := HI2.out k hlt2 (by rw [← HL.out]; exact hlt2)
        obtain ⟨x, hxx⟩ : ∃ x, x = K[k] := ⟨_, rfl⟩
        rw [← hxx] at q1 hx
        obtain ⟨y, hyy⟩ : ∃ y, y = L[k] := ⟨_, rfl⟩
        rw [← hyy] at q2 hy
        have HX := Lib.hid hx; have HY := Lib.hid hy; clear hx hxx hy hyy
        have hxl : k < X.length := by rw [← HK.out]; exact hlt
        have hyl : k < Y.length := by rw [← HL.out]; exact hlt2
        rcases ordX_cases x.data.toList y.data.toList with ⟨h, ho⟩ | ⟨h, ho⟩ | ⟨h, ho⟩
        · have HS : Hid (cmpP X Y = -1) := by
            have := same_stop HN.out hxl hyl (by rw [← HX.out, ← HY.out, ho]; decide)
            rw [← HX.out, ← HY.out, ho] at this; exact this
          have l1 : Op.bytesLess x.toList y.toList = true := by rw [less_eq]; exact decide_eq_true h
          clear h ho hxl hyl
          go_wp2_with fail
          go_quiet (fail)
          go_wp2
          go_ret
          exact ⟨by rw [HS.out]; rfl, below_drewN (below_drewN hB _) _⟩
        · have HS : Hid (cmpP X Y = 1) := by
            have := same_stop HN.out hxl hyl (by rw [← HX.out, ← HY.out, ho]; decide)
            rw [← HX.out, ← HY.out, ho] at this; exact this
          have l1 : Op.bytesLess x.toList y.toList = false := by rw [less_eq]; exact decide_eq_false (x_asymm h)
          have l2 : (x.toList == y.toList) = false := beq_false (fun e => x_irrefl _ (e ▸ h))
          clear h ho hxl hyl
          go_wp2_with fail
          go_quiet (fail)
          go_wp2_with fail
          go_quiet (fail)
          go_wp2
          go_ret
          exact ⟨by rw [HS.out]; rfl, below_drewN (below_drewN (below_drewN hB _) _) _⟩
        · have HS := Lib.hid (same_step HN.out hxl hyl (by rw [← HX.out, ← HY.out, ho]))
          have l1 : Op.bytesLess x.toList y.toList = false := by rw [less_eq, h]; exact decide_eq_false (x_irrefl _)
          have l2 : (x.toList == y.toList) = true := beq_true (str_eq' h)
          clear h ho hxl hyl
          go_wp2_with fail
          go_quiet (fail)
          go_wp2_with fail
          have E1 := Lib.hid (World.drewN_drewN w2 m nq)
          go_quiet (fail)
          go_wp2
          go_roundw
          case rel => exact ⟨k + 1, _, by omega, by omega, by go_num, (by simp only [World.drewN]; rfl), HS.out⟩
          case measure => simp [intOf]; omega
      · have hbk : decide ((k : Int) < (K.length : Int)) = true := by simpa using (show (k : Int) < K.length by omega)
        have hkl : k = L.length := by omega
        have HS : Hid (cmpP X Y = 1) := same_longer HN.out (by rw [← HK.out]; exact hlt) (by rw [← HL.out]; omega)
        have f1 : ¬ K.length < L.length := by omega
        have f2 : L.length < K.length := by omega
        have HKL := Lib.hid hkl; clear hkl
        go_wp2
        go_ret
        exact ⟨by rw [HS.out]; rfl, below_drewN hB _⟩
    · have hkl : k = K.length := by omega
      have f0 : ¬ k < K.length := hlt
      by_cases hlt2 : K.length < L.length
      · have HS : Hid (cmpP X Y = -1) := same_shorter HN.out (by rw [← HK.out]; omega) (by rw [← HL.out]; omega)
        clear hkl
        go_wp2
        go_ret
        exact ⟨by rw [HS.out]; rfl, below_drewN hB _⟩
      · have HS : Hid (cmpP X Y = 0) := same_end HN.out (by rw [← HK.out]; omega) (by rw [← HL.out]; omega)
        have f2 : ¬ L.length < K.length := by omega
        clear hkl
        go_wp2
        go_ret
        exact ⟨by rw [HS.out]; rfl, below_drewN hB _⟩
end Go.Proofs.YtkodbobjaejgjaaDoor

/-
  Contracts over this translation: the document's fitDir and Fit.
-/
import Derived.Test.YtohicccbaenegaaGreatDoorQ0
set_option linter.unusedVariables false
namespace Go.Proofs.YtohicccbaenegaaGreatDoor
open Go.RowKit
attribute [local go_sem] Oper.semAt_some

def DirTo (L : List En) (k : Nat) : Prop := ∀ i (h : i < L.length), i < k → okEn L[i] = true ∧ (0 < i → (L[i - 1]'(by omega)).m.data.toList < L[i].m.data.toList)
theorem dirTo_zero (L : List En) : DirTo L 0 := fun i _ h => absurd h (by omega)
theorem dirTo_step {L : List En} {k : Nat} (h : DirTo L k) (hk : k < L.length) (h1 : okEn L[k] = true) (hr : 0 < k → (L[k - 1]'(by omega)).m.data.toList < L[k].m.data.toList) : DirTo L (k + 1) := fun i hi hik => by
  by_cases e : i = k
  · subst e; exact ⟨h1, hr⟩
  · exact h i hi (by omega)
theorem fitDir_all {L : List En} {k : Nat} (h : DirTo L k) (hk : L.length ≤ k) : fitDirB L = true := fitDir_iff.2 ⟨fun p hp => by
  obtain ⟨i, hi, rfl⟩ := List.mem_iff_getElem.1 hp
  exact (h i hi (by omega)).1, fun i hi h0 => (h i hi (by omega)).2 h0⟩
theorem fitDir_no {L : List En} {k : Nat} (hk : k < L.length) (hx : okEn L[k] = false) : fitDirB L = false := by
  rcases h : fitDirB L with _ | _
  · rfl
  · have := (fitDir_iff.1 h).1 _ (List.getElem_mem hk); rw [hx] at this; cases this
theorem fitDir_norise {L : List En} {k : Nat} (hk : k < L.length) (h0 : 0 < k) (hr : ¬ (L[k - 1]'(by omega)).m.data.toList < L[k].m.data.toList) : fitDirB L = false := by
  rcases h : fitDirB L with _ | _
  · rfl
  · exact absurd ((fitDir_iff.1 h).2 k hk h0) hr
theorem okEn_no1 {x : En} (h : nameB x.m.data.toList = false) : okEn x = false := by unfold okEn; rw [h]; rfl
theorem okEn_no2 {x : En} (h : x.k.size ≠ 32) : okEn x = false := by unfold okEn; rw [decide_eq_false h]; simp
theorem okEn_no3 {x : En} (h2 : x.kd ≠ 2) (h3 : x.kd ≠ 3) : okEn x = false := by unfold okEn; rw [decide_eq_false h2, decide_eq_false h3]; simp
theorem okEn_no4 {x : En} (h2 : x.kd ≠ 2) (h : x.x = true) : okEn x = false := by unfold okEn; rw [decide_eq_false h2, h]; simp
set_option maxRecDepth 100000 in
set_option maxHeartbeats 8000000 in
theorem rfitDir_any (v : Value) (L : List En) (w : World) (h : IsEntries w v L) :
    Calls Tryz.prog 28 #[v] w fun e w' => e = .returned (.bool (fitDirB L)) ∧ Below w.heap.size w w' := by
  have HI := Lib.hid h
  obtain ⟨hm, a, cap, rfl, _, hc⟩ := h
  have hmm : L.length ≤ 9223372036854775807 := by unfold maxLen at hm; omega
  clear hc hm
  have RN := Lib.hid refName_any
  go_enter Tryz.func28, Tryz.ntmps28
  go_wp2
  go_loopw [3] (fun i wr => ∃ k : Nat, k ≤ L.length ∧ i = .int .i64 k ∧ DirTo L k ∧ Below w.heap.size w wr) (fun i _ => L.length - (intOf i).toNat)
  case atStart => exact ⟨0, Nat.zero_le _, rfl, dirTo_zero _, Below.refl _ _⟩
  case round =>
    obtain ⟨k, hk, rfl, hn, hB⟩ := hrel
    have HN := Lib.hid hn; clear hn
    have hsz := hB.size
    by_cases hlt : k < L.length
    · obtain ⟨_, _, _, e, _, hc⟩ := HI.out.stays hB
      cases e
      obtain ⟨b, off, rfl, hbl, g⟩ := hc (by omega)
      have g1 := g k hlt
      obtain ⟨c0, c1, c2, c3⟩ := g1
      have hbk : decide ((k : Int) < (L.length : Int)) = true := by simpa using (show (k : Int) < L.length by omega)
      have HST := Lib.hid (dirTo_step HN.out hlt)
      have HNO := Lib.hid (fitDir_no hlt)
      have HNR := Lib.hid (fitDir_norise hlt)
      by_cases h0 : k = 0
      · subst h0
        simp only [Nat.zero_mul, Nat.add_zero] at c0 c1 c2 c3
        clear g HNR
        obtain ⟨x, hx0⟩ : ∃ x, x = L[0] := ⟨_, rfl⟩
        rw [← hx0] at c0 c1 c2 c3 HST HNO
        clear hx0
        have R1 := Lib.hid (RN.out x.m)
        rcases hnm : nameB x.m.data.toList with _ | _
        · rw [hnm] at R1
          have HS := Lib.hid (HNO.out (okEn_no1 hnm))
          clear hnm
          go_wp2_with fail
          go_quiet ((go_at_call 48; exact Calls.quiet_of_same ((R1.out _).mono fun e w' h => ⟨h.1, h.2.symm⟩)))
          go_wp2
          go_ret
          exact ⟨by rw [HS.out]; rfl, below_drewN (hB.alloc hsz _) _⟩
        · rw [hnm] at R1
          have HNM := Lib.hid hnm; clear hnm
          by_cases k2 : x.kd = 2
          · have q2 := in_f k2
            have K2 := Lib.hid k2; clear k2
            rcases hx : x.x with _ | _
            · rw [hx] at c2
              have CL : True := trivial; clear hx
              by_cases h32 : x.k.size = 32
              · have q5 := in_f (show (x.k.size : Int) = 32 by omega)
                have HS := Lib.hid (HST.out (okEn_iff.2 ⟨HNM.out, h32, .inl K2.out⟩) (fun h => absurd h (by omega)))
                clear h32 CL
                go_wp2_with fail
                go_quiet ((go_at_call 48; exact Calls.quiet_of_same ((R1.out _).mono fun e w' h => ⟨h.1, h.2.symm⟩)))
                go_wp2
                go_roundw
                case rel => exact ⟨1, by omega, by go_num, HS.out, below_drewN (hB.alloc hsz _) _⟩
                case measure => simp [intOf]; omega
              · have q5 := in_t (show (x.k.size : Int) ≠ 32 by omega)
                have HS := Lib.hid (HNO.out (okEn_no2 h32))
                clear h32 CL
                go_wp2_with fail
                go_quiet ((go_at_call 48; exact Calls.quiet_of_same ((R1.out _).mono fun e w' h => ⟨h.1, h.2.symm⟩)))
                go_wp2
                go_ret
                exact ⟨by rw [HS.out]; rfl, below_drewN (hB.alloc hsz _) _⟩
            · rw [hx] at c2
              have CL : True := trivial; clear hx
              by_cases h32 : x.k.size = 32
              · have q5 := in_f (show (x.k.size : Int) = 32 by omega)
                have HS := Lib.hid (HST.out (okEn_iff.2 ⟨HNM.out, h32, .inl K2.out⟩) (fun h => absurd h (by omega)))
                clear h32 CL
                go_wp2_with fail
                go_quiet ((go_at_call 48; exact Calls.quiet_of_same ((R1.out _).mono fun e w' h => ⟨h.1, h.2.symm⟩)))
                go_wp2
                go_roundw
                case rel => exact ⟨1, by omega, by go_num, HS.out, below_drewN (hB.alloc hsz _) _⟩
                case measure => simp [intOf]; omega
              · have q5 := in_t (show (x.k.size : Int) ≠ 32 by omega)
                have HS := Lib.hid (HNO.out (okEn_no2 h32))
                clear h32 CL
                go_wp2_with fail
                go_quiet ((go_at_call 48; exact Calls.quiet_of_same ((R1.out _).mono fun e w' h => ⟨h.1, h.2.symm⟩)))
                go_wp2
                go_ret
                exact ⟨by rw [HS.out]; rfl, below_drewN (hB.alloc hsz _) _⟩
          · have q2 := in_t k2
            by_cases k3 : x.kd = 3
            · have q3 := in_f k3
              have K3 := Lib.hid k3; clear k3
              rcases hx : x.x with _ | _
              · rw [hx] at c2
                have HX := Lib.hid hx; clear hx k2
                have CL : True := trivial
                by_cases h32 : x.k.size = 32
                · have q5 := in_f (show (x.k.size : Int) = 32 by omega)
                  have HS := Lib.hid (HST.out (okEn_iff.2 ⟨HNM.out, h32, .inr ⟨K3.out, HX.out⟩⟩) (fun h => absurd h (by omega)))
                  clear h32 CL
                  go_wp2_with fail
                  go_quiet ((go_at_call 48; exact Calls.quiet_of_same ((R1.out _).mono fun e w' h => ⟨h.1, h.2.symm⟩)))
                  go_wp2
                  go_roundw
                  case rel => exact ⟨1, by omega, by go_num, HS.out, below_drewN (hB.alloc hsz _) _⟩
                  case measure => simp [intOf]; omega
                · have q5 := in_t (show (x.k.size : Int) ≠ 32 by omega)
                  have HS := Lib.hid (HNO.out (okEn_no2 h32))
                  clear h32 CL
                  go_wp2_with fail
                  go_quiet ((go_at_call 48; exact Calls.quiet_of_same ((R1.out _).mono fun e w' h => ⟨h.1, h.2.symm⟩)))
                  go_wp2
                  go_ret
                  exact ⟨by rw [HS.out]; rfl, below_drewN (hB.alloc hsz _) _⟩
              · rw [hx] at c2
                have HS := Lib.hid (HNO.out (okEn_no4 k2 hx)); clear hx k2
                go_wp2_with fail
                go_quiet ((go_at_call 48; exact Calls.quiet_of_same ((R1.out _).mono fun e w' h => ⟨h.1, h.2.symm⟩)))
                go_wp2
                go_ret
                exact ⟨by rw [HS.out]; rfl, below_drewN (hB.alloc hsz _) _⟩
            · have q3 := in_t k3
              have HS := Lib.hid (HNO.out (okEn_no3 k2 k3)); clear k2 k3
              go_wp2_with fail
              go_quiet ((go_at_call 48; exact Calls.quiet_of_same ((R1.out _).mono fun e w' h => ⟨h.1, h.2.symm⟩)))
              go_wp2
              go_ret
              exact ⟨by rw [HS.out]; rfl, below_drewN (hB.alloc hsz _) _⟩
      · obtain ⟨j, rfl⟩ : ∃ j, k = j + 1 := ⟨k - 1, by omega⟩
        have p0 := (g j (by omega)).1
        obtain ⟨z, hz⟩ : ∃ z, z = L[j] := ⟨_, rfl⟩
        have HZ : Hid (L[j + 1 - 1] = z) := show _ = _ from hz.symm
        rw [← hz] at p0
        clear g hz h0
        have hk0 : decide ((0 : Int) < ((j + 1 : Nat) : Int)) = true := by simp
        obtain ⟨x, hx0⟩ : ∃ x, x = L[j + 1] := ⟨_, rfl⟩
        rw [← hx0] at c0 c1 c2 c3 HST HNO HNR
        clear hx0
        have R1 := Lib.hid (RN.out x.m)
        rcases hnm : nameB x.m.data.toList with _ | _
        · rw [hnm] at R1
          have HS := Lib.hid (HNO.out (okEn_no1 hnm))
          clear hnm
          go_wp2_with fail
          go_quiet ((go_at_call 48; exact Calls.quiet_of_same ((R1.out _).mono fun e w' h => ⟨h.1, h.2.symm⟩)))
          go_wp2
          go_ret
          exact ⟨by rw [HS.out]; rfl, below_drewN (hB.alloc hsz _) _⟩
        · rw [hnm] at R1
          have HNM := Lib.hid hnm; clear hnm
          by_cases hr : z.m.data.toList < x.m.data.toList
          · have hrb : Op.bytesLess z.m.toList x.m.toList = true := by rw [less_eq]; exact decide_eq_true hr
            have HR := Lib.hid hr; clear hr
            by_cases k2 : x.kd = 2
            · have q2 := in_f k2
              have K2 := Lib.hid k2; clear k2
              rcases hx : x.x with _ | _
              · rw [hx] at c2
                have CL : True := trivial; clear hx
                by_cases h32 : x.k.size = 32
                · have q5 := in_f (show (x.k.size : Int) = 32 by omega)
                  have HS := Lib.hid (HST.out (okEn_iff.2 ⟨HNM.out, h32, .inl K2.out⟩) (fun _ => by rw [HZ.out]; exact HR.out))
                  clear h32 CL
                  go_wp2_with fail
                  go_quiet ((go_at_call 48; exact Calls.quiet_of_same ((R1.out _).mono fun e w' h => ⟨h.1, h.2.symm⟩)))
                  go_wp2
                  go_roundw
                  case rel => exact ⟨j + 2, by omega, by go_num, HS.out, below_drewN (hB.alloc hsz _) _⟩
                  case measure => simp [intOf]; omega
                · have q5 := in_t (show (x.k.size : Int) ≠ 32 by omega)
                  have HS := Lib.hid (HNO.out (okEn_no2 h32))
                  clear h32 CL
                  go_wp2_with fail
                  go_quiet ((go_at_call 48; exact Calls.quiet_of_same ((R1.out _).mono fun e w' h => ⟨h.1, h.2.symm⟩)))
                  go_wp2
                  go_ret
                  exact ⟨by rw [HS.out]; rfl, below_drewN (hB.alloc hsz _) _⟩
              · rw [hx] at c2
                have CL : True := trivial; clear hx
                by_cases h32 : x.k.size = 32
                · have q5 := in_f (show (x.k.size : Int) = 32 by omega)
                  have HS := Lib.hid (HST.out (okEn_iff.2 ⟨HNM.out, h32, .inl K2.out⟩) (fun _ => by rw [HZ.out]; exact HR.out))
                  clear h32 CL
                  go_wp2_with fail
                  go_quiet ((go_at_call 48; exact Calls.quiet_of_same ((R1.out _).mono fun e w' h => ⟨h.1, h.2.symm⟩)))
                  go_wp2
                  go_roundw
                  case rel => exact ⟨j + 2, by omega, by go_num, HS.out, below_drewN (hB.alloc hsz _) _⟩
                  case measure => simp [intOf]; omega
                · have q5 := in_t (show (x.k.size : Int) ≠ 32 by omega)
                  have HS := Lib.hid (HNO.out (okEn_no2 h32))
                  clear h32 CL
                  go_wp2_with fail
                  go_quiet ((go_at_call 48; exact Calls.quiet_of_same ((R1.out _).mono fun e w' h => ⟨h.1, h.2.symm⟩)))
                  go_wp2
                  go_ret
                  exact ⟨by rw [HS.out]; rfl, below_drewN (hB.alloc hsz _) _⟩
            · have q2 := in_t k2
              by_cases k3 : x.kd = 3
              · have q3 := in_f k3
                have K3 := Lib.hid k3; clear k3
                rcases hx : x.x with _ | _
                · rw [hx] at c2
                  have HX := Lib.hid hx; clear hx k2
                  have CL : True := trivial
                  by_cases h32 : x.k.size = 32
                  · have q5 := in_f (show (x.k.size : Int) = 32 by omega)
                    have HS := Lib.hid (HST.out (okEn_iff.2 ⟨HNM.out, h32, .inr ⟨K3.out, HX.out⟩⟩) (fun _ => by rw [HZ.out]; exact HR.out))
                    clear h32 CL
                    go_wp2_with fail
                    go_quiet ((go_at_call 48; exact Calls.quiet_of_same ((R1.out _).mono fun e w' h => ⟨h.1, h.2.symm⟩)))
                    go_wp2
                    go_roundw
                    case rel => exact ⟨j + 2, by omega, by go_num, HS.out, below_drewN (hB.alloc hsz _) _⟩
                    case measure => simp [intOf]; omega
                  · have q5 := in_t (show (x.k.size : Int) ≠ 32 by omega)
                    have HS := Lib.hid (HNO.out (okEn_no2 h32))
                    clear h32 CL
                    go_wp2_with fail
                    go_quiet ((go_at_call 48; exact Calls.quiet_of_same ((R1.out _).mono fun e w' h => ⟨h.1, h.2.symm⟩)))
                    go_wp2
                    go_ret
                    exact ⟨by rw [HS.out]; rfl, below_drewN (hB.alloc hsz _) _⟩
                · rw [hx] at c2
                  have HS := Lib.hid (HNO.out (okEn_no4 k2 hx)); clear hx k2
                  go_wp2_with fail
                  go_quiet ((go_at_call 48; exact Calls.quiet_of_same ((R1.out _).mono fun e w' h => ⟨h.1, h.2.symm⟩)))
                  go_wp2
                  go_ret
                  exact ⟨by rw [HS.out]; rfl, below_drewN (hB.alloc hsz _) _⟩
              · have q3 := in_t k3
                have HS := Lib.hid (HNO.out (okEn_no3 k2 k3)); clear k2 k3
                go_wp2_with fail
                go_quiet ((go_at_call 48; exact Calls.quiet_of_same ((R1.out _).mono fun e w' h => ⟨h.1, h.2.symm⟩)))
                go_wp2
                go_ret
                exact ⟨by rw [HS.out]; rfl, below_drewN (hB.alloc hsz _) _⟩
          · have hrb : Op.bytesLess z.m.toList x.m.toList = false := by rw [less_eq]; exact decide_eq_false hr
            have HS := Lib.hid (HNR.out (by omega) (by rw [HZ.out]; exact hr))
            clear hr
            go_wp2_with fail
            go_quiet ((go_at_call 48; exact Calls.quiet_of_same ((R1.out _).mono fun e w' h => ⟨h.1, h.2.symm⟩)))
            go_wp2
            go_ret
            exact ⟨by rw [HS.out]; rfl, below_drewN (hB.alloc hsz _) _⟩
    · have HS := Lib.hid (fitDir_all HN.out (by omega))
      go_wp2
      go_ret
      exact ⟨by rw [HS.out]; rfl, hB⟩
end Go.Proofs.YtohicccbaenegaaGreatDoor

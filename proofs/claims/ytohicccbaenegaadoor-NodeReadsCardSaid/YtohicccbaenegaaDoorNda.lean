/-
  Contracts over this translation: the document's fitFile, fitDir, Fit.
-/
import Derived.Test.YtohicccbaenegaaDoorNds
import Derived.Test.YtohicccbaenegaaDoorPar
import Derived.Test.YtohicccbaenegaaDoorRan
set_option linter.unusedVariables false
namespace Go.Proofs.YtohicccbaenegaaDoor
open Go.RowKit
attribute [local go_sem] Oper.semAt_some

theorem ie_t {a b : Int} (h : a = b) : (a == b) = true := beq_iff_eq.2 h
theorem ie_f {a b : Int} (h : a ≠ b) : (a == b) = false := beq_eq_false_iff_ne.2 h
theorem in_t {a b : Int} (h : a ≠ b) : (a != b) = true := bne_iff_ne.2 h
theorem in_f {a b : Int} (h : a = b) : (a != b) = false := by rw [h]; simp
theorem all_okPt_step {L : List Pt} {k : Nat} (hk : k < L.length) (h : (L.take k).all okPt = true) (hx : okPt L[k] = true) : (L.take (k + 1)).all okPt = true := by
  rw [List.take_succ_eq_append_getElem hk, List.all_append, h]; simpa using hx
theorem sumPt_step {L : List Pt} {k : Nat} (hk : k < L.length) : sumPt (L.take (k + 1)) = sumPt (L.take k) + L[k].n := by
  rw [List.take_succ_eq_append_getElem hk, sumPt_app]; simp [sumPt]
theorem sumPt_bd : ∀ {L : List Pt}, L.all okPt = true → 0 ≤ sumPt L ∧ sumPt L ≤ 4096 * L.length
  | [], _ => by simp [sumPt]
  | p :: L, h => by
    rw [List.all_cons, Bool.and_eq_true] at h
    have h1 := okPt_iff.1 h.1; have h2 := sumPt_bd h.2
    rw [sumPt, List.length_cons]; push_cast; omega
theorem fitFile_no {L : List Pt} {k : Nat} (hk : k < L.length) (hx : okPt L[k] = false) : fitFileB L = false := by
  unfold fitFileB
  rw [Bool.and_eq_false_iff]; left
  rw [List.all_eq_false]
  exact ⟨L[k], List.getElem_mem _, by rw [hx]; decide⟩
theorem okPt_no1 {x : Pt} (h : x.k.size ≠ 32) : okPt x = false := by unfold okPt; rw [decide_eq_false h]; rfl
theorem okPt_no2 {x : Pt} (h : x.n < 1) : okPt x = false := by unfold okPt; rw [decide_eq_false (by omega : ¬ 1 ≤ x.n)]; simp
theorem okPt_no3 {x : Pt} (h : 4096 < x.n) : okPt x = false := by unfold okPt; rw [decide_eq_false (by omega : ¬ x.n ≤ 4096)]; simp

set_option maxRecDepth 100000 in
set_option maxHeartbeats 2000000 in
theorem rfitFile_any (v : Value) (L : List Pt) (w : World) (h : IsParts w v L) (hl : L.length ≤ 1000000) :
    Calls Tryd.prog 33 #[v] w fun e w' => e = .returned (.bool (fitFileB L)) ∧ w = w' := by
  obtain ⟨hm, a, cap, rfl, _, hc⟩ := h
  have hmm : L.length ≤ 9223372036854775807 := by unfold maxLen at hm; omega
  have H := Lib.hid hc
  clear hc hm
  go_enter Tryd.func33, Tryd.ntmps33
  go_wp2
  go_loop [3, 4] (fun n i => ∃ k : Nat, k ≤ L.length ∧ i = .int .i64 k ∧ n = .int .i64 (sumPt (L.take k)) ∧ (L.take k).all okPt = true) (fun _ i => L.length - (intOf i).toNat)
  case atStart => exact ⟨0, Nat.zero_le _, rfl, rfl, rfl⟩
  case round =>
    obtain ⟨k, hk, rfl, rfl, hall⟩ := hrel
    have HA := Lib.hid hall; clear hall
    by_cases hlt : k < L.length
    · obtain ⟨b, off, rfl, _, g⟩ := H.out (by omega)
      have g1 := g k hlt
      clear g
      obtain ⟨c0, c1⟩ := g1
      have hbk : decide ((k : Int) < (L.length : Int)) = true := by simpa using (show (k : Int) < L.length by omega)
      have HST := Lib.hid (all_okPt_step hlt HA.out)
      have HNO := Lib.hid (fitFile_no hlt)
      have HSU := Lib.hid (sumPt_step hlt)
      have hbd := sumPt_bd HA.out
      rw [List.length_take] at hbd
      obtain ⟨x, hx⟩ : ∃ x, x = L[k] := ⟨_, rfl⟩
      rw [← hx] at c0 c1 HST HNO HSU
      clear hx
      by_cases h1 : x.k.size = 32
      · have q1 := in_f (show (x.k.size : Int) = 32 by omega)
        by_cases h2 : x.n < 1
        · have q2 : decide (x.n < 1) = true := decide_eq_true h2
          have HS := Lib.hid (HNO.out (okPt_no2 h2))
          clear h1 h2
          go_wp2
          go_ret
          exact ⟨by rw [HS.out]; rfl, rfl⟩
        · have q2 : decide (x.n < 1) = false := decide_eq_false h2
          by_cases h3 : 4096 < x.n
          · have q3 : decide (4096 < x.n) = true := decide_eq_true h3
            have HS := Lib.hid (HNO.out (okPt_no3 h3))
            clear h1 h2 h3
            go_wp2
            go_ret
            exact ⟨by rw [HS.out]; rfl, rfl⟩
          · have q3 : decide (4096 < x.n) = false := decide_eq_false h3
            have HS := Lib.hid (HST.out (okPt_iff.2 ⟨h1, by omega, by omega⟩))
            have hb2 : -1000000000000 ≤ sumPt (L.take k) + x.n ∧ sumPt (L.take k) + x.n ≤ 1000000000000 := by omega
            clear h1
            go_wp2
            go_round
            case rel => exact ⟨k + 1, by omega, by go_num, by rw [HSU.out], HS.out⟩
            case measure => simp [intOf]; omega
      · have q1 := in_t (show (x.k.size : Int) ≠ 32 by omega)
        have HS := Lib.hid (HNO.out (okPt_no1 h1))
        clear h1
        go_wp2
        go_ret
        exact ⟨by rw [HS.out]; rfl, rfl⟩
    · have HS : Hid (fitFileB L = decide (sumPt (L.take k) ≤ 32768)) := show _ = _ by
        have := HA.out
        rw [List.take_of_length_le (by omega)] at this ⊢
        unfold fitFileB; rw [this]; rfl
      go_wp2
      go_ret
      exact ⟨by rw [HS.out]; rfl, rfl⟩
end Go.Proofs.YtohicccbaenegaaDoor

/-
  Contracts over this translation: the laws' few.
-/
import Derived.Test.YtohicccbaenegaaGreatDoorYNdd
set_option linter.unusedVariables false
namespace Go.Proofs.YtohicccbaenegaaGreatDoor
open Go.RowKit
attribute [local go_sem] Oper.semAt_some

def smallP (x : Pt) : Bool := decide (x.k.size ≤ 100)
def smallE (x : En) : Bool := decide (x.k.size ≤ 100) && decide (x.m.size ≤ 100)
def fewN (n : Nd) : Bool := decide (n.d.size ≤ 5000) && decide (n.ps.length ≤ 100) && decide (n.es.length ≤ 70) && n.ps.all smallP && n.es.all smallE
theorem few_n {n : Nd} (h : fewN n = true) : n.d.size ≤ 5000 ∧ n.ps.length ≤ 100 ∧ n.es.length ≤ 70 ∧ (∀ p ∈ n.ps, p.k.size ≤ 100) ∧ ∀ e ∈ n.es, e.k.size ≤ 100 ∧ e.m.size ≤ 100 := by
  unfold fewN at h
  simp only [Bool.and_eq_true, decide_eq_true_eq] at h
  obtain ⟨⟨⟨⟨h1, h2⟩, h3⟩, h4⟩, h5⟩ := h
  refine ⟨h1, h2, h3, fun p hp => of_decide_eq_true (List.all_eq_true.1 h4 p hp), fun e he => ?_⟩
  have := List.all_eq_true.1 h5 e he
  unfold smallE at this
  simp only [Bool.and_eq_true, decide_eq_true_eq] at this
  exact this
theorem allP_step {L : List Pt} {k : Nat} (hk : k < L.length) (h : (L.take k).all smallP = true) (hx : smallP L[k] = true) : (L.take (k + 1)).all smallP = true := by
  rw [List.take_succ_eq_append_getElem hk, List.all_append, h]; simpa using hx
theorem allE_step {L : List En} {k : Nat} (hk : k < L.length) (h : (L.take k).all smallE = true) (hx : smallE L[k] = true) : (L.take (k + 1)).all smallE = true := by
  rw [List.take_succ_eq_append_getElem hk, List.all_append, h]; simpa using hx
theorem fewN_noP {n : Nd} {k : Nat} (hk : k < n.ps.length) (hx : smallP n.ps[k] = false) : fewN n = false := by
  have : n.ps.all smallP = false := List.all_eq_false.2 ⟨n.ps[k], List.getElem_mem _, by rw [hx]; decide⟩
  unfold fewN; rw [this]; simp
theorem fewN_noE {n : Nd} {k : Nat} (hk : k < n.es.length) (hx : smallE n.es[k] = false) : fewN n = false := by
  have : n.es.all smallE = false := List.all_eq_false.2 ⟨n.es[k], List.getElem_mem _, by rw [hx]; decide⟩
  unfold fewN; rw [this]; simp
set_option maxRecDepth 100000 in
set_option maxHeartbeats 2000000 in
theorem few_any (n : Nd) (pv ev : Value) (w : World) (hp : IsParts w pv n.ps) (he : IsEntries w ev n.es) :
    Calls Tryz.prog 7 #[ndV n pv ev] w fun e w' => e = .returned (.bool (fewN n)) ∧ Below w.heap.size w w' := by
  have HP := Lib.hid hp; have HE := Lib.hid he
  obtain ⟨_, a1, cap1, hv1, _, _⟩ := hp
  obtain ⟨_, a2, cap2, hv2, _, _⟩ := he
  subst hv1 hv2
  obtain ⟨V, hV⟩ : ∃ V, V = w.alloc (.cells #[.int .i64 n.kd, .string n.d, .slice a1 n.ps.length cap1, .slice a2 n.es.length cap2] 25) := ⟨_, rfl⟩
  have hbV : Below w.heap.size w V := by rw [hV]; exact (Below.refl _ _).alloc (Nat.le_refl _) _
  have hX : NdBox V w.heap.size n (.slice a1 n.ps.length cap1) (.slice a2 n.es.length cap2) := by rw [hV]; exact ndBox_new w n _ _ _
  obtain ⟨c0, c1, c2, c3⟩ := hX.cells
  have HV := Lib.hid hV; have HBV := Lib.hid hbV; have HX := Lib.hid hX
  clear hV hbV hX
  by_cases k1 : 5000 < n.d.size
  · have q1 : decide ((5000 : Int) < (n.d.size : Int)) = true := decide_eq_true (by omega)
    have HF : Hid (fewN n = false) := Lib.hid (by unfold fewN; rw [decide_eq_false (by omega : ¬ n.d.size ≤ 5000)]; rfl)
    clear k1
    go_enter Tryz.func7, Tryz.ntmps7
    go_wp2
    go_ret
    exact ⟨by rw [HF.out]; rfl, (Below.refl _ _).alloc (Nat.le_refl _) _⟩
  · have q1 : decide ((5000 : Int) < (n.d.size : Int)) = false := decide_eq_false (by omega)
    by_cases k2 : 100 < n.ps.length
    · have q2 : decide ((100 : Int) < (n.ps.length : Int)) = true := decide_eq_true (by omega)
      have HF : Hid (fewN n = false) := Lib.hid (by unfold fewN; rw [decide_eq_false (by omega : ¬ n.ps.length ≤ 100)]; simp)
      clear k1 k2
      go_enter Tryz.func7, Tryz.ntmps7
      go_wp2
      go_ret
      exact ⟨by rw [HF.out]; rfl, (Below.refl _ _).alloc (Nat.le_refl _) _⟩
    · have q2 : decide ((100 : Int) < (n.ps.length : Int)) = false := decide_eq_false (by omega)
      by_cases k3 : 70 < n.es.length
      · have q3 : decide ((70 : Int) < (n.es.length : Int)) = true := decide_eq_true (by omega)
        have HF : Hid (fewN n = false) := Lib.hid (by unfold fewN; rw [decide_eq_false (by omega : ¬ n.es.length ≤ 70)]; simp)
        clear k1 k2 k3
        go_enter Tryz.func7, Tryz.ntmps7
        go_wp2
        go_ret
        exact ⟨by rw [HF.out]; rfl, (Below.refl _ _).alloc (Nat.le_refl _) _⟩
      · have q3 : decide ((70 : Int) < (n.es.length : Int)) = false := decide_eq_false (by omega)
        have HK : Hid (n.ps.all smallP = true → n.es.all smallE = true → fewN n = true) := Lib.hid (fun h1 h2 => by
          unfold fewN; rw [decide_eq_true (by omega : n.d.size ≤ 5000), decide_eq_true (by omega : n.ps.length ≤ 100), decide_eq_true (by omega : n.es.length ≤ 70), h1, h2]; rfl)
        have l1 : n.ps.length ≤ 100 := by omega
        have l2 : n.es.length ≤ 70 := by omega
        clear k1 k2 k3
        go_enter Tryz.func7, Tryz.ntmps7
        go_wp2_with fail
        rw [← HV.out]
        go_wp2
        go_loopw [26] (fun i wr => ∃ k : Nat, k ≤ n.ps.length ∧ i = .int .i64 k ∧ (n.ps.take k).all smallP = true ∧ Below w.heap.size w wr ∧ NdBox wr w.heap.size n (.slice a1 n.ps.length cap1) (.slice a2 n.es.length cap2)) (fun i _ => n.ps.length - (intOf i).toNat)
        case atStart => exact ⟨0, Nat.zero_le _, rfl, rfl, HBV.out, HX.out⟩
        case round =>
          clear c0 c1 c2 c3
          obtain ⟨k, hk, rfl, hn, hB, hX⟩ := hrel
          have HN := Lib.hid hn; have HXR := Lib.hid hX; have HB := Lib.hid hB
          obtain ⟨c0, c1, c2, c3⟩ := hX.cells
          have hsz := hB.size
          by_cases hlt : k < n.ps.length
          · obtain ⟨_, _, _, e, _, hc⟩ := HP.out.stays hB
            cases e
            obtain ⟨b, off, rfl, hbl, g⟩ := hc (by omega)
            obtain ⟨u0, u1⟩ := g k hlt
            clear g hc hn hX hB
            have hbk : decide ((k : Int) < (n.ps.length : Int)) = true := by simpa using (show (k : Int) < n.ps.length by omega)
            have HST := Lib.hid (allP_step hlt HN.out)
            have HNO := Lib.hid (fewN_noP hlt)
            obtain ⟨x, hx⟩ : ∃ x, x = n.ps[k] := ⟨_, rfl⟩
            rw [← hx] at u0 u1 HST HNO
            clear hx
            have hba := (Below.refl wr.heap.size wr).alloc (Nat.le_refl _) (.cells #[.string x.k, .int .i64 x.n] 40)
            by_cases h1 : x.k.size ≤ 100
            · have e1 : decide ((100 : Int) < (x.k.size : Int)) = false := decide_eq_false (by omega)
              have HS := Lib.hid (HST.out (decide_eq_true h1))
              clear h1
              go_wp2
              go_roundw
              case rel => exact ⟨k + 1, by omega, by go_num, HS.out, below_step HB.out hba, HXR.out.stays hba⟩
              case measure => simp [intOf]; omega
            · have e1 : decide ((100 : Int) < (x.k.size : Int)) = true := decide_eq_true (by omega)
              have HS := Lib.hid (HNO.out (decide_eq_false h1))
              clear h1
              go_wp2
              go_ret
              exact ⟨by rw [HS.out]; rfl, below_step HB.out hba⟩
          · have HAP := Lib.hid (show n.ps.all smallP = true from by have := HN.out; rwa [List.take_of_length_le (by omega)] at this)
            clear hn hX hB
            go_wp2
            go_loopw [38] (fun i wx => ∃ k : Nat, k ≤ n.es.length ∧ i = .int .i64 k ∧ (n.es.take k).all smallE = true ∧ Below w.heap.size w wx ∧ NdBox wx w.heap.size n (.slice a1 n.ps.length cap1) (.slice a2 n.es.length cap2)) (fun i _ => n.es.length - (intOf i).toNat)
            case atStart => exact ⟨0, Nat.zero_le _, rfl, rfl, HB.out, HXR.out⟩
            case round =>
              clear c0 c1 c2 c3 HB HXR
              obtain ⟨k, hk, rfl, hn, hB, hX⟩ := hrel
              have HN := Lib.hid hn; have HXR := Lib.hid hX; have HB := Lib.hid hB
              obtain ⟨c0, c1, c2, c3⟩ := hX.cells
              have hsz := hB.size
              by_cases hlt : k < n.es.length
              · obtain ⟨_, _, _, e, _, hc⟩ := HE.out.stays hB
                cases e
                obtain ⟨b, off, rfl, hbl, g⟩ := hc (by omega)
                obtain ⟨u0, u1, u2, u3⟩ := g k hlt
                clear g hc hn hX hB
                have hbk : decide ((k : Int) < (n.es.length : Int)) = true := by simpa using (show (k : Int) < n.es.length by omega)
                have HST := Lib.hid (allE_step hlt HN.out)
                have HNO := Lib.hid (fewN_noE hlt)
                obtain ⟨x, hx⟩ : ∃ x, x = n.es[k] := ⟨_, rfl⟩
                rw [← hx] at u0 u1 u2 u3 HST HNO
                clear hx
                have hba := (Below.refl wr.heap.size wr).alloc (Nat.le_refl _) (.cells #[.string x.m, .int .i64 x.kd, .bool x.x, .string x.k] 43)
                by_cases h1 : x.k.size ≤ 100
                · have e1 : decide ((100 : Int) < (x.k.size : Int)) = false := decide_eq_false (by omega)
                  by_cases h2 : x.m.size ≤ 100
                  · have e2 : decide ((100 : Int) < (x.m.size : Int)) = false := decide_eq_false (by omega)
                    have HS := Lib.hid (HST.out (by unfold smallE; rw [decide_eq_true h1, decide_eq_true h2]; rfl))
                    clear h1 h2
                    go_wp2
                    go_roundw
                    case rel => exact ⟨k + 1, by omega, by go_num, HS.out, below_step HB.out hba, HXR.out.stays hba⟩
                    case measure => simp [intOf]; omega
                  · have e2 : decide ((100 : Int) < (x.m.size : Int)) = true := decide_eq_true (by omega)
                    have HS := Lib.hid (HNO.out (by unfold smallE; rw [decide_eq_false h2]; simp))
                    clear h1 h2
                    go_wp2
                    go_ret
                    exact ⟨by rw [HS.out]; rfl, below_step HB.out hba⟩
                · have e1 : decide ((100 : Int) < (x.k.size : Int)) = true := decide_eq_true (by omega)
                  have HS := Lib.hid (HNO.out (by unfold smallE; rw [decide_eq_false h1]; rfl))
                  clear h1
                  go_wp2
                  go_ret
                  exact ⟨by rw [HS.out]; rfl, below_step HB.out hba⟩
              · have HF := Lib.hid (HK.out HAP.out (by have := HN.out; rwa [List.take_of_length_le (by omega)] at this))
                clear hn hX hB
                go_wp2
                go_ret
                exact ⟨by rw [HF.out]; rfl, HB.out⟩
end Go.Proofs.YtohicccbaenegaaGreatDoor

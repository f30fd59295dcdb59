/-
  DagLists as a walk over this translation.
-/
import Derived.Test.YtlccihidedfemaaGreatDoorQa7
set_option linter.unusedVariables false
namespace Go.Proofs.YtlccihidedfemaaGreatDoor
open Go.RowKit
attribute [local go_sem] Oper.semAt_some
set_option maxRecDepth 100000 in
set_option maxHeartbeats 40000000 in
theorem DagLists_w (v : Value) (L : List Ob) (v2 : Value) (M : List Ob) (x : Ob) (w0 : World) (hv : IsObs w0 v L) (hv2 : IsObs w0 v2 M) (hT : Tabs w0) :
    Calls Tryz.prog 4 #[v, v2, obV x] w0 fun e w' => e = .returned (.bool true) ∧ Below w0.heap.size w0 w' := by
  obtain ⟨V, hV⟩ : ∃ V, V = w0.alloc (.cells #[.string x.k, .string x.r] 33) := ⟨_, rfl⟩
  have HH : Hid (OneX w0 x V) := Lib.hid (by rw [hV]; exact oneX_new w0 x hT)
  have HV := Lib.hid hV
  have HI := Lib.hid hv; have HJ := Lib.hid hv2
  obtain ⟨hm, a, cap, rfl, _, _⟩ := hv
  obtain ⟨hm2, a2, cap2, rfl, _, _⟩ := hv2
  have AW : Hid (∀ W, OneX w0 x W → _) := Lib.hid fun W h => awake_any W h.2.2
  have S1 : Hid (∀ W, OneX w0 x W → _) := Lib.hid fun W h => smallO_any (.slice a L.length cap) L W (HI.out.stays h.2.1)
  have S2 : Hid (∀ W, OneX w0 x W → _) := Lib.hid fun W h => smallO_any (.slice a2 M.length cap2) M W (HJ.out.stays h.2.1)
  have S3 : Hid (∀ W, OneX w0 x W → _) := Lib.hid fun W h => small_one W x
  have FT : Hid (∀ W, OneX w0 x W → _) := Lib.hid fun W h => rFitO_any (.slice a L.length cap) L W (HI.out.stays h.2.1)
  have FP : Hid (∀ W, OneX w0 x W → _) := Lib.hid fun W h => pFitO_any (.slice a L.length cap) L W (HI.out.stays h.2.1)
  have SP : Hid (∀ W, OneX w0 x W → _) := Lib.hid fun W h => pSameO_any (.slice a L.length cap) (.slice a2 M.length cap2) L M W (HI.out.stays h.2.1) (HJ.out.stays h.2.1)
  have SR : Hid (∀ W, OneX w0 x W → _) := Lib.hid fun W h => rSameO_any (.slice a L.length cap) (.slice a2 M.length cap2) L M W (HI.out.stays h.2.1) (HJ.out.stays h.2.1)
  have SS : Hid (∀ W, OneX w0 x W → _) := Lib.hid fun W h => pSameO_any (.slice a L.length cap) (.slice a L.length cap) L L W (HI.out.stays h.2.1) (HI.out.stays h.2.1)
  rw [sameO_yes rfl] at SS
  obtain ⟨c0, c1⟩ := HH.out.cells
  obtain ⟨sm, hsm⟩ : ∃ s, s = sameO L M := ⟨_, rfl⟩
  rw [← hsm] at SP SR
  have hs0 : (sm == sm) = true := by simp
  have hs9 : (sm != sm) = false := by simp
  clear hV hT hm hm2 hsm
  rcases hs1 : smallOB L with _ | _
  · rw [hs1] at S1
    go_enter Tryz.func4, Tryz.ntmps4
    go_wp2_with fail
    rw [← HV.out]
    go_wp2_with fail
    with_reducible refine (S1.out _ HH.out).mono ?_
    rintro e w1 ⟨rfl, hb⟩
    replace HH := Lib.hid (HH.out.on hb)
    clear hb c0 c1
    obtain ⟨c0, c1⟩ := HH.out.cells
    go_wp2_with fail
    with_reducible refine (AW.out _ HH.out).mono ?_
    rintro e w9 ⟨rfl, hb⟩
    go_wp2
    go_ret
    exact ⟨rfl, below_step HH.out.2.1 hb⟩
  · rw [hs1] at S1
    rcases hs2 : smallOB M with _ | _
    · rw [hs2] at S2
      go_enter Tryz.func4, Tryz.ntmps4
      go_wp2_with fail
      rw [← HV.out]
      go_wp2_with fail
      with_reducible refine (S1.out _ HH.out).mono ?_
      rintro e w1 ⟨rfl, hb⟩
      replace HH := Lib.hid (HH.out.on hb)
      clear hb c0 c1
      obtain ⟨c0, c1⟩ := HH.out.cells
      go_wp2_with fail
      with_reducible refine (S2.out _ HH.out).mono ?_
      rintro e w1 ⟨rfl, hb⟩
      replace HH := Lib.hid (HH.out.on hb)
      clear hb c0 c1
      obtain ⟨c0, c1⟩ := HH.out.cells
      go_wp2_with fail
      with_reducible refine (AW.out _ HH.out).mono ?_
      rintro e w9 ⟨rfl, hb⟩
      go_wp2
      go_ret
      exact ⟨rfl, below_step HH.out.2.1 hb⟩
    · rw [hs2] at S2
      rcases hs3 : smallOB [x] with _ | _
      · rw [hs3] at S3
        go_enter Tryz.func4, Tryz.ntmps4
        go_wp2_with fail
        rw [← HV.out]
        go_wp2_with fail
        with_reducible refine (S1.out _ HH.out).mono ?_
        rintro e w1 ⟨rfl, hb⟩
        replace HH := Lib.hid (HH.out.on hb)
        clear hb c0 c1
        obtain ⟨c0, c1⟩ := HH.out.cells
        go_wp2_with fail
        with_reducible refine (S2.out _ HH.out).mono ?_
        rintro e w1 ⟨rfl, hb⟩
        replace HH := Lib.hid (HH.out.on hb)
        clear hb c0 c1
        obtain ⟨c0, c1⟩ := HH.out.cells
        go_wp2_with fail
        with_reducible refine (S3.out _ HH.out).mono ?_
        rintro e w1 ⟨rfl, hb⟩
        replace HH := Lib.hid (HH.out.on hb)
        clear hb c0 c1
        obtain ⟨c0, c1⟩ := HH.out.cells
        go_wp2_with fail
        with_reducible refine (AW.out _ HH.out).mono ?_
        rintro e w9 ⟨rfl, hb⟩
        go_wp2
        go_ret
        exact ⟨rfl, below_step HH.out.2.1 hb⟩
      · rw [hs3] at S3
        rcases hft : fitO L with _ | _
        · rw [hft] at FT FP
          go_enter Tryz.func4, Tryz.ntmps4
          go_wp2_with fail
          rw [← HV.out]
          go_wp2_with fail
          with_reducible refine (S1.out _ HH.out).mono ?_
          rintro e w1 ⟨rfl, hb⟩
          replace HH := Lib.hid (HH.out.on hb)
          clear hb c0 c1
          obtain ⟨c0, c1⟩ := HH.out.cells
          go_wp2_with fail
          with_reducible refine (S2.out _ HH.out).mono ?_
          rintro e w1 ⟨rfl, hb⟩
          replace HH := Lib.hid (HH.out.on hb)
          clear hb c0 c1
          obtain ⟨c0, c1⟩ := HH.out.cells
          go_wp2_with fail
          with_reducible refine (S3.out _ HH.out).mono ?_
          rintro e w1 ⟨rfl, hb⟩
          replace HH := Lib.hid (HH.out.on hb)
          clear hb c0 c1
          obtain ⟨c0, c1⟩ := HH.out.cells
          go_wp2_with fail
          with_reducible refine (FP.out _ HH.out).mono ?_
          rintro e w1 ⟨rfl, hb⟩
          replace HH := Lib.hid (HH.out.on hb)
          clear hb c0 c1
          obtain ⟨c0, c1⟩ := HH.out.cells
          go_wp2_with fail
          with_reducible refine (FT.out _ HH.out).mono ?_
          rintro e w1 ⟨rfl, hb⟩
          replace HH := Lib.hid (HH.out.on hb)
          clear hb c0 c1
          obtain ⟨c0, c1⟩ := HH.out.cells
          go_wp2_with fail
          with_reducible refine (SP.out _ HH.out).mono ?_
          rintro e w1 ⟨rfl, hb⟩
          replace HH := Lib.hid (HH.out.on hb)
          clear hb c0 c1
          obtain ⟨c0, c1⟩ := HH.out.cells
          go_wp2_with fail
          with_reducible refine (SR.out _ HH.out).mono ?_
          rintro e w1 ⟨rfl, hb⟩
          replace HH := Lib.hid (HH.out.on hb)
          clear hb c0 c1
          obtain ⟨c0, c1⟩ := HH.out.cells
          go_wp2_with fail
          with_reducible refine (SS.out _ HH.out).mono ?_
          rintro e w1 ⟨rfl, hb⟩
          replace HH := Lib.hid (HH.out.on hb)
          clear hb c0 c1
          obtain ⟨c0, c1⟩ := HH.out.cells
          go_wp2_with fail
          with_reducible refine (FT.out _ HH.out).mono ?_
          rintro e w1 ⟨rfl, hb⟩
          replace HH := Lib.hid (HH.out.on hb)
          clear hb c0 c1
          obtain ⟨c0, c1⟩ := HH.out.cells
          go_wp2_with fail
          with_reducible refine (AW.out _ HH.out).mono ?_
          rintro e w9 ⟨rfl, hb⟩
          go_wp2
          go_ret
          exact ⟨rfl, below_step HH.out.2.1 hb⟩
        · rw [hft] at FT FP
          have F := fitO_iff.1 hft
          have hl3 := smallO_len hs1
          have CA : Hid (∀ W, OneX w0 x W → Calls Tryz.prog 20 #[(.slice a L.length cap), obV x] W (AddsO (addO L x) W)) := Lib.hid fun W h => pAddO_any (.slice a L.length cap) L x W (HI.out.stays h.2.1) F.1 (by omega)
          have CB := Lib.hid fun W (h : OneX w0 x W) => rAdd_any (.slice a L.length cap) L x W (HI.out.stays h.2.1) (by omega)
          have CP : Hid (∀ W, OneX w0 x W → _) := Lib.hid fun W h => pGet_any (.slice a L.length cap) L x.k W (HI.out.stays h.2.1) F.1 (by omega)
          have CR : Hid (∀ W, OneX w0 x W → _) := Lib.hid fun W h => rGet_any (.slice a L.length cap) L x.k W (HI.out.stays h.2.1)
          have FF := fitO_yes (addO_fit F x)
          obtain ⟨N, hN⟩ : ∃ N, N = addO L x := ⟨_, rfl⟩
          rw [← hN] at CA CB FF
          have FN : Hid (∀ (v : Value) W, OneX w0 x W ∧ IsObs W v N → Calls Tryz.prog 14 #[v] W fun e w' => e = .returned (.bool true) ∧ Below W.heap.size W w') := Lib.hid fun v W h => by have := rFitO_any v N W h.2; rwa [FF] at this
          have SN : Hid (∀ (v v' : Value) W, OneX w0 x W → IsObs W v N → IsObs W v' N → Calls Tryz.prog 13 #[v, v'] W fun e w' => e = .returned (.bool true) ∧ Below W.heap.size W w') := Lib.hid fun v v' W _ h h' => by have := rSameO_any v v' N N W h h'; rwa [sameO_yes rfl] at this
          obtain ⟨g, hg⟩ : ∃ g, g = gotO L x.k.data.toList := ⟨_, rfl⟩
          obtain ⟨is, his⟩ : ∃ b, b = (getO L x.k.data.toList).isSome := ⟨_, rfl⟩
          rw [← hg, ← his] at CP CR
          have hgg : (g.toList == g.toList) = true := by simp
          have hii : (is == is) = true := by simp
          clear hN F hs1 hs2 hs3 hft hl3 FF hg his
          go_enter Tryz.func4, Tryz.ntmps4
          go_wp2_with fail
          rw [← HV.out]
          go_wp2_with fail
          with_reducible refine (S1.out _ HH.out).mono ?_
          rintro e w1 ⟨rfl, hb⟩
          replace HH := Lib.hid (HH.out.on hb)
          clear hb c0 c1
          obtain ⟨c0, c1⟩ := HH.out.cells
          go_wp2_with fail
          with_reducible refine (S2.out _ HH.out).mono ?_
          rintro e w1 ⟨rfl, hb⟩
          replace HH := Lib.hid (HH.out.on hb)
          clear hb c0 c1
          obtain ⟨c0, c1⟩ := HH.out.cells
          go_wp2_with fail
          with_reducible refine (S3.out _ HH.out).mono ?_
          rintro e w1 ⟨rfl, hb⟩
          replace HH := Lib.hid (HH.out.on hb)
          clear hb c0 c1
          obtain ⟨c0, c1⟩ := HH.out.cells
          go_wp2_with fail
          with_reducible refine (FP.out _ HH.out).mono ?_
          rintro e w1 ⟨rfl, hb⟩
          replace HH := Lib.hid (HH.out.on hb)
          clear hb c0 c1
          obtain ⟨c0, c1⟩ := HH.out.cells
          go_wp2_with fail
          with_reducible refine (FT.out _ HH.out).mono ?_
          rintro e w1 ⟨rfl, hb⟩
          replace HH := Lib.hid (HH.out.on hb)
          clear hb c0 c1
          obtain ⟨c0, c1⟩ := HH.out.cells
          go_wp2_with fail
          with_reducible refine (SP.out _ HH.out).mono ?_
          rintro e w1 ⟨rfl, hb⟩
          replace HH := Lib.hid (HH.out.on hb)
          clear hb c0 c1
          obtain ⟨c0, c1⟩ := HH.out.cells
          go_wp2_with fail
          with_reducible refine (SR.out _ HH.out).mono ?_
          rintro e w1 ⟨rfl, hb⟩
          replace HH := Lib.hid (HH.out.on hb)
          clear hb c0 c1
          obtain ⟨c0, c1⟩ := HH.out.cells
          go_wp2_with fail
          with_reducible refine (SS.out _ HH.out).mono ?_
          rintro e w1 ⟨rfl, hb⟩
          replace HH := Lib.hid (HH.out.on hb)
          clear hb c0 c1
          obtain ⟨c0, c1⟩ := HH.out.cells
          go_wp2_with fail
          with_reducible refine (FT.out _ HH.out).mono ?_
          rintro e w1 ⟨rfl, hb⟩
          replace HH := Lib.hid (HH.out.on hb)
          clear hb c0 c1
          obtain ⟨c0, c1⟩ := HH.out.cells
          go_wp2_with fail
          with_reducible refine (CP.out _ HH.out).mono ?_
          rintro e w1 ⟨rfl, hb⟩
          replace HH := Lib.hid (HH.out.on hb)
          clear hb c0 c1
          obtain ⟨c0, c1⟩ := HH.out.cells
          go_wp2_with fail
          with_reducible refine (CR.out _ HH.out).mono ?_
          rintro e w1 ⟨rfl, hb⟩
          replace HH := Lib.hid (HH.out.on hb)
          clear hb c0 c1
          obtain ⟨c0, c1⟩ := HH.out.cells
          go_wp2_with fail
          with_reducible refine (CA.out _ HH.out).mono ?_
          rintro e w4 ⟨vm, rfl, hm, hb⟩
          replace HH := Lib.hid (HH.out.on hb)
          have HM := Lib.hid hm.is
          obtain ⟨_, am, cm, rfl, _, _⟩ := HM.out
          clear hb hm c0 c1
          obtain ⟨c0, c1⟩ := HH.out.cells
          go_wp2_with fail
          with_reducible refine (CB.out _ HH.out).mono ?_
          rintro e w5 ⟨vn, rfl, hn, hb, _⟩
          replace HH := Lib.hid (HH.out.on hb)
          replace HM := Lib.hid (HM.out.stays hb)
          have HN := Lib.hid hn
          clear hb hn c0 c1
          obtain ⟨c0, c1⟩ := HH.out.cells
          go_wp2_with fail
          with_reducible refine (SN.out _ _ _ HH.out HM.out HN.out).mono ?_
          rintro e w6 ⟨rfl, hb⟩
          replace HH := Lib.hid (HH.out.on hb)
          replace HM := Lib.hid (HM.out.stays hb)
          clear hb c0 c1
          obtain ⟨c0, c1⟩ := HH.out.cells
          go_wp2_with fail
          with_reducible refine (FN.out _ _ ⟨HH.out, HM.out⟩).mono ?_
          rintro e w7 ⟨rfl, hb⟩
          replace HH := Lib.hid (HH.out.on hb)
          clear hb c0 c1
          go_wp2_with fail
          with_reducible refine (AW.out _ HH.out).mono ?_
          rintro e w9 ⟨rfl, hb⟩
          go_wp2
          go_ret
          exact ⟨rfl, below_step HH.out.2.1 hb⟩
end Go.Proofs.YtlccihidedfemaaGreatDoor

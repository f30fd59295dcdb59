/-
  NodeReads as a walk over this translation.
-/
import Derived.Test.YtohicccbaenegaaDoorNdf
import Derived.Test.YtohicccbaenegaaDoorNdg
import Derived.Test.YtohicccbaenegaaDoorNdv
set_option linter.unusedVariables false
namespace Go.Proofs.YtohicccbaenegaaDoor
open Go.RowKit
attribute [local go_sem] Oper.semAt_some

set_option maxRecDepth 100000 in
set_option maxHeartbeats 2000000 in
theorem NodeReads_w (s : ByteArray) (hs : s.size ≤ maxLen) (w : World) (hT : ErrT w) :
    Calls Tryd.prog 3 #[.string s] w fun e w' => e = .returned (.bool true) ∧ Below w.heap.size w w' := by
  unfold maxLen at hs
  have AW := Lib.hid awake_any
  by_cases h5 : 5000 < s.size
  · have q : decide ((5000 : Int) < (s.size : Int)) = true := decide_eq_true (by omega)
    clear h5
    go_enter Tryd.func3, Tryd.ntmps3
    go_wp2_with fail
    with_reducible refine (AW.out _ hT).mono ?_
    rintro e w1 ⟨rfl, hb⟩
    go_wp2
    go_ret
    exact ⟨rfl, hb⟩
  · have q : decide ((5000 : Int) < (s.size : Int)) = false := decide_eq_false (by omega)
    have PR := Lib.hid (pRead_any s (by omega) w hT)
    have RR := Lib.hid (fun w => rRead_any s (by omega) w)
    have HT := Lib.hid hT
    clear h5 hT
    go_enter Tryd.func3, Tryd.ntmps3
    go_wp2_with fail
    with_reducible refine PR.out.mono ?_
    rintro e w1 ⟨n, err, hR1, pv, ev, rfl, hp, he, hb1⟩
    have HR1 := Lib.hid hR1; have HP := Lib.hid hp; have HE := Lib.hid he
    obtain ⟨_, a1, c1, hv1, _, _⟩ := hp
    obtain ⟨_, a2, c2, hv2, _, _⟩ := he
    obtain ⟨z1, hz1⟩ : ∃ z, z = n.ps.length := ⟨_, rfl⟩
    obtain ⟨z2, hz2⟩ : ∃ z, z = n.es.length := ⟨_, rfl⟩
    rw [← hz1] at hv1; rw [← hz2] at hv2
    clear hz1 hz2 hR1
    subst hv1 hv2
    go_wp2_with fail
    have hb2 := (Below.refl w1.heap.size w1).alloc (Nat.le_refl _) (.cells #[.int .i64 n.kd, .string n.d, .slice a1 z1 c1, .slice a2 z2 c2] 26)
    have HX := Lib.hid (ndBox_new w1 n (.slice a1 z1 c1) (.slice a2 z2 c2) 26)
    have HB2 := Lib.hid (below_step hb1 hb2)
    have HP2 := Lib.hid (HP.out.stays hb2); have HE2 := Lib.hid (HE.out.stays hb2)
    clear hb1 hb2
    with_reducible refine (RR.out _).mono ?_
    rintro e w3 ⟨m, err2, hR3, pv2, ev2, rfl, hp2, he2, hb3⟩
    obtain ⟨rfl, rfl⟩ := rdOk_same HR1.out hR3
    have HX3 := Lib.hid (HX.out.stays hb3)
    have HB3 := Lib.hid (below_step HB2.out hb3)
    have HP3 := Lib.hid (HP2.out.stays hb3); have HE3 := Lib.hid (HE2.out.stays hb3)
    have HQ := Lib.hid hp2; have HR := Lib.hid he2
    obtain ⟨_, a3, c3, hv1, _, _⟩ := hp2
    obtain ⟨_, a4, c4, hv2, _, _⟩ := he2
    obtain ⟨z3, hz1⟩ : ∃ z, z = n.ps.length := ⟨_, rfl⟩
    obtain ⟨z4, hz2⟩ : ∃ z, z = n.es.length := ⟨_, rfl⟩
    rw [← hz1] at hv1; rw [← hz2] at hv2
    clear hz1 hz2 hR3
    subst hv1 hv2
    obtain ⟨x0, x1, x2, x3⟩ := HX3.out.cells
    have hlx := HX3.out.2
    clear hb3
    have qe : (err == err) = true := beq_self_eq_true _
    go_wp2_with fail
    obtain ⟨V, hV⟩ : ∃ V, V = w3.alloc (.cells #[.int .i64 n.kd, .string n.d, .slice a3 z3 c3, .slice a4 z4 c4] 26) := ⟨_, rfl⟩
    have hbV : Below w3.heap.size w3 V := by rw [hV]; exact (Below.refl _ _).alloc (Nat.le_refl _) _
    have SA := Lib.hid (rSame_any n n (.slice a1 z1 c1) (.slice a2 z2 c2) (.slice a3 z3 c3) (.slice a4 z4 c4) V (HP3.out.stays hbV) (HE3.out.stays hbV) (HQ.out.stays hbV) (HR.out.stays hbV))
    rw [sameN_yes rfl] at SA
    have HBV := Lib.hid (below_step HB3.out hbV)
    rw [← hV]
    clear hV hbV
    refine SA.out.mono ?_
    rintro e w5 ⟨rfl, hb5⟩
    have HB5 := Lib.hid (below_step HBV.out hb5)
    clear hb5 x0 x1 x2 x3
    go_wp2_with fail
    with_reducible refine (AW.out _ (HT.out.stays HB5.out)).mono ?_
    rintro e w6 ⟨rfl, hb6⟩
    go_wp2
    go_ret
    exact ⟨rfl, below_step HB5.out hb6⟩
end Go.Proofs.YtohicccbaenegaaDoor

/-
  Contracts over this translation: the document's Write, of any node.
-/
import Derived.Test.YtohicccbaenegaaGreatDoorYNdd
set_option linter.unusedVariables false
namespace Go.Proofs.YtohicccbaenegaaGreatDoor
open Go.RowKit
attribute [local go_sem] Oper.semAt_some

theorem rWriteF_any (n : Nd) (pv ev : Value) (w : World) (hp : IsParts w pv n.ps) (he : IsEntries w ev n.es) (hf : fitN n = true) :
    Calls Tryz.prog 14 #[ndV n pv ev] w fun e w' => e = .returned (.string ⟨(wrN n).toArray⟩) ∧ Below w.heap.size w w' := by
  rw [wrN_fit hf]
  obtain ⟨kd, d, ps, es⟩ := n
  rcases fit_kinds hf with h | h | h <;> simp only at h <;> subst h
  · obtain ⟨_, _, h3, h4⟩ := fit1 rfl hf
    simp only at h3 h4; subst h3 h4
    exact rWrite1 d pv ev w hp he hf
  · obtain ⟨h1, h2, _, _⟩ := fit2 rfl hf
    simp only at h1 h2; subst h1 h2
    exact rWrite2 ps pv ev w hp he hf
  · obtain ⟨h1, h2, _, _⟩ := fit3 rfl hf
    simp only at h1 h2; subst h1 h2
    exact rWrite3 es pv ev w hp he hf
set_option maxRecDepth 100000 in
set_option maxHeartbeats 1000000 in
theorem rWrite_any (n : Nd) (pv ev : Value) (w : World) (hp : IsParts w pv n.ps) (he : IsEntries w ev n.es) :
    Calls Tryz.prog 14 #[ndV n pv ev] w fun e w' => e = .returned (.string ⟨(wrN n).toArray⟩) ∧ Below w.heap.size w w' := by
  rcases hf : fitN n with _ | _
  · have HN := Lib.hid (wrN_un hf)
    obtain ⟨_, a1, cap1, hv1, _, _⟩ := id hp
    obtain ⟨_, a2, cap2, hv2, _, _⟩ := id he
    subst hv1 hv2
    have hb0 := (Below.refl w.heap.size w).alloc (Nat.le_refl _) (.cells #[.int .i64 n.kd, .string n.d, .slice a1 n.ps.length cap1, .slice a2 n.es.length cap2] 25)
    have RF := Lib.hid (rFit_any n _ _ _ (hp.stays hb0) (he.stays hb0))
    rw [hf] at RF
    clear hf hp he
    go_enter Tryz.func14, Tryz.ntmps14
    go_wp2_with fail
    refine RF.out.mono ?_
    rintro e w1 ⟨rfl, hb1⟩
    go_wp2
    go_ret
    exact ⟨by rw [HN.out]; rfl, below_step hb0 hb1⟩
  · exact rWriteF_any n pv ev w hp he hf
end Go.Proofs.YtohicccbaenegaaGreatDoor

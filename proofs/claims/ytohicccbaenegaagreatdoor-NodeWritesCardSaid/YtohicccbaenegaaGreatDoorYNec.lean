/-
  Contracts over this translation: Key, node's and the document's.
-/
import Derived.Test.YtohicccbaenegaaGreatDoorYNdi
import Derived.Test.YtohicccbaenegaaGreatDoorYNdr
import Derived.Test.YtohicccbaenegaaGreatDoorYShr
set_option linter.unusedVariables false
namespace Go.Proofs.YtohicccbaenegaaGreatDoor
open Go.RowKit
attribute [local go_sem] Oper.semAt_some

def keyN (n : Nd) : List UInt8 := if fitN n = true then shaSum (wrL n) else []
theorem keyN_fit {n : Nd} (h : fitN n = true) : keyN n = shaSum (wrL n) := if_pos h
theorem keyN_un {n : Nd} (h : fitN n = false) : keyN n = [] := if_neg (by rw [h]; decide)
set_option maxRecDepth 100000 in
set_option maxHeartbeats 1000000 in
theorem pKey_any (n : Nd) (pv ev : Value) (w : World) (hp : IsParts w pv n.ps) (he : IsEntries w ev n.es) (hd : n.d.size ≤ 1000000000) :
    Calls Tryz.prog 15 #[ndV n pv ev] w fun e w' => e = .returned (.string ⟨(keyN n).toArray⟩) ∧ Below w.heap.size w w' := by
  have HP := Lib.hid hp; have HE := Lib.hid he
  obtain ⟨_, a1, cap1, hv1, _, _⟩ := hp
  obtain ⟨_, a2, cap2, hv2, _, _⟩ := he
  subst hv1 hv2
  have hb0 := (Below.refl w.heap.size w).alloc (Nat.le_refl _) (.cells #[.int .i64 n.kd, .string n.d, .slice a1 n.ps.length cap1, .slice a2 n.es.length cap2] 25)
  have WA := Lib.hid (pWrite_any n _ _ _ (HP.out.stays hb0) (HE.out.stays hb0) hd)
  obtain ⟨Y, hY1, hY2⟩ := ex_str (wrN n)
  rw [← hY1] at WA
  rcases hf : fitN n with _ | _
  · have q : Y.toList.isEmpty = true := by rw [Lib.toList_data, hY2, wrN_un hf]; rfl
    have HK := Lib.hid (keyN_un hf)
    clear hf hY1 hY2
    go_enter Tryz.func15, Tryz.ntmps15
    go_wp2_with fail
    with_reducible refine WA.out.mono ?_
    rintro e w1 ⟨rfl, hb1⟩
    go_wp2
    go_ret
    exact ⟨by rw [HK.out]; rfl, below_step hb0 hb1⟩
  · have hl := wrL_len hf
    have hY3 : Y.data.toList = wrL n := by rw [hY2, wrN_fit hf]
    have q : Y.toList.isEmpty = false := by
      rw [Lib.toList_data, hY3]
      cases hw : wrL n with
      | nil => rw [hw] at hl; exact absurd hl.1 (by decide)
      | cons => rfl
    have SA := Lib.hid (fun w => Sum_any Y (by rw [Lib.size_eq, hY3]; omega) w)
    rw [hY3] at SA
    have HK := Lib.hid (keyN_fit hf)
    clear hf hY1 hY2 hY3 hl
    go_enter Tryz.func15, Tryz.ntmps15
    go_wp2_with fail
    with_reducible refine WA.out.mono ?_
    rintro e w1 ⟨rfl, hb1⟩
    go_wp2_with fail
    with_reducible refine (SA.out _).mono ?_
    rintro e w2 ⟨rfl, hb2⟩
    go_wp2
    go_ret
    exact ⟨by rw [HK.out]; rfl, below_step (below_step hb0 hb1) hb2⟩
set_option maxRecDepth 100000 in
set_option maxHeartbeats 1000000 in
theorem rKey_any (n : Nd) (pv ev : Value) (w : World) (hp : IsParts w pv n.ps) (he : IsEntries w ev n.es) :
    Calls Tryz.prog 16 #[ndV n pv ev] w fun e w' => e = .returned (.string ⟨(keyN n).toArray⟩) ∧ Below w.heap.size w w' := by
  have HP := Lib.hid hp; have HE := Lib.hid he
  obtain ⟨_, a1, cap1, hv1, _, _⟩ := hp
  obtain ⟨_, a2, cap2, hv2, _, _⟩ := he
  subst hv1 hv2
  have hb0 := (Below.refl w.heap.size w).alloc (Nat.le_refl _) (.cells #[.int .i64 n.kd, .string n.d, .slice a1 n.ps.length cap1, .slice a2 n.es.length cap2] 25)
  have FA := Lib.hid (rFit_any n _ _ _ (HP.out.stays hb0) (HE.out.stays hb0))
  have HX := Lib.hid (ndBox_new w n (.slice a1 n.ps.length cap1) (.slice a2 n.es.length cap2) 25)
  rcases hf : fitN n with _ | _
  · rw [hf] at FA
    have HK := Lib.hid (keyN_un hf)
    clear hf
    go_enter Tryz.func16, Tryz.ntmps16
    go_wp2_with fail
    with_reducible refine FA.out.mono ?_
    rintro e w1 ⟨rfl, hb1⟩
    go_wp2
    go_ret
    exact ⟨by rw [HK.out]; rfl, below_step hb0 hb1⟩
  · rw [hf] at FA
    have hl := wrL_len hf
    obtain ⟨Y, hY1, hY2⟩ := ex_str (wrL n)
    have WA := Lib.hid (fun w h1 h2 => rWriteF_any n (.slice a1 n.ps.length cap1) (.slice a2 n.es.length cap2) w h1 h2 hf)
    rw [wrN_fit hf, ← hY1] at WA
    have SA := Lib.hid (fun w => refSum_any Y (by rw [Lib.size_eq, hY2]; omega) w)
    rw [hY2] at SA
    have HK := Lib.hid (keyN_fit hf)
    clear hf hY1 hY2 hl
    go_enter Tryz.func16, Tryz.ntmps16
    go_wp2_with fail
    with_reducible refine FA.out.mono ?_
    rintro e w1 ⟨rfl, hb1⟩
    have HB1 := Lib.hid (below_step hb0 hb1)
    obtain ⟨x0, x1, x2, x3⟩ := (HX.out.stays hb1).cells
    clear hb0 hb1
    go_wp2_with fail
    refine (WA.out _ (HP.out.stays HB1.out) (HE.out.stays HB1.out)).mono ?_
    rintro e w2 ⟨rfl, hb2⟩
    have HB2 := Lib.hid (below_step HB1.out hb2)
    clear hb2 x0 x1 x2 x3
    go_wp2_with fail
    with_reducible refine (SA.out _).mono ?_
    rintro e w3 ⟨rfl, hb3⟩
    go_wp2
    go_ret
    exact ⟨by rw [HK.out]; rfl, below_step HB2.out hb3⟩
end Go.Proofs.YtohicccbaenegaaGreatDoor

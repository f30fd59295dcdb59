/-
  Two nodes at a law's entry, and NodeUnlike as a walk over this translation.
-/
import Derived.Test.YtohicccbaenegaaGreatDoorYNea
import Derived.Test.YtohicccbaenegaaGreatDoorYNec
import Derived.Test.YtohicccbaenegaaGreatDoorYNdg
import Derived.Test.YtohicccbaenegaaGreatDoorQ3
set_option linter.unusedVariables false
namespace Go.Proofs.YtohicccbaenegaaGreatDoor
open Go.RowKit
attribute [local go_sem] Oper.semAt_some

/-- What stands while a law of two nodes runs. -/
def Two (w : World) (n m : Nd) (a b c d : Value) (W : World) : Prop :=
  (NdBox W w.heap.size n a b ∧ NdBox W (w.heap.size + 1) m c d) ∧ (IsParts W a n.ps ∧ IsEntries W b n.es ∧ IsParts W c m.ps ∧ IsEntries W d m.es) ∧ ErrT W ∧ Below w.heap.size w W
theorem Two.on {w W W' : World} {n m : Nd} {a b c d : Value} (h : Two w n m a b c d W) (hb : Below W.heap.size W W') : Two w n m a b c d W' :=
  ⟨⟨h.1.1.stays hb, h.1.2.stays hb⟩, ⟨h.2.1.1.stays hb, h.2.1.2.1.stays hb, h.2.1.2.2.1.stays hb, h.2.1.2.2.2.stays hb⟩, h.2.2.1.stays hb, below_step h.2.2.2 hb⟩
theorem Two.below {w W : World} {n m : Nd} {a b c d : Value} (h : Two w n m a b c d W) : Below w.heap.size w W := h.2.2.2
theorem Two.cells {w W : World} {n m : Nd} {a b c d : Value} (h : Two w n m a b c d W) :
    (W.cell? ⟨w.heap.size, 0, none⟩ = some (.int .i64 n.kd) ∧ W.cell? ⟨w.heap.size, 1, none⟩ = some (.string n.d) ∧ W.cell? ⟨w.heap.size, 2, none⟩ = some a ∧ W.cell? ⟨w.heap.size, 3, none⟩ = some b) ∧
    (W.cell? ⟨w.heap.size + 1, 0, none⟩ = some (.int .i64 m.kd) ∧ W.cell? ⟨w.heap.size + 1, 1, none⟩ = some (.string m.d) ∧ W.cell? ⟨w.heap.size + 1, 2, none⟩ = some c ∧ W.cell? ⟨w.heap.size + 1, 3, none⟩ = some d) := ⟨h.1.1.cells, h.1.2.cells⟩
theorem two_new (w : World) (n m : Nd) (a b c d : Value) (hp : IsParts w a n.ps) (he : IsEntries w b n.es) (hp2 : IsParts w c m.ps) (he2 : IsEntries w d m.es) (hT : ErrT w) :
    Two w n m a b c d ((w.alloc (.cells #[.int .i64 n.kd, .string n.d, a, b] 25)).alloc (.cells #[.int .i64 m.kd, .string m.d, c, d] 25)) := by
  have hb : Below w.heap.size w ((w.alloc (.cells #[.int .i64 n.kd, .string n.d, a, b] 25)).alloc (.cells #[.int .i64 m.kd, .string m.d, c, d] 25)) := ((Below.refl _ _).alloc (Nat.le_refl _) _).alloc (by simp) _
  exact ⟨ndBox2 w n m a b c d _, ⟨hp.stays hb, he.stays hb, hp2.stays hb, he2.stays hb⟩, hT.stays hb, hb⟩
theorem bytes_ne {A B : ByteArray} (h : A ≠ B) : (A.toList == B.toList) = false ∧ (!(A.toList == B.toList)) = true := by
  have : (A.toList == B.toList) = false := by
    rw [beq_eq_false_iff_ne]
    intro e
    rw [Lib.toList_data, Lib.toList_data] at e
    exact h (ByteArray.ext (Array.toList_inj.1 e))
  exact ⟨this, by rw [this]; rfl⟩
theorem bytes_same {A B : ByteArray} (h : A = B) : (A.toList == B.toList) = true ∧ (!(A.toList == B.toList)) = false := by
  subst h; exact ⟨beq_self_eq_true _, by rw [beq_self_eq_true]; rfl⟩
theorem arr_ne {x y : List UInt8} (h : x ≠ y) : (⟨x.toArray⟩ : ByteArray) ≠ ⟨y.toArray⟩ := by
  intro e; injection e with e; exact h (by simpa using congrArg Array.toList e)

set_option maxRecDepth 100000 in
set_option maxHeartbeats 40000000 in
theorem NodeUnlike_w (n : Nd) (pv ev : Value) (m : Nd) (pv2 ev2 : Value) (w : World) (hp : IsParts w pv n.ps) (he : IsEntries w ev n.es) (hp2 : IsParts w pv2 m.ps) (he2 : IsEntries w ev2 m.es) (hT : ErrT w) :
    Calls Tryz.prog 6 #[ndV n pv ev, ndV m pv2 ev2] w fun e w' => e = .returned (.bool true) ∧ Below w.heap.size w w' := by
  have HN := two_new w n m pv ev pv2 ev2 hp he hp2 he2 hT
  obtain ⟨_, a1, cap1, hv1, _, _⟩ := hp
  obtain ⟨_, a2, cap2, hv2, _, _⟩ := he
  obtain ⟨_, a3, cap3, hv3, _, _⟩ := hp2
  obtain ⟨_, a4, cap4, hv4, _, _⟩ := he2
  subst hv1 hv2 hv3 hv4
  obtain ⟨z1, hz1⟩ : ∃ z, z = n.ps.length := ⟨_, rfl⟩
  obtain ⟨z2, hz2⟩ : ∃ z, z = n.es.length := ⟨_, rfl⟩
  obtain ⟨z3, hz3⟩ : ∃ z, z = m.ps.length := ⟨_, rfl⟩
  obtain ⟨z4, hz4⟩ : ∃ z, z = m.es.length := ⟨_, rfl⟩
  rw [← hz1, ← hz2, ← hz3, ← hz4] at HN
  have P1 : n.ps.length = z1 := hz1.symm
  rw [← hz1, ← hz2, ← hz3, ← hz4]
  clear P1 hz1 hz2 hz3 hz4 hT
  obtain ⟨x1, hx1⟩ : ∃ x, x = Value.slice a1 z1 cap1 := ⟨_, rfl⟩
  obtain ⟨x2, hx2⟩ : ∃ x, x = Value.slice a2 z2 cap2 := ⟨_, rfl⟩
  obtain ⟨x3, hx3⟩ : ∃ x, x = Value.slice a3 z3 cap3 := ⟨_, rfl⟩
  obtain ⟨x4, hx4⟩ : ∃ x, x = Value.slice a4 z4 cap4 := ⟨_, rfl⟩
  obtain ⟨V, hV⟩ : ∃ V, V = (w.alloc (.cells #[.int .i64 n.kd, .string n.d, .slice a1 z1 cap1, .slice a2 z2 cap2] 25)).alloc (.cells #[.int .i64 m.kd, .string m.d, .slice a3 z3 cap3, .slice a4 z4 cap4] 25) := ⟨_, rfl⟩
  rw [← hV] at HN
  have HH := Lib.hid HN
  have HV := Lib.hid hV
  have AW : Hid (∀ W, Two w n m (.slice a1 z1 cap1) (.slice a2 z2 cap2) (.slice a3 z3 cap3) (.slice a4 z4 cap4) W → _) := Lib.hid fun W h => awake_any W h.2.2.1
  have F1 : Hid (∀ W, Two w n m (.slice a1 z1 cap1) (.slice a2 z2 cap2) (.slice a3 z3 cap3) (.slice a4 z4 cap4) W → _) := Lib.hid fun W h => few_any n (.slice a1 z1 cap1) (.slice a2 z2 cap2) W h.2.1.1 h.2.1.2.1
  have F2 : Hid (∀ W, Two w n m (.slice a1 z1 cap1) (.slice a2 z2 cap2) (.slice a3 z3 cap3) (.slice a4 z4 cap4) W → _) := Lib.hid fun W h => few_any m (.slice a3 z3 cap3) (.slice a4 z4 cap4) W h.2.1.2.2.1 h.2.1.2.2.2
  have T1 : Hid (∀ W, Two w n m (.slice a1 z1 cap1) (.slice a2 z2 cap2) (.slice a3 z3 cap3) (.slice a4 z4 cap4) W → _) := Lib.hid fun W h => rFit_any n (.slice a1 z1 cap1) (.slice a2 z2 cap2) W h.2.1.1 h.2.1.2.1
  have T2 : Hid (∀ W, Two w n m (.slice a1 z1 cap1) (.slice a2 z2 cap2) (.slice a3 z3 cap3) (.slice a4 z4 cap4) W → _) := Lib.hid fun W h => rFit_any m (.slice a3 z3 cap3) (.slice a4 z4 cap4) W h.2.1.2.2.1 h.2.1.2.2.2
  obtain ⟨⟨c0, c1, c2, c3⟩, d0, d1, d2, d3⟩ := HH.out.cells
  clear hV HN
  clear hx1 hx2 hx3 hx4 x1 x2 x3 x4
  rcases hf1 : fewN n with _ | _
  · rw [hf1] at F1
    go_enter Tryz.func6, Tryz.ntmps6
    go_wp2_with fail
    rw [← HV.out]
    go_wp2_with fail
    with_reducible refine (F1.out _ HH.out).mono ?_
    rintro e w1 ⟨rfl, hb⟩
    replace HH := Lib.hid (HH.out.on hb)
    clear hb c0 c1 c2 c3 d0 d1 d2 d3
    obtain ⟨⟨c0, c1, c2, c3⟩, d0, d1, d2, d3⟩ := HH.out.cells
    go_wp2_with fail
    with_reducible refine (AW.out _ HH.out).mono ?_
    rintro e w9 ⟨rfl, hb⟩
    go_wp2
    go_ret
    exact ⟨rfl, below_step HH.out.below hb⟩
  · rcases hf2 : fewN m with _ | _
    · rw [hf1] at F1; rw [hf2] at F2
      go_enter Tryz.func6, Tryz.ntmps6
      go_wp2_with fail
      rw [← HV.out]
      go_wp2_with fail
      with_reducible refine (F1.out _ HH.out).mono ?_
      rintro e w1 ⟨rfl, hb⟩
      replace HH := Lib.hid (HH.out.on hb)
      clear hb c0 c1 c2 c3 d0 d1 d2 d3
      obtain ⟨⟨c0, c1, c2, c3⟩, d0, d1, d2, d3⟩ := HH.out.cells
      go_wp2_with fail
      with_reducible refine (F2.out _ HH.out).mono ?_
      rintro e w2 ⟨rfl, hb⟩
      replace HH := Lib.hid (HH.out.on hb)
      clear hb c0 c1 c2 c3 d0 d1 d2 d3
      obtain ⟨⟨c0, c1, c2, c3⟩, d0, d1, d2, d3⟩ := HH.out.cells
      go_wp2_with fail
      with_reducible refine (AW.out _ HH.out).mono ?_
      rintro e w9 ⟨rfl, hb⟩
      go_wp2
      go_ret
      exact ⟨rfl, below_step HH.out.below hb⟩
    · rcases hg1 : fitN n with _ | _
      · rw [hf1] at F1; rw [hf2] at F2; rw [hg1] at T1
        go_enter Tryz.func6, Tryz.ntmps6
        go_wp2_with fail
        rw [← HV.out]
        go_wp2_with fail
        with_reducible refine (F1.out _ HH.out).mono ?_
        rintro e w1 ⟨rfl, hb⟩
        replace HH := Lib.hid (HH.out.on hb)
        clear hb c0 c1 c2 c3 d0 d1 d2 d3
        obtain ⟨⟨c0, c1, c2, c3⟩, d0, d1, d2, d3⟩ := HH.out.cells
        go_wp2_with fail
        with_reducible refine (F2.out _ HH.out).mono ?_
        rintro e w2 ⟨rfl, hb⟩
        replace HH := Lib.hid (HH.out.on hb)
        clear hb c0 c1 c2 c3 d0 d1 d2 d3
        obtain ⟨⟨c0, c1, c2, c3⟩, d0, d1, d2, d3⟩ := HH.out.cells
        go_wp2_with fail
        with_reducible refine (T1.out _ HH.out).mono ?_
        rintro e w3 ⟨rfl, hb⟩
        replace HH := Lib.hid (HH.out.on hb)
        clear hb c0 c1 c2 c3 d0 d1 d2 d3
        obtain ⟨⟨c0, c1, c2, c3⟩, d0, d1, d2, d3⟩ := HH.out.cells
        go_wp2_with fail
        with_reducible refine (AW.out _ HH.out).mono ?_
        rintro e w9 ⟨rfl, hb⟩
        go_wp2
        go_ret
        exact ⟨rfl, below_step HH.out.below hb⟩
      · rcases hg2 : fitN m with _ | _
        · rw [hf1] at F1; rw [hf2] at F2; rw [hg1] at T1; rw [hg2] at T2
          go_enter Tryz.func6, Tryz.ntmps6
          go_wp2_with fail
          rw [← HV.out]
          go_wp2_with fail
          with_reducible refine (F1.out _ HH.out).mono ?_
          rintro e w1 ⟨rfl, hb⟩
          replace HH := Lib.hid (HH.out.on hb)
          clear hb c0 c1 c2 c3 d0 d1 d2 d3
          obtain ⟨⟨c0, c1, c2, c3⟩, d0, d1, d2, d3⟩ := HH.out.cells
          go_wp2_with fail
          with_reducible refine (F2.out _ HH.out).mono ?_
          rintro e w2 ⟨rfl, hb⟩
          replace HH := Lib.hid (HH.out.on hb)
          clear hb c0 c1 c2 c3 d0 d1 d2 d3
          obtain ⟨⟨c0, c1, c2, c3⟩, d0, d1, d2, d3⟩ := HH.out.cells
          go_wp2_with fail
          with_reducible refine (T1.out _ HH.out).mono ?_
          rintro e w3 ⟨rfl, hb⟩
          replace HH := Lib.hid (HH.out.on hb)
          clear hb c0 c1 c2 c3 d0 d1 d2 d3
          obtain ⟨⟨c0, c1, c2, c3⟩, d0, d1, d2, d3⟩ := HH.out.cells
          go_wp2_with fail
          with_reducible refine (T2.out _ HH.out).mono ?_
          rintro e w4 ⟨rfl, hb⟩
          replace HH := Lib.hid (HH.out.on hb)
          clear hb c0 c1 c2 c3 d0 d1 d2 d3
          obtain ⟨⟨c0, c1, c2, c3⟩, d0, d1, d2, d3⟩ := HH.out.cells
          go_wp2_with fail
          with_reducible refine (AW.out _ HH.out).mono ?_
          rintro e w9 ⟨rfl, hb⟩
          go_wp2
          go_ret
          exact ⟨rfl, below_step HH.out.below hb⟩
        · rw [hf1] at F1; rw [hf2] at F2; rw [hg1] at T1; rw [hg2] at T2
          have hn := (few_n hf1).1; have hm := (few_n hf2).1
          have W1 : Hid (∀ W, Two w n m (.slice a1 z1 cap1) (.slice a2 z2 cap2) (.slice a3 z3 cap3) (.slice a4 z4 cap4) W → _) := Lib.hid fun W h => pWrite_any n (.slice a1 z1 cap1) (.slice a2 z2 cap2) W h.2.1.1 h.2.1.2.1 (by omega)
          have W2 : Hid (∀ W, Two w n m (.slice a1 z1 cap1) (.slice a2 z2 cap2) (.slice a3 z3 cap3) (.slice a4 z4 cap4) W → _) := Lib.hid fun W h => pWrite_any m (.slice a3 z3 cap3) (.slice a4 z4 cap4) W h.2.1.2.2.1 h.2.1.2.2.2 (by omega)
          have K1 : Hid (∀ W, Two w n m (.slice a1 z1 cap1) (.slice a2 z2 cap2) (.slice a3 z3 cap3) (.slice a4 z4 cap4) W → _) := Lib.hid fun W h => pKey_any n (.slice a1 z1 cap1) (.slice a2 z2 cap2) W h.2.1.1 h.2.1.2.1 (by omega)
          have K2 : Hid (∀ W, Two w n m (.slice a1 z1 cap1) (.slice a2 z2 cap2) (.slice a3 z3 cap3) (.slice a4 z4 cap4) W → _) := Lib.hid fun W h => pKey_any m (.slice a3 z3 cap3) (.slice a4 z4 cap4) W h.2.1.2.2.1 h.2.1.2.2.2 (by omega)
          have SA : Hid (∀ W, Two w n m (.slice a1 z1 cap1) (.slice a2 z2 cap2) (.slice a3 z3 cap3) (.slice a4 z4 cap4) W → _) := Lib.hid fun W h => rSame_any n m (.slice a1 z1 cap1) (.slice a2 z2 cap2) (.slice a3 z3 cap3) (.slice a4 z4 cap4) W h.2.1.1 h.2.1.2.1 h.2.1.2.2.1 h.2.1.2.2.2
          have l1 := wrL_len hg1; have l2 := wrL_len hg2
          obtain ⟨A, hA, hA2⟩ := ex_str (wrL n)
          obtain ⟨B, hB, hB2⟩ := ex_str (wrL m)
          have S1 : Hid (∀ W, Two w n m (.slice a1 z1 cap1) (.slice a2 z2 cap2) (.slice a3 z3 cap3) (.slice a4 z4 cap4) W → _) := Lib.hid fun W h => refSum_any A (by rw [Lib.size_eq, hA2]; omega) W
          have S2 : Hid (∀ W, Two w n m (.slice a1 z1 cap1) (.slice a2 z2 cap2) (.slice a3 z3 cap3) (.slice a4 z4 cap4) W → _) := Lib.hid fun W h => refSum_any B (by rw [Lib.size_eq, hB2]; omega) W
          rw [hA2] at S1; rw [hB2] at S2
          rw [wrN_fit hg1, ← hA] at W1; rw [wrN_fit hg2, ← hB] at W2
          rw [keyN_fit hg1] at K1; rw [keyN_fit hg2] at K2
          obtain ⟨P, hP⟩ : ∃ P : ByteArray, P = ⟨(shaSum (wrL n)).toArray⟩ := ⟨_, rfl⟩
          obtain ⟨Q, hQ⟩ : ∃ Q : ByteArray, Q = ⟨(shaSum (wrL m)).toArray⟩ := ⟨_, rfl⟩
          rw [← hP] at S1 K1; rw [← hQ] at S2 K2
          have ql : decide ((0 : Int) < (A.size : Int)) = true := decide_eq_true (by rw [Lib.size_eq, hA2]; omega)
          have ql2 : decide (0 < A.size) = true := decide_eq_true (by rw [Lib.size_eq, hA2]; omega)
          have ql3 : 0 < A.size := of_decide_eq_true ql2
          clear hn hm l1 l2
          by_cases hnm : n = m
          · have hAB : A = B := by rw [hA, hB, hnm]
            have hPQ : P = Q := by rw [hP, hQ, hnm]
            have q1 := (bytes_same hAB).1; have q2 := (bytes_same hAB).2; have q3 := (bytes_same hPQ).1
            rw [sameN_yes hnm] at SA
            clear hA hB hA2 hB2 hP hQ hAB hPQ hnm hf1 hf2 hg1 hg2
            go_enter Tryz.func6, Tryz.ntmps6
            go_wp2_with fail
            rw [← HV.out]
            go_wp2_with fail
            with_reducible refine (F1.out _ HH.out).mono ?_
            rintro e w1 ⟨rfl, hb⟩
            replace HH := Lib.hid (HH.out.on hb)
            clear hb c0 c1 c2 c3 d0 d1 d2 d3
            obtain ⟨⟨c0, c1, c2, c3⟩, d0, d1, d2, d3⟩ := HH.out.cells
            go_wp2_with fail
            with_reducible refine (F2.out _ HH.out).mono ?_
            rintro e w2 ⟨rfl, hb⟩
            replace HH := Lib.hid (HH.out.on hb)
            clear hb c0 c1 c2 c3 d0 d1 d2 d3
            obtain ⟨⟨c0, c1, c2, c3⟩, d0, d1, d2, d3⟩ := HH.out.cells
            go_wp2_with fail
            with_reducible refine (T1.out _ HH.out).mono ?_
            rintro e w3 ⟨rfl, hb⟩
            replace HH := Lib.hid (HH.out.on hb)
            clear hb c0 c1 c2 c3 d0 d1 d2 d3
            obtain ⟨⟨c0, c1, c2, c3⟩, d0, d1, d2, d3⟩ := HH.out.cells
            go_wp2_with fail
            with_reducible refine (T2.out _ HH.out).mono ?_
            rintro e w4 ⟨rfl, hb⟩
            replace HH := Lib.hid (HH.out.on hb)
            clear hb c0 c1 c2 c3 d0 d1 d2 d3
            obtain ⟨⟨c0, c1, c2, c3⟩, d0, d1, d2, d3⟩ := HH.out.cells
            go_wp2_with fail
            have k0 := fun d os => cell_regrown c0 d os
            have k1 := fun d os => cell_regrown c1 d os
            have k2 := fun d os => cell_regrown c2 d os
            have k3 := fun d os => cell_regrown c3 d os
            have k4 := fun d os => cell_regrown d0 d os
            have k5 := fun d os => cell_regrown d1 d os
            have k6 := fun d os => cell_regrown d2 d os
            have k7 := fun d os => cell_regrown d3 d os
            refine wp_region_quiet_below (by kernel_rfl) (by kernel_rfl) ?_
            repeat (first | go_big_quiet_step ((first | with_reducible exact Calls.regrown_of (W1.out _ (HH.out.on (below_regrown _ _ _))) | with_reducible exact Calls.regrown_of (W2.out _ (HH.out.on (below_regrown _ _ _))))) | quiet_step ((first | with_reducible exact Calls.regrown_of (W1.out _ (HH.out.on (below_regrown _ _ _))) | with_reducible exact Calls.regrown_of (W2.out _ (HH.out.on (below_regrown _ _ _))))))
            refine wpQuiet_nil ?_
            intro wq hwq
            have hbq : Below w4.heap.size w4 wq := by obtain ⟨p, rfl⟩ := hwq; exact below_regrown _ _ _
            replace HH := Lib.hid (HH.out.on hbq)
            clear hwq hbq k0 k1 k2 k3 k4 k5 k6 k7 c0 c1 c2 c3 d0 d1 d2 d3
            obtain ⟨⟨c0, c1, c2, c3⟩, d0, d1, d2, d3⟩ := HH.out.cells
            go_wp2_with fail
            have k0 := fun d os => cell_regrown c0 d os
            have k1 := fun d os => cell_regrown c1 d os
            have k2 := fun d os => cell_regrown c2 d os
            have k3 := fun d os => cell_regrown c3 d os
            have k4 := fun d os => cell_regrown d0 d os
            have k5 := fun d os => cell_regrown d1 d os
            have k6 := fun d os => cell_regrown d2 d os
            have k7 := fun d os => cell_regrown d3 d os
            refine wp_region_quiet_below (by kernel_rfl) (by kernel_rfl) ?_
            repeat (first | go_big_quiet_step ((first | with_reducible exact Calls.regrown_of (SA.out _ (HH.out.on (below_regrown _ _ _))) | with_reducible exact Calls.regrown_of (K1.out _ (HH.out.on (below_regrown _ _ _))) | with_reducible exact Calls.regrown_of (K2.out _ (HH.out.on (below_regrown _ _ _))) | with_reducible exact Calls.regrown_of (AW.out _ (HH.out.on (below_regrown _ _ _))) | (go_at_call 8; exact Calls.regrown_of (AW.out _ (HH.out.on (below_regrown _ _ _)))))) | quiet_step ((first | with_reducible exact Calls.regrown_of (SA.out _ (HH.out.on (below_regrown _ _ _))) | with_reducible exact Calls.regrown_of (K1.out _ (HH.out.on (below_regrown _ _ _))) | with_reducible exact Calls.regrown_of (K2.out _ (HH.out.on (below_regrown _ _ _))) | with_reducible exact Calls.regrown_of (AW.out _ (HH.out.on (below_regrown _ _ _))) | (go_at_call 8; exact Calls.regrown_of (AW.out _ (HH.out.on (below_regrown _ _ _)))))))
            refine wpQuiet_nil ?_
            intro wz hwz
            have hbq : Below wq.heap.size wq wz := by obtain ⟨p, rfl⟩ := hwz; exact below_regrown _ _ _
            replace HH := Lib.hid (HH.out.on hbq)
            clear hwz hbq k0 k1 k2 k3 k4 k5 k6 k7 c0 c1 c2 c3 d0 d1 d2 d3
            obtain ⟨⟨c0, c1, c2, c3⟩, d0, d1, d2, d3⟩ := HH.out.cells
            go_wp2
            go_ret
            exact ⟨rfl, HH.out.below⟩
          · have hAB : A ≠ B := by rw [hA, hB]; exact arr_ne (fun e => hnm (wrL_inj hg1 hg2 e))
            have q1 := (bytes_ne hAB).1; have q2 := (bytes_ne hAB).2
            rw [sameN_no hnm] at SA
            by_cases hPQ : P = Q
            · have q3 := (bytes_same hPQ).1
              clear hA hB hA2 hB2 hP hQ hAB hPQ hnm hf1 hf2 hg1 hg2
              go_enter Tryz.func6, Tryz.ntmps6
              go_wp2_with fail
              rw [← HV.out]
              go_wp2_with fail
              with_reducible refine (F1.out _ HH.out).mono ?_
              rintro e w1 ⟨rfl, hb⟩
              replace HH := Lib.hid (HH.out.on hb)
              clear hb c0 c1 c2 c3 d0 d1 d2 d3
              obtain ⟨⟨c0, c1, c2, c3⟩, d0, d1, d2, d3⟩ := HH.out.cells
              go_wp2_with fail
              with_reducible refine (F2.out _ HH.out).mono ?_
              rintro e w2 ⟨rfl, hb⟩
              replace HH := Lib.hid (HH.out.on hb)
              clear hb c0 c1 c2 c3 d0 d1 d2 d3
              obtain ⟨⟨c0, c1, c2, c3⟩, d0, d1, d2, d3⟩ := HH.out.cells
              go_wp2_with fail
              with_reducible refine (T1.out _ HH.out).mono ?_
              rintro e w3 ⟨rfl, hb⟩
              replace HH := Lib.hid (HH.out.on hb)
              clear hb c0 c1 c2 c3 d0 d1 d2 d3
              obtain ⟨⟨c0, c1, c2, c3⟩, d0, d1, d2, d3⟩ := HH.out.cells
              go_wp2_with fail
              with_reducible refine (T2.out _ HH.out).mono ?_
              rintro e w4 ⟨rfl, hb⟩
              replace HH := Lib.hid (HH.out.on hb)
              clear hb c0 c1 c2 c3 d0 d1 d2 d3
              obtain ⟨⟨c0, c1, c2, c3⟩, d0, d1, d2, d3⟩ := HH.out.cells
              go_wp2_with fail
              have k0 := fun d os => cell_regrown c0 d os
              have k1 := fun d os => cell_regrown c1 d os
              have k2 := fun d os => cell_regrown c2 d os
              have k3 := fun d os => cell_regrown c3 d os
              have k4 := fun d os => cell_regrown d0 d os
              have k5 := fun d os => cell_regrown d1 d os
              have k6 := fun d os => cell_regrown d2 d os
              have k7 := fun d os => cell_regrown d3 d os
              refine wp_region_quiet_below (by kernel_rfl) (by kernel_rfl) ?_
              repeat (first | go_big_quiet_step ((first | with_reducible exact Calls.regrown_of (W1.out _ (HH.out.on (below_regrown _ _ _))) | with_reducible exact Calls.regrown_of (W2.out _ (HH.out.on (below_regrown _ _ _))))) | quiet_step ((first | with_reducible exact Calls.regrown_of (W1.out _ (HH.out.on (below_regrown _ _ _))) | with_reducible exact Calls.regrown_of (W2.out _ (HH.out.on (below_regrown _ _ _))))))
              refine wpQuiet_nil ?_
              intro wq hwq
              have hbq : Below w4.heap.size w4 wq := by obtain ⟨p, rfl⟩ := hwq; exact below_regrown _ _ _
              replace HH := Lib.hid (HH.out.on hbq)
              clear hwq hbq k0 k1 k2 k3 k4 k5 k6 k7 c0 c1 c2 c3 d0 d1 d2 d3
              obtain ⟨⟨c0, c1, c2, c3⟩, d0, d1, d2, d3⟩ := HH.out.cells
              go_wp2_with fail
              with_reducible refine (S1.out _ HH.out).mono ?_
              rintro e w5 ⟨rfl, hb⟩
              replace HH := Lib.hid (HH.out.on hb)
              clear hb c0 c1 c2 c3 d0 d1 d2 d3
              obtain ⟨⟨c0, c1, c2, c3⟩, d0, d1, d2, d3⟩ := HH.out.cells
              go_wp2_with fail
              with_reducible refine (S2.out _ HH.out).mono ?_
              rintro e w6 ⟨rfl, hb⟩
              replace HH := Lib.hid (HH.out.on hb)
              clear hb c0 c1 c2 c3 d0 d1 d2 d3
              obtain ⟨⟨c0, c1, c2, c3⟩, d0, d1, d2, d3⟩ := HH.out.cells
              go_wp2_with fail
              with_reducible refine (AW.out _ HH.out).mono ?_
              rintro e w9 ⟨rfl, hb⟩
              go_wp2
              go_ret
              exact ⟨rfl, below_step HH.out.below hb⟩
            · have q3 := (bytes_ne hPQ).1
              clear hA hB hA2 hB2 hP hQ hAB hPQ hnm hf1 hf2 hg1 hg2
              go_enter Tryz.func6, Tryz.ntmps6
              go_wp2_with fail
              rw [← HV.out]
              go_wp2_with fail
              with_reducible refine (F1.out _ HH.out).mono ?_
              rintro e w1 ⟨rfl, hb⟩
              replace HH := Lib.hid (HH.out.on hb)
              clear hb c0 c1 c2 c3 d0 d1 d2 d3
              obtain ⟨⟨c0, c1, c2, c3⟩, d0, d1, d2, d3⟩ := HH.out.cells
              go_wp2_with fail
              with_reducible refine (F2.out _ HH.out).mono ?_
              rintro e w2 ⟨rfl, hb⟩
              replace HH := Lib.hid (HH.out.on hb)
              clear hb c0 c1 c2 c3 d0 d1 d2 d3
              obtain ⟨⟨c0, c1, c2, c3⟩, d0, d1, d2, d3⟩ := HH.out.cells
              go_wp2_with fail
              with_reducible refine (T1.out _ HH.out).mono ?_
              rintro e w3 ⟨rfl, hb⟩
              replace HH := Lib.hid (HH.out.on hb)
              clear hb c0 c1 c2 c3 d0 d1 d2 d3
              obtain ⟨⟨c0, c1, c2, c3⟩, d0, d1, d2, d3⟩ := HH.out.cells
              go_wp2_with fail
              with_reducible refine (T2.out _ HH.out).mono ?_
              rintro e w4 ⟨rfl, hb⟩
              replace HH := Lib.hid (HH.out.on hb)
              clear hb c0 c1 c2 c3 d0 d1 d2 d3
              obtain ⟨⟨c0, c1, c2, c3⟩, d0, d1, d2, d3⟩ := HH.out.cells
              go_wp2_with fail
              have k0 := fun d os => cell_regrown c0 d os
              have k1 := fun d os => cell_regrown c1 d os
              have k2 := fun d os => cell_regrown c2 d os
              have k3 := fun d os => cell_regrown c3 d os
              have k4 := fun d os => cell_regrown d0 d os
              have k5 := fun d os => cell_regrown d1 d os
              have k6 := fun d os => cell_regrown d2 d os
              have k7 := fun d os => cell_regrown d3 d os
              refine wp_region_quiet_below (by kernel_rfl) (by kernel_rfl) ?_
              repeat (first | go_big_quiet_step ((first | with_reducible exact Calls.regrown_of (W1.out _ (HH.out.on (below_regrown _ _ _))) | with_reducible exact Calls.regrown_of (W2.out _ (HH.out.on (below_regrown _ _ _))))) | quiet_step ((first | with_reducible exact Calls.regrown_of (W1.out _ (HH.out.on (below_regrown _ _ _))) | with_reducible exact Calls.regrown_of (W2.out _ (HH.out.on (below_regrown _ _ _))))))
              refine wpQuiet_nil ?_
              intro wq hwq
              have hbq : Below w4.heap.size w4 wq := by obtain ⟨p, rfl⟩ := hwq; exact below_regrown _ _ _
              replace HH := Lib.hid (HH.out.on hbq)
              clear hwq hbq k0 k1 k2 k3 k4 k5 k6 k7 c0 c1 c2 c3 d0 d1 d2 d3
              obtain ⟨⟨c0, c1, c2, c3⟩, d0, d1, d2, d3⟩ := HH.out.cells
              go_wp2_with fail
              with_reducible refine (S1.out _ HH.out).mono ?_
              rintro e w5 ⟨rfl, hb⟩
              replace HH := Lib.hid (HH.out.on hb)
              clear hb c0 c1 c2 c3 d0 d1 d2 d3
              obtain ⟨⟨c0, c1, c2, c3⟩, d0, d1, d2, d3⟩ := HH.out.cells
              go_wp2_with fail
              with_reducible refine (S2.out _ HH.out).mono ?_
              rintro e w6 ⟨rfl, hb⟩
              replace HH := Lib.hid (HH.out.on hb)
              clear hb c0 c1 c2 c3 d0 d1 d2 d3
              obtain ⟨⟨c0, c1, c2, c3⟩, d0, d1, d2, d3⟩ := HH.out.cells
              go_wp2_with fail
              have k0 := fun d os => cell_regrown c0 d os
              have k1 := fun d os => cell_regrown c1 d os
              have k2 := fun d os => cell_regrown c2 d os
              have k3 := fun d os => cell_regrown c3 d os
              have k4 := fun d os => cell_regrown d0 d os
              have k5 := fun d os => cell_regrown d1 d os
              have k6 := fun d os => cell_regrown d2 d os
              have k7 := fun d os => cell_regrown d3 d os
              refine wp_region_quiet_below (by kernel_rfl) (by kernel_rfl) ?_
              repeat (first | go_big_quiet_step ((first | with_reducible exact Calls.regrown_of (SA.out _ (HH.out.on (below_regrown _ _ _))) | with_reducible exact Calls.regrown_of (K1.out _ (HH.out.on (below_regrown _ _ _))) | with_reducible exact Calls.regrown_of (K2.out _ (HH.out.on (below_regrown _ _ _))) | with_reducible exact Calls.regrown_of (AW.out _ (HH.out.on (below_regrown _ _ _))) | (go_at_call 8; exact Calls.regrown_of (AW.out _ (HH.out.on (below_regrown _ _ _)))))) | quiet_step ((first | with_reducible exact Calls.regrown_of (SA.out _ (HH.out.on (below_regrown _ _ _))) | with_reducible exact Calls.regrown_of (K1.out _ (HH.out.on (below_regrown _ _ _))) | with_reducible exact Calls.regrown_of (K2.out _ (HH.out.on (below_regrown _ _ _))) | with_reducible exact Calls.regrown_of (AW.out _ (HH.out.on (below_regrown _ _ _))) | (go_at_call 8; exact Calls.regrown_of (AW.out _ (HH.out.on (below_regrown _ _ _)))))))
              refine wpQuiet_nil ?_
              intro wz hwz
              have hbq : Below w6.heap.size w6 wz := by obtain ⟨p, rfl⟩ := hwz; exact below_regrown _ _ _
              replace HH := Lib.hid (HH.out.on hbq)
              clear hwz hbq k0 k1 k2 k3 k4 k5 k6 k7 c0 c1 c2 c3 d0 d1 d2 d3
              obtain ⟨⟨c0, c1, c2, c3⟩, d0, d1, d2, d3⟩ := HH.out.cells
              go_wp2
              go_ret
              exact ⟨rfl, HH.out.below⟩
end Go.Proofs.YtohicccbaenegaaGreatDoor

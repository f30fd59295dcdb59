/-
  NodeBack as a walk over this translation.
-/
import Derived.Test.YtohicccbaenegaaGreatDoorYNfa
set_option linter.unusedVariables false
namespace Go.Proofs.YtohicccbaenegaaGreatDoor
open Go.RowKit
attribute [local go_sem] Oper.semAt_some

/-- What stands while a law of one node runs. -/
def Bk (w : World) (n : Nd) (a b : Value) (W : World) : Prop :=
  NdBox W w.heap.size n a b ∧ (IsParts W a n.ps ∧ IsEntries W b n.es) ∧ ErrT W ∧ Below w.heap.size w W
theorem Bk.on {w W W' : World} {n : Nd} {a b : Value} (h : Bk w n a b W) (hb : Below W.heap.size W W') : Bk w n a b W' :=
  ⟨h.1.stays hb, ⟨h.2.1.1.stays hb, h.2.1.2.stays hb⟩, h.2.2.1.stays hb, below_step h.2.2.2 hb⟩
theorem Bk.below {w W : World} {n : Nd} {a b : Value} (h : Bk w n a b W) : Below w.heap.size w W := h.2.2.2
theorem Bk.cells {w W : World} {n : Nd} {a b : Value} (h : Bk w n a b W) :
    W.cell? ⟨w.heap.size, 0, none⟩ = some (.int .i64 n.kd) ∧ W.cell? ⟨w.heap.size, 1, none⟩ = some (.string n.d) ∧ W.cell? ⟨w.heap.size, 2, none⟩ = some a ∧ W.cell? ⟨w.heap.size, 3, none⟩ = some b := h.1.cells
/-- And another in a block of its own. -/
def Bk2 (w : World) (n : Nd) (a b : Value) (B : Nat) (m : Nd) (c d : Value) (W : World) : Prop := Bk w n a b W ∧ NdBox W B m c d ∧ IsParts W c m.ps ∧ IsEntries W d m.es
theorem Bk2.bk {w W : World} {n : Nd} {a b : Value} {B : Nat} {m : Nd} {c d : Value} (h : Bk2 w n a b B m c d W) : Bk w n a b W := h.1
theorem Bk2.on {w W W' : World} {n : Nd} {a b : Value} {B : Nat} {m : Nd} {c d : Value} (h : Bk2 w n a b B m c d W) (hb : Below W.heap.size W W') : Bk2 w n a b B m c d W' :=
  ⟨h.1.on hb, h.2.1.stays hb, h.2.2.1.stays hb, h.2.2.2.stays hb⟩
theorem Bk2.cells {w W : World} {n : Nd} {a b : Value} {B : Nat} {m : Nd} {c d : Value} (h : Bk2 w n a b B m c d W) :
    (W.cell? ⟨w.heap.size, 0, none⟩ = some (.int .i64 n.kd) ∧ W.cell? ⟨w.heap.size, 1, none⟩ = some (.string n.d) ∧ W.cell? ⟨w.heap.size, 2, none⟩ = some a ∧ W.cell? ⟨w.heap.size, 3, none⟩ = some b) ∧
    W.cell? ⟨B, 0, none⟩ = some (.int .i64 m.kd) ∧ W.cell? ⟨B, 1, none⟩ = some (.string m.d) ∧ W.cell? ⟨B, 2, none⟩ = some c ∧ W.cell? ⟨B, 3, none⟩ = some d := ⟨h.1.cells, h.2.1.cells⟩
theorem bk2_new {w W : World} {n : Nd} {a b : Value} (h : Bk w n a b W) (m : Nd) (c d : Value) (hp : IsParts W c m.ps) (he : IsEntries W d m.es) :
    Bk2 w n a b W.heap.size m c d (W.alloc (.cells #[.int .i64 m.kd, .string m.d, c, d] 25)) := by
  have hb := (Below.refl W.heap.size W).alloc (Nat.le_refl _) (.cells #[.int .i64 m.kd, .string m.d, c, d] 25)
  exact ⟨h.on hb, ndBox_new W m c d _, hp.stays hb, he.stays hb⟩
theorem fit_data {n : Nd} (h : fitN n = true) : n.d.size ≤ 4096 := by
  rcases fit_kinds h with k | k | k
  · exact (fit1 k h).2.1
  · rw [(fit2 k h).1]; decide
  · rw [(fit3 k h).1]; decide

set_option maxRecDepth 100000 in
set_option maxHeartbeats 40000000 in
theorem NodeBack_w (n : Nd) (pv ev : Value) (s : ByteArray) (hs : s.size ≤ maxLen) (w : World) (hp : IsParts w pv n.ps) (he : IsEntries w ev n.es) (hT : ErrT w) :
    Calls Tryz.prog 4 #[ndV n pv ev, .string s] w fun e w' => e = .returned (.bool true) ∧ Below w.heap.size w w' := by
  unfold maxLen at hs
  obtain ⟨V, hV⟩ : ∃ V, V = w.alloc (.cells #[.int .i64 n.kd, .string n.d, pv, ev] 25) := ⟨_, rfl⟩
  have HH : Hid (Bk w n pv ev V) := Lib.hid (by
    have hb : Below w.heap.size w V := by rw [hV]; exact (Below.refl _ _).alloc (Nat.le_refl _) _
    refine ⟨?_, ⟨hp.stays hb, he.stays hb⟩, hT.stays hb, hb⟩
    rw [hV]; exact ndBox_new w n _ _ _)
  obtain ⟨_, a1, cap1, hv1, _, _⟩ := hp
  obtain ⟨_, a2, cap2, hv2, _, _⟩ := he
  subst hv1 hv2
  obtain ⟨z1, hz1⟩ : ∃ z, z = n.ps.length := ⟨_, rfl⟩
  obtain ⟨z2, hz2⟩ : ∃ z, z = n.es.length := ⟨_, rfl⟩
  rw [← hz1, ← hz2] at HH hV
  rw [← hz1, ← hz2]
  clear hz1 hz2 hT
  have HV := Lib.hid hV
  clear hV
  have AW : Hid (∀ W, Bk w n (.slice a1 z1 cap1) (.slice a2 z2 cap2) W → _) := Lib.hid fun W h => awake_any W h.2.2.1
  have F1 : Hid (∀ W, Bk w n (.slice a1 z1 cap1) (.slice a2 z2 cap2) W → _) := Lib.hid fun W h => few_any n (.slice a1 z1 cap1) (.slice a2 z2 cap2) W h.2.1.1 h.2.1.2
  obtain ⟨c0, c1, c2, c3⟩ := HH.out.cells
  rcases hf1 : fewN n with _ | _
  · rw [hf1] at F1
    clear hs hf1
    go_enter Tryz.func4, Tryz.ntmps4
    go_wp2_with fail
    rw [← HV.out]
    go_wp2_with fail
    with_reducible refine (F1.out _ HH.out).mono ?_
    rintro e w1 ⟨rfl, hb⟩
    replace HH := Lib.hid (HH.out.on hb)
    clear hb c0 c1 c2 c3
    obtain ⟨c0, c1, c2, c3⟩ := HH.out.cells
    go_wp2_with fail
    with_reducible refine (AW.out _ HH.out).mono ?_
    rintro e w9 ⟨rfl, hb⟩
    go_wp2
    go_ret
    exact ⟨rfl, below_step (Bk.below HH.out) hb⟩
  · rw [hf1] at F1
    by_cases h5 : 5000 < s.size
    · have q : decide ((5000 : Int) < (s.size : Int)) = true := decide_eq_true (by omega)
      clear hs hf1 h5
      go_enter Tryz.func4, Tryz.ntmps4
      go_wp2_with fail
      rw [← HV.out]
      go_wp2_with fail
      with_reducible refine (F1.out _ HH.out).mono ?_
      rintro e w1 ⟨rfl, hb⟩
      replace HH := Lib.hid (HH.out.on hb)
      clear hb c0 c1 c2 c3
      obtain ⟨c0, c1, c2, c3⟩ := HH.out.cells
      go_wp2_with fail
      with_reducible refine (AW.out _ HH.out).mono ?_
      rintro e w9 ⟨rfl, hb⟩
      go_wp2
      go_ret
      exact ⟨rfl, below_step (Bk.below HH.out) hb⟩
    · have q : decide ((5000 : Int) < (s.size : Int)) = false := decide_eq_false (by omega)
      have hn := (few_n hf1).1
      have PR : Hid (∀ W, Bk w n (.slice a1 z1 cap1) (.slice a2 z2 cap2) W → _) := Lib.hid fun W h => pRead_any s (by omega) W h.2.2.1
      have WN : Hid (∀ W, Bk w n (.slice a1 z1 cap1) (.slice a2 z2 cap2) W → _) := Lib.hid fun W h => pWrite_any n (.slice a1 z1 cap1) (.slice a2 z2 cap2) W h.2.1.1 h.2.1.2 (by omega)
      have KN : Hid (∀ W, Bk w n (.slice a1 z1 cap1) (.slice a2 z2 cap2) W → _) := Lib.hid fun W h => pKey_any n (.slice a1 z1 cap1) (.slice a2 z2 cap2) W h.2.1.1 h.2.1.2 (by omega)
      have FR : Hid (∀ W, Bk w n (.slice a1 z1 cap1) (.slice a2 z2 cap2) W → _) := Lib.hid fun W h => rFit_any n (.slice a1 z1 cap1) (.slice a2 z2 cap2) W h.2.1.1 h.2.1.2
      obtain ⟨T, hT, hT2⟩ := ex_str (wrN n)
      rw [← hT] at WN
      obtain ⟨P, hP, hP2⟩ := ex_str (keyN n)
      rw [← hP] at KN
      have HT := Lib.hid hT2; have HP := Lib.hid hP2
      clear hs hf1 h5 hn hT hP hT2 hP2
      go_enter Tryz.func4, Tryz.ntmps4
      go_wp2_with fail
      rw [← HV.out]
      go_wp2_with fail
      with_reducible refine (F1.out _ HH.out).mono ?_
      rintro e w1 ⟨rfl, hb⟩
      replace HH := Lib.hid (HH.out.on hb)
      clear hb c0 c1 c2 c3
      obtain ⟨c0, c1, c2, c3⟩ := HH.out.cells
      go_wp2_with fail
      with_reducible refine (PR.out _ HH.out).mono ?_
      rintro e w2 ⟨m, err, hR, pv3, ev3, rfl, hp3, he3, hb⟩
      replace HH := Lib.hid (HH.out.on hb)
      have HR := Lib.hid hR
      have HP3 := Lib.hid hp3; have HE3 := Lib.hid he3
      obtain ⟨_, a3, cap3, hv1, _, _⟩ := hp3
      obtain ⟨_, a4, cap4, hv2, _, _⟩ := he3
      obtain ⟨z3, hz1⟩ : ∃ z, z = m.ps.length := ⟨_, rfl⟩
      obtain ⟨z4, hz2⟩ : ∃ z, z = m.es.length := ⟨_, rfl⟩
      rw [← hz1] at hv1; rw [← hz2] at hv2
      clear hz1 hz2 hR
      subst hv1 hv2
      have H2 := Lib.hid (bk2_new HH.out m (.slice a3 z3 cap3) (.slice a4 z4 cap4) HP3.out HE3.out)
      obtain ⟨V3, hV3⟩ : ∃ V3, V3 = w2.alloc (.cells #[.int .i64 m.kd, .string m.d, .slice a3 z3 cap3, .slice a4 z4 cap4] 25) := ⟨_, rfl⟩
      rw [← hV3] at H2
      have HV3 := Lib.hid hV3
      replace HH := H2
      clear hb hV3 H2 HP3 HE3 q c0 c1 c2 c3
      obtain ⟨⟨c0, c1, c2, c3⟩, d0, d1, d2, d3⟩ := HH.out.cells
      rcases HR.out with ⟨he, hfm, hwm⟩ | ⟨he, hm, _⟩
      · subst he
        have WM : Hid (∀ W, Bk2 w n (.slice a1 z1 cap1) (.slice a2 z2 cap2) w2.heap.size m (.slice a3 z3 cap3) (.slice a4 z4 cap4) W → _) := Lib.hid fun W h => pWrite_any m (.slice a3 z3 cap3) (.slice a4 z4 cap4) W h.2.2.1 h.2.2.2 (by have := fit_data hfm; omega)
        have FM : Hid (∀ W, Bk2 w n (.slice a1 z1 cap1) (.slice a2 z2 cap2) w2.heap.size m (.slice a3 z3 cap3) (.slice a4 z4 cap4) W → _) := Lib.hid fun W h => pFit_any m (.slice a3 z3 cap3) (.slice a4 z4 cap4) W h.2.2.1 h.2.2.2
        rw [hfm] at FM
        have hw : (⟨(wrN m).toArray⟩ : ByteArray) = s := by rw [wrN_fit hfm, hwm]
        rw [hw] at WM
        clear hw hfm hwm
        go_wp2_with fail
        rw [← HV3.out]
        go_wp2_with fail
        with_reducible refine (WM.out _ HH.out).mono ?_
        rintro e w3 ⟨rfl, hb⟩
        replace HH := Lib.hid (HH.out.on hb)
        clear hb c0 c1 c2 c3 d0 d1 d2 d3
        obtain ⟨⟨c0, c1, c2, c3⟩, d0, d1, d2, d3⟩ := HH.out.cells
        go_wp2_with fail
        with_reducible refine (FM.out _ HH.out).mono ?_
        rintro e w4 ⟨rfl, hb⟩
        replace HH := Lib.hid (HH.out.on hb)
        clear hb c0 c1 c2 c3 d0 d1 d2 d3
        obtain ⟨⟨c0, c1, c2, c3⟩, d0, d1, d2, d3⟩ := HH.out.cells
        replace HH := Lib.hid (Bk2.bk HH.out)
        clear d0 d1 d2 d3 HR HV3
        go_wp2_with fail
        with_reducible refine (WN.out _ HH.out).mono ?_
        rintro e w5 ⟨rfl, hb⟩
        replace HH := Lib.hid (HH.out.on hb)
        clear hb c0 c1 c2 c3
        obtain ⟨c0, c1, c2, c3⟩ := HH.out.cells
        rcases hfn : fitN n with _ | _
        · rw [hfn] at FR
          have qt : T.toList.isEmpty = true := by rw [Lib.toList_data, HT.out, wrN_un hfn]; rfl
          have qp : P.toList.isEmpty = true := by rw [Lib.toList_data, HP.out, keyN_un hfn]; rfl
          clear hfn
          go_wp2_with fail
          with_reducible refine (FR.out _ HH.out).mono ?_
          rintro e w6 ⟨rfl, hb⟩
          replace HH := Lib.hid (HH.out.on hb)
          clear hb c0 c1 c2 c3
          obtain ⟨c0, c1, c2, c3⟩ := HH.out.cells
          go_wp2_with fail
          with_reducible refine (KN.out _ HH.out).mono ?_
          rintro e w7 ⟨rfl, hb⟩
          replace HH := Lib.hid (HH.out.on hb)
          clear hb c0 c1 c2 c3
          obtain ⟨c0, c1, c2, c3⟩ := HH.out.cells
          go_wp2_with fail
          with_reducible refine (AW.out _ HH.out).mono ?_
          rintro e w9 ⟨rfl, hb⟩
          go_wp2
          go_ret
          exact ⟨rfl, below_step (Bk.below HH.out) hb⟩
        · rw [hfn] at FR
          have l1 := wrL_len hfn
          have HTL : Hid (T.data.toList = wrL n) := Lib.hid (by rw [HT.out, wrN_fit hfn])
          have RT : Hid (∀ W, Bk w n (.slice a1 z1 cap1) (.slice a2 z2 cap2) W → _) := Lib.hid fun W h => pRead_any T (by rw [Lib.size_eq, HTL.out]; omega) W h.2.2.1
          have S1 : Hid (∀ W, Bk w n (.slice a1 z1 cap1) (.slice a2 z2 cap2) W → _) := Lib.hid fun W h => refSum_any T (by rw [Lib.size_eq, HTL.out]; omega) W
          have hPS : (⟨(shaSum T.data.toList).toArray⟩ : ByteArray) = P := by rw [HTL.out, ← keyN_fit hfn]; exact (str_list HP.out).symm
          rw [hPS] at S1
          have HF := Lib.hid hfn
          clear hfn l1 hPS
          go_wp2_with fail
          with_reducible refine (FR.out _ HH.out).mono ?_
          rintro e w6 ⟨rfl, hb⟩
          replace HH := Lib.hid (HH.out.on hb)
          clear hb c0 c1 c2 c3
          obtain ⟨c0, c1, c2, c3⟩ := HH.out.cells
          go_wp2_with fail
          with_reducible refine (RT.out _ HH.out).mono ?_
          rintro e w7 ⟨o, err2, hR2, pv5, ev5, rfl, hp5, he5, hb⟩
          replace HH := Lib.hid (HH.out.on hb)
          obtain ⟨rfl, rfl⟩ := rdOk_same hR2 (.inl ⟨rfl, HF.out, HTL.out.symm⟩)
          have HP5 := Lib.hid hp5; have HE5 := Lib.hid he5
          obtain ⟨_, a5, cap5, hv1, _, _⟩ := hp5
          obtain ⟨_, a6, cap6, hv2, _, _⟩ := he5
          obtain ⟨z5, hz1⟩ : ∃ z, z = o.ps.length := ⟨_, rfl⟩
          obtain ⟨z6, hz2⟩ : ∃ z, z = o.es.length := ⟨_, rfl⟩
          rw [← hz1] at hv1; rw [← hz2] at hv2
          clear hz1 hz2 hR2
          subst hv1 hv2
          have H2 := Lib.hid (bk2_new HH.out o (.slice a5 z5 cap5) (.slice a6 z6 cap6) HP5.out HE5.out)
          obtain ⟨V5, hV5⟩ : ∃ V5, V5 = w7.alloc (.cells #[.int .i64 o.kd, .string o.d, .slice a5 z5 cap5, .slice a6 z6 cap6] 25) := ⟨_, rfl⟩
          rw [← hV5] at H2
          have HV5 := Lib.hid hV5
          have SO : Hid (∀ W, Bk2 w o (.slice a1 z1 cap1) (.slice a2 z2 cap2) w7.heap.size o (.slice a5 z5 cap5) (.slice a6 z6 cap6) W → _) := Lib.hid fun W h => rSame_any o o (.slice a5 z5 cap5) (.slice a6 z6 cap6) (.slice a1 z1 cap1) (.slice a2 z2 cap2) W h.2.2.1 h.2.2.2 h.1.2.1.1 h.1.2.1.2
          rw [sameN_yes rfl] at SO
          have hlx := (HH.out).1.2
          clear c0 c1 c2 c3
          obtain ⟨c0, c1, c2, c3⟩ := HH.out.cells
          replace HH := H2
          clear hb hV5 H2 HP5 HE5
          go_wp2_with fail
          rw [← HV5.out]
          clear hlx c0 c1 c2 c3
          obtain ⟨⟨c0, c1, c2, c3⟩, d0, d1, d2, d3⟩ := HH.out.cells
          go_wp2_with fail
          with_reducible refine (SO.out _ HH.out).mono ?_
          rintro e w8 ⟨rfl, hb⟩
          replace HH := Lib.hid (HH.out.on hb)
          clear hb c0 c1 c2 c3 d0 d1 d2 d3
          obtain ⟨⟨c0, c1, c2, c3⟩, d0, d1, d2, d3⟩ := HH.out.cells
          go_wp2_with fail
          with_reducible refine (KN.out _ (Bk2.bk HH.out)).mono ?_
          rintro e w10 ⟨rfl, hb⟩
          replace HH := Lib.hid (HH.out.on hb)
          clear hb c0 c1 c2 c3 d0 d1 d2 d3
          obtain ⟨⟨c0, c1, c2, c3⟩, d0, d1, d2, d3⟩ := HH.out.cells
          go_wp2_with fail
          with_reducible refine (S1.out _ (Bk2.bk HH.out)).mono ?_
          rintro e w11 ⟨rfl, hb⟩
          replace HH := Lib.hid (HH.out.on hb)
          clear hb c0 c1 c2 c3 d0 d1 d2 d3
          obtain ⟨⟨c0, c1, c2, c3⟩, d0, d1, d2, d3⟩ := HH.out.cells
          go_wp2_with fail
          with_reducible refine (AW.out _ (Bk2.bk HH.out)).mono ?_
          rintro e w9 ⟨rfl, hb⟩
          go_wp2
          go_ret
          exact ⟨rfl, below_step (Bk.below (Bk2.bk HH.out)) hb⟩
      · subst he
        have hsm : sameN m zeroNd = true := sameN_yes hm
        have SZ : Hid (∀ W, Bk2 w n (.slice a1 z1 cap1) (.slice a2 z2 cap2) w2.heap.size m (.slice a3 z3 cap3) (.slice a4 z4 cap4) W → Calls Tryz.prog 12 #[ndV m (.slice a3 z3 cap3) (.slice a4 z4 cap4), .agg #[.int .i64 0, .string ⟨#[]⟩, .slice none 0 0, .slice none 0 0]] W fun e w' => e = .returned (.bool true) ∧ Below W.heap.size W w') := Lib.hid fun W h => by rw [← hsm]; exact rSame_any m zeroNd (.slice a3 z3 cap3) (.slice a4 z4 cap4) (.slice none 0 0) (.slice none 0 0) W h.2.2.1 h.2.2.2 (parts_nil _) (entries_nil _)
        clear hsm hm
        go_wp2_with fail
        rw [← HV3.out]
        go_wp2_with fail
        with_reducible refine (SZ.out _ HH.out).mono ?_
        rintro e w3 ⟨rfl, hb⟩
        replace HH := Lib.hid (HH.out.on hb)
        clear hb c0 c1 c2 c3 d0 d1 d2 d3
        obtain ⟨⟨c0, c1, c2, c3⟩, d0, d1, d2, d3⟩ := HH.out.cells
        replace HH := Lib.hid (Bk2.bk HH.out)
        clear d0 d1 d2 d3 HR HV3
        go_wp2_with fail
        with_reducible refine (WN.out _ HH.out).mono ?_
        rintro e w5 ⟨rfl, hb⟩
        replace HH := Lib.hid (HH.out.on hb)
        clear hb c0 c1 c2 c3
        obtain ⟨c0, c1, c2, c3⟩ := HH.out.cells
        rcases hfn : fitN n with _ | _
        · rw [hfn] at FR
          have qt : T.toList.isEmpty = true := by rw [Lib.toList_data, HT.out, wrN_un hfn]; rfl
          have qp : P.toList.isEmpty = true := by rw [Lib.toList_data, HP.out, keyN_un hfn]; rfl
          clear hfn
          go_wp2_with fail
          with_reducible refine (FR.out _ HH.out).mono ?_
          rintro e w6 ⟨rfl, hb⟩
          replace HH := Lib.hid (HH.out.on hb)
          clear hb c0 c1 c2 c3
          obtain ⟨c0, c1, c2, c3⟩ := HH.out.cells
          go_wp2_with fail
          with_reducible refine (KN.out _ HH.out).mono ?_
          rintro e w7 ⟨rfl, hb⟩
          replace HH := Lib.hid (HH.out.on hb)
          clear hb c0 c1 c2 c3
          obtain ⟨c0, c1, c2, c3⟩ := HH.out.cells
          go_wp2_with fail
          with_reducible refine (AW.out _ HH.out).mono ?_
          rintro e w9 ⟨rfl, hb⟩
          go_wp2
          go_ret
          exact ⟨rfl, below_step (Bk.below HH.out) hb⟩
        · rw [hfn] at FR
          have l1 := wrL_len hfn
          have HTL : Hid (T.data.toList = wrL n) := Lib.hid (by rw [HT.out, wrN_fit hfn])
          have RT : Hid (∀ W, Bk w n (.slice a1 z1 cap1) (.slice a2 z2 cap2) W → _) := Lib.hid fun W h => pRead_any T (by rw [Lib.size_eq, HTL.out]; omega) W h.2.2.1
          have S1 : Hid (∀ W, Bk w n (.slice a1 z1 cap1) (.slice a2 z2 cap2) W → _) := Lib.hid fun W h => refSum_any T (by rw [Lib.size_eq, HTL.out]; omega) W
          have hPS : (⟨(shaSum T.data.toList).toArray⟩ : ByteArray) = P := by rw [HTL.out, ← keyN_fit hfn]; exact (str_list HP.out).symm
          rw [hPS] at S1
          have HF := Lib.hid hfn
          clear hfn l1 hPS
          go_wp2_with fail
          with_reducible refine (FR.out _ HH.out).mono ?_
          rintro e w6 ⟨rfl, hb⟩
          replace HH := Lib.hid (HH.out.on hb)
          clear hb c0 c1 c2 c3
          obtain ⟨c0, c1, c2, c3⟩ := HH.out.cells
          go_wp2_with fail
          with_reducible refine (RT.out _ HH.out).mono ?_
          rintro e w7 ⟨o, err2, hR2, pv5, ev5, rfl, hp5, he5, hb⟩
          replace HH := Lib.hid (HH.out.on hb)
          obtain ⟨rfl, rfl⟩ := rdOk_same hR2 (.inl ⟨rfl, HF.out, HTL.out.symm⟩)
          have HP5 := Lib.hid hp5; have HE5 := Lib.hid he5
          obtain ⟨_, a5, cap5, hv1, _, _⟩ := hp5
          obtain ⟨_, a6, cap6, hv2, _, _⟩ := he5
          obtain ⟨z5, hz1⟩ : ∃ z, z = o.ps.length := ⟨_, rfl⟩
          obtain ⟨z6, hz2⟩ : ∃ z, z = o.es.length := ⟨_, rfl⟩
          rw [← hz1] at hv1; rw [← hz2] at hv2
          clear hz1 hz2 hR2
          subst hv1 hv2
          have H2 := Lib.hid (bk2_new HH.out o (.slice a5 z5 cap5) (.slice a6 z6 cap6) HP5.out HE5.out)
          obtain ⟨V5, hV5⟩ : ∃ V5, V5 = w7.alloc (.cells #[.int .i64 o.kd, .string o.d, .slice a5 z5 cap5, .slice a6 z6 cap6] 25) := ⟨_, rfl⟩
          rw [← hV5] at H2
          have HV5 := Lib.hid hV5
          have SO : Hid (∀ W, Bk2 w o (.slice a1 z1 cap1) (.slice a2 z2 cap2) w7.heap.size o (.slice a5 z5 cap5) (.slice a6 z6 cap6) W → _) := Lib.hid fun W h => rSame_any o o (.slice a5 z5 cap5) (.slice a6 z6 cap6) (.slice a1 z1 cap1) (.slice a2 z2 cap2) W h.2.2.1 h.2.2.2 h.1.2.1.1 h.1.2.1.2
          rw [sameN_yes rfl] at SO
          have hlx := (HH.out).1.2
          clear c0 c1 c2 c3
          obtain ⟨c0, c1, c2, c3⟩ := HH.out.cells
          replace HH := H2
          clear hb hV5 H2 HP5 HE5
          go_wp2_with fail
          rw [← HV5.out]
          clear hlx c0 c1 c2 c3
          obtain ⟨⟨c0, c1, c2, c3⟩, d0, d1, d2, d3⟩ := HH.out.cells
          go_wp2_with fail
          with_reducible refine (SO.out _ HH.out).mono ?_
          rintro e w8 ⟨rfl, hb⟩
          replace HH := Lib.hid (HH.out.on hb)
          clear hb c0 c1 c2 c3 d0 d1 d2 d3
          obtain ⟨⟨c0, c1, c2, c3⟩, d0, d1, d2, d3⟩ := HH.out.cells
          go_wp2_with fail
          with_reducible refine (KN.out _ (Bk2.bk HH.out)).mono ?_
          rintro e w10 ⟨rfl, hb⟩
          replace HH := Lib.hid (HH.out.on hb)
          clear hb c0 c1 c2 c3 d0 d1 d2 d3
          obtain ⟨⟨c0, c1, c2, c3⟩, d0, d1, d2, d3⟩ := HH.out.cells
          go_wp2_with fail
          with_reducible refine (S1.out _ (Bk2.bk HH.out)).mono ?_
          rintro e w11 ⟨rfl, hb⟩
          replace HH := Lib.hid (HH.out.on hb)
          clear hb c0 c1 c2 c3 d0 d1 d2 d3
          obtain ⟨⟨c0, c1, c2, c3⟩, d0, d1, d2, d3⟩ := HH.out.cells
          go_wp2_with fail
          with_reducible refine (AW.out _ (Bk2.bk HH.out)).mono ?_
          rintro e w9 ⟨rfl, hb⟩
          go_wp2
          go_ret
          exact ⟨rfl, below_step (Bk.below (Bk2.bk HH.out)) hb⟩
end Go.Proofs.YtohicccbaenegaaGreatDoor

/-
  NodeWrites as a walk over this translation.
-/
import Derived.Test.YtohicccbaenegaaGreatDoorYNfa
import Derived.Test.YtohicccbaenegaaGreatDoorYNeb
import Derived.Test.YtohicccbaenegaaGreatDoorYNed
import Derived.Test.YtohicccbaenegaaGreatDoorYKed
import Derived.Test.YtohicccbaenegaaGreatDoorQ1
set_option linter.unusedVariables false
namespace Go.Proofs.YtohicccbaenegaaGreatDoor
open Go.RowKit
attribute [local go_sem] Oper.semAt_some

theorem lawSame_eq (v1 v2 : Value) (L : List ByteArray) (w : World) (h1 : IsStrs w v1 L) (h2 : IsStrs w v2 L) :
    Calls Tryz.prog 17 #[v1, v2] w fun e w' => e = .returned (.bool true) ∧ Below w.heap.size w w' := by
  have C := Lib.hid (Same_eq v1 v2 L w h1 h2)
  clear h1 h2
  go_enter Tryz.func17, Tryz.ntmps17
  go_wp2_with fail
  refine C.out.mono ?_
  rintro e w1 ⟨rfl, hb⟩
  go_wp2
  go_ret
  exact ⟨rfl, hb⟩

/-- What is said of each operation of a region of NodeWrites. -/
def nwsU (w0 : World) (n m : Nd) (a1 a2 a3 a4 : Option Addr) (z1 z2 z3 z4 cap1 cap2 cap3 cap4 : Nat) (f1 sm : Bool) (S P : ByteArray) (KL : List ByteArray) : Nat → Value → Value → World → Prop
  | 0 => fun v _ _ => v = ndV n (.slice a1 z1 cap1) (.slice a2 z2 cap2)
  | 1 => fun v _ _ => v = .bool f1
  | 2 => fun v _ _ => v = ndV n (.slice a1 z1 cap1) (.slice a2 z2 cap2)
  | 3 => fun v _ _ => v = .bool f1
  | 4 => fun v _ _ => v = .bool true
  | 5 => fun v _ _ => v = .bool true
  | 6 => fun v _ _ => v = ndV n (.slice a1 z1 cap1) (.slice a2 z2 cap2)
  | 7 => fun v _ _ => v = ndV m (.slice a3 z3 cap3) (.slice a4 z4 cap4)
  | 8 => fun v _ _ => v = .bool sm
  | 9 => fun v _ _ => v = ndV n (.slice a1 z1 cap1) (.slice a2 z2 cap2)
  | 10 => fun v _ _ => v = ndV m (.slice a3 z3 cap3) (.slice a4 z4 cap4)
  | 11 => fun v _ _ => v = .bool sm
  | 12 => fun v _ _ => v = .bool true
  | 13 => fun v _ _ => v = .bool true
  | 14 => fun v _ _ => v = .bool true
  | 15 => fun v _ _ => v = ndV n (.slice a1 z1 cap1) (.slice a2 z2 cap2)
  | 16 => fun v _ _ => v = ndV n (.slice a1 z1 cap1) (.slice a2 z2 cap2)
  | 17 => fun v _ _ => v = .bool true
  | 18 => fun v _ _ => v = .bool true
  | 19 => fun v _ _ => v = .bool true
  | 20 => fun v _ _ => v = ndV n (.slice a1 z1 cap1) (.slice a2 z2 cap2)
  | 21 => fun v _ _ => v = .string S
  | 22 => fun v _ _ => v = ndV n (.slice a1 z1 cap1) (.slice a2 z2 cap2)
  | 23 => fun v _ _ => v = .string S
  | 24 => fun v _ _ => v = .bool true
  | 25 => fun v _ _ => v = .bool true
  | 26 => fun v _ _ => v = .bool true
  | 27 => fun v _ _ => v = ndV n (.slice a1 z1 cap1) (.slice a2 z2 cap2)
  | 28 => fun v _ _ => v = .string P
  | 29 => fun v _ _ => v = ndV n (.slice a1 z1 cap1) (.slice a2 z2 cap2)
  | 30 => fun v _ _ => v = .string P
  | 31 => fun v _ _ => v = .bool true
  | 32 => fun v _ _ => v = .bool true
  | 33 => fun v _ _ => v = .bool true
  | 34 => fun v _ _ => v = ndV n (.slice a1 z1 cap1) (.slice a2 z2 cap2)
  | 35 => fun v _ w => IsStrs w v KL
  | 36 => fun v _ _ => v = ndV n (.slice a1 z1 cap1) (.slice a2 z2 cap2)
  | 37 => fun v _ w => IsStrs w v KL
  | 38 => fun v _ _ => v = .bool true
  | 39 => fun v _ _ => v = .bool true
  | 40 => fun v _ _ => v = .bool true
  | 41 => fun v _ _ => v = .bool true
  | 42 => fun v _ _ => v = .bool true
  | 43 => fun v _ _ => v = .bool true
  | _ => fun _ _ _ => True
def nwsN : List (List Nat) := [[], [0], [], [2], [1, 3], [4], [5], [5], [6, 7, 5], [5], [5], [9, 10, 5], [8, 11, 5], [5, 12], [13], [14], [14], [15, 16, 14], [14, 17], [18], [19], [20, 19], [19], [22, 19], [21, 23, 19], [19, 24], [25], [26], [27, 26], [26], [29, 26], [28, 30, 26], [26, 31], [32], [33], [34, 33], [33], [36, 33], [35, 37, 33], [33, 38], [39], [40], [40, 41], [42]]
def nwsE : Nat → Option Tmp
  | _ => none
def nwsB : List (Nat × Nat) := []
theorem nws_T (w0 : World) (n m : Nd) (a1 a2 a3 a4 : Option Addr) (z1 z2 z3 z4 cap1 cap2 cap3 cap4 : Nat) (f1 sm : Bool) (S P : ByteArray) (KL : List ByteArray) (ix kx : Nat) (v e : Value) (w w' : World) (hk : kx < 44) (hne : kx ≠ ix) (hbd : (ix, kx) ∉ nwsB) (hU : (nwsU w0 n m a1 a2 a3 a4 z1 z2 z3 z4 cap1 cap2 cap3 cap4 f1 sm S P KL) kx v e w) (hT : allT ix w w') : (nwsU w0 n m a1 a2 a3 a4 z1 z2 z3 z4 cap1 cap2 cap3 cap4 f1 sm S P KL) kx v e w' := by
  have hb : Below w.heap.size w w' := hT
  rcases (show kx = 0 ∨ kx = 1 ∨ kx = 2 ∨ kx = 3 ∨ kx = 4 ∨ kx = 5 ∨ kx = 6 ∨ kx = 7 ∨ kx = 8 ∨ kx = 9 ∨ kx = 10 ∨ kx = 11 ∨ kx = 12 ∨ kx = 13 ∨ kx = 14 ∨ kx = 15 ∨ kx = 16 ∨ kx = 17 ∨ kx = 18 ∨ kx = 19 ∨ kx = 20 ∨ kx = 21 ∨ kx = 22 ∨ kx = 23 ∨ kx = 24 ∨ kx = 25 ∨ kx = 26 ∨ kx = 27 ∨ kx = 28 ∨ kx = 29 ∨ kx = 30 ∨ kx = 31 ∨ kx = 32 ∨ kx = 33 ∨ kx = 34 ∨ kx = 35 ∨ kx = 36 ∨ kx = 37 ∨ kx = 38 ∨ kx = 39 ∨ kx = 40 ∨ kx = 41 ∨ kx = 42 ∨ kx = 43 by omega) with rfl | rfl | rfl | rfl | rfl | rfl | rfl | rfl | rfl | rfl | rfl | rfl | rfl | rfl | rfl | rfl | rfl | rfl | rfl | rfl | rfl | rfl | rfl | rfl | rfl | rfl | rfl | rfl | rfl | rfl | rfl | rfl | rfl | rfl | rfl | rfl | rfl | rfl | rfl | rfl | rfl | rfl | rfl | rfl
  · exact hU
  · exact hU
  · exact hU
  · exact hU
  · exact hU
  · exact hU
  · exact hU
  · exact hU
  · exact hU
  · exact hU
  · exact hU
  · exact hU
  · exact hU
  · exact hU
  · exact hU
  · exact hU
  · exact hU
  · exact hU
  · exact hU
  · exact hU
  · exact hU
  · exact hU
  · exact hU
  · exact hU
  · exact hU
  · exact hU
  · exact hU
  · exact hU
  · exact hU
  · exact hU
  · exact hU
  · exact hU
  · exact hU
  · exact hU
  · exact hU
  · exact IsStrs.stays hU hb
  · exact hU
  · exact IsStrs.stays hU hb
  · exact hU
  · exact hU
  · exact hU
  · exact hU
  · exact hU
  · exact hU

set_option maxRecDepth 100000 in
set_option maxHeartbeats 40000000 in
theorem NodeWrites_w (n : Nd) (pv ev : Value) (m : Nd) (pv2 ev2 : Value) (w0 : World) (hp : IsParts w0 pv n.ps) (he : IsEntries w0 ev n.es) (hp2 : IsParts w0 pv2 m.ps) (he2 : IsEntries w0 ev2 m.es) (hT : ErrT w0) :
    Calls Tryz.prog 3 #[ndV n pv ev, ndV m pv2 ev2] w0 fun e w' => e = .returned (.bool true) ∧ Below w0.heap.size w0 w' := by
  have HN := two_new w0 n m pv ev pv2 ev2 hp he hp2 he2 hT
  obtain ⟨_, a1, cap1, hv1, _, _⟩ := hp
  obtain ⟨_, a2, cap2, hv2, _, _⟩ := he
  obtain ⟨_, a3, cap3, hv3, _, _⟩ := hp2
  obtain ⟨_, a4, cap4, hv4, _, _⟩ := he2
  subst hv1 hv2 hv3 hv4
  obtain ⟨z1, hz1⟩ : ∃ z, z = n.ps.length := ⟨_, rfl⟩
  obtain ⟨z2, hz2⟩ : ∃ z, z = n.es.length := ⟨_, rfl⟩
  obtain ⟨z3, hz3⟩ : ∃ z, z = m.ps.length := ⟨_, rfl⟩
  obtain ⟨z4, hz4⟩ : ∃ z, z = m.es.length := ⟨_, rfl⟩
  rw [← hz1, ← hz2, ← hz3, ← hz4] at HN
  have P1 : n.ps.length = z1 := hz1.symm
  rw [← hz1, ← hz2, ← hz3, ← hz4]
  clear P1 hz1 hz2 hz3 hz4 hT
  obtain ⟨V, hV⟩ : ∃ V, V = (w0.alloc (.cells #[.int .i64 n.kd, .string n.d, .slice a1 z1 cap1, .slice a2 z2 cap2] 25)).alloc (.cells #[.int .i64 m.kd, .string m.d, .slice a3 z3 cap3, .slice a4 z4 cap4] 25) := ⟨_, rfl⟩
  rw [← hV] at HN
  have HH := Lib.hid HN
  have HV := Lib.hid hV
  have AW : Hid (∀ W, Two w0 n m (.slice a1 z1 cap1) (.slice a2 z2 cap2) (.slice a3 z3 cap3) (.slice a4 z4 cap4) W → _) := Lib.hid fun W h => awake_any W h.2.2.1
  have F1 : Hid (∀ W, Two w0 n m (.slice a1 z1 cap1) (.slice a2 z2 cap2) (.slice a3 z3 cap3) (.slice a4 z4 cap4) W → _) := Lib.hid fun W h => few_any n (.slice a1 z1 cap1) (.slice a2 z2 cap2) W h.2.1.1 h.2.1.2.1
  have F2 : Hid (∀ W, Two w0 n m (.slice a1 z1 cap1) (.slice a2 z2 cap2) (.slice a3 z3 cap3) (.slice a4 z4 cap4) W → _) := Lib.hid fun W h => few_any m (.slice a3 z3 cap3) (.slice a4 z4 cap4) W h.2.1.2.2.1 h.2.1.2.2.2
  obtain ⟨⟨c0, c1, c2, c3⟩, d0, d1, d2, d3⟩ := HH.out.cells
  clear hV HN
  rcases hf1 : fewN n with _ | _
  · rw [hf1] at F1
    go_enter Tryz.func3, Tryz.ntmps3
    go_wp2_with fail
    rw [← HV.out]
    go_wp2_with fail
    with_reducible refine (F1.out _ HH.out).mono ?_
    rintro e w1 ⟨rfl, hb⟩
    replace HH := Lib.hid (HH.out.on hb)
    clear hb c0 c1 c2 c3 d0 d1 d2 d3
    obtain ⟨⟨c0, c1, c2, c3⟩, d0, d1, d2, d3⟩ := HH.out.cells
    go_wp2_with fail
    with_reducible refine (AW.out _ HH.out).mono ?_
    rintro e w9 ⟨rfl, hb⟩
    go_wp2
    go_ret
    exact ⟨rfl, below_step HH.out.below hb⟩
  · rcases hf2 : fewN m with _ | _
    · rw [hf1] at F1; rw [hf2] at F2
      go_enter Tryz.func3, Tryz.ntmps3
      go_wp2_with fail
      rw [← HV.out]
      go_wp2_with fail
      with_reducible refine (F1.out _ HH.out).mono ?_
      rintro e w1 ⟨rfl, hb⟩
      replace HH := Lib.hid (HH.out.on hb)
      clear hb c0 c1 c2 c3 d0 d1 d2 d3
      obtain ⟨⟨c0, c1, c2, c3⟩, d0, d1, d2, d3⟩ := HH.out.cells
      go_wp2_with fail
      with_reducible refine (F2.out _ HH.out).mono ?_
      rintro e w2 ⟨rfl, hb⟩
      replace HH := Lib.hid (HH.out.on hb)
      clear hb c0 c1 c2 c3 d0 d1 d2 d3
      obtain ⟨⟨c0, c1, c2, c3⟩, d0, d1, d2, d3⟩ := HH.out.cells
      go_wp2_with fail
      with_reducible refine (AW.out _ HH.out).mono ?_
      rintro e w9 ⟨rfl, hb⟩
      go_wp2
      go_ret
      exact ⟨rfl, below_step HH.out.below hb⟩
    · rw [hf1] at F1; rw [hf2] at F2
      obtain ⟨hn, hl1, hl2, _, _⟩ := few_n hf1
      have hm := (few_n hf2).1
      have CF : Hid (∀ W, Two w0 n m (.slice a1 z1 cap1) (.slice a2 z2 cap2) (.slice a3 z3 cap3) (.slice a4 z4 cap4) W → _) := Lib.hid fun W h => pFit_any n (.slice a1 z1 cap1) (.slice a2 z2 cap2) W h.2.1.1 h.2.1.2.1
      have CR : Hid (∀ W, Two w0 n m (.slice a1 z1 cap1) (.slice a2 z2 cap2) (.slice a3 z3 cap3) (.slice a4 z4 cap4) W → _) := Lib.hid fun W h => rFit_any n (.slice a1 z1 cap1) (.slice a2 z2 cap2) W h.2.1.1 h.2.1.2.1
      have CS : Hid (∀ W, Two w0 n m (.slice a1 z1 cap1) (.slice a2 z2 cap2) (.slice a3 z3 cap3) (.slice a4 z4 cap4) W → _) := Lib.hid fun W h => pSame_any n m (.slice a1 z1 cap1) (.slice a2 z2 cap2) (.slice a3 z3 cap3) (.slice a4 z4 cap4) W h.2.1.1 h.2.1.2.1 h.2.1.2.2.1 h.2.1.2.2.2
      have CT : Hid (∀ W, Two w0 n m (.slice a1 z1 cap1) (.slice a2 z2 cap2) (.slice a3 z3 cap3) (.slice a4 z4 cap4) W → _) := Lib.hid fun W h => rSame_any n m (.slice a1 z1 cap1) (.slice a2 z2 cap2) (.slice a3 z3 cap3) (.slice a4 z4 cap4) W h.2.1.1 h.2.1.2.1 h.2.1.2.2.1 h.2.1.2.2.2
      have CN : Hid (∀ W, Two w0 n m (.slice a1 z1 cap1) (.slice a2 z2 cap2) (.slice a3 z3 cap3) (.slice a4 z4 cap4) W → _) := Lib.hid fun W h => pSame_any n n (.slice a1 z1 cap1) (.slice a2 z2 cap2) (.slice a1 z1 cap1) (.slice a2 z2 cap2) W h.2.1.1 h.2.1.2.1 h.2.1.1 h.2.1.2.1
      have W1 : Hid (∀ W, Two w0 n m (.slice a1 z1 cap1) (.slice a2 z2 cap2) (.slice a3 z3 cap3) (.slice a4 z4 cap4) W → _) := Lib.hid fun W h => pWrite_any n (.slice a1 z1 cap1) (.slice a2 z2 cap2) W h.2.1.1 h.2.1.2.1 (by omega)
      have W2 : Hid (∀ W, Two w0 n m (.slice a1 z1 cap1) (.slice a2 z2 cap2) (.slice a3 z3 cap3) (.slice a4 z4 cap4) W → _) := Lib.hid fun W h => rWrite_any n (.slice a1 z1 cap1) (.slice a2 z2 cap2) W h.2.1.1 h.2.1.2.1
      have K1 : Hid (∀ W, Two w0 n m (.slice a1 z1 cap1) (.slice a2 z2 cap2) (.slice a3 z3 cap3) (.slice a4 z4 cap4) W → _) := Lib.hid fun W h => pKey_any n (.slice a1 z1 cap1) (.slice a2 z2 cap2) W h.2.1.1 h.2.1.2.1 (by omega)
      have K2 : Hid (∀ W, Two w0 n m (.slice a1 z1 cap1) (.slice a2 z2 cap2) (.slice a3 z3 cap3) (.slice a4 z4 cap4) W → _) := Lib.hid fun W h => rKey_any n (.slice a1 z1 cap1) (.slice a2 z2 cap2) W h.2.1.1 h.2.1.2.1
      rw [sameN_yes rfl] at CN
      obtain ⟨KL, hKL⟩ : ∃ KL, KL = strsOf (ofL (kidsN n)) := ⟨_, rfl⟩
      have L1 : Hid (∀ W, Two w0 n m (.slice a1 z1 cap1) (.slice a2 z2 cap2) (.slice a3 z3 cap3) (.slice a4 z4 cap4) W → Calls Tryz.prog 18 #[ndV n (.slice a1 z1 cap1) (.slice a2 z2 cap2)] W fun e w' => ∃ v', e = .returned v' ∧ IsStrs w' v' KL ∧ Below W.heap.size W w') := Lib.hid fun W h => by rw [hKL]; exact pKids_any n (.slice a1 z1 cap1) (.slice a2 z2 cap2) W h.2.1.1 h.2.1.2.1 (by omega)
      have L2 : Hid (∀ W, Two w0 n m (.slice a1 z1 cap1) (.slice a2 z2 cap2) (.slice a3 z3 cap3) (.slice a4 z4 cap4) W → Calls Tryz.prog 19 #[ndV n (.slice a1 z1 cap1) (.slice a2 z2 cap2)] W fun e w' => ∃ v', e = .returned v' ∧ IsStrs w' v' KL ∧ Below W.heap.size W w') := Lib.hid fun W h => by rw [hKL]; exact rKids_any n (.slice a1 z1 cap1) (.slice a2 z2 cap2) W h.2.1.1 h.2.1.2.1 (by omega)
      obtain ⟨f1, hf⟩ : ∃ f, f = fitN n := ⟨_, rfl⟩
      rw [← hf] at CF CR
      obtain ⟨sm, hsm⟩ : ∃ f, f = sameN n m := ⟨_, rfl⟩
      rw [← hsm] at CS CT
      obtain ⟨S, hS⟩ : ∃ S : ByteArray, S = ⟨(wrN n).toArray⟩ := ⟨_, rfl⟩
      rw [← hS] at W1 W2
      obtain ⟨P, hP⟩ : ∃ P : ByteArray, P = ⟨(keyN n).toArray⟩ := ⟨_, rfl⟩
      rw [← hP] at K1 K2
      clear hKL hf hsm hS hP hf1 hf2 hn hl1 hl2 hm
      go_enter Tryz.func3, Tryz.ntmps3
      go_wp2_with fail
      rw [← HV.out]
      go_wp2_with fail
      with_reducible refine (F1.out _ HH.out).mono ?_
      rintro e w1 ⟨rfl, hb⟩
      replace HH := Lib.hid (HH.out.on hb)
      clear hb c0 c1 c2 c3 d0 d1 d2 d3
      obtain ⟨⟨c0, c1, c2, c3⟩, d0, d1, d2, d3⟩ := HH.out.cells
      go_wp2_with fail
      with_reducible refine (F2.out _ HH.out).mono ?_
      rintro e w2 ⟨rfl, hb⟩
      replace HH := Lib.hid (HH.out.on hb)
      clear hb c0 c1 c2 c3 d0 d1 d2 d3
      obtain ⟨⟨c0, c1, c2, c3⟩, d0, d1, d2, d3⟩ := HH.out.cells
      go_wp2_with fail
      clear c0 c1 c2 c3 d0 d1 d2 d3
      refine wp_region_wordsG (by kernel_rfl) (by kernel_rfl) allT (Two w0 n m (.slice a1 z1 cap1) (.slice a2 z2 cap2) (.slice a3 z3 cap3) (.slice a4 z4 cap4)) nwsE (nwsU w0 n m a1 a2 a3 a4 z1 z2 z3 z4 cap1 cap2 cap3 cap4 f1 sm S P KL) 44 nwsN [43] (by kernel_rfl) (by kernel_rfl) (by kernel_rfl)
        nwsB (by kernel_rfl) (fun ix kx v e w w' hi hk hne hb hU hT => nws_T _ _ _ _ _ _ _ _ _ _ _ _ _ _ _ _ _ _ _ _  ix kx v e w w' hk hne hb hU hT) (by decide) (HH.out.on ((Below.refl _ _).drew)) (fun k hk hge => absurd hk (Nat.not_lt.2 (show 44 ≤ k from hge)))
        [14, 15, 16, 17, 18, 19, 20, 21, 22, 23, 24, 25, 26, 27, 28, 29, 30, 31, 32, 33, 34, 35, 36, 37, 38, 39, 40, 41, 42, 43, 44, 45, 46, 47, 48, 49, 50, 51, 52, 53, 54, 55, 56, 4] (by kernel_rfl) (forall_ops ?steps) ?behind
      case steps =>
        refine ⟨?_, ?_, ?_, ?_, ?_, ?_, ?_, ?_, ?_, ?_, ?_, ?_, ?_, ?_, ?_, ?_, ?_, ?_, ?_, ?_, ?_, ?_, ?_, ?_, ?_, ?_, ?_, ?_, ?_, ?_, ?_, ?_, ?_, ?_, ?_, ?_, ?_, ?_, ?_, ?_, ?_, ?_, ?_, ?_, trivial⟩
        · refine stepG_of rfl ?_
          exact stepR_value (t := 14) (ndV n (.slice a1 z1 cap1) (.slice a2 z2 cap2)) rfl (fun _ => Below.refl _ _) (fun ac w hG hN hO => by
            have e2 : slot ac 2 = .pointer (some ⟨w0.heap.size, 0, none⟩) := hO 2 (by kernel_rfl)
            obtain ⟨⟨c0, c1, c2, c3⟩, d0, d1, d2, d3⟩ := Two.cells hG
            have f2 := slot_at e2
            unfold execOp; go_simp) (fun ac w hG hN => rfl)
        · refine stepG_of rfl ?_
          intro ac w hG hN hO
          have e14 : slot ac 14 = ndV n (.slice a1 z1 cap1) (.slice a2 z2 cap2) := hN 0 (by decide)
          refine wp_callx 9 _ _ rfl (enters_of Tryz.func9 (by kernel_rfl) rfl) #[ndV n (.slice a1 z1 cap1) (.slice a2 z2 cap2)] (by simp [eval_slot, e14]) (calls_valN (CF.out w hG)) ?_
          rintro v w'' ⟨hv, hb⟩
          exact ⟨v, rfl, hb, hG.on hb, hv⟩
        · refine stepG_of rfl ?_
          exact stepR_value (t := 16) (ndV n (.slice a1 z1 cap1) (.slice a2 z2 cap2)) rfl (fun _ => Below.refl _ _) (fun ac w hG hN hO => by
            have e2 : slot ac 2 = .pointer (some ⟨w0.heap.size, 0, none⟩) := hO 2 (by kernel_rfl)
            obtain ⟨⟨c0, c1, c2, c3⟩, d0, d1, d2, d3⟩ := Two.cells hG
            have f2 := slot_at e2
            unfold execOp; go_simp) (fun ac w hG hN => rfl)
        · refine stepG_of rfl ?_
          intro ac w hG hN hO
          have e16 : slot ac 16 = ndV n (.slice a1 z1 cap1) (.slice a2 z2 cap2) := hN 2 (by decide)
          refine wp_callx 10 _ _ rfl (enters_of Tryz.func10 (by kernel_rfl) rfl) #[ndV n (.slice a1 z1 cap1) (.slice a2 z2 cap2)] (by simp [eval_slot, e16]) (calls_valN (CR.out w hG)) ?_
          rintro v w'' ⟨hv, hb⟩
          exact ⟨v, rfl, hb, hG.on hb, hv⟩
        · refine stepG_of rfl ?_
          exact stepR_value (t := 18) (.bool true) rfl (fun _ => Below.refl _ _) (fun ac w hG hN hO => by
            have e15 : slot ac 15 = .bool f1 := hN 1 (by decide)
            have e17 : slot ac 17 = .bool f1 := hN 3 (by decide)
            have f15 := slot_at e15
            have f17 := slot_at e17
            unfold execOp; go_simp) (fun ac w hG hN => rfl)
        · refine stepG_of rfl ?_
          exact stepR_value (t := 19) (.bool true) rfl (fun _ => Below.refl _ _) (fun ac w hG hN hO => by
            have e18 : slot ac 18 = .bool true := hN 4 (by decide)
            exact run_move_slot (.inl rfl) e18) (fun ac w hG hN => rfl)
        · refine stepG_on (j := 5) (b := true) rfl (by decide) (fun v e w h => h) ?_
          exact stepR_value (t := 20) (ndV n (.slice a1 z1 cap1) (.slice a2 z2 cap2)) rfl (fun _ => Below.refl _ _) (fun ac w hG hN hO => by
            have e2 : slot ac 2 = .pointer (some ⟨w0.heap.size, 0, none⟩) := hO 2 (by kernel_rfl)
            obtain ⟨⟨c0, c1, c2, c3⟩, d0, d1, d2, d3⟩ := Two.cells hG
            have f2 := slot_at e2
            unfold execOp; go_simp) (fun ac w hG hN => rfl)
        · refine stepG_on (j := 5) (b := true) rfl (by decide) (fun v e w h => h) ?_
          exact stepR_value (t := 21) (ndV m (.slice a3 z3 cap3) (.slice a4 z4 cap4)) rfl (fun _ => Below.refl _ _) (fun ac w hG hN hO => by
            have e3 : slot ac 3 = .pointer (some ⟨w0.heap.size + 1, 0, none⟩) := hO 3 (by kernel_rfl)
            obtain ⟨⟨c0, c1, c2, c3⟩, d0, d1, d2, d3⟩ := Two.cells hG
            have f3 := slot_at e3
            unfold execOp; go_simp) (fun ac w hG hN => rfl)
        · refine stepG_on (j := 5) (b := true) rfl (by decide) (fun v e w h => h) ?_
          intro ac w hG hN hO
          have e20 : slot ac 20 = ndV n (.slice a1 z1 cap1) (.slice a2 z2 cap2) := hN 6 (by decide)
          have e21 : slot ac 21 = ndV m (.slice a3 z3 cap3) (.slice a4 z4 cap4) := hN 7 (by decide)
          refine wp_callx 11 _ _ rfl (enters_of Tryz.func11 (by kernel_rfl) rfl) #[ndV n (.slice a1 z1 cap1) (.slice a2 z2 cap2), ndV m (.slice a3 z3 cap3) (.slice a4 z4 cap4)] (by simp [eval_slot, e20, e21]) (calls_valN (CS.out w hG)) ?_
          rintro v w'' ⟨hv, hb⟩
          exact ⟨v, rfl, hb, hG.on hb, hv⟩
        · refine stepG_on (j := 5) (b := true) rfl (by decide) (fun v e w h => h) ?_
          exact stepR_value (t := 23) (ndV n (.slice a1 z1 cap1) (.slice a2 z2 cap2)) rfl (fun _ => Below.refl _ _) (fun ac w hG hN hO => by
            have e2 : slot ac 2 = .pointer (some ⟨w0.heap.size, 0, none⟩) := hO 2 (by kernel_rfl)
            obtain ⟨⟨c0, c1, c2, c3⟩, d0, d1, d2, d3⟩ := Two.cells hG
            have f2 := slot_at e2
            unfold execOp; go_simp) (fun ac w hG hN => rfl)
        · refine stepG_on (j := 5) (b := true) rfl (by decide) (fun v e w h => h) ?_
          exact stepR_value (t := 24) (ndV m (.slice a3 z3 cap3) (.slice a4 z4 cap4)) rfl (fun _ => Below.refl _ _) (fun ac w hG hN hO => by
            have e3 : slot ac 3 = .pointer (some ⟨w0.heap.size + 1, 0, none⟩) := hO 3 (by kernel_rfl)
            obtain ⟨⟨c0, c1, c2, c3⟩, d0, d1, d2, d3⟩ := Two.cells hG
            have f3 := slot_at e3
            unfold execOp; go_simp) (fun ac w hG hN => rfl)
        · refine stepG_on (j := 5) (b := true) rfl (by decide) (fun v e w h => h) ?_
          intro ac w hG hN hO
          have e23 : slot ac 23 = ndV n (.slice a1 z1 cap1) (.slice a2 z2 cap2) := hN 9 (by decide)
          have e24 : slot ac 24 = ndV m (.slice a3 z3 cap3) (.slice a4 z4 cap4) := hN 10 (by decide)
          refine wp_callx 12 _ _ rfl (enters_of Tryz.func12 (by kernel_rfl) rfl) #[ndV n (.slice a1 z1 cap1) (.slice a2 z2 cap2), ndV m (.slice a3 z3 cap3) (.slice a4 z4 cap4)] (by simp [eval_slot, e23, e24]) (calls_valN (CT.out w hG)) ?_
          rintro v w'' ⟨hv, hb⟩
          exact ⟨v, rfl, hb, hG.on hb, hv⟩
        · refine stepG_on (j := 5) (b := true) rfl (by decide) (fun v e w h => h) ?_
          exact stepR_value (t := 26) (.bool true) rfl (fun _ => Below.refl _ _) (fun ac w hG hN hO => by
            have e22 : slot ac 22 = .bool sm := hN 8 (by decide)
            have e25 : slot ac 25 = .bool sm := hN 11 (by decide)
            have f22 := slot_at e22
            have f25 := slot_at e25
            unfold execOp; go_simp) (fun ac w hG hN => rfl)
        · refine stepG_of rfl ?_
          exact stepR_value (t := 27) (.bool true) rfl (fun _ => Below.refl _ _) (fun ac w hG hN hO => by
            have e19 : slot ac 19 = .bool true := hN 5 (by decide)
            have e26 : slot ac 26 = .bool true := hN 12 (by decide)
            have f19 := slot_at e19
            have f26 := slot_at e26
            unfold execOp; go_simp) (fun ac w hG hN => rfl)
        · refine stepG_of rfl ?_
          exact stepR_value (t := 28) (.bool true) rfl (fun _ => Below.refl _ _) (fun ac w hG hN hO => by
            have e27 : slot ac 27 = .bool true := hN 13 (by decide)
            exact run_move_slot (.inl rfl) e27) (fun ac w hG hN => rfl)
        · refine stepG_on (j := 14) (b := true) rfl (by decide) (fun v e w h => h) ?_
          exact stepR_value (t := 29) (ndV n (.slice a1 z1 cap1) (.slice a2 z2 cap2)) rfl (fun _ => Below.refl _ _) (fun ac w hG hN hO => by
            have e2 : slot ac 2 = .pointer (some ⟨w0.heap.size, 0, none⟩) := hO 2 (by kernel_rfl)
            obtain ⟨⟨c0, c1, c2, c3⟩, d0, d1, d2, d3⟩ := Two.cells hG
            have f2 := slot_at e2
            unfold execOp; go_simp) (fun ac w hG hN => rfl)
        · refine stepG_on (j := 14) (b := true) rfl (by decide) (fun v e w h => h) ?_
          exact stepR_value (t := 30) (ndV n (.slice a1 z1 cap1) (.slice a2 z2 cap2)) rfl (fun _ => Below.refl _ _) (fun ac w hG hN hO => by
            have e2 : slot ac 2 = .pointer (some ⟨w0.heap.size, 0, none⟩) := hO 2 (by kernel_rfl)
            obtain ⟨⟨c0, c1, c2, c3⟩, d0, d1, d2, d3⟩ := Two.cells hG
            have f2 := slot_at e2
            unfold execOp; go_simp) (fun ac w hG hN => rfl)
        · refine stepG_on (j := 14) (b := true) rfl (by decide) (fun v e w h => h) ?_
          intro ac w hG hN hO
          have e29 : slot ac 29 = ndV n (.slice a1 z1 cap1) (.slice a2 z2 cap2) := hN 15 (by decide)
          have e30 : slot ac 30 = ndV n (.slice a1 z1 cap1) (.slice a2 z2 cap2) := hN 16 (by decide)
          refine wp_callx 11 _ _ rfl (enters_of Tryz.func11 (by kernel_rfl) rfl) #[ndV n (.slice a1 z1 cap1) (.slice a2 z2 cap2), ndV n (.slice a1 z1 cap1) (.slice a2 z2 cap2)] (by simp [eval_slot, e29, e30]) (calls_valN (CN.out w hG)) ?_
          rintro v w'' ⟨hv, hb⟩
          exact ⟨v, rfl, hb, hG.on hb, hv⟩
        · refine stepG_of rfl ?_
          exact stepR_value (t := 32) (.bool true) rfl (fun _ => Below.refl _ _) (fun ac w hG hN hO => by
            have e28 : slot ac 28 = .bool true := hN 14 (by decide)
            have e31 : slot ac 31 = .bool true := hN 17 (by decide)
            have f28 := slot_at e28
            have f31 := slot_at e31
            unfold execOp; go_simp) (fun ac w hG hN => rfl)
        · refine stepG_of rfl ?_
          exact stepR_value (t := 33) (.bool true) rfl (fun _ => Below.refl _ _) (fun ac w hG hN hO => by
            have e32 : slot ac 32 = .bool true := hN 18 (by decide)
            exact run_move_slot (.inl rfl) e32) (fun ac w hG hN => rfl)
        · refine stepG_on (j := 19) (b := true) rfl (by decide) (fun v e w h => h) ?_
          exact stepR_value (t := 34) (ndV n (.slice a1 z1 cap1) (.slice a2 z2 cap2)) rfl (fun _ => Below.refl _ _) (fun ac w hG hN hO => by
            have e2 : slot ac 2 = .pointer (some ⟨w0.heap.size, 0, none⟩) := hO 2 (by kernel_rfl)
            obtain ⟨⟨c0, c1, c2, c3⟩, d0, d1, d2, d3⟩ := Two.cells hG
            have f2 := slot_at e2
            unfold execOp; go_simp) (fun ac w hG hN => rfl)
        · refine stepG_on (j := 19) (b := true) rfl (by decide) (fun v e w h => h) ?_
          intro ac w hG hN hO
          have e34 : slot ac 34 = ndV n (.slice a1 z1 cap1) (.slice a2 z2 cap2) := hN 20 (by decide)
          refine wp_callx 13 _ _ rfl (enters_of Tryz.func13 (by kernel_rfl) rfl) #[ndV n (.slice a1 z1 cap1) (.slice a2 z2 cap2)] (by simp [eval_slot, e34]) (calls_valN (W1.out w hG)) ?_
          rintro v w'' ⟨hv, hb⟩
          exact ⟨v, rfl, hb, hG.on hb, hv⟩
        · refine stepG_on (j := 19) (b := true) rfl (by decide) (fun v e w h => h) ?_
          exact stepR_value (t := 36) (ndV n (.slice a1 z1 cap1) (.slice a2 z2 cap2)) rfl (fun _ => Below.refl _ _) (fun ac w hG hN hO => by
            have e2 : slot ac 2 = .pointer (some ⟨w0.heap.size, 0, none⟩) := hO 2 (by kernel_rfl)
            obtain ⟨⟨c0, c1, c2, c3⟩, d0, d1, d2, d3⟩ := Two.cells hG
            have f2 := slot_at e2
            unfold execOp; go_simp) (fun ac w hG hN => rfl)
        · refine stepG_on (j := 19) (b := true) rfl (by decide) (fun v e w h => h) ?_
          intro ac w hG hN hO
          have e36 : slot ac 36 = ndV n (.slice a1 z1 cap1) (.slice a2 z2 cap2) := hN 22 (by decide)
          refine wp_callx 14 _ _ rfl (enters_of Tryz.func14 (by kernel_rfl) rfl) #[ndV n (.slice a1 z1 cap1) (.slice a2 z2 cap2)] (by simp [eval_slot, e36]) (calls_valN (W2.out w hG)) ?_
          rintro v w'' ⟨hv, hb⟩
          exact ⟨v, rfl, hb, hG.on hb, hv⟩
        · refine stepG_on (j := 19) (b := true) rfl (by decide) (fun v e w h => h) ?_
          exact stepR_value (t := 38) (.bool true) rfl (fun _ => Below.refl _ _) (fun ac w hG hN hO => by
            have e35 : slot ac 35 = .string S := hN 21 (by decide)
            have e37 : slot ac 37 = .string S := hN 23 (by decide)
            have f35 := slot_at e35
            have f37 := slot_at e37
            unfold execOp; go_simp) (fun ac w hG hN => rfl)
        · refine stepG_of rfl ?_
          exact stepR_value (t := 39) (.bool true) rfl (fun _ => Below.refl _ _) (fun ac w hG hN hO => by
            have e33 : slot ac 33 = .bool true := hN 19 (by decide)
            have e38 : slot ac 38 = .bool true := hN 24 (by decide)
            have f33 := slot_at e33
            have f38 := slot_at e38
            unfold execOp; go_simp) (fun ac w hG hN => rfl)
        · refine stepG_of rfl ?_
          exact stepR_value (t := 40) (.bool true) rfl (fun _ => Below.refl _ _) (fun ac w hG hN hO => by
            have e39 : slot ac 39 = .bool true := hN 25 (by decide)
            exact run_move_slot (.inl rfl) e39) (fun ac w hG hN => rfl)
        · refine stepG_on (j := 26) (b := true) rfl (by decide) (fun v e w h => h) ?_
          exact stepR_value (t := 41) (ndV n (.slice a1 z1 cap1) (.slice a2 z2 cap2)) rfl (fun _ => Below.refl _ _) (fun ac w hG hN hO => by
            have e2 : slot ac 2 = .pointer (some ⟨w0.heap.size, 0, none⟩) := hO 2 (by kernel_rfl)
            obtain ⟨⟨c0, c1, c2, c3⟩, d0, d1, d2, d3⟩ := Two.cells hG
            have f2 := slot_at e2
            unfold execOp; go_simp) (fun ac w hG hN => rfl)
        · refine stepG_on (j := 26) (b := true) rfl (by decide) (fun v e w h => h) ?_
          intro ac w hG hN hO
          have e41 : slot ac 41 = ndV n (.slice a1 z1 cap1) (.slice a2 z2 cap2) := hN 27 (by decide)
          refine wp_callx 15 _ _ rfl (enters_of Tryz.func15 (by kernel_rfl) rfl) #[ndV n (.slice a1 z1 cap1) (.slice a2 z2 cap2)] (by simp [eval_slot, e41]) (calls_valN (K1.out w hG)) ?_
          rintro v w'' ⟨hv, hb⟩
          exact ⟨v, rfl, hb, hG.on hb, hv⟩
        · refine stepG_on (j := 26) (b := true) rfl (by decide) (fun v e w h => h) ?_
          exact stepR_value (t := 43) (ndV n (.slice a1 z1 cap1) (.slice a2 z2 cap2)) rfl (fun _ => Below.refl _ _) (fun ac w hG hN hO => by
            have e2 : slot ac 2 = .pointer (some ⟨w0.heap.size, 0, none⟩) := hO 2 (by kernel_rfl)
            obtain ⟨⟨c0, c1, c2, c3⟩, d0, d1, d2, d3⟩ := Two.cells hG
            have f2 := slot_at e2
            unfold execOp; go_simp) (fun ac w hG hN => rfl)
        · refine stepG_on (j := 26) (b := true) rfl (by decide) (fun v e w h => h) ?_
          intro ac w hG hN hO
          have e43 : slot ac 43 = ndV n (.slice a1 z1 cap1) (.slice a2 z2 cap2) := hN 29 (by decide)
          refine wp_callx 16 _ _ rfl (enters_of Tryz.func16 (by kernel_rfl) rfl) #[ndV n (.slice a1 z1 cap1) (.slice a2 z2 cap2)] (by simp [eval_slot, e43]) (calls_valN (K2.out w hG)) ?_
          rintro v w'' ⟨hv, hb⟩
          exact ⟨v, rfl, hb, hG.on hb, hv⟩
        · refine stepG_on (j := 26) (b := true) rfl (by decide) (fun v e w h => h) ?_
          exact stepR_value (t := 45) (.bool true) rfl (fun _ => Below.refl _ _) (fun ac w hG hN hO => by
            have e42 : slot ac 42 = .string P := hN 28 (by decide)
            have e44 : slot ac 44 = .string P := hN 30 (by decide)
            have f42 := slot_at e42
            have f44 := slot_at e44
            unfold execOp; go_simp) (fun ac w hG hN => rfl)
        · refine stepG_of rfl ?_
          exact stepR_value (t := 46) (.bool true) rfl (fun _ => Below.refl _ _) (fun ac w hG hN hO => by
            have e40 : slot ac 40 = .bool true := hN 26 (by decide)
            have e45 : slot ac 45 = .bool true := hN 31 (by decide)
            have f40 := slot_at e40
            have f45 := slot_at e45
            unfold execOp; go_simp) (fun ac w hG hN => rfl)
        · refine stepG_of rfl ?_
          exact stepR_value (t := 47) (.bool true) rfl (fun _ => Below.refl _ _) (fun ac w hG hN hO => by
            have e46 : slot ac 46 = .bool true := hN 32 (by decide)
            exact run_move_slot (.inl rfl) e46) (fun ac w hG hN => rfl)
        · refine stepG_on (j := 33) (b := true) rfl (by decide) (fun v e w h => h) ?_
          exact stepR_value (t := 48) (ndV n (.slice a1 z1 cap1) (.slice a2 z2 cap2)) rfl (fun _ => Below.refl _ _) (fun ac w hG hN hO => by
            have e2 : slot ac 2 = .pointer (some ⟨w0.heap.size, 0, none⟩) := hO 2 (by kernel_rfl)
            obtain ⟨⟨c0, c1, c2, c3⟩, d0, d1, d2, d3⟩ := Two.cells hG
            have f2 := slot_at e2
            unfold execOp; go_simp) (fun ac w hG hN => rfl)
        · refine stepG_on (j := 33) (b := true) rfl (by decide) (fun v e w h => h) ?_
          intro ac w hG hN hO
          have e48 : slot ac 48 = ndV n (.slice a1 z1 cap1) (.slice a2 z2 cap2) := hN 34 (by decide)
          refine wp_callx 18 _ _ rfl (enters_of Tryz.func18 (by kernel_rfl) rfl) #[ndV n (.slice a1 z1 cap1) (.slice a2 z2 cap2)] (by simp [eval_slot, e48]) ((L1.out w hG)) ?_
          rintro v w'' ⟨hv, hb⟩
          exact ⟨v, rfl, hb, hG.on hb, hv⟩
        · refine stepG_on (j := 33) (b := true) rfl (by decide) (fun v e w h => h) ?_
          exact stepR_value (t := 50) (ndV n (.slice a1 z1 cap1) (.slice a2 z2 cap2)) rfl (fun _ => Below.refl _ _) (fun ac w hG hN hO => by
            have e2 : slot ac 2 = .pointer (some ⟨w0.heap.size, 0, none⟩) := hO 2 (by kernel_rfl)
            obtain ⟨⟨c0, c1, c2, c3⟩, d0, d1, d2, d3⟩ := Two.cells hG
            have f2 := slot_at e2
            unfold execOp; go_simp) (fun ac w hG hN => rfl)
        · refine stepG_on (j := 33) (b := true) rfl (by decide) (fun v e w h => h) ?_
          intro ac w hG hN hO
          have e50 : slot ac 50 = ndV n (.slice a1 z1 cap1) (.slice a2 z2 cap2) := hN 36 (by decide)
          refine wp_callx 19 _ _ rfl (enters_of Tryz.func19 (by kernel_rfl) rfl) #[ndV n (.slice a1 z1 cap1) (.slice a2 z2 cap2)] (by simp [eval_slot, e50]) ((L2.out w hG)) ?_
          rintro v w'' ⟨hv, hb⟩
          exact ⟨v, rfl, hb, hG.on hb, hv⟩
        · refine stepG_on (j := 33) (b := true) rfl (by decide) (fun v e w h => h) ?_
          intro ac w hG hN hO
          have e49 : IsStrs w (slot ac 49) KL := hN 35 (by decide)
          have e51 : IsStrs w (slot ac 51) KL := hN 37 (by decide)
          refine wp_callx 17 _ _ rfl (enters_of Tryz.func17 (by kernel_rfl) rfl) #[slot ac 49, slot ac 51] (by simp [eval_slot]) (calls_valN (lawSame_eq _ _ KL w e49 e51)) ?_
          rintro v w'' ⟨hv, hb⟩
          exact ⟨v, rfl, hb, hG.on hb, hv⟩
        · refine stepG_of rfl ?_
          exact stepR_value (t := 53) (.bool true) rfl (fun _ => Below.refl _ _) (fun ac w hG hN hO => by
            have e47 : slot ac 47 = .bool true := hN 33 (by decide)
            have e52 : slot ac 52 = .bool true := hN 38 (by decide)
            have f47 := slot_at e47
            have f52 := slot_at e52
            unfold execOp; go_simp) (fun ac w hG hN => rfl)
        · refine stepG_of rfl ?_
          exact stepR_value (t := 54) (.bool true) rfl (fun _ => Below.refl _ _) (fun ac w hG hN hO => by
            have e53 : slot ac 53 = .bool true := hN 39 (by decide)
            exact run_move_slot (.inl rfl) e53) (fun ac w hG hN => rfl)
        · refine stepG_on (j := 40) (b := true) rfl (by decide) (fun v e w h => h) ?_
          intro ac w hG hN hO
          refine wp_callx 8 _ _ rfl (enters_of Tryz.func8 (by kernel_rfl) rfl) #[] (by simp) (calls_valN (AW.out w hG)) ?_
          rintro v w'' ⟨hv, hb⟩
          exact ⟨v, rfl, hb, hG.on hb, hv⟩
        · refine stepG_of rfl ?_
          exact stepR_value (t := 56) (.bool true) rfl (fun _ => Below.refl _ _) (fun ac w hG hN hO => by
            have e54 : slot ac 54 = .bool true := hN 40 (by decide)
            have e55 : slot ac 55 = .bool true := hN 41 (by decide)
            have f54 := slot_at e54
            have f55 := slot_at e55
            unfold execOp; go_simp) (fun ac w hG hN => rfl)
        · refine stepG_of rfl ?_
          exact stepR_value (t := 4) (.bool true) rfl (fun _ => Below.refl _ _) (fun ac w hG hN hO => by
            have e56 : slot ac 56 = .bool true := hN 42 (by decide)
            exact run_move_slot (.inr rfl) e56) (fun ac w hG hN => rfl)
      case behind =>
        intro ac w5 hG hV hS ha
        have h43 : slot ac 4 = .bool true := hV 43 (by decide) (by decide)
        generalize slot ac = sl at ha h43
        subst ha
        simp only [patchL, List.contains_cons, List.contains_nil, Nat.reduceBEq, Bool.or_false, Bool.or_true, if_true, Bool.false_eq_true, if_false, Nat.reduceAdd]
        generalize sl 14 = s14
        generalize sl 15 = s15
        generalize sl 16 = s16
        generalize sl 17 = s17
        generalize sl 18 = s18
        generalize sl 19 = s19
        generalize sl 20 = s20
        generalize sl 21 = s21
        generalize sl 22 = s22
        generalize sl 23 = s23
        generalize sl 24 = s24
        generalize sl 25 = s25
        generalize sl 26 = s26
        generalize sl 27 = s27
        generalize sl 28 = s28
        generalize sl 29 = s29
        generalize sl 30 = s30
        generalize sl 31 = s31
        generalize sl 32 = s32
        generalize sl 33 = s33
        generalize sl 34 = s34
        generalize sl 35 = s35
        generalize sl 36 = s36
        generalize sl 37 = s37
        generalize sl 38 = s38
        generalize sl 39 = s39
        generalize sl 40 = s40
        generalize sl 41 = s41
        generalize sl 42 = s42
        generalize sl 43 = s43
        generalize sl 44 = s44
        generalize sl 45 = s45
        generalize sl 46 = s46
        generalize sl 47 = s47
        generalize sl 48 = s48
        generalize sl 49 = s49
        generalize sl 50 = s50
        generalize sl 51 = s51
        generalize sl 52 = s52
        generalize sl 53 = s53
        generalize sl 54 = s54
        generalize sl 55 = s55
        generalize sl 56 = s56
        generalize sl 4 = s4 at h43 ⊢
        subst h43
        clear hV hS
        have HB := Lib.hid (Two.below hG)
        clear hG
        go_wp2
        go_ret
        exact ⟨rfl, HB.out⟩

end Go.Proofs.YtohicccbaenegaaGreatDoor

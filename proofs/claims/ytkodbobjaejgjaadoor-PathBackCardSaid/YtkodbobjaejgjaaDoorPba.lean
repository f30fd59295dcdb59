/-
  Layer 9: the law's awake; PathTells.
-/
import Derived.Test.YtkodbobjaejgjaaDoorPaz
import Derived.Test.YtkodbobjaejgjaaDoorPav
set_option linter.unusedVariables false
namespace Go.Proofs.YtkodbobjaejgjaaDoor
open Go.RowKit Go.Shelf
attribute [local go_sem] Oper.semAt_some

theorem ex_split : splitS [97, 47, 98] = [[97], [98]] := by decide
theorem ex_dir1 : dirS [97, 47, 98] = [97] := by decide
theorem ex_dir2 : dirS [97] = [] := by decide
theorem ex_order : orderS [97, 47, 122] [97, 45, 98] = -1 := by decide
theorem ex_fit : isPath [97, 47, 47, 98] = false := by decide

theorem isStrs_two (w : World) (x y : ByteArray) : IsStrs (w.alloc (.cells #[.string x, .string y] 9)) (.slice (some ⟨w.heap.size, 0, none⟩) 2 2) [x, y] := by
  have hr := Row.made w #[.string x, .string y] 9
  refine ⟨by show 2 ≤ maxLen; unfold maxLen; omega, _, _, rfl, ⟨fun h => (by cases h), Nat.le_refl _⟩, fun _ => ⟨_, 0, rfl, by simp, fun i hi => ?_⟩⟩
  have hi2 : i < 2 := hi
  have := hr.cell (0 + i)
  rcases (show i = 0 ∨ i = 1 by omega) with rfl | rfl
  · exact this
  · exact this

set_option maxRecDepth 100000 in
set_option maxHeartbeats 2000000 in
theorem awake_any (w : World) : Calls Tryd.prog 8 #[] w fun e w' => e = .returned (.bool true) ∧ Below w.heap.size w w' := by
  have C1 := Lib.hid (Split_any ⟨#[97, 47, 98]⟩ (by decide))
  have C2 := Lib.hid (fun v1 v2 W h1 h2 => same_any v1 v2 (strsOf [[97], [98]]) W h1 h2)
  have C3 := Lib.hid (Dir_any ⟨#[97, 47, 98]⟩ (by decide))
  have C4 := Lib.hid (Dir_any ⟨#[97]⟩ (by decide))
  have C5 := Lib.hid (Order_any ⟨#[97, 47, 122]⟩ ⟨#[97, 45, 98]⟩ (by decide) (by decide))
  have C6 := Lib.hid (Fit_any ⟨#[97, 47, 47, 98]⟩ (by decide))
  change Hid (∀ W, Calls _ _ _ W (RetL (splitS [97, 47, 98]) W)) at C1
  change Hid (∀ W, Calls _ _ _ W fun e w' => e = .returned (.string ⟨(dirS [97, 47, 98]).toArray⟩) ∧ Below W.heap.size W w') at C3
  change Hid (∀ W, Calls _ _ _ W fun e w' => e = .returned (.string ⟨(dirS [97]).toArray⟩) ∧ Below W.heap.size W w') at C4
  change Hid (∀ W, Calls _ _ _ W fun e w' => e = .returned (.int .i64 (orderS [97, 47, 122] [97, 45, 98])) ∧ Below W.heap.size W w') at C5
  change Hid (∀ W, Calls _ _ _ W fun e w' => e = .returned (.bool (isPath [97, 47, 47, 98])) ∧ Below W.heap.size W w') at C6
  rw [ex_split] at C1; rw [ex_dir1] at C3; rw [ex_dir2] at C4; rw [ex_order] at C5; rw [ex_fit] at C6
  go_enter Tryd.func8, Tryd.ntmps8
  go_wp2_with fail
  refine (C1.out _).mono ?_
  rintro e w1 ⟨v, rfl, hv, hb1⟩
  have HV := Lib.hid hv; clear hv
  go_wp2_with fail
  have hb2 : Below w1.heap.size w1 (w1.alloc (.cells #[.string ⟨#[97]⟩, .string ⟨#[98]⟩] 9)) := (Below.refl _ _).alloc (Nat.le_refl _) _
  refine (C2.out _ _ _ (HV.out.stays hb2) (isStrs_two w1 ⟨#[97]⟩ ⟨#[98]⟩)).mono ?_
  rintro e w2 ⟨rfl, hb3⟩
  have hB := below_step (below_step hb1 hb2) hb3
  clear hb1 hb2 hb3
  go_wp2_with fail
  refine (C3.out _).mono ?_
  rintro e w3 ⟨rfl, hb3⟩
  replace hB := below_step hB hb3
  clear hb3
  go_wp2_with fail
  refine (C4.out _).mono ?_
  rintro e w4 ⟨rfl, hb3⟩
  replace hB := below_step hB hb3
  clear hb3
  go_wp2_with fail
  refine (C5.out _).mono ?_
  rintro e w5 ⟨rfl, hb3⟩
  replace hB := below_step hB hb3
  clear hb3
  go_wp2_with fail
  refine (C6.out _).mono ?_
  rintro e w6 ⟨rfl, hb3⟩
  replace hB := below_step hB hb3
  clear hb3
  go_wp2
  go_ret
  exact ⟨rfl, hB⟩

set_option maxRecDepth 100000 in
set_option maxHeartbeats 4000000 in
theorem PathTells_walk (a b : ByteArray) (w : World) : Calls Tryd.prog 3 #[.string a, .string b] w fun e w' => e = .returned (.bool true) ∧ Below w.heap.size w w' := by
  have AW := Lib.hid awake_any
  by_cases h1 : 1000 < a.size
  · have e1 : decide ((1000 : Int) < (a.size : Int)) = true := decide_eq_true (by omega)
    clear h1
    go_enter Tryd.func3, Tryd.ntmps3
    go_wp2_with fail
    refine (AW.out _).mono ?_
    rintro e w1 ⟨rfl, hb⟩
    go_wp2
    go_ret
    exact ⟨rfl, hb⟩
  · have e1 : decide ((1000 : Int) < (a.size : Int)) = false := decide_eq_false (by omega)
    by_cases h2 : 1000 < b.size
    · have e2 : decide ((1000 : Int) < (b.size : Int)) = true := decide_eq_true (by omega)
      clear h1 h2
      go_enter Tryd.func3, Tryd.ntmps3
      go_wp2_with fail
      refine (AW.out _).mono ?_
      rintro e w1 ⟨rfl, hb⟩
      go_wp2
      go_ret
      exact ⟨rfl, hb⟩
    · have e2 : decide ((1000 : Int) < (b.size : Int)) = false := decide_eq_false (by omega)
      have C1 := Lib.hid (Name_any a); have D1 := Lib.hid (refName_any a)
      have C2 := Lib.hid (Fit_any a (by omega)); have D2 := Lib.hid (refFit_any a (by omega))
      have C3 := Lib.hid (Split_any a (by omega)); have D3 := Lib.hid (refSplit_any a (by omega))
      have C4 := Lib.hid (Dir_any a (by omega)); have D4 := Lib.hid (refDir_any a (by omega))
      have C5 := Lib.hid (Order_any a b (by omega) (by omega)); have D5 := Lib.hid (refOrder_any a b (by omega) (by omega))
      have SA := Lib.hid (fun v1 v2 W h1 h2 => same_any v1 v2 (strsOf (splitS a.data.toList)) W h1 h2)
      obtain ⟨n1, hn1⟩ : ∃ n1, n1 = nameB a.data.toList := ⟨_, rfl⟩
      obtain ⟨n2, hn2⟩ : ∃ n2, n2 = isPath a.data.toList := ⟨_, rfl⟩
      obtain ⟨n4, hn4⟩ : ∃ n4 : ByteArray, n4 = ⟨(dirS a.data.toList).toArray⟩ := ⟨_, rfl⟩
      obtain ⟨n5, hn5⟩ : ∃ n5, n5 = orderS a.data.toList b.data.toList := ⟨_, rfl⟩
      rw [← hn1] at C1 D1; rw [← hn2] at C2 D2; rw [← hn4] at C4 D4; rw [← hn5] at C5 D5
      have q4 : (n4.toList == n4.toList) = true := by simp
      clear hn1 hn2 hn4 hn5 h1 h2
      go_enter Tryd.func3, Tryd.ntmps3
      go_wp2_with fail
      refine (C1.out _).mono ?_
      rintro e w1 ⟨rfl, hB⟩
      go_wp2_with fail
      refine (D1.out _).mono ?_
      rintro e w2 ⟨rfl, rfl⟩
      go_wp2_with fail
      refine (C2.out _).mono ?_
      rintro e w3 ⟨rfl, hb3⟩
      replace hB := below_step hB hb3
      clear hb3
      go_wp2_with fail
      refine (D2.out _).mono ?_
      rintro e w4 ⟨rfl, hb3⟩
      replace hB := below_step hB hb3
      clear hb3
      go_wp2_with fail
      refine (C3.out _).mono ?_
      rintro e w5 ⟨v1, rfl, hv1, hb3⟩
      replace hB := below_step hB hb3
      have HV1 := Lib.hid hv1
      clear hb3 hv1
      go_wp2_with fail
      refine (D3.out _).mono ?_
      rintro e w6 ⟨v2, rfl, hv2, hb3⟩
      replace hB := below_step hB hb3
      replace HV1 := Lib.hid (HV1.out.stays hb3)
      have HV2 := Lib.hid hv2
      clear hb3 hv2
      go_wp2_with fail
      refine (SA.out _ _ _ HV1.out HV2.out).mono ?_
      rintro e w7 ⟨rfl, hb3⟩
      replace hB := below_step hB hb3
      clear hb3
      go_wp2_with fail
      refine (C4.out _).mono ?_
      rintro e w8 ⟨rfl, hb3⟩
      replace hB := below_step hB hb3
      clear hb3
      go_wp2_with fail
      refine (D4.out _).mono ?_
      rintro e w9 ⟨rfl, hb3⟩
      replace hB := below_step hB hb3
      clear hb3
      go_wp2_with fail
      refine (C5.out _).mono ?_
      rintro e w10 ⟨rfl, hb3⟩
      replace hB := below_step hB hb3
      clear hb3
      go_wp2_with fail
      refine (D5.out _).mono ?_
      rintro e w11 ⟨rfl, hb3⟩
      replace hB := below_step hB hb3
      clear hb3
      go_wp2_with fail
      refine (AW.out _).mono ?_
      rintro e w12 ⟨rfl, hb3⟩
      replace hB := below_step hB hb3
      clear hb3
      go_wp2
      go_ret
      exact ⟨rfl, hB⟩
end Go.Proofs.YtkodbobjaejgjaaDoor

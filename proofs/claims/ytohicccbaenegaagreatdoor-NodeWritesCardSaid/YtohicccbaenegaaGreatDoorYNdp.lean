/-
  Contracts over this translation: whole: the node of bytes, or what was thrown.
-/
import Derived.Test.YtohicccbaenegaaGreatDoorYNdo
import Derived.Defers
import Derived.Recover
import Derived.Stop.Asserts
import Derived.Laws.Pointers
set_option linter.unusedVariables false
namespace Go.Proofs.YtohicccbaenegaaGreatDoor
open Go.RowKit Go.Stop
attribute [local go_sem] Oper.semAt_some

theorem assertThr (v : Value) (w : World) : (Instr.typeAssert (.iface 63 v) 20 59 true).run Tryz.prog w = .ok (.tuple #[.iface 63 v, .bool true]) w :=
  run_typeAssert_hasB Tryz.underlying59 (by kernel_rfl) v _ w
theorem catch_panicking (p : Nat) (x : Value) (k : Int) (w : World) (hc : w.cell? ⟨p, 0, none⟩ = some x) (hz : w.frozen? ⟨p, 0, none⟩ = false) :
    CallsD Tryz.prog 60 #[.pointer (some ⟨p, 0, none⟩)] (.panicking ({ v := thrV k, recovered := false } :: [])) w fun e u' w' =>
      e = .returned (.tuple #[]) ∧ u' = .panicking ({ v := thrV k, recovered := true } :: []) ∧ w' = w.setCell ⟨p, 0, none⟩ (thrV k) := by
  have hA := assertThr
  refine callsD_of_wpS Tryz.func60 rfl fun c₀ cs hu => ?_
  apply wpS_seq
  apply wpS_region
  simp [wpOpsS, go_sem, recoverD, hu, Tryz.ntmps60, Exit.thenS, hA]
  apply wpS_seq
  apply wpS_region
  simp [wpOpsS, go_sem, Exit.thenS]
  refine wpS_cond (t := true) (by simp [Act.eval, Array.replicate]) ?_
  simp only [if_true]
  apply wpS_region
  simp [wpOpsS, go_sem, hc, hz, bodyPostS, results, Tryz.results60, Array.replicate]
theorem assertNil (w : World) : (Instr.typeAssert .nilIface 20 59 true).run Tryz.prog w = .ok (.tuple #[.nilIface, .bool false]) w := by kernel_rfl
theorem catch_idle (p : Nat) (w : World) :
    CallsD Tryz.prog 60 #[.pointer (some ⟨p, 0, none⟩)] .returning w fun e u' w' => e = .returned (.tuple #[]) ∧ u' = .returning ∧ w' = w := by
  have hA := assertNil
  refine callsD_of_wpS Tryz.func60 rfl fun c₀ cs hu => ?_
  apply wpS_seq
  apply wpS_region
  simp [wpOpsS, go_sem, recoverD, hu, Tryz.ntmps60, Exit.thenS, hA]
  apply wpS_seq
  apply wpS_region
  simp [wpOpsS, go_sem, Exit.thenS]
  refine wpS_cond (t := false) (by simp [Act.eval, Array.replicate]) ?_
  simp only [Bool.false_eq_true, if_false]
  refine wpS_of_wp (Go.wp_skip ?_)
  cases c₀
  simp_all [bodyPostS, results, Tryz.results60]

set_option maxRecDepth 100000 in
set_option maxHeartbeats 2000000 in
theorem whole_good (S : ByteArray) (n : Nd) (hS : S.size ≤ 1000000) (h : pNode S.data.toList = some (n, [])) (w : World) : 
    Calls Tryz.prog 42 #[.string S] w fun e w' => ∃ pv ev, e = .returned (.tuple #[ndV n pv ev, .nilIface]) ∧ OwnP w.heap.size w' pv n.ps ∧ OwnE w.heap.size w' ev n.es ∧ Below w.heap.size w w' := by
  have hmf : ∀ (fn : Fn) (first cap : Array Value) (w : World), (Instr.makeFunc fn first cap).run Tryz.prog w = .ok (.func fn first cap) w := fun _ _ _ _ => rfl
  obtain ⟨W, hW⟩ : ∃ W, W = ((w.alloc (.cells #[.int .i64 0, .string ⟨#[]⟩, .slice none 0 0, .slice none 0 0] 25)).alloc (.cells #[.nilIface] 59)).alloc (.cells #[.string S] 89) := ⟨_, rfl⟩
  have hbW : Below w.heap.size w W := by rw [hW]; exact (((Below.refl _ _).alloc (Nat.le_refl _) _).alloc (by simp) _).alloc (by simp; omega) _
  have hR : Row W (w.heap.size + 1 + 1) #[.string S] 89 := by
    have := Row.made ((w.alloc (.cells #[.int .i64 0, .string ⟨#[]⟩, .slice none 0 0, .slice none 0 0] 25)).alloc (.cells #[.nilIface] 59)) #[.string S] 89
    rw [hW]; simpa using this
  have hE : Row W (w.heap.size + 1) #[.nilIface] 59 := by
    have := (Row.made (w.alloc (.cells #[.int .i64 0, .string ⟨#[]⟩, .slice none 0 0, .slice none 0 0] 25)) #[.nilIface] 59).alloc (.cells #[.string S] 89)
    rw [hW]; simpa using this
  have hN : Row W w.heap.size #[.int .i64 0, .string ⟨#[]⟩, .slice none 0 0, .slice none 0 0] 25 := by
    rw [hW]; exact ((Row.made w #[.int .i64 0, .string ⟨#[]⟩, .slice none 0 0, .slice none 0 0] 25).alloc _).alloc _
  have NA := Lib.hid (node_any (w.heap.size + 1 + 1) S.data.toList (by rw [← Lib.size_eq]; exact hS) W ⟨S, rfl, hR⟩)
  have HW := Lib.hid hW; have HBW := Lib.hid hbW; have HE := Lib.hid hE; have HN := Lib.hid hN
  have hszW : w.heap.size + 1 + 1 < W.heap.size := hR.lt
  clear hW hbW hR hE hN
  rw [h] at NA
  clear h
  go_enter_defers Tryz.func42, Tryz.ntmps42
  go_wp2_with fail
  rw [← HW.out]
  with_reducible refine NA.out.mono ?_
  rintro e w1 ⟨⟨pv, ev, rfl, hp, he⟩, hg1, hR1⟩
  have hN1 := HN.out.turned hg1 (by omega)
  have hE1 := HE.out.turned hg1 (by omega)
  have c0 := hN1.cell 0; have c1 := hN1.cell 1; have c2 := hN1.cell 2; have c3 := hN1.cell 3; have d0 := hE1.cell 0
  have f0 := hN1.free 0; have f1 := hN1.free 1; have f2 := hN1.free 2; have f3 := hN1.free 3; have g0 := hE1.free 0
  simp only [List.getElem?_toArray, List.getElem?_cons_zero, List.getElem?_cons_succ] at c0 c1 c2 c3 d0
  obtain ⟨_, a1, k1, hv1, _, _⟩ := hp.is
  obtain ⟨_, a2, k2, hv2, _, _⟩ := he.is
  simp only at hv1 hv2
  obtain ⟨z1, hz1⟩ : ∃ z, z = n.ps.length := ⟨_, rfl⟩
  obtain ⟨z2, hz2⟩ : ∃ z, z = n.es.length := ⟨_, rfl⟩
  rw [← hz1] at hv1; rw [← hz2] at hv2
  clear hz1 hz2
  subst hv1 hv2
  have HG1 := Lib.hid hg1
  have HP := Lib.hid hp; have HEV := Lib.hid he; have HR1 := Lib.hid hR1
  have hszs := hg1.size
  have hr4 := Lib.hid (row4_row hN1 (.int .i64 n.kd) (.string n.d) (.slice a1 z1 k1) (.slice a2 z2 k2))
  have HE1 := Lib.hid (((((hE1.other ⟨w.heap.size, 0, none⟩ (.int .i64 n.kd) (by simp)).other ⟨w.heap.size, 1, none⟩ (.string n.d) (by simp)).other ⟨w.heap.size, 2, none⟩ (.slice a1 z1 k1) (by simp)).other ⟨w.heap.size, 3, none⟩ (.slice a2 z2 k2) (by simp)))
  have hrd := ((((hR1.other ⟨w.heap.size, 0, none⟩ (show w.heap.size + 1 + 1 ≠ w.heap.size by omega) (.int .i64 n.kd)).other ⟨w.heap.size, 1, none⟩ (show w.heap.size + 1 + 1 ≠ w.heap.size by omega) (.string n.d)).other ⟨w.heap.size, 2, none⟩ (show w.heap.size + 1 + 1 ≠ w.heap.size by omega) (.slice a1 z1 k1)).other ⟨w.heap.size, 3, none⟩ (show w.heap.size + 1 + 1 ≠ w.heap.size by omega) (.slice a2 z2 k2))
  have EA := Lib.hid (end_ok _ _ hrd)
  clear hN1 hE1 hg1 hp he hR1 hrd
  go_wp2_with fail
  refine EA.out.mono ?_
  rintro e w2 ⟨rfl, hw2⟩
  have hR2 := hr4.out
  have hE2 := HE1.out
  rw [← hw2] at hR2 hE2
  have p0 := hR2.cell 0; have p1 := hR2.cell 1; have p2 := hR2.cell 2; have p3 := hR2.cell 3; have e0 := hE2.cell 0
  have r0 := hR2.free 0; have r1 := hR2.free 1; have r2 := hR2.free 2; have r3 := hR2.free 3; have s0 := hE2.free 0
  simp only [List.getElem?_toArray, List.getElem?_cons_zero, List.getElem?_cons_succ] at p0 p1 p2 p3 e0
  have hb2 : Below w.heap.size w w2 := by
    rw [hw2]
    exact ((((below_turned HBW.out HG1.out (by omega) (by omega)).setCell (p := ⟨w.heap.size, 0, none⟩) (Nat.le_refl _) _).setCell (p := ⟨w.heap.size, 1, none⟩) (Nat.le_refl _) _).setCell (p := ⟨w.heap.size, 2, none⟩) (Nat.le_refl _) _).setCell (p := ⟨w.heap.size, 3, none⟩) (Nat.le_refl _) _
  have hlt : w.heap.size < W.heap.size := by omega
  have hP2 : OwnP W.heap.size w2 (.slice a1 z1 k1) n.ps := by rw [hw2]; exact (((HP.out.setBelow (a := ⟨w.heap.size, 0, none⟩) hlt _).setBelow (a := ⟨w.heap.size, 1, none⟩) hlt _).setBelow (a := ⟨w.heap.size, 2, none⟩) hlt _).setBelow (a := ⟨w.heap.size, 3, none⟩) hlt _
  have hE3 : OwnE W.heap.size w2 (.slice a2 z2 k2) n.es := by rw [hw2]; exact (((HEV.out.setBelow (a := ⟨w.heap.size, 0, none⟩) hlt _).setBelow (a := ⟨w.heap.size, 1, none⟩) hlt _).setBelow (a := ⟨w.heap.size, 2, none⟩) hlt _).setBelow (a := ⟨w.heap.size, 3, none⟩) hlt _
  have HR2 := Lib.hid hR2; have HE2 := Lib.hid hE2; have HB2 := Lib.hid hb2; have HP2 := Lib.hid hP2; have HE3 := Lib.hid hE3
  clear hR2 hE2 hb2 hP2 hE3 hw2 c0 c1 c2 c3 d0 f0 f1 f2 f3 g0 EA HE1 hr4
  go_wp2
  have hR3 := (row4_row HR2.out (.int .i64 n.kd) (.string n.d) (.slice a1 z1 k1) (.slice a2 z2 k2)).other ⟨w.heap.size + 1, 0, none⟩ .nilIface (show w.heap.size ≠ w.heap.size + 1 by omega)
  have hE4 := ((((HE2.out.other ⟨w.heap.size, 0, none⟩ (.int .i64 n.kd) (by simp)).other ⟨w.heap.size, 1, none⟩ (.string n.d) (by simp)).other ⟨w.heap.size, 2, none⟩ (.slice a1 z1 k1) (by simp)).other ⟨w.heap.size, 3, none⟩ (.slice a2 z2 k2) (by simp)).set 0 .nilIface
  have t0 := hR3.cell 0; have t1 := hR3.cell 1; have t2 := hR3.cell 2; have t3 := hR3.cell 3; have u0 := hE4.cell 0
  simp at t0 t1 t2 t3 u0
  refine leaves_cons (f := 60) (args := #[.pointer (some ⟨w.heap.size + 1, 0, none⟩)]) (by simp) (by simp [go_sem]) ?_
  refine (catch_idle (w.heap.size + 1) _).mono ?_
  rintro e u' w'' ⟨rfl, rfl, rfl⟩
  simp only [settle, Leaves]
  refine ⟨.tuple #[.agg #[.int .i64 n.kd, .string n.d, .slice a1 z1 k1, .slice a2 z2 k2], .nilIface], by simp [results, Tryz.results42, go_sem, t0, t1, t2, t3, u0], _, _, rfl, ?_, ?_, ?_⟩
  · exact (((((HP2.out.setBelow (a := ⟨w.heap.size, 0, none⟩) hlt _).setBelow (a := ⟨w.heap.size, 1, none⟩) hlt _).setBelow (a := ⟨w.heap.size, 2, none⟩) hlt _).setBelow (a := ⟨w.heap.size, 3, none⟩) hlt _).setBelow (a := ⟨w.heap.size + 1, 0, none⟩) (by show w.heap.size + 1 < W.heap.size; omega) _).mono (Nat.le_of_lt hlt)
  · exact (((((HE3.out.setBelow (a := ⟨w.heap.size, 0, none⟩) hlt _).setBelow (a := ⟨w.heap.size, 1, none⟩) hlt _).setBelow (a := ⟨w.heap.size, 2, none⟩) hlt _).setBelow (a := ⟨w.heap.size, 3, none⟩) hlt _).setBelow (a := ⟨w.heap.size + 1, 0, none⟩) (by show w.heap.size + 1 < W.heap.size; omega) _).mono (Nat.le_of_lt hlt)
  · exact ((((HB2.out.setCell (p := ⟨w.heap.size, 0, none⟩) (Nat.le_refl _) _).setCell (p := ⟨w.heap.size, 1, none⟩) (Nat.le_refl _) _).setCell (p := ⟨w.heap.size, 2, none⟩) (Nat.le_refl _) _).setCell (p := ⟨w.heap.size, 3, none⟩) (Nat.le_refl _) _).setCell (p := ⟨w.heap.size + 1, 0, none⟩) (by simp) _
set_option maxRecDepth 100000 in
set_option maxHeartbeats 2000000 in
theorem whole_bad (S : ByteArray) (hS : S.size ≤ 1000000) (h : ∀ n, pNode S.data.toList ≠ some (n, [])) (w : World) : 
    Calls Tryz.prog 42 #[.string S] w fun e w' => ∃ (kd k : Int) (d : ByteArray) (a1 a2 : Option Addr) (z1 k1 z2 k2 : Nat), e = .returned (.tuple #[.agg #[.int .i64 kd, .string d, .slice a1 z1 k1, .slice a2 z2 k2], thrV k]) ∧ Below w.heap.size w w' := by
  have hmf : ∀ (fn : Fn) (first cap : Array Value) (w : World), (Instr.makeFunc fn first cap).run Tryz.prog w = .ok (.func fn first cap) w := fun _ _ _ _ => rfl
  obtain ⟨W, hW⟩ : ∃ W, W = ((w.alloc (.cells #[.int .i64 0, .string ⟨#[]⟩, .slice none 0 0, .slice none 0 0] 25)).alloc (.cells #[.nilIface] 59)).alloc (.cells #[.string S] 89) := ⟨_, rfl⟩
  have hbW : Below w.heap.size w W := by rw [hW]; exact (((Below.refl _ _).alloc (Nat.le_refl _) _).alloc (by simp) _).alloc (by simp; omega) _
  have hR : Row W (w.heap.size + 1 + 1) #[.string S] 89 := by
    have := Row.made ((w.alloc (.cells #[.int .i64 0, .string ⟨#[]⟩, .slice none 0 0, .slice none 0 0] 25)).alloc (.cells #[.nilIface] 59)) #[.string S] 89
    rw [hW]; simpa using this
  have hE : Row W (w.heap.size + 1) #[.nilIface] 59 := by
    have := (Row.made (w.alloc (.cells #[.int .i64 0, .string ⟨#[]⟩, .slice none 0 0, .slice none 0 0] 25)) #[.nilIface] 59).alloc (.cells #[.string S] 89)
    rw [hW]; simpa using this
  have hN : Row W w.heap.size #[.int .i64 0, .string ⟨#[]⟩, .slice none 0 0, .slice none 0 0] 25 := by
    rw [hW]; exact ((Row.made w #[.int .i64 0, .string ⟨#[]⟩, .slice none 0 0, .slice none 0 0] 25).alloc _).alloc _
  have NA := Lib.hid (node_any (w.heap.size + 1 + 1) S.data.toList (by rw [← Lib.size_eq]; exact hS) W ⟨S, rfl, hR⟩)
  have HW := Lib.hid hW; have HBW := Lib.hid hbW; have HE := Lib.hid hE; have HN := Lib.hid hN
  have hszW : w.heap.size + 1 + 1 < W.heap.size := hR.lt
  clear hW hbW hR hE hN
  cases hp : pNode S.data.toList with
  | none =>
    rw [hp] at NA
    clear hp h
    go_enter_defers Tryz.func42, Tryz.ntmps42
    go_wp2_with fail
    rw [← HW.out]
    with_reducible refine NA.out.mono ?_
    rintro e w1 ⟨⟨k, rfl⟩, hg1⟩
    have hN1 := HN.out.turned hg1 (by omega)
    have hE1 := HE.out.turned hg1 (by omega)
    have c0 := hN1.cell 0; have c1 := hN1.cell 1; have c2 := hN1.cell 2; have c3 := hN1.cell 3; have d0 := hE1.cell 0
    have f0 := hN1.free 0; have f1 := hN1.free 1; have f2 := hN1.free 2; have f3 := hN1.free 3; have g0 := hE1.free 0
    simp only [List.getElem?_toArray, List.getElem?_cons_zero, List.getElem?_cons_succ] at c0 c1 c2 c3 d0
    have HB1 := Lib.hid (below_turned HBW.out hg1 (by omega) (by omega))
    have HN1 := Lib.hid hN1; have HE1 := Lib.hid hE1
    clear hg1 hN1 hE1
    go_wp2
    refine leaves_cons (f := 60) (args := #[.pointer (some ⟨w.heap.size + 1, 0, none⟩)]) (by simp) (by simp [go_sem]) ?_
    refine (catch_panicking (w.heap.size + 1) .nilIface k _ d0 g0).mono ?_
    rintro e u' w'' ⟨rfl, rfl, rfl⟩
    have hR3 := HN1.out.other ⟨w.heap.size + 1, 0, none⟩ (thrV k) (show w.heap.size ≠ w.heap.size + 1 by omega)
    have hE4 := HE1.out.set 0 (thrV k)
    have t0 := hR3.cell 0; have t1 := hR3.cell 1; have t2 := hR3.cell 2; have t3 := hR3.cell 3; have u0 := hE4.cell 0
    simp at t0 t1 t2 t3 u0
    simp only [settle, List.dropWhile, Leaves]
    exact ⟨.tuple #[.agg #[.int .i64 0, .string ⟨#[]⟩, .slice none 0 0, .slice none 0 0], thrV k], by simp [results, Tryz.results42, go_sem, t0, t1, t2, t3, u0], 0, k, ⟨#[]⟩, none, none, 0, 0, 0, 0, rfl, HB1.out.setCell (p := ⟨w.heap.size + 1, 0, none⟩) (by simp) _⟩
  | some x =>
    obtain ⟨n, r⟩ := x
    have hr : r ≠ [] := fun e => h n (by rw [hp, e])
    rw [hp] at NA
    clear hp h
    go_enter_defers Tryz.func42, Tryz.ntmps42
    go_wp2_with fail
    rw [← HW.out]
    with_reducible refine NA.out.mono ?_
    rintro e w1 ⟨⟨pv, ev, rfl, hp, he⟩, hg1, hR1⟩
    have hN1 := HN.out.turned hg1 (by omega)
    have hE1 := HE.out.turned hg1 (by omega)
    have c0 := hN1.cell 0; have c1 := hN1.cell 1; have c2 := hN1.cell 2; have c3 := hN1.cell 3; have d0 := hE1.cell 0
    have f0 := hN1.free 0; have f1 := hN1.free 1; have f2 := hN1.free 2; have f3 := hN1.free 3; have g0 := hE1.free 0
    simp only [List.getElem?_toArray, List.getElem?_cons_zero, List.getElem?_cons_succ] at c0 c1 c2 c3 d0
    obtain ⟨_, a1, k1, hv1, _, _⟩ := hp.is
    obtain ⟨_, a2, k2, hv2, _, _⟩ := he.is
    simp only at hv1 hv2
    obtain ⟨z1, hz1⟩ : ∃ z, z = n.ps.length := ⟨_, rfl⟩
    obtain ⟨z2, hz2⟩ : ∃ z, z = n.es.length := ⟨_, rfl⟩
    rw [← hz1] at hv1; rw [← hz2] at hv2
    clear hz1 hz2
    subst hv1 hv2
    have HG1 := Lib.hid hg1
    have HP := Lib.hid hp; have HEV := Lib.hid he; have HR1 := Lib.hid hR1
    have hszs := hg1.size
    have hr4 := Lib.hid (row4_row hN1 (.int .i64 n.kd) (.string n.d) (.slice a1 z1 k1) (.slice a2 z2 k2))
    have HE1 := Lib.hid (((((hE1.other ⟨w.heap.size, 0, none⟩ (.int .i64 n.kd) (by simp)).other ⟨w.heap.size, 1, none⟩ (.string n.d) (by simp)).other ⟨w.heap.size, 2, none⟩ (.slice a1 z1 k1) (by simp)).other ⟨w.heap.size, 3, none⟩ (.slice a2 z2 k2) (by simp)))
    have hrd := ((((hR1.other ⟨w.heap.size, 0, none⟩ (show w.heap.size + 1 + 1 ≠ w.heap.size by omega) (.int .i64 n.kd)).other ⟨w.heap.size, 1, none⟩ (show w.heap.size + 1 + 1 ≠ w.heap.size by omega) (.string n.d)).other ⟨w.heap.size, 2, none⟩ (show w.heap.size + 1 + 1 ≠ w.heap.size by omega) (.slice a1 z1 k1)).other ⟨w.heap.size, 3, none⟩ (show w.heap.size + 1 + 1 ≠ w.heap.size by omega) (.slice a2 z2 k2))
    have EA := Lib.hid (end_no _ _ hr _ hrd)
    clear hN1 hE1 hg1 hp he hR1 hrd hr
    go_wp2_with fail
    refine EA.out.mono ?_
    rintro e w2 ⟨⟨k, rfl⟩, hg2⟩
    have HR2 := Lib.hid (hr4.out.turned hg2 (by omega))
    have hE2 := HE1.out.turned hg2 (by omega)
    have e0 := hE2.cell 0; have s0 := hE2.free 0
    simp only [List.getElem?_toArray, List.getElem?_cons_zero] at e0
    have HE2 := Lib.hid hE2
    have HB2 := Lib.hid (below_turned (((((below_turned HBW.out HG1.out (by omega) (by omega)).setCell (p := ⟨w.heap.size, 0, none⟩) (Nat.le_refl _) (.int .i64 n.kd)).setCell (p := ⟨w.heap.size, 1, none⟩) (Nat.le_refl _) (.string n.d)).setCell (p := ⟨w.heap.size, 2, none⟩) (Nat.le_refl _) (.slice a1 z1 k1)).setCell (p := ⟨w.heap.size, 3, none⟩) (Nat.le_refl _) (.slice a2 z2 k2)) hg2 (by omega) (by simp; omega))
    clear hE2 hg2 c0 c1 c2 c3 d0 f0 f1 f2 f3 g0 EA HE1 hr4
    go_wp2
    refine leaves_cons (f := 60) (args := #[.pointer (some ⟨w.heap.size + 1, 0, none⟩)]) (by simp) (by simp [go_sem]) ?_
    refine (catch_panicking (w.heap.size + 1) .nilIface k _ e0 s0).mono ?_
    rintro e u' w'' ⟨rfl, rfl, rfl⟩
    have hR3 := HR2.out.other ⟨w.heap.size + 1, 0, none⟩ (thrV k) (show w.heap.size ≠ w.heap.size + 1 by omega)
    have hE4 := HE2.out.set 0 (thrV k)
    have t0 := hR3.cell 0; have t1 := hR3.cell 1; have t2 := hR3.cell 2; have t3 := hR3.cell 3; have u0 := hE4.cell 0
    simp at t0 t1 t2 t3 u0
    simp only [settle, List.dropWhile, Leaves]
    exact ⟨.tuple #[.agg #[.int .i64 n.kd, .string n.d, .slice a1 z1 k1, .slice a2 z2 k2], thrV k], by simp [results, Tryz.results42, go_sem, t0, t1, t2, t3, u0], n.kd, k, n.d, a1, a2, z1, k1, z2, k2, rfl, HB2.out.setCell (p := ⟨w.heap.size + 1, 0, none⟩) (by simp) _⟩
end Go.Proofs.YtohicccbaenegaaGreatDoor

/-
  Contracts over this translation: the document's Fit.
-/
import Derived.Test.YtlccihidedfemaaGreatDoorQb3
set_option linter.unusedVariables false
namespace Go.Proofs.YtlccihidedfemaaGreatDoor
open Go.RowKit
attribute [local go_sem] Oper.semAt_some
abbrev ndV (n : Nd) (pv ev : Value) : Value := .agg #[.int .i64 n.kd, .string n.d, pv, ev]
theorem emp_t {b : ByteArray} (h : b.size = 0) : b.toList.isEmpty = true := by rw [size_zero h, Lib.toList_data]; rfl
theorem emp_f {b : ByteArray} (h : b.size ≠ 0) : b.toList.isEmpty = false := by
 rw [Lib.toList_data]
 cases hd : b.data.toList with
 | nil => exact absurd (by rw [Lib.size_eq, hd]; rfl) h
 | cons => rfl
set_option maxRecDepth 100000 in
set_option maxHeartbeats 8000000 in
theorem rFit_any (n : Nd) (pv ev : Value) (w : World) (hp : IsParts w pv n.ps) (he : IsEntries w ev n.es) :
  Calls Tryz.prog 42 #[ndV n pv ev] w fun e w' => e = .returned (.bool (fitN n)) ∧ Below w.heap.size w w' := by
 have HP := Lib.hid hp; have HE := Lib.hid he
 obtain ⟨_, a1, cap1, hv1, _, _⟩ := hp
 obtain ⟨_, a2, cap2, hv2, _, _⟩ := he
 subst hv1 hv2
 have FF := Lib.hid rfitFile_any
 have FD := Lib.hid rfitDir_any
 by_cases k1 : n.kd = 1
 ·have t1 := ie_t k1
  have k := Lib.hid k1; clear k1
  by_cases d1 : 1 ≤ n.d.size
  ·have qd1 := (show decide ((1 : Int) ≤ (n.d.size : Int)) = true from decide_eq_true (by omega))
   by_cases d2 : n.d.size ≤ 4096
   ·have qd2 := (show decide ((n.d.size : Int) ≤ 4096) = true from decide_eq_true (by omega))
    by_cases p0 : n.ps.length = 0
    ·have qp0 := ie_t (show (n.ps.length : Int) = 0 by omega)
     by_cases e0 : n.es.length = 0
     ·have qe0 := ie_t (show (n.es.length : Int) = 0 by omega)
      have HF : Hid (fitN n = true) := show _ = _ by rw [fit_piece k.out]; simp only [Bool.and_eq_true, decide_eq_true_eq]; exact ⟨⟨⟨d1, d2⟩, p0⟩, e0⟩
      clear d1 d2 p0 e0
      go_enter Tryz.func42, Tryz.ntmps42
      go_wp2
      go_ret
      exact ⟨by rw [HF.out]; rfl, (Below.refl _ _).alloc (Nat.le_refl _) _⟩
     ·have qe0 := ie_f (show (n.es.length : Int) ≠ 0 by omega)
      have HF : Hid (fitN n = false) := show _ = _ by rw [fit_piece k.out, decide_eq_false e0]; simp
      clear e0
      go_enter Tryz.func42, Tryz.ntmps42
      go_wp2
      go_ret
      exact ⟨by rw [HF.out]; rfl, (Below.refl _ _).alloc (Nat.le_refl _) _⟩
    ·have qp0 := ie_f (show (n.ps.length : Int) ≠ 0 by omega)
     have HF : Hid (fitN n = false) := show _ = _ by rw [fit_piece k.out, decide_eq_false p0]; simp
     clear p0
     go_enter Tryz.func42, Tryz.ntmps42
     go_wp2
     go_ret
     exact ⟨by rw [HF.out]; rfl, (Below.refl _ _).alloc (Nat.le_refl _) _⟩
   ·have qd2 := (show decide ((n.d.size : Int) ≤ 4096) = false from decide_eq_false (by omega))
    have HF : Hid (fitN n = false) := show _ = _ by rw [fit_piece k.out, decide_eq_false d2]; simp
    clear d2
    go_enter Tryz.func42, Tryz.ntmps42
    go_wp2
    go_ret
    exact ⟨by rw [HF.out]; rfl, (Below.refl _ _).alloc (Nat.le_refl _) _⟩
  ·have qd1 := (show decide ((1 : Int) ≤ (n.d.size : Int)) = false from decide_eq_false (by omega))
   have HF : Hid (fitN n = false) := show _ = _ by rw [fit_piece k.out, decide_eq_false d1]; simp
   clear d1
   go_enter Tryz.func42, Tryz.ntmps42
   go_wp2
   go_ret
   exact ⟨by rw [HF.out]; rfl, (Below.refl _ _).alloc (Nat.le_refl _) _⟩
 ·have t1 := ie_f k1
  by_cases k2 : n.kd = 2
  ·have t2 := ie_t k2
   have k := Lib.hid k2; clear k2 k1
   by_cases d0 : n.d.size = 0
   ·have qd0 := emp_t d0
    by_cases e0 : n.es.length = 0
    ·have qe0 := ie_t (show (n.es.length : Int) = 0 by omega)
     by_cases p9 : n.ps.length ≤ 1024
     ·have qp9 := (show decide ((n.ps.length : Int) ≤ 1024) = true from decide_eq_true (by omega))
      have HF : Hid (fitN n = fitFileB n.ps) := show _ = _ by rw [fit_file k.out, decide_eq_true d0, decide_eq_true e0, decide_eq_true p9]; simp
      have F1 := Lib.hid (fun W hW => FF.out _ n.ps W (HP.out.stays hW) (by omega))
      clear d0 e0 p9
      go_enter Tryz.func42, Tryz.ntmps42
      go_wp2_with fail
      refine (F1.out _ ((Below.refl _ _).alloc (Nat.le_refl _) _)).mono ?_
      rintro e w1 ⟨rfl, rfl⟩
      go_wp2
      go_ret
      exact ⟨by rw [HF.out]; rfl, (Below.refl _ _).alloc (Nat.le_refl _) _⟩
     ·have qp9 := (show decide ((n.ps.length : Int) ≤ 1024) = false from decide_eq_false (by omega))
      have HF : Hid (fitN n = false) := show _ = _ by rw [fit_file k.out, decide_eq_false p9]; simp
      clear p9
      go_enter Tryz.func42, Tryz.ntmps42
      go_wp2
      go_ret
      exact ⟨by rw [HF.out]; rfl, (Below.refl _ _).alloc (Nat.le_refl _) _⟩
    ·have qe0 := ie_f (show (n.es.length : Int) ≠ 0 by omega)
     have HF : Hid (fitN n = false) := show _ = _ by rw [fit_file k.out, decide_eq_false e0]; simp
     clear e0
     go_enter Tryz.func42, Tryz.ntmps42
     go_wp2
     go_ret
     exact ⟨by rw [HF.out]; rfl, (Below.refl _ _).alloc (Nat.le_refl _) _⟩
   ·have qd0 := emp_f d0
    have HF : Hid (fitN n = false) := show _ = _ by rw [fit_file k.out, decide_eq_false d0]; simp
    clear d0
    go_enter Tryz.func42, Tryz.ntmps42
    go_wp2
    go_ret
    exact ⟨by rw [HF.out]; rfl, (Below.refl _ _).alloc (Nat.le_refl _) _⟩
  ·have t2 := ie_f k2
   by_cases k3 : n.kd = 3
   ·have t3 := ie_t k3
    have k := Lib.hid k3; clear k3 k2 k1
    by_cases d0 : n.d.size = 0
    ·have qd0 := emp_t d0
     by_cases p0 : n.ps.length = 0
     ·have qp0 := ie_t (show (n.ps.length : Int) = 0 by omega)
      by_cases e9 : n.es.length ≤ 60
      ·have qe9 := (show decide ((n.es.length : Int) ≤ 60) = true from decide_eq_true (by omega))
       have HF : Hid (fitN n = fitDirB n.es) := show _ = _ by rw [fit_dir k.out, decide_eq_true d0, decide_eq_true p0, decide_eq_true e9]; simp
       have F1 := Lib.hid (fun W hW => FD.out _ n.es W (HE.out.stays hW))
       clear d0 p0 e9
       go_enter Tryz.func42, Tryz.ntmps42
       go_wp2_with fail
       refine (F1.out _ ((Below.refl _ _).alloc (Nat.le_refl _) _)).mono ?_
       rintro e w1 ⟨rfl, hb1⟩
       go_wp2
       go_ret
       exact ⟨by rw [HF.out]; rfl, below_step ((Below.refl _ _).alloc (Nat.le_refl _) _) hb1⟩
      ·have qe9 := (show decide ((n.es.length : Int) ≤ 60) = false from decide_eq_false (by omega))
       have HF : Hid (fitN n = false) := show _ = _ by rw [fit_dir k.out, decide_eq_false e9]; simp
       clear e9
       go_enter Tryz.func42, Tryz.ntmps42
       go_wp2
       go_ret
       exact ⟨by rw [HF.out]; rfl, (Below.refl _ _).alloc (Nat.le_refl _) _⟩
     ·have qp0 := ie_f (show (n.ps.length : Int) ≠ 0 by omega)
      have HF : Hid (fitN n = false) := show _ = _ by rw [fit_dir k.out, decide_eq_false p0]; simp
      clear p0
      go_enter Tryz.func42, Tryz.ntmps42
      go_wp2
      go_ret
      exact ⟨by rw [HF.out]; rfl, (Below.refl _ _).alloc (Nat.le_refl _) _⟩
    ·have qd0 := emp_f d0
     have HF : Hid (fitN n = false) := show _ = _ by rw [fit_dir k.out, decide_eq_false d0]; simp
     clear d0
     go_enter Tryz.func42, Tryz.ntmps42
     go_wp2
     go_ret
     exact ⟨by rw [HF.out]; rfl, (Below.refl _ _).alloc (Nat.le_refl _) _⟩
   ·have t3 := ie_f k3
    have HF : Hid (fitN n = false) := fit_none k1 k2 k3
    clear k1 k2 k3
    go_enter Tryz.func42, Tryz.ntmps42
    go_wp2
    go_ret
    exact ⟨by rw [HF.out]; rfl, (Below.refl _ _).alloc (Nat.le_refl _) _⟩
end Go.Proofs.YtlccihidedfemaaGreatDoor

/-
  Contracts over this translation: the model's '==' of parts and of entries; the document's Same.
-/
import Derived.Test.YtohicccbaenegaaGreatDoorYNdd
set_option linter.unusedVariables false
namespace Go.Proofs.YtohicccbaenegaaGreatDoor
open Go.RowKit
attribute [local go_sem] Oper.semAt_some

open Classical in
noncomputable def sameN (n m : Nd) : Bool := decide (n = m)
theorem sameN_yes {n m : Nd} (h : n = m) : sameN n m = true := by simp [sameN, h]
theorem sameN_no {n m : Nd} (h : n ≠ m) : sameN n m = false := by simp [sameN, h]
def eqP (x y : Pt) : Bool := x.k.toList == y.k.toList && x.n == y.n
def eqE (x y : En) : Bool := x.m.toList == y.m.toList && x.kd == y.kd && x.x == y.x && x.k.toList == y.k.toList
theorem eqP_iff {x y : Pt} : eqP x y = true ↔ x = y := by
  unfold eqP
  constructor
  · intro h
    simp only [Bool.and_eq_true, beq_iff_eq] at h
    obtain ⟨h1, h2⟩ := h
    rw [Lib.toList_data, Lib.toList_data] at h1
    exact pt_ext (str_eq' h1) h2
  · rintro rfl; simp
theorem eqE_iff {x y : En} : eqE x y = true ↔ x = y := by
  unfold eqE
  constructor
  · intro h
    simp only [Bool.and_eq_true, beq_iff_eq] at h
    obtain ⟨⟨⟨h1, h2⟩, h3⟩, h4⟩ := h
    rw [Lib.toList_data, Lib.toList_data] at h1 h4
    exact en_ext (str_eq' h1) h2 h3 (str_eq' h4)
  · rintro rfl; simp
theorem eqP_yes {x y : Pt} (h : x = y) : eqP x y = true := eqP_iff.2 h
theorem eqP_no {x y : Pt} (h : x ≠ y) : eqP x y = false := by
  rcases hb : eqP x y with _ | _
  · rfl
  · exact absurd (eqP_iff.1 hb) h
theorem eqP_eql (x y : Pt) (w : World) : (binOp .eql 40 (ptV x) (ptV y)).run Tryz.prog w = .ok (.bool (eqP x y)) w := by
  have hS : Tryz.prog.underlying 40 = some (.struct (Tryz.prog.fieldsOf 40)) := by kernel_rfl
  have hp : Tryz.prog.stoodInHeld 40 = false := by kernel_rfl
  have gai := Tryz.isAgg3; have gzi := Tryz.sizeOf3; have gas := Tryz.isAgg9; have gzs := Tryz.sizeOf9
  rw [run_eql_struct, show (10000 : Nat) = 9999 + 1 from rfl, run_equalIn_agg w 9999 40 _ _ hS hp]
  simp only [Program.fieldsOf, Tryz.underlying40]
  go_simp
  unfold eqP
  by_cases h0 : x.k.toList = y.k.toList <;> by_cases h1 : x.n = y.n <;> simp [h0, h1]
theorem eqP_neq (x y : Pt) (w : World) : (binOp .neq 40 (ptV x) (ptV y)).run Tryz.prog w = .ok (.bool (!eqP x y)) w := by
  have hS : Tryz.prog.underlying 40 = some (.struct (Tryz.prog.fieldsOf 40)) := by kernel_rfl
  have hp : Tryz.prog.stoodInHeld 40 = false := by kernel_rfl
  have gai := Tryz.isAgg3; have gzi := Tryz.sizeOf3; have gas := Tryz.isAgg9; have gzs := Tryz.sizeOf9
  rw [run_neq_struct, show (10000 : Nat) = 9999 + 1 from rfl, run_equalIn_agg w 9999 40 _ _ hS hp]
  simp only [Program.fieldsOf, Tryz.underlying40]
  go_simp
  unfold eqP
  by_cases h0 : x.k.toList = y.k.toList <;> by_cases h1 : x.n = y.n <;> simp [h0, h1]
theorem eqP_guard (op : BinOp) (a b : Operand) (x y : Pt) (w : World) : Sem.run Tryz.prog (eqGuard op 40 a b (ptV x) (ptV y)) w = .ok () w :=
  run_eqGuard_agg w op _ a b _ _ (by kernel_rfl)
theorem eqE_yes {x y : En} (h : x = y) : eqE x y = true := eqE_iff.2 h
theorem eqE_no {x y : En} (h : x ≠ y) : eqE x y = false := by
  rcases hb : eqE x y with _ | _
  · rfl
  · exact absurd (eqE_iff.1 hb) h
theorem eqE_eql (x y : En) (w : World) : (binOp .eql 43 (enV x) (enV y)).run Tryz.prog w = .ok (.bool (eqE x y)) w := by
  have hS : Tryz.prog.underlying 43 = some (.struct (Tryz.prog.fieldsOf 43)) := by kernel_rfl
  have hp : Tryz.prog.stoodInHeld 43 = false := by kernel_rfl
  have gab := Tryz.isAgg4; have gzb := Tryz.sizeOf4; have gai := Tryz.isAgg3; have gzi := Tryz.sizeOf3; have gas := Tryz.isAgg9; have gzs := Tryz.sizeOf9
  rw [run_eql_struct, show (10000 : Nat) = 9999 + 1 from rfl, run_equalIn_agg w 9999 43 _ _ hS hp]
  simp only [Program.fieldsOf, Tryz.underlying43]
  go_simp
  unfold eqE
  by_cases h0 : x.m.toList = y.m.toList <;> by_cases h1 : x.kd = y.kd <;> by_cases h2 : x.x = y.x <;> by_cases h3 : x.k.toList = y.k.toList <;> simp [h0, h1, h2, h3]
theorem eqE_neq (x y : En) (w : World) : (binOp .neq 43 (enV x) (enV y)).run Tryz.prog w = .ok (.bool (!eqE x y)) w := by
  have hS : Tryz.prog.underlying 43 = some (.struct (Tryz.prog.fieldsOf 43)) := by kernel_rfl
  have hp : Tryz.prog.stoodInHeld 43 = false := by kernel_rfl
  have gab := Tryz.isAgg4; have gzb := Tryz.sizeOf4; have gai := Tryz.isAgg3; have gzi := Tryz.sizeOf3; have gas := Tryz.isAgg9; have gzs := Tryz.sizeOf9
  rw [run_neq_struct, show (10000 : Nat) = 9999 + 1 from rfl, run_equalIn_agg w 9999 43 _ _ hS hp]
  simp only [Program.fieldsOf, Tryz.underlying43]
  go_simp
  unfold eqE
  by_cases h0 : x.m.toList = y.m.toList <;> by_cases h1 : x.kd = y.kd <;> by_cases h2 : x.x = y.x <;> by_cases h3 : x.k.toList = y.k.toList <;> simp [h0, h1, h2, h3]
theorem eqE_guard (op : BinOp) (a b : Operand) (x y : En) (w : World) : Sem.run Tryz.prog (eqGuard op 43 a b (enV x) (enV y)) w = .ok () w :=
  run_eqGuard_agg w op _ a b _ _ (by kernel_rfl)
theorem takeP_same {L M : List Pt} {k : Nat} (hk : k < L.length) (hm : k < M.length) (h : L.take k = M.take k) (h2 : L[k] = M[k]) : L.take (k + 1) = M.take (k + 1) := by
  rw [List.take_succ_eq_append_getElem hk, List.take_succ_eq_append_getElem hm, h, h2]
theorem takeE_same {L M : List En} {k : Nat} (hk : k < L.length) (hm : k < M.length) (h : L.take k = M.take k) (h2 : L[k] = M[k]) : L.take (k + 1) = M.take (k + 1) := by
  rw [List.take_succ_eq_append_getElem hk, List.take_succ_eq_append_getElem hm, h, h2]
theorem ndBox2 (w : World) (n m : Nd) (a b c d : Value) (t : TypeId) : NdBox ((w.alloc (.cells #[.int .i64 n.kd, .string n.d, a, b] t)).alloc (.cells #[.int .i64 m.kd, .string m.d, c, d] t)) w.heap.size n a b ∧ NdBox ((w.alloc (.cells #[.int .i64 n.kd, .string n.d, a, b] t)).alloc (.cells #[.int .i64 m.kd, .string m.d, c, d] t)) (w.heap.size + 1) m c d := by
  refine ⟨(ndBox_new w n a b t).stays ((Below.refl _ _).alloc (Nat.le_refl _) _), ?_⟩
  have := ndBox_new (w.alloc (.cells #[.int .i64 n.kd, .string n.d, a, b] t)) m c d t
  simpa using this
set_option maxRecDepth 100000 in
set_option maxHeartbeats 8000000 in
theorem rSame_any (n m : Nd) (pv ev pv2 ev2 : Value) (w : World) (hp : IsParts w pv n.ps) (he : IsEntries w ev n.es) (hp2 : IsParts w pv2 m.ps) (he2 : IsEntries w ev2 m.es) :
    Calls Tryz.prog 12 #[ndV n pv ev, ndV m pv2 ev2] w fun e w' => e = .returned (.bool (sameN n m)) ∧ Below w.heap.size w w' := by
  have HP := Lib.hid hp; have HE := Lib.hid he; have HP2 := Lib.hid hp2; have HE2 := Lib.hid he2
  obtain ⟨m1, a1, cap1, hv1, _, _⟩ := hp
  obtain ⟨m2, a2, cap2, hv2, _, _⟩ := he
  obtain ⟨m3, a3, cap3, hv3, _, _⟩ := hp2
  obtain ⟨m4, a4, cap4, hv4, _, _⟩ := he2
  subst hv1 hv2 hv3 hv4
  unfold maxLen at m1 m2 m3 m4
  have hmm1 : n.ps.length ≤ 9223372036854775807 := by omega
  have hmm2 : n.es.length ≤ 9223372036854775807 := by omega
  clear m1 m2 m3 m4
  have hne1 : ∀ (x y : Pt) (w : World), Sem.run Tryz.prog (binOp .neq 40 (ptV x) (ptV y)) w = .ok (.bool (!eqP x y)) w := fun x y w => eqP_neq x y w
  have hgd1 : ∀ (op : BinOp) (a b : Operand) (x y : Pt) (w : World), Sem.run Tryz.prog (eqGuard op 40 a b (ptV x) (ptV y)) w = .ok () w := fun op a b x y w => eqP_guard op a b x y w
  have hne2 : ∀ (x y : En) (w : World), Sem.run Tryz.prog (binOp .neq 43 (enV x) (enV y)) w = .ok (.bool (!eqE x y)) w := fun x y w => eqE_neq x y w
  have hgd2 : ∀ (op : BinOp) (a b : Operand) (x y : En) (w : World), Sem.run Tryz.prog (eqGuard op 43 a b (enV x) (enV y)) w = .ok () w := fun op a b x y w => eqE_guard op a b x y w
  obtain ⟨V, hV⟩ : ∃ V, V = (w.alloc (.cells #[.int .i64 n.kd, .string n.d, .slice a1 n.ps.length cap1, .slice a2 n.es.length cap2] 25)).alloc (.cells #[.int .i64 m.kd, .string m.d, .slice a3 m.ps.length cap3, .slice a4 m.es.length cap4] 25) := ⟨_, rfl⟩
  have hbV : Below w.heap.size w V := by rw [hV]; exact ((Below.refl _ _).alloc (Nat.le_refl _) _).alloc (by simp) _
  have hbox := ndBox2 w n m (.slice a1 n.ps.length cap1) (.slice a2 n.es.length cap2) (.slice a3 m.ps.length cap3) (.slice a4 m.es.length cap4) 25
  rw [← hV] at hbox
  have HP1 := Lib.hid (HP.out.stays hbV); have HE1 := Lib.hid (HE.out.stays hbV); have HP3 := Lib.hid (HP2.out.stays hbV); have HE3 := Lib.hid (HE2.out.stays hbV)
  have HV := Lib.hid hV; have HBV := Lib.hid hbV
  obtain ⟨c0, c1, c2, c3⟩ := hbox.1.cells
  obtain ⟨d0, d1, d2, d3⟩ := hbox.2.cells
  obtain ⟨B1, hB1⟩ : ∃ B1, B1 = w.heap.size := ⟨_, rfl⟩
  clear hbV hbox HP HE HP2 HE2
  clear hV
  by_cases k1 : n.kd = m.kd
  · have q1 := in_f k1
    have K1 := Lib.hid k1; clear k1
    by_cases k2 : n.d = m.d
    · have q2 := beq_true k2
      have q2' : (!(n.d.toList == m.d.toList)) = false := by rw [q2]; rfl
      have K2 := Lib.hid k2; clear k2
      by_cases k3 : n.ps.length = m.ps.length
      · have q3 := in_f (show (n.ps.length : Int) = (m.ps.length : Int) by omega)
        have K3 := Lib.hid k3; clear k3
        by_cases k4 : n.es.length = m.es.length
        · have q4 := in_f (show (n.es.length : Int) = (m.es.length : Int) by omega)
          have K4 := Lib.hid k4; clear k4
          go_enter Tryz.func12, Tryz.ntmps12
          go_wp2_with fail
          rw [← HV.out]
          go_wp2
          go_loopw [5] (fun i wr => ∃ k j : Nat, k ≤ n.ps.length ∧ i = .int .i64 k ∧ n.ps.take k = m.ps.take k ∧ wr = V.drewN j) (fun i _ => n.ps.length - (intOf i).toNat)
          case atStart => exact ⟨0, 0, Nat.zero_le _, rfl, rfl, rfl⟩
          case round =>
            obtain ⟨k, j, hk, rfl, he, rfl⟩ := hrel
            have HTK := Lib.hid he; clear he
            by_cases hlt : k < n.ps.length
            · have hlt2 : k < m.ps.length := by have := K3.out; omega
              obtain ⟨_, _, _, e, _, hc⟩ := HP1.out
              cases e
              obtain ⟨b1, o1, rfl, _, g1⟩ := hc (by omega)
              obtain ⟨_, _, _, e, _, hc2⟩ := HP3.out
              cases e
              obtain ⟨b2, o2, rfl, _, g2⟩ := hc2 (by omega)
              obtain ⟨u0, u1⟩ := g1 k hlt
              obtain ⟨v0, v1⟩ := g2 k hlt2
              clear g1 g2 hc hc2
              have hbk : decide ((k : Int) < (n.ps.length : Int)) = true := by simpa using (show (k : Int) < n.ps.length by omega)
              have hbk2 : decide ((k : Int) < (m.ps.length : Int)) = true := by simpa using (show (k : Int) < m.ps.length by omega)
              have HST := Lib.hid (takeP_same hlt hlt2 HTK.out)
              have HG := Lib.hid (show n.ps[k] ≠ m.ps[k] → n ≠ m from fun h e => h (by subst e; rfl))
              obtain ⟨x, hx⟩ : ∃ x, x = n.ps[k] := ⟨_, rfl⟩
              obtain ⟨y, hy⟩ : ∃ y, y = m.ps[k] := ⟨_, rfl⟩
              rw [← hx] at u0 u1 HST HG
              rw [← hy] at v0 v1 HST HG
              clear hx hy
              by_cases hxy : x = y
              · have q := eqP_yes hxy
                have HT2 := Lib.hid (HST.out hxy)
                clear hxy
                go_wp2_with fail
                go_quiet (fail)
                go_wp2
                go_roundw
                case rel => exact ⟨k + 1, j + nq, by omega, by go_num, HT2.out, by simp [World.drewN]⟩
                case measure => simp [intOf]; omega
              · have q := eqP_no hxy
                have HN := Lib.hid (sameN_no (HG.out hxy))
                clear hxy
                go_wp2_with fail
                go_quiet (fail)
                go_wp2
                go_ret
                exact ⟨by rw [HN.out]; rfl, below_drewN (below_drewN HBV.out _) _⟩
            · have HPS : Hid (n.ps = m.ps) := Lib.hid (by have := HTK.out; have h3 := K3.out; rwa [List.take_of_length_le (by omega), List.take_of_length_le (by omega)] at this)
              go_wp2
              go_loopw [6] (fun i wr => ∃ k j : Nat, k ≤ n.es.length ∧ i = .int .i64 k ∧ n.es.take k = m.es.take k ∧ wr = V.drewN j) (fun i _ => n.es.length - (intOf i).toNat)
              case atStart => exact ⟨0, _, Nat.zero_le _, rfl, rfl, rfl⟩
              case round =>
                obtain ⟨k, j, hk, rfl, he, rfl⟩ := hrel
                have HTK := Lib.hid he; clear he
                by_cases hlt : k < n.es.length
                · have hlt2 : k < m.es.length := by have := K4.out; omega
                  obtain ⟨_, _, _, e, _, hc⟩ := HE1.out
                  cases e
                  obtain ⟨b1, o1, rfl, _, g1⟩ := hc (by omega)
                  obtain ⟨_, _, _, e, _, hc2⟩ := HE3.out
                  cases e
                  obtain ⟨b2, o2, rfl, _, g2⟩ := hc2 (by omega)
                  obtain ⟨u0, u1, u2, u3⟩ := g1 k hlt
                  obtain ⟨v0, v1, v2, v3⟩ := g2 k hlt2
                  clear g1 g2 hc hc2
                  have hbk : decide ((k : Int) < (n.es.length : Int)) = true := by simpa using (show (k : Int) < n.es.length by omega)
                  have hbk2 : decide ((k : Int) < (m.es.length : Int)) = true := by simpa using (show (k : Int) < m.es.length by omega)
                  have HST := Lib.hid (takeE_same hlt hlt2 HTK.out)
                  have HG := Lib.hid (show n.es[k] ≠ m.es[k] → n ≠ m from fun h e => h (by subst e; rfl))
                  obtain ⟨x, hx⟩ : ∃ x, x = n.es[k] := ⟨_, rfl⟩
                  obtain ⟨y, hy⟩ : ∃ y, y = m.es[k] := ⟨_, rfl⟩
                  rw [← hx] at u0 u1 u2 u3 HST HG
                  rw [← hy] at v0 v1 v2 v3 HST HG
                  clear hx hy
                  by_cases hxy : x = y
                  · have q := eqE_yes hxy
                    have HT2 := Lib.hid (HST.out hxy)
                    clear hxy
                    go_wp2_with fail
                    go_quiet (fail)
                    go_wp2
                    go_roundw
                    case rel => exact ⟨k + 1, j + nq, by omega, by go_num, HT2.out, by simp [World.drewN]⟩
                    case measure => simp [intOf]; omega
                  · have q := eqE_no hxy
                    have HN := Lib.hid (sameN_no (HG.out hxy))
                    clear hxy
                    go_wp2_with fail
                    go_quiet (fail)
                    go_wp2
                    go_ret
                    exact ⟨by rw [HN.out]; rfl, below_drewN (below_drewN HBV.out _) _⟩
                · have HES : Hid (n.es = m.es) := Lib.hid (by have := HTK.out; have h4 := K4.out; rwa [List.take_of_length_le (by omega), List.take_of_length_le (by omega)] at this)
                  have HF := Lib.hid (sameN_yes (nd_ext K1.out K2.out HPS.out HES.out))
                  go_wp2
                  go_ret
                  exact ⟨by rw [HF.out]; rfl, below_drewN HBV.out _⟩
        · have q4 := in_t (show (n.es.length : Int) ≠ (m.es.length : Int) by omega)
          have HF := Lib.hid (sameN_no (show n ≠ m from fun e => k4 (by rw [e])))
          clear k4
          go_enter Tryz.func12, Tryz.ntmps12
          go_wp2_with fail
          rw [← HV.out]
          go_wp2
          go_ret
          exact ⟨by rw [HF.out]; rfl, HBV.out⟩
      · have q3 := in_t (show (n.ps.length : Int) ≠ (m.ps.length : Int) by omega)
        have HF := Lib.hid (sameN_no (show n ≠ m from fun e => k3 (by rw [e])))
        clear k3
        go_enter Tryz.func12, Tryz.ntmps12
        go_wp2_with fail
        rw [← HV.out]
        go_wp2
        go_ret
        exact ⟨by rw [HF.out]; rfl, HBV.out⟩
    · have q2 := beq_false k2
      have q2' : (!(n.d.toList == m.d.toList)) = true := by rw [q2]; rfl
      have HF := Lib.hid (sameN_no (show n ≠ m from fun e => k2 (by rw [e])))
      clear k2
      go_enter Tryz.func12, Tryz.ntmps12
      go_wp2_with fail
      rw [← HV.out]
      go_wp2
      go_ret
      exact ⟨by rw [HF.out]; rfl, HBV.out⟩
  · have q1 := in_t k1
    have HF := Lib.hid (sameN_no (show n ≠ m from fun e => k1 (by rw [e])))
    clear k1
    go_enter Tryz.func12, Tryz.ntmps12
    go_wp2_with fail
    rw [← HV.out]
    go_wp2
    go_ret
    exact ⟨by rw [HF.out]; rfl, HBV.out⟩
end Go.Proofs.YtohicccbaenegaaGreatDoor

/-
  Texts put together: contracts and laws that this seat's proofs share.
-/
import Derived.Test.YtninfmlemdnjbaaQa0
import Derived.Orders
import Derived.Still
import Derived.Handy
import Derived.Shelf.Abstract
import Derived.Test.YtninfmlemdnjbaaProg
import Derived.KernelRfl
import Derived.Lib.Hide
import Derived.ChangeAlike
import Derived.ChangeKeysEq
import Derived.Shelf.Strings.BuilderK
import Derived.RegionTactic
import Derived.WalkKit
import Derived.Shelf.Strings.Builder2
import Derived.Deep.QuietTactic
import Derived.BigQuiet
import Derived.WalkSmall
import Derived.Deep.LoopGhost
import Derived.OrdersIn
import Derived.TacticsIn
import Derived.RangeFuncCalls
set_option linter.unusedVariables false
set_option linter.unusedSimpArgs false
namespace Go.Proofs.Ytninfmlemdnjbaa
open Go.RowKit
attribute [local go_sem] Oper.semAt_some
noncomputable def fitDB (d : Dsk) : Bool := @decide (FitD nameB d) (Classical.propDecidable _)
theorem fitDB_yes {d : Dsk} (h : FitD nameB d) : fitDB d = true := @decide_eq_true _ (Classical.propDecidable _) h
theorem fitDB_no {d : Dsk} (h : ¬ FitD nameB d) : fitDB d = false := @decide_eq_false _ (Classical.propDecidable _) h
theorem fitDB_iff {d : Dsk} : fitDB d = true ↔ FitD nameB d := ⟨fun h => Classical.byContradiction fun c => (by rw [fitDB_no c] at h; cases h), fitDB_yes⟩
theorem riseF_step {L : List Dfl} {k : Nat} (hk : k < L.length) (h : (L.take k).Pairwise fun x y => x.t < y.t) (hp : ∀ (h0 : 0 < k), (L[k - 1]'(by omega)).t < L[k].t) : (L.take (k + 1)).Pairwise fun x y => x.t < y.t := by
  rw [List.take_succ_eq_append_getElem hk, List.pairwise_append]
  refine ⟨h, List.pairwise_singleton _ _, fun x hx y hy => ?_⟩
  rw [List.mem_singleton.1 hy]
  obtain ⟨j, hj, rfl⟩ := List.mem_iff_getElem.1 hx
  rw [List.length_take] at hj
  rw [List.getElem_take]
  have h1 := hp (by omega)
  rcases Nat.lt_or_ge j (k - 1) with hl | hl
  · have := List.pairwise_iff_getElem.1 h j (k - 1) (by rw [List.length_take]; omega) (by rw [List.length_take]; omega) hl
    rw [List.getElem_take, List.getElem_take] at this
    exact t_trans this h1
  · obtain rfl : j = k - 1 := by omega
    exact h1
def fitH (z : Nat) (off : Bool) (fuse : Int) : Prop := z ≤ 8 ∧ -1 ≤ fuse ∧ fuse ≤ 1048576 ∧ (off = true → fuse = -1)
set_option maxRecDepth 100000 in
set_option maxHeartbeats 8000000 in
theorem rFitD_any (d : Dsk) (v : Value) (w : World) (h : IsDfs w v d.fs) :
    Calls Try.prog 12 #[dskV v d] w fun e w' => e = .returned (.bool (fitDB d)) ∧ Below w.heap.size w w' := by
  have gab := Try.isAgg4; have gzb := Try.sizeOf4
  obtain ⟨L, off, fuse⟩ := d
  unfold dskV
  dsimp only at h ⊢
  obtain ⟨V, hV⟩ : ∃ V, V = w.alloc (.cells #[v, .bool off, .int .i64 fuse] 24) := ⟨_, rfl⟩
  have hbV : Below w.heap.size w V := by rw [hV]; exact (Below.refl _ _).alloc (Nat.le_refl _) _
  have hR : Row V w.heap.size #[v, .bool off, .int .i64 fuse] 24 := by rw [hV]; exact Row.made _ _ _
  have HV := Lib.hid hV; have HI := Lib.hid (h.stays hbV); have HB0 := Lib.hid hbV
  obtain ⟨hml, a, cap, hu, _, _⟩ := h
  obtain ⟨z, hz⟩ : ∃ z, z = L.length := ⟨_, rfl⟩
  rw [← hz] at hu
  subst hu
  have HR := Lib.hid hR; have HZ := Lib.hid hz
  have hmz : z ≤ 9223372036854775807 := by unfold maxLen at hml; omega
  clear hV hbV hR hml hz
  have bad : ¬ fitH z off fuse → Hid (fitDB ⟨L, off, fuse⟩ = false) := fun hh => Lib.hid (fitDB_no fun c => hh ⟨by rw [HZ.out]; exact c.many, c.lo, c.hi, c.off⟩)
  by_cases c1 : z ≤ 8
  · have d1 : decide ((8 : Int) < (z : Int)) = false := decide_eq_false (by omega)
    by_cases c2 : fuse < -1
    · have d2 : decide (fuse < -1) = true := decide_eq_true c2
      have HN := bad fun c => absurd c.2.1 (by omega)
      clear bad
      go_enter Try.func12, Try.ntmps12
      go_wp2_with fail
      go_ret
      exact ⟨by rw [HN.out]; rfl, (Below.refl _ _).alloc (Nat.le_refl _) _⟩
    · have d2 : decide (fuse < -1) = false := decide_eq_false c2
      by_cases c3 : 1048576 < fuse
      · have d3 : decide (1048576 < fuse) = true := decide_eq_true c3
        have HN := bad fun c => absurd c.2.2.1 (by omega)
        clear bad
        go_enter Try.func12, Try.ntmps12
        go_wp2_with fail
        go_ret
        exact ⟨by rw [HN.out]; rfl, (Below.refl _ _).alloc (Nat.le_refl _) _⟩
      · have d3 : decide (1048576 < fuse) = false := decide_eq_false c3
        by_cases c4 : off = true ∧ fuse ≠ -1
        · obtain ⟨rfl, c5⟩ := c4
          have d4 : (fuse == -1) = false := by simpa using c5
          have HN := bad fun c => c5 (c.2.2.2 rfl)
          clear bad
          go_enter Try.func12, Try.ntmps12
          go_wp2_with fail
          go_ret
          exact ⟨by rw [HN.out]; rfl, (Below.refl _ _).alloc (Nat.le_refl _) _⟩
        · have HH : Hid (fitH z off fuse) := Lib.hid ⟨c1, by omega, by omega, fun e => Classical.byContradiction fun c => c4 ⟨e, c⟩⟩
          have d4 : off = false ∨ (off = true ∧ (fuse == -1) = true) := by
            cases off with
            | false => exact .inl rfl
            | true => exact .inr ⟨rfl, by rw [HH.out.2.2.2 rfl]; rfl⟩
          clear bad c4
          have HBX : Hid (∀ W, Below V.heap.size V W → W.cell? ⟨w.heap.size, 0, none⟩ = some (.slice a z cap)) := Lib.hid (fun W hW => by
            have p0 := (HR.out.step hW).cell 0
            simp only [List.getElem?_toArray, List.getElem?_cons_zero] at p0
            exact p0)
          rcases d4 with rfl | ⟨rfl, d4⟩
          · go_enter Try.func12, Try.ntmps12
            go_wp2_with fail
            rw [← HV.out]
            go_loopw [3] (fun i wr => ∃ k : Nat, k ≤ z ∧ i = .int .i64 k ∧ (∀ f ∈ L.take k, FitF nameB f) ∧ (L.take k).Pairwise (fun x y => x.t < y.t) ∧ Below V.heap.size V wr) (fun i _ => z - (intOf i).toNat)
            case atStart => exact ⟨0, Nat.zero_le _, rfl, fun f h => (by cases h), List.Pairwise.nil, Below.refl _ _⟩
            case round =>
              obtain ⟨k, hk, rfl, hf, hr, hB⟩ := hrel
              have HF := Lib.hid hf; have HRS := Lib.hid hr; have HB := Lib.hid hB
              have p0 := HBX.out _ hB
              by_cases hlt : k < z
              · have hko : k < L.length := by have := HZ.out; omega
                obtain ⟨_, _, _, hev, _, hc⟩ := HI.out.stays hB
                rw [← HZ.out] at hev
                cases hev
                obtain ⟨b1, o1, rfl, hbl, g1⟩ := hc (by omega)
                obtain ⟨u, q0, q1, q2, hu⟩ := g1 k hko
                have CF := fun W (hW : Below wr.heap.size wr W) => rFitFile_any (L[k]'hko) u W (hu.stays hW)
                have HME := Lib.hid (List.getElem_mem hko)
                have HTK := Lib.hid (List.take_succ_eq_append_getElem hko)
                have HSTP := Lib.hid (riseF_step hko HRS.out)
                have HPR : Hid (FitD nameB ⟨L, false, fuse⟩ → ∀ h0 : 0 < k, (L[k - 1]'(by omega)).t < (L[k]'hko).t) := Lib.hid (fun c h0 => by
                have hr : L.Pairwise fun x y => x.t < y.t := c.rise
                exact List.pairwise_iff_getElem.1 hr (k - 1) k (by omega) hko (by omega))
                obtain ⟨x, hx⟩ : ∃ x, x = L[k]'hko := ⟨_, rfl⟩
                rw [← hx] at q0 q1 CF HME HTK HSTP HPR
                have hbk : decide ((k : Int) < (z : Int)) = true := by simpa using (show (k : Int) < z by omega)
                have k0 := fun d os => cell_regrown p0 d os
                have k1 := fun d os => cell_regrown q0 d os
                have k2 := fun d os => cell_regrown q1 d os
                have k3 := fun d os => cell_regrown q2 d os
                have hmany : k < 8 := by have := HH.out.1; omega
                obtain ⟨uu, ucc, rfl⟩ := hu.len
                by_cases hxf : FitF nameB x
                · rw [fitFB_yes hxf] at CF
                  have HC := Lib.hid CF
                  have HFN : Hid (∀ f ∈ L.take (k + 1), FitF nameB f) := Lib.hid (fun f hm => by
                    rw [HTK.out] at hm
                    rcases List.mem_append.1 hm with hm | hm
                    · exact HF.out f hm
                    · rw [List.mem_singleton.1 hm]; exact hxf)
                  by_cases h0 : k = 0
                  · subst h0
                    simp only [Nat.zero_mul, Nat.add_zero, Nat.zero_add] at q0 q1 q2
                    have k1 := fun d os => cell_regrown q0 d os
                    have k2 := fun d os => cell_regrown q1 d os
                    have k3 := fun d os => cell_regrown q2 d os
                    have HRN := Lib.hid (HSTP.out fun h => absurd h (by omega))
                    clear g1 hc hu hx CF hf hr hB hxf
                    go_wp2_with fail
                    refine wp_region_quiet_below (by kernel_rfl) (by kernel_rfl) ?_
                    repeat (first | go_big_quiet_step (exact Calls.regrown_of (HC.out _ (by first | exact Below.refl _ _ | exact below_regrown _ _ _))) | quiet_step (exact Calls.regrown_of (HC.out _ (by first | exact Below.refl _ _ | exact below_regrown _ _ _))))
                    refine wpQuiet_nil ?_
                    intro wq hwq
                    have hbq : Below wr.heap.size wr wq := by obtain ⟨p, rfl⟩ := hwq; exact below_regrown _ _ _
                    clear hwq
                    have HBQ := Lib.hid (below_step HB.out hbq)
                    clear hbq
                    go_wp2
                    go_roundw
                    case rel => exact ⟨0 + 1, by omega, by go_num, HFN.out, HRN.out, HBQ.out⟩
                    case measure => simp [intOf]; omega
                  · obtain ⟨j, rfl⟩ : ∃ j, k = j + 1 := ⟨k - 1, by omega⟩
                    obtain ⟨_, t0, _, _, _⟩ := g1 j (by omega)
                    have k4 := fun d os => cell_regrown t0 d os
                    have hjl : j < L.length := by omega
                    obtain ⟨y, hy⟩ : ∃ y, y = L[j]'hjl := ⟨_, rfl⟩
                    have hk0 : decide ((0 : Int) < ((j + 1 : Nat) : Int)) = true := by simp
                    have t1 : wr.cell? ⟨b1, o1 + j * 3, none⟩ = some (.string y.n) := by rw [hy]; exact t0
                    have k5 := fun d os => cell_regrown t1 d os
                    by_cases hxy : y.t < x.t
                    · have l0 : Op.bytesLess y.n.toList x.n.toList = true := by rw [less_eq]; exact decide_eq_true hxy
                      have HRN := Lib.hid (HSTP.out fun _ => (by have h := hxy; rw [hy] at h; exact h))
                      clear g1 hc hu hx CF hf hr hB hxf hxy t0 k4 hy
                      go_wp2_with fail
                      refine wp_region_quiet_below (by kernel_rfl) (by kernel_rfl) ?_
                      repeat (first | go_big_quiet_step (exact Calls.regrown_of (HC.out _ (by first | exact Below.refl _ _ | exact below_regrown _ _ _))) | quiet_step (exact Calls.regrown_of (HC.out _ (by first | exact Below.refl _ _ | exact below_regrown _ _ _))))
                      refine wpQuiet_nil ?_
                      intro wq hwq
                      have hbq : Below wr.heap.size wr wq := by obtain ⟨p, rfl⟩ := hwq; exact below_regrown _ _ _
                      clear hwq
                      have HBQ := Lib.hid (below_step HB.out hbq)
                      clear hbq
                      go_wp2
                      go_roundw
                      case rel => exact ⟨j + 1 + 1, by omega, by go_num, HFN.out, HRN.out, HBQ.out⟩
                      case measure => simp [intOf]; omega
                    · have l0 : Op.bytesLess y.n.toList x.n.toList = false := by rw [less_eq]; exact decide_eq_false hxy
                      have HN := Lib.hid (fitDB_no (d := ⟨L, false, fuse⟩) fun c => hxy (by rw [hy]; exact HPR.out c (by omega)))
                      clear g1 hc hu hx CF hf hr hB hxf hxy t0 k4 hy
                      go_wp2_with fail
                      refine wp_region_quiet_below (by kernel_rfl) (by kernel_rfl) ?_
                      repeat (first | go_big_quiet_step (exact Calls.regrown_of (HC.out _ (by first | exact Below.refl _ _ | exact below_regrown _ _ _))) | quiet_step (exact Calls.regrown_of (HC.out _ (by first | exact Below.refl _ _ | exact below_regrown _ _ _))))
                      refine wpQuiet_nil ?_
                      intro wq hwq
                      have hbq : Below wr.heap.size wr wq := by obtain ⟨p, rfl⟩ := hwq; exact below_regrown _ _ _
                      clear hwq
                      have HBQ := Lib.hid (below_step HB.out hbq)
                      clear hbq
                      go_wp2
                      go_ret
                      exact ⟨by rw [HN.out]; rfl, below_step HB0.out HBQ.out⟩
                · rw [fitFB_no hxf] at CF
                  have HC := Lib.hid CF
                  have HN := Lib.hid (fitDB_no (d := ⟨L, false, fuse⟩) fun c => hxf (c.files x HME.out))
                  clear g1 hc hu hx CF hf hr hB hxf
                  go_wp2_with fail
                  refine wp_region_quiet_below (by kernel_rfl) (by kernel_rfl) ?_
                  repeat (first | go_big_quiet_step (exact Calls.regrown_of (HC.out _ (by first | exact Below.refl _ _ | exact below_regrown _ _ _))) | quiet_step (exact Calls.regrown_of (HC.out _ (by first | exact Below.refl _ _ | exact below_regrown _ _ _))))
                  refine wpQuiet_nil ?_
                  intro wq hwq
                  have hbq : Below wr.heap.size wr wq := by obtain ⟨p, rfl⟩ := hwq; exact below_regrown _ _ _
                  clear hwq
                  have HBQ := Lib.hid (below_step HB.out hbq)
                  clear hbq
                  go_wp2
                  go_ret
                  exact ⟨by rw [HN.out]; rfl, below_step HB0.out HBQ.out⟩
              · obtain rfl : k = z := by omega
                have hbk : decide ((k : Int) < (k : Int)) = false := by simp
                have HS := Lib.hid (fitDB_yes (d := ⟨L, false, fuse⟩) (by
                  have h1 := HF.out; have h2 := HRS.out
                  rw [List.take_of_length_le (by have := HZ.out; omega)] at h1 h2
                  exact ⟨by have := HZ.out; have := HH.out.1; show L.length ≤ 8; omega, HH.out.2.1, HH.out.2.2.1, HH.out.2.2.2, h1, h2⟩))
                have hb9 := below_step HB0.out hB
                clear hf hr hB
                go_wp2
                go_ret
                exact ⟨by rw [HS.out]; rfl, hb9⟩
          · go_enter Try.func12, Try.ntmps12
            go_wp2_with fail
            rw [← HV.out]
            go_loopw [3] (fun i wr => ∃ k : Nat, k ≤ z ∧ i = .int .i64 k ∧ (∀ f ∈ L.take k, FitF nameB f) ∧ (L.take k).Pairwise (fun x y => x.t < y.t) ∧ Below V.heap.size V wr) (fun i _ => z - (intOf i).toNat)
            case atStart => exact ⟨0, Nat.zero_le _, rfl, fun f h => (by cases h), List.Pairwise.nil, Below.refl _ _⟩
            case round =>
              obtain ⟨k, hk, rfl, hf, hr, hB⟩ := hrel
              have HF := Lib.hid hf; have HRS := Lib.hid hr; have HB := Lib.hid hB
              have p0 := HBX.out _ hB
              by_cases hlt : k < z
              · have hko : k < L.length := by have := HZ.out; omega
                obtain ⟨_, _, _, hev, _, hc⟩ := HI.out.stays hB
                rw [← HZ.out] at hev
                cases hev
                obtain ⟨b1, o1, rfl, hbl, g1⟩ := hc (by omega)
                obtain ⟨u, q0, q1, q2, hu⟩ := g1 k hko
                have CF := fun W (hW : Below wr.heap.size wr W) => rFitFile_any (L[k]'hko) u W (hu.stays hW)
                have HME := Lib.hid (List.getElem_mem hko)
                have HTK := Lib.hid (List.take_succ_eq_append_getElem hko)
                have HSTP := Lib.hid (riseF_step hko HRS.out)
                have HPR : Hid (FitD nameB ⟨L, true, fuse⟩ → ∀ h0 : 0 < k, (L[k - 1]'(by omega)).t < (L[k]'hko).t) := Lib.hid (fun c h0 => by
                have hr : L.Pairwise fun x y => x.t < y.t := c.rise
                exact List.pairwise_iff_getElem.1 hr (k - 1) k (by omega) hko (by omega))
                obtain ⟨x, hx⟩ : ∃ x, x = L[k]'hko := ⟨_, rfl⟩
                rw [← hx] at q0 q1 CF HME HTK HSTP HPR
                have hbk : decide ((k : Int) < (z : Int)) = true := by simpa using (show (k : Int) < z by omega)
                have k0 := fun d os => cell_regrown p0 d os
                have k1 := fun d os => cell_regrown q0 d os
                have k2 := fun d os => cell_regrown q1 d os
                have k3 := fun d os => cell_regrown q2 d os
                have hmany : k < 8 := by have := HH.out.1; omega
                obtain ⟨uu, ucc, rfl⟩ := hu.len
                by_cases hxf : FitF nameB x
                · rw [fitFB_yes hxf] at CF
                  have HC := Lib.hid CF
                  have HFN : Hid (∀ f ∈ L.take (k + 1), FitF nameB f) := Lib.hid (fun f hm => by
                    rw [HTK.out] at hm
                    rcases List.mem_append.1 hm with hm | hm
                    · exact HF.out f hm
                    · rw [List.mem_singleton.1 hm]; exact hxf)
                  by_cases h0 : k = 0
                  · subst h0
                    simp only [Nat.zero_mul, Nat.add_zero, Nat.zero_add] at q0 q1 q2
                    have k1 := fun d os => cell_regrown q0 d os
                    have k2 := fun d os => cell_regrown q1 d os
                    have k3 := fun d os => cell_regrown q2 d os
                    have HRN := Lib.hid (HSTP.out fun h => absurd h (by omega))
                    clear g1 hc hu hx CF hf hr hB hxf
                    go_wp2_with fail
                    refine wp_region_quiet_below (by kernel_rfl) (by kernel_rfl) ?_
                    repeat (first | go_big_quiet_step (exact Calls.regrown_of (HC.out _ (by first | exact Below.refl _ _ | exact below_regrown _ _ _))) | quiet_step (exact Calls.regrown_of (HC.out _ (by first | exact Below.refl _ _ | exact below_regrown _ _ _))))
                    refine wpQuiet_nil ?_
                    intro wq hwq
                    have hbq : Below wr.heap.size wr wq := by obtain ⟨p, rfl⟩ := hwq; exact below_regrown _ _ _
                    clear hwq
                    have HBQ := Lib.hid (below_step HB.out hbq)
                    clear hbq
                    go_wp2
                    go_roundw
                    case rel => exact ⟨0 + 1, by omega, by go_num, HFN.out, HRN.out, HBQ.out⟩
                    case measure => simp [intOf]; omega
                  · obtain ⟨j, rfl⟩ : ∃ j, k = j + 1 := ⟨k - 1, by omega⟩
                    obtain ⟨_, t0, _, _, _⟩ := g1 j (by omega)
                    have k4 := fun d os => cell_regrown t0 d os
                    have hjl : j < L.length := by omega
                    obtain ⟨y, hy⟩ : ∃ y, y = L[j]'hjl := ⟨_, rfl⟩
                    have hk0 : decide ((0 : Int) < ((j + 1 : Nat) : Int)) = true := by simp
                    have t1 : wr.cell? ⟨b1, o1 + j * 3, none⟩ = some (.string y.n) := by rw [hy]; exact t0
                    have k5 := fun d os => cell_regrown t1 d os
                    by_cases hxy : y.t < x.t
                    · have l0 : Op.bytesLess y.n.toList x.n.toList = true := by rw [less_eq]; exact decide_eq_true hxy
                      have HRN := Lib.hid (HSTP.out fun _ => (by have h := hxy; rw [hy] at h; exact h))
                      clear g1 hc hu hx CF hf hr hB hxf hxy t0 k4 hy
                      go_wp2_with fail
                      refine wp_region_quiet_below (by kernel_rfl) (by kernel_rfl) ?_
                      repeat (first | go_big_quiet_step (exact Calls.regrown_of (HC.out _ (by first | exact Below.refl _ _ | exact below_regrown _ _ _))) | quiet_step (exact Calls.regrown_of (HC.out _ (by first | exact Below.refl _ _ | exact below_regrown _ _ _))))
                      refine wpQuiet_nil ?_
                      intro wq hwq
                      have hbq : Below wr.heap.size wr wq := by obtain ⟨p, rfl⟩ := hwq; exact below_regrown _ _ _
                      clear hwq
                      have HBQ := Lib.hid (below_step HB.out hbq)
                      clear hbq
                      go_wp2
                      go_roundw
                      case rel => exact ⟨j + 1 + 1, by omega, by go_num, HFN.out, HRN.out, HBQ.out⟩
                      case measure => simp [intOf]; omega
                    · have l0 : Op.bytesLess y.n.toList x.n.toList = false := by rw [less_eq]; exact decide_eq_false hxy
                      have HN := Lib.hid (fitDB_no (d := ⟨L, true, fuse⟩) fun c => hxy (by rw [hy]; exact HPR.out c (by omega)))
                      clear g1 hc hu hx CF hf hr hB hxf hxy t0 k4 hy
                      go_wp2_with fail
                      refine wp_region_quiet_below (by kernel_rfl) (by kernel_rfl) ?_
                      repeat (first | go_big_quiet_step (exact Calls.regrown_of (HC.out _ (by first | exact Below.refl _ _ | exact below_regrown _ _ _))) | quiet_step (exact Calls.regrown_of (HC.out _ (by first | exact Below.refl _ _ | exact below_regrown _ _ _))))
                      refine wpQuiet_nil ?_
                      intro wq hwq
                      have hbq : Below wr.heap.size wr wq := by obtain ⟨p, rfl⟩ := hwq; exact below_regrown _ _ _
                      clear hwq
                      have HBQ := Lib.hid (below_step HB.out hbq)
                      clear hbq
                      go_wp2
                      go_ret
                      exact ⟨by rw [HN.out]; rfl, below_step HB0.out HBQ.out⟩
                · rw [fitFB_no hxf] at CF
                  have HC := Lib.hid CF
                  have HN := Lib.hid (fitDB_no (d := ⟨L, true, fuse⟩) fun c => hxf (c.files x HME.out))
                  clear g1 hc hu hx CF hf hr hB hxf
                  go_wp2_with fail
                  refine wp_region_quiet_below (by kernel_rfl) (by kernel_rfl) ?_
                  repeat (first | go_big_quiet_step (exact Calls.regrown_of (HC.out _ (by first | exact Below.refl _ _ | exact below_regrown _ _ _))) | quiet_step (exact Calls.regrown_of (HC.out _ (by first | exact Below.refl _ _ | exact below_regrown _ _ _))))
                  refine wpQuiet_nil ?_
                  intro wq hwq
                  have hbq : Below wr.heap.size wr wq := by obtain ⟨p, rfl⟩ := hwq; exact below_regrown _ _ _
                  clear hwq
                  have HBQ := Lib.hid (below_step HB.out hbq)
                  clear hbq
                  go_wp2
                  go_ret
                  exact ⟨by rw [HN.out]; rfl, below_step HB0.out HBQ.out⟩
              · obtain rfl : k = z := by omega
                have hbk : decide ((k : Int) < (k : Int)) = false := by simp
                have HS := Lib.hid (fitDB_yes (d := ⟨L, true, fuse⟩) (by
                  have h1 := HF.out; have h2 := HRS.out
                  rw [List.take_of_length_le (by have := HZ.out; omega)] at h1 h2
                  exact ⟨by have := HZ.out; have := HH.out.1; show L.length ≤ 8; omega, HH.out.2.1, HH.out.2.2.1, HH.out.2.2.2, h1, h2⟩))
                have hb9 := below_step HB0.out hB
                clear hf hr hB
                go_wp2
                go_ret
                exact ⟨by rw [HS.out]; rfl, hb9⟩
  · have d1 : decide ((8 : Int) < (z : Int)) = true := decide_eq_true (by omega)
    have HN := bad fun c => c1 c.1
    clear bad
    go_enter Try.func12, Try.ntmps12
    go_wp2_with fail
    go_ret
    exact ⟨by rw [HN.out]; rfl, (Below.refl _ _).alloc (Nat.le_refl _) _⟩
end Go.Proofs.Ytninfmlemdnjbaa
set_option linter.unusedVariables false
namespace Go.Proofs.Ytninfmlemdnjbaa
open Go.RowKit
attribute [local go_sem] Oper.semAt_some
def LastOk (L : List Dfl) (k : Nat) (n : ByteArray) : Prop := (k = 0 → n.data.toList = []) ∧ ∀ h0 : 0 < k, ∀ hk : k - 1 < L.length, n.data.toList = (L[k - 1]'hk).t
theorem lastOk_zero {L : List Dfl} : LastOk L 0 ⟨#[]⟩ := ⟨fun _ => rfl, fun h => absurd h (by omega)⟩
theorem lastOk_next {L : List Dfl} {k : Nat} (hk : k < L.length) : LastOk L (k + 1) (L[k]'hk).n := ⟨fun h => by omega, fun _ _ => rfl⟩
theorem name_pos {l : Txt} (h : nameB l = true) : ([] : Txt) < l := by
  cases l with
  | nil => revert h; decide
  | cons a l => exact List.nil_lt_cons a l
set_option maxRecDepth 100000 in
set_option maxHeartbeats 8000000 in
theorem pFitD_any (d : Dsk) (v : Value) (w : World) (h : IsDfs w v d.fs) (hsm : ∀ f ∈ d.fs, ∀ x ∈ f.ops, SmallO x) :
    Calls Try.prog 11 #[dskV v d] w fun e w' => e = .returned (.bool (fitDB d)) ∧ Below w.heap.size w w' := by
  have gab := Try.isAgg4; have gzb := Try.sizeOf4
  obtain ⟨L, off, fuse⟩ := d
  unfold dskV
  dsimp only at h ⊢
  obtain ⟨V, hV⟩ : ∃ V, V = w.alloc (.cells #[v, .bool off, .int .i64 fuse] 24) := ⟨_, rfl⟩
  have hbV : Below w.heap.size w V := by rw [hV]; exact (Below.refl _ _).alloc (Nat.le_refl _) _
  have hR : Row V w.heap.size #[v, .bool off, .int .i64 fuse] 24 := by rw [hV]; exact Row.made _ _ _
  have HV := Lib.hid hV; have HI := Lib.hid (h.stays hbV); have HB0 := Lib.hid hbV
  obtain ⟨hml, a, cap, hu, _, _⟩ := h
  obtain ⟨z, hz⟩ : ∃ z, z = L.length := ⟨_, rfl⟩
  rw [← hz] at hu
  subst hu
  have HR := Lib.hid hR; have HZ := Lib.hid hz
  have hmz : z ≤ 9223372036854775807 := by unfold maxLen at hml; omega
  have HSM := Lib.hid hsm
  clear hV hbV hR hml hz hsm
  have bad : ¬ fitH z off fuse → Hid (fitDB ⟨L, off, fuse⟩ = false) := fun hh => Lib.hid (fitDB_no fun c => hh ⟨by rw [HZ.out]; exact c.many, c.lo, c.hi, c.off⟩)
  by_cases c1 : z ≤ 8
  · have d1 : decide ((8 : Int) < (z : Int)) = false := decide_eq_false (by omega)
    by_cases c2 : fuse < -1
    · have d2 : decide (fuse < -1) = true := decide_eq_true c2
      have HN := bad fun c => absurd c.2.1 (by omega)
      clear bad
      go_enter Try.func11, Try.ntmps11
      go_wp2_with fail
      go_ret
      exact ⟨by rw [HN.out]; rfl, (Below.refl _ _).alloc (Nat.le_refl _) _⟩
    · have d2 : decide (fuse < -1) = false := decide_eq_false c2
      by_cases c3 : 1048576 < fuse
      · have d3 : decide (1048576 < fuse) = true := decide_eq_true c3
        have HN := bad fun c => absurd c.2.2.1 (by omega)
        clear bad
        go_enter Try.func11, Try.ntmps11
        go_wp2_with fail
        go_ret
        exact ⟨by rw [HN.out]; rfl, (Below.refl _ _).alloc (Nat.le_refl _) _⟩
      · have d3 : decide (1048576 < fuse) = false := decide_eq_false c3
        by_cases c4 : off = true ∧ fuse ≠ -1
        · obtain ⟨rfl, c5⟩ := c4
          have d4 : (fuse == -1) = false := by simpa using c5
          have HN := bad fun c => c5 (c.2.2.2 rfl)
          clear bad
          go_enter Try.func11, Try.ntmps11
          go_wp2_with fail
          go_ret
          exact ⟨by rw [HN.out]; rfl, (Below.refl _ _).alloc (Nat.le_refl _) _⟩
        · have HH : Hid (fitH z off fuse) := Lib.hid ⟨c1, by omega, by omega, fun e => Classical.byContradiction fun c => c4 ⟨e, c⟩⟩
          have d4 : off = false ∨ (off = true ∧ (fuse == -1) = true) := by
            cases off with
            | false => exact .inl rfl
            | true => exact .inr ⟨rfl, by rw [HH.out.2.2.2 rfl]; rfl⟩
          clear bad c4
          have HBX : Hid (∀ W, Below V.heap.size V W → W.cell? ⟨w.heap.size, 0, none⟩ = some (.slice a z cap)) := Lib.hid (fun W hW => by
            have p0 := (HR.out.step hW).cell 0
            simp only [List.getElem?_toArray, List.getElem?_cons_zero] at p0
            exact p0)
          rcases d4 with rfl | ⟨rfl, d4⟩
          · go_enter Try.func11, Try.ntmps11
            go_wp2_with fail
            rw [← HV.out]
            go_loopw [3, 32] (fun LV iv wr => ∃ (k : Nat) (n : ByteArray), k ≤ z ∧ iv = .int .i64 k ∧ LV = .string n ∧ LastOk L k n ∧ (∀ f ∈ L.take k, FitF nameB f) ∧ (L.take k).Pairwise (fun x y => x.t < y.t) ∧ Below V.heap.size V wr) (fun LV iv _ => z - (intOf iv).toNat)
            case atStart => exact ⟨0, ⟨#[]⟩, Nat.zero_le _, rfl, rfl, lastOk_zero, fun f h => (by cases h), List.Pairwise.nil, Below.refl _ _⟩
            case round =>
              obtain ⟨k, n, hk, rfl, rfl, hn, hf, hr, hB⟩ := hrel
              have HF := Lib.hid hf; have HRS := Lib.hid hr; have HB := Lib.hid hB; have HLO := Lib.hid hn
              by_cases hlt : k < z
              · have hko : k < L.length := by have := HZ.out; omega
                obtain ⟨_, _, _, hev, _, hc⟩ := HI.out.stays hB
                rw [← HZ.out] at hev
                cases hev
                obtain ⟨b1, o1, rfl, hbl, g1⟩ := hc (by omega)
                obtain ⟨u, q0, q1, q2, hu⟩ := g1 k hko
                have CF := fun W (hW : Below wr.heap.size wr W) => fitFile_any (L[k]'hko) u W (hu.stays hW) (HSM.out _ (List.getElem_mem hko))
                have HME := Lib.hid (List.getElem_mem hko)
                have HTK := Lib.hid (List.take_succ_eq_append_getElem hko)
                have HSTP := Lib.hid (riseF_step hko HRS.out)
                have HLN := Lib.hid (lastOk_next hko)
                have HLB : Hid (n.data.toList < (L[k]'hko).t → ∀ h0 : 0 < k, (L[k - 1]'(by omega)).t < (L[k]'hko).t) := Lib.hid (fun hh h0 => by have := HLO.out.2 h0 (by omega); rw [this] at hh; exact hh)
                have HPR : Hid (FitD nameB ⟨L, false, fuse⟩ → n.data.toList < (L[k]'hko).t) := Lib.hid (fun c => by
                  have hr : L.Pairwise fun x y => x.t < y.t := c.rise
                  rcases Nat.eq_zero_or_pos k with e | e
                  · rw [HLO.out.1 e]; exact name_pos (c.files _ HME.out).name
                  · rw [HLO.out.2 e (by omega)]; exact List.pairwise_iff_getElem.1 hr (k - 1) k (by omega) hko (by omega))
                obtain ⟨x, hx⟩ : ∃ x, x = L[k]'hko := ⟨_, rfl⟩
                rw [← hx] at q0 q1 hu CF HME HTK HSTP HPR HLB HLN
                have hbk : decide ((k : Int) < (z : Int)) = true := by simpa using (show (k : Int) < z by omega)
                obtain ⟨uu, ucc, rfl⟩ := hu.len
                by_cases hxy : n.data.toList < x.t
                · have l0 : Op.bytesLess n.toList x.n.toList = true := by rw [less_eq]; exact decide_eq_true hxy
                  have l1 : Op.bytesLess x.n.toList n.toList = false := by rw [less_eq]; exact decide_eq_false (t_asymm hxy)
                  have hne : x.n ≠ n := fun e => t_irrefl n.data.toList (by have h2 := hxy; unfold Dfl.t at h2; rwa [e] at h2)
                  have l2 : (x.n.toList == n.toList) = false := bne_str hne
                  have l3 : ¬ x.n.toList = n.toList := by simpa using l2
                  have HRN := Lib.hid (HSTP.out (HLB.out hxy))
                  obtain ⟨W, hW⟩ : ∃ W, W = wr.alloc (.cells #[.string x.n, .string x.d, .slice uu x.ops.length ucc] 47) := ⟨_, rfl⟩
                  have HBW : Hid (Below wr.heap.size wr W) := by rw [hW]; exact Lib.hid ((Below.refl _ _).alloc (Nat.le_refl _) _)
                  have C := Lib.hid (CF W HBW.out)
                  have HW := Lib.hid hW
                  have HRW : Hid (Row W wr.heap.size #[.string x.n, .string x.d, .slice uu x.ops.length ucc] 47) := by rw [hW]; exact Lib.hid (Row.made _ _ _)
                  by_cases hxf : FitF nameB x
                  · rw [fitFB_yes hxf] at C
                    have HFN : Hid (∀ f ∈ L.take (k + 1), FitF nameB f) := Lib.hid (fun f hm => by
                      rw [HTK.out] at hm
                      rcases List.mem_append.1 hm with hm | hm
                      · exact HF.out f hm
                      · rw [List.mem_singleton.1 hm]; exact hxf)
                    clear g1 hc hu hx CF hf hr hB hxf hxy hn hW hne
                    go_wp2_with fail
                    rw [← HW.out]
                    refine C.out.mono ?_
                    rintro e w1 ⟨rfl, hb⟩
                    have HBQ := Lib.hid (below_step HB.out (below_step HBW.out hb))
                    have r0 := (HRW.out.step hb).cell 0
                    simp only [List.getElem?_toArray, List.getElem?_cons_zero] at r0
                    clear hb
                    go_wp2
                    go_roundw
                    case rel => exact ⟨k + 1, x.n, by omega, by go_num, rfl, HLN.out, HFN.out, HRN.out, HBQ.out⟩
                    case measure => simp [intOf]; omega
                  · rw [fitFB_no hxf] at C
                    have HN := Lib.hid (fitDB_no (d := ⟨L, false, fuse⟩) fun c => hxf (c.files x HME.out))
                    clear g1 hc hu hx CF hf hr hB hxf hxy hn hW hne
                    go_wp2_with fail
                    rw [← HW.out]
                    refine C.out.mono ?_
                    rintro e w1 ⟨rfl, hb⟩
                    have HBQ := Lib.hid (below_step HB.out (below_step HBW.out hb))
                    clear hb
                    go_wp2
                    go_ret
                    exact ⟨by rw [HN.out]; rfl, below_step HB0.out HBQ.out⟩
                · have l0 : Op.bytesLess n.toList x.n.toList = false := by rw [less_eq]; exact decide_eq_false hxy
                  have HN := Lib.hid (fitDB_no (d := ⟨L, false, fuse⟩) fun c => hxy (HPR.out c))
                  have HBW : Hid (Below V.heap.size V (wr.alloc (.cells #[.string x.n, .string x.d, .slice uu x.ops.length ucc] 47))) := Lib.hid (below_step hB ((Below.refl _ _).alloc (Nat.le_refl _) _))
                  by_cases hne : x.n = n
                  · have l1 : Op.bytesLess x.n.toList n.toList = false := by rw [less_eq, hne]; exact decide_eq_false (t_irrefl _)
                    have l2 : (x.n.toList == n.toList) = true := beq_str hne
                    have l3 : x.n.toList = n.toList := by rw [hne]
                    clear g1 hc hu hx CF hf hr hB hxy hn hne
                    go_wp2_with fail
                    go_ret
                    exact ⟨by rw [HN.out]; rfl, below_step HB0.out HBW.out⟩
                  · have l1 : Op.bytesLess x.n.toList n.toList = true := by
                      rw [less_eq]
                      exact decide_eq_true (Classical.byContradiction fun c => hne (str_txt.2 (t_tri _ _ c hxy)))
                    clear g1 hc hu hx CF hf hr hB hxy hn hne
                    go_wp2_with fail
                    go_ret
                    exact ⟨by rw [HN.out]; rfl, below_step HB0.out HBW.out⟩
              · obtain rfl : k = z := by omega
                have hbk : decide ((k : Int) < (k : Int)) = false := by simp
                have HS := Lib.hid (fitDB_yes (d := ⟨L, false, fuse⟩) (by
                  have h1 := HF.out; have h2 := HRS.out
                  rw [List.take_of_length_le (by have := HZ.out; omega)] at h1 h2
                  exact ⟨by have := HZ.out; have := HH.out.1; show L.length ≤ 8; omega, HH.out.2.1, HH.out.2.2.1, HH.out.2.2.2, h1, h2⟩))
                have hb9 := below_step HB0.out hB
                clear hf hr hB hn
                go_wp2
                go_ret
                exact ⟨by rw [HS.out]; rfl, hb9⟩
          · go_enter Try.func11, Try.ntmps11
            go_wp2_with fail
            rw [← HV.out]
            go_loopw [3, 32] (fun LV iv wr => ∃ (k : Nat) (n : ByteArray), k ≤ z ∧ iv = .int .i64 k ∧ LV = .string n ∧ LastOk L k n ∧ (∀ f ∈ L.take k, FitF nameB f) ∧ (L.take k).Pairwise (fun x y => x.t < y.t) ∧ Below V.heap.size V wr) (fun LV iv _ => z - (intOf iv).toNat)
            case atStart => exact ⟨0, ⟨#[]⟩, Nat.zero_le _, rfl, rfl, lastOk_zero, fun f h => (by cases h), List.Pairwise.nil, Below.refl _ _⟩
            case round =>
              obtain ⟨k, n, hk, rfl, rfl, hn, hf, hr, hB⟩ := hrel
              have HF := Lib.hid hf; have HRS := Lib.hid hr; have HB := Lib.hid hB; have HLO := Lib.hid hn
              by_cases hlt : k < z
              · have hko : k < L.length := by have := HZ.out; omega
                obtain ⟨_, _, _, hev, _, hc⟩ := HI.out.stays hB
                rw [← HZ.out] at hev
                cases hev
                obtain ⟨b1, o1, rfl, hbl, g1⟩ := hc (by omega)
                obtain ⟨u, q0, q1, q2, hu⟩ := g1 k hko
                have CF := fun W (hW : Below wr.heap.size wr W) => fitFile_any (L[k]'hko) u W (hu.stays hW) (HSM.out _ (List.getElem_mem hko))
                have HME := Lib.hid (List.getElem_mem hko)
                have HTK := Lib.hid (List.take_succ_eq_append_getElem hko)
                have HSTP := Lib.hid (riseF_step hko HRS.out)
                have HLN := Lib.hid (lastOk_next hko)
                have HLB : Hid (n.data.toList < (L[k]'hko).t → ∀ h0 : 0 < k, (L[k - 1]'(by omega)).t < (L[k]'hko).t) := Lib.hid (fun hh h0 => by have := HLO.out.2 h0 (by omega); rw [this] at hh; exact hh)
                have HPR : Hid (FitD nameB ⟨L, true, fuse⟩ → n.data.toList < (L[k]'hko).t) := Lib.hid (fun c => by
                  have hr : L.Pairwise fun x y => x.t < y.t := c.rise
                  rcases Nat.eq_zero_or_pos k with e | e
                  · rw [HLO.out.1 e]; exact name_pos (c.files _ HME.out).name
                  · rw [HLO.out.2 e (by omega)]; exact List.pairwise_iff_getElem.1 hr (k - 1) k (by omega) hko (by omega))
                obtain ⟨x, hx⟩ : ∃ x, x = L[k]'hko := ⟨_, rfl⟩
                rw [← hx] at q0 q1 hu CF HME HTK HSTP HPR HLB HLN
                have hbk : decide ((k : Int) < (z : Int)) = true := by simpa using (show (k : Int) < z by omega)
                obtain ⟨uu, ucc, rfl⟩ := hu.len
                by_cases hxy : n.data.toList < x.t
                · have l0 : Op.bytesLess n.toList x.n.toList = true := by rw [less_eq]; exact decide_eq_true hxy
                  have l1 : Op.bytesLess x.n.toList n.toList = false := by rw [less_eq]; exact decide_eq_false (t_asymm hxy)
                  have hne : x.n ≠ n := fun e => t_irrefl n.data.toList (by have h2 := hxy; unfold Dfl.t at h2; rwa [e] at h2)
                  have l2 : (x.n.toList == n.toList) = false := bne_str hne
                  have l3 : ¬ x.n.toList = n.toList := by simpa using l2
                  have HRN := Lib.hid (HSTP.out (HLB.out hxy))
                  obtain ⟨W, hW⟩ : ∃ W, W = wr.alloc (.cells #[.string x.n, .string x.d, .slice uu x.ops.length ucc] 47) := ⟨_, rfl⟩
                  have HBW : Hid (Below wr.heap.size wr W) := by rw [hW]; exact Lib.hid ((Below.refl _ _).alloc (Nat.le_refl _) _)
                  have C := Lib.hid (CF W HBW.out)
                  have HW := Lib.hid hW
                  have HRW : Hid (Row W wr.heap.size #[.string x.n, .string x.d, .slice uu x.ops.length ucc] 47) := by rw [hW]; exact Lib.hid (Row.made _ _ _)
                  by_cases hxf : FitF nameB x
                  · rw [fitFB_yes hxf] at C
                    have HFN : Hid (∀ f ∈ L.take (k + 1), FitF nameB f) := Lib.hid (fun f hm => by
                      rw [HTK.out] at hm
                      rcases List.mem_append.1 hm with hm | hm
                      · exact HF.out f hm
                      · rw [List.mem_singleton.1 hm]; exact hxf)
                    clear g1 hc hu hx CF hf hr hB hxf hxy hn hW hne
                    go_wp2_with fail
                    rw [← HW.out]
                    refine C.out.mono ?_
                    rintro e w1 ⟨rfl, hb⟩
                    have HBQ := Lib.hid (below_step HB.out (below_step HBW.out hb))
                    have r0 := (HRW.out.step hb).cell 0
                    simp only [List.getElem?_toArray, List.getElem?_cons_zero] at r0
                    clear hb
                    go_wp2
                    go_roundw
                    case rel => exact ⟨k + 1, x.n, by omega, by go_num, rfl, HLN.out, HFN.out, HRN.out, HBQ.out⟩
                    case measure => simp [intOf]; omega
                  · rw [fitFB_no hxf] at C
                    have HN := Lib.hid (fitDB_no (d := ⟨L, true, fuse⟩) fun c => hxf (c.files x HME.out))
                    clear g1 hc hu hx CF hf hr hB hxf hxy hn hW hne
                    go_wp2_with fail
                    rw [← HW.out]
                    refine C.out.mono ?_
                    rintro e w1 ⟨rfl, hb⟩
                    have HBQ := Lib.hid (below_step HB.out (below_step HBW.out hb))
                    clear hb
                    go_wp2
                    go_ret
                    exact ⟨by rw [HN.out]; rfl, below_step HB0.out HBQ.out⟩
                · have l0 : Op.bytesLess n.toList x.n.toList = false := by rw [less_eq]; exact decide_eq_false hxy
                  have HN := Lib.hid (fitDB_no (d := ⟨L, true, fuse⟩) fun c => hxy (HPR.out c))
                  have HBW : Hid (Below V.heap.size V (wr.alloc (.cells #[.string x.n, .string x.d, .slice uu x.ops.length ucc] 47))) := Lib.hid (below_step hB ((Below.refl _ _).alloc (Nat.le_refl _) _))
                  by_cases hne : x.n = n
                  · have l1 : Op.bytesLess x.n.toList n.toList = false := by rw [less_eq, hne]; exact decide_eq_false (t_irrefl _)
                    have l2 : (x.n.toList == n.toList) = true := beq_str hne
                    have l3 : x.n.toList = n.toList := by rw [hne]
                    clear g1 hc hu hx CF hf hr hB hxy hn hne
                    go_wp2_with fail
                    go_ret
                    exact ⟨by rw [HN.out]; rfl, below_step HB0.out HBW.out⟩
                  · have l1 : Op.bytesLess x.n.toList n.toList = true := by
                      rw [less_eq]
                      exact decide_eq_true (Classical.byContradiction fun c => hne (str_txt.2 (t_tri _ _ c hxy)))
                    clear g1 hc hu hx CF hf hr hB hxy hn hne
                    go_wp2_with fail
                    go_ret
                    exact ⟨by rw [HN.out]; rfl, below_step HB0.out HBW.out⟩
              · obtain rfl : k = z := by omega
                have hbk : decide ((k : Int) < (k : Int)) = false := by simp
                have HS := Lib.hid (fitDB_yes (d := ⟨L, true, fuse⟩) (by
                  have h1 := HF.out; have h2 := HRS.out
                  rw [List.take_of_length_le (by have := HZ.out; omega)] at h1 h2
                  exact ⟨by have := HZ.out; have := HH.out.1; show L.length ≤ 8; omega, HH.out.2.1, HH.out.2.2.1, HH.out.2.2.2, h1, h2⟩))
                have hb9 := below_step HB0.out hB
                clear hf hr hB hn
                go_wp2
                go_ret
                exact ⟨by rw [HS.out]; rfl, hb9⟩
  · have d1 : decide ((8 : Int) < (z : Int)) = true := decide_eq_true (by omega)
    have HN := bad fun c => c1 c.1
    clear bad
    go_enter Try.func11, Try.ntmps11
    go_wp2_with fail
    go_ret
    exact ⟨by rw [HN.out]; rfl, (Below.refl _ _).alloc (Nat.le_refl _) _⟩
theorem lessF_step {L : List Dfl} {t : Txt} {k : Nat} (h : k < L.length) : lessF (L.take (k + 1)) t = lessF (L.take k) t ++ if L[k].t = t then [] else [L[k]] := by
  unfold lessF
  rw [List.take_succ_eq_append_getElem h, List.filter_append]
  by_cases e : L[k].t = t
  · rw [if_pos e]; simp [e]
  · rw [if_neg e]; simp [e]
set_option maxRecDepth 100000 in
set_option maxHeartbeats 4000000 in
theorem rWithout_any (St : Dfr → Dfl → Prop) (hn : ∀ r x, St r x → r.n = x.n) (L : List Dfl) (v : Value) (s : ByteArray) (w : World) (h : IsDfsS St w v L) (hl : L.length ≤ 1000) :
    Calls Try.prog 51 #[v, .string s] w (RetFs St (lessF L s.data.toList) w) := by
  have HIU := Lib.hid h
  obtain ⟨hml, a, cap, hu, _, hc0⟩ := h
  obtain ⟨z, hz⟩ : ∃ z, z = L.length := ⟨_, rfl⟩
  rw [← hz] at hu hl
  subst hu
  have HZ := Lib.hid hz; have HC := Lib.hid hc0
  have hmz : z ≤ 9223372036854775807 := by omega
  have HN := Lib.hid hn
  clear hml hz hc0 hn
  go_enter Try.func51, Try.ntmps51
  go_wp2_with fail
  go_loopw [5, 6] (fun o i wr => ∃ (k : Nat) (u : Value) (R : List Dfr), k ≤ z ∧ i = .int .i64 k ∧ u = o ∧ R.length ≤ k ∧ OwnD w.heap.size wr u R ∧ RowsS St R (lessF (L.take k) s.data.toList) ∧ Below w.heap.size w wr) (fun _ i _ => z - (intOf i).toNat)
  case atStart => exact ⟨0, _, [], Nat.zero_le _, rfl, rfl, Nat.le_refl _, ownD_nil _ _, trivial, Below.refl _ _⟩
  case round =>
    obtain ⟨k, u, R, hk, rfl, rfl, hRk, hO, hR, hB⟩ := hrel
    have HO := Lib.hid hO; have HR := Lib.hid hR; have HB := Lib.hid hB
    by_cases hlt : k < z
    · have hko : k < L.length := by have := HZ.out; omega
      have hst := lessF_step (t := s.data.toList) hko
      obtain ⟨b1, o1, rfl, hbl, g1⟩ := HC.out (by omega)
      obtain ⟨r, hr, q0, q1, q2⟩ := g1 k hko
      rw [← hB.cell (p := ⟨b1, o1 + k * 3, none⟩) hbl] at q0
      rw [← hB.cell (p := ⟨b1, o1 + k * 3 + 1, none⟩) hbl] at q1
      rw [← hB.cell (p := ⟨b1, o1 + k * 3 + 2, none⟩) hbl] at q2
      have hne : (L[k]'hko).t = s.data.toList ↔ r.n = s := by rw [HN.out _ _ hr]; exact str_txt.symm
      have HRW := Lib.hid hr
      have hbk : decide ((k : Int) < (z : Int)) = true := by simpa using (show (k : Int) < z by omega)
      have hRl : R.length ≤ 1000000 := by omega
      by_cases he : r.n = s
      · rw [if_pos (hne.2 he), List.append_nil] at hst
        have HST := Lib.hid hst
        have e0 := beq_str he
        have e1 : (r.n.toList != s.toList) = false := by simp [bne, e0]
        clear g1 hr hst hO hR hB hne
        go_wp2
        go_roundw
        case rel => exact ⟨k + 1, _, R, by omega, by go_num, rfl, by omega, HO.out, by rw [HST.out]; exact HR.out, HB.out⟩
        case measure => simp [intOf]; omega
      · rw [if_neg fun e => he (hne.1 e)] at hst
        have HRN : Hid (RowsS St (R ++ [r]) (lessF (L.take (k + 1)) s.data.toList)) := Lib.hid (by rw [hst]; exact RowsS.snoc hr hR)
        have e0 := bne_str he
        have e1 : (r.n.toList != s.toList) = true := by simp [bne, e0]
        clear g1 hr hst hO hR hne he
        go_wp2_with (at_builtin; refine wpList_append_dfr rfl _ _ rfl HO.out HB.out.size rfl rfl hRl ?_)
        intro v' w' hown' hb'
        have HO2 := Lib.hid hown'; have HB2 := Lib.hid (HB.out.trans hb')
        clear hown' hb'
        go_wp2
        go_roundw
        case rel => exact ⟨k + 1, v', R ++ [r], by omega, by go_num, rfl, by simp; omega, HO2.out, HRN.out, HB2.out⟩
        case measure => simp [intOf]; omega
    · obtain rfl : k = z := by omega
      have hbk : decide ((k : Int) < (k : Int)) = false := by simp
      have HE : Hid (lessF (L.take k) s.data.toList = lessF L s.data.toList) := Lib.hid (by rw [List.take_of_length_le (by have := HZ.out; omega)])
      go_wp2
      go_ret
      exact ⟨_, _, rfl, HO.out, by rw [← HE.out]; exact HR.out, HB.out⟩
theorem ownD_low {B B' : Nat} {w : World} {v : Value} {L : List Dfr} (h : OwnD B w v L) (hb : B' ≤ B) : OwnD B' w v L := by
  refine ⟨h.1, ?_⟩
  rcases h.2 with h2 | ⟨g, cap, cur, h3, h4, h5⟩
  · exact .inl h2
  · exact .inr ⟨g, cap, cur, h3, Nat.le_trans hb h4, h5⟩
theorem withF_app {f : Dfl} {Q : List Dfl} : ∀ {P : List Dfl}, (∀ x ∈ P, x.t < f.t) → withF (P ++ Q) f = P ++ withF Q f
  | [], _ => rfl
  | y :: P, h => by
    show (if y.t < f.t then y :: withF (P ++ Q) f else _) = _
    rw [if_pos (h y (List.mem_cons_self ..)), withF_app fun x hx => h x (List.mem_cons_of_mem _ hx)]; rfl
theorem withF_past {f x : Dfl} : ∀ {P : List Dfl}, (∃ y ∈ P, ¬ y.t < f.t) → withF (P ++ [x]) f = withF P f ++ [x]
  | [], h => by obtain ⟨_, h, _⟩ := h; cases h
  | y :: P, h => by
    show (if y.t < f.t then y :: withF (P ++ [x]) f else if y.t = f.t then f :: (P ++ [x]) else f :: y :: (P ++ [x])) = (if y.t < f.t then y :: withF P f else if y.t = f.t then f :: P else f :: y :: P) ++ [x]
    by_cases h1 : y.t < f.t
    · rw [if_pos h1, if_pos h1, withF_past (by
        obtain ⟨u, hu, hn⟩ := h
        rcases List.mem_cons.1 hu with rfl | hu
        · exact absurd h1 hn
        · exact ⟨u, hu, hn⟩)]; rfl
    · rw [if_neg h1, if_neg h1]
      by_cases h2 : y.t = f.t
      · rw [if_pos h2, if_pos h2]; rfl
      · rw [if_neg h2, if_neg h2]; rfl
structure WithI (L : List Dfl) (f : Dfl) (k : Nat) (dn : Bool) (M : List Dfl) : Prop where
  no : dn = false → M = L.take k ∧ ∀ x ∈ L.take k, x.t < f.t
  yes : dn = true → M = withF (L.take k) f ∧ ∃ y ∈ L.take k, ¬ y.t < f.t
theorem withI_zero (L : List Dfl) (f : Dfl) : WithI L f 0 false [] := ⟨fun _ => ⟨rfl, fun x h => (by cases h)⟩, fun h => (by cases h)⟩
section
variable {L : List Dfl} {f : Dfl} {k : Nat} {M : List Dfl}
theorem withI_lt (h : WithI L f k false M) (hk : k < L.length) (hx : L[k].t < f.t) : WithI L f (k + 1) false (M ++ [L[k]]) := by
  obtain ⟨h1, h2⟩ := h.no rfl
  refine ⟨fun _ => ⟨by rw [List.take_succ_eq_append_getElem hk, h1], fun x hm => ?_⟩, fun e => (by cases e)⟩
  rw [List.take_succ_eq_append_getElem hk] at hm
  rcases List.mem_append.1 hm with hm | hm
  · exact h2 x hm
  · rw [List.mem_singleton.1 hm]; exact hx
theorem withI_eq (h : WithI L f k false M) (hk : k < L.length) (hx : L[k].t = f.t) : WithI L f (k + 1) true (M ++ [f]) := by
  obtain ⟨h1, h2⟩ := h.no rfl
  have hn : ¬ L[k].t < f.t := by rw [hx]; exact t_irrefl _
  refine ⟨fun e => (by cases e), fun _ => ⟨?_, L[k], by rw [List.take_succ_eq_append_getElem hk]; exact List.mem_append_right _ (List.mem_singleton.2 rfl), hn⟩⟩
  rw [List.take_succ_eq_append_getElem hk, withF_app h2, h1]
  show _ = _ ++ (if L[k].t < f.t then _ else if L[k].t = f.t then f :: [] else _)
  rw [if_neg hn, if_pos hx]
theorem withI_gt (h : WithI L f k false M) (hk : k < L.length) (hx : f.t < L[k].t) : WithI L f (k + 1) true (M ++ [f] ++ [L[k]]) := by
  obtain ⟨h1, h2⟩ := h.no rfl
  have hn : ¬ L[k].t < f.t := t_asymm hx
  have hne : ¬ L[k].t = f.t := fun e => t_irrefl f.t (by rwa [e] at hx)
  refine ⟨fun e => (by cases e), fun _ => ⟨?_, L[k], by rw [List.take_succ_eq_append_getElem hk]; exact List.mem_append_right _ (List.mem_singleton.2 rfl), hn⟩⟩
  rw [List.take_succ_eq_append_getElem hk, withF_app h2, h1]
  show _ = _ ++ (if L[k].t < f.t then _ else if L[k].t = f.t then f :: [] else f :: [L[k]])
  rw [if_neg hn, if_neg hne]; simp
theorem withI_past (h : WithI L f k true M) (hL : L.Pairwise fun x y => x.t < y.t) (hk : k < L.length) : WithI L f (k + 1) true (M ++ [L[k]]) ∧ f.t < L[k].t := by
  obtain ⟨h1, y, hy, hn⟩ := h.yes rfl
  refine ⟨⟨fun e => (by cases e), fun _ => ⟨?_, y, by rw [List.take_succ_eq_append_getElem hk]; exact List.mem_append_left _ hy, hn⟩⟩, ?_⟩
  · rw [List.take_succ_eq_append_getElem hk, withF_past ⟨y, hy, hn⟩, h1]
  · obtain ⟨j, hj, e⟩ := List.mem_iff_getElem.1 hy
    rw [List.length_take] at hj
    rw [List.getElem_take] at e
    have hlt := List.pairwise_iff_getElem.1 hL j k (by omega) hk (by omega)
    rw [e] at hlt
    rcases Classical.em (y.t = f.t) with e2 | e2
    · rwa [e2] at hlt
    · exact t_trans (Classical.byContradiction fun c => e2 (t_tri _ _ hn c)) hlt
theorem withI_done (h : WithI L f k true M) (hk : L.length ≤ k) : M = withF L f := by
  obtain ⟨h1, _⟩ := h.yes rfl
  rw [h1, List.take_of_length_le hk]
theorem withI_last (h : WithI L f k false M) (hk : L.length ≤ k) : M ++ [f] = withF L f := by
  obtain ⟨h1, h2⟩ := h.no rfl
  rw [List.take_of_length_le hk] at h1 h2
  have := withF_app (Q := []) h2
  rw [List.append_nil] at this
  rw [this, h1]; rfl
end
set_option maxRecDepth 100000 in
set_option maxHeartbeats 8000000 in
theorem rWith_any (St : Dfr → Dfl → Prop) (hn : ∀ r x, St r x → r.n = x.n) (L : List Dfl) (v : Value) (f : Dfl) (rf : Dfr) (w : World) (h : IsDfsS St w v L) (hL : L.Pairwise fun x y => x.t < y.t) (hl : L.length ≤ 1000) (hf : St rf f) :
    Calls Try.prog 42 #[v, .agg #[.string rf.n, .string rf.d, .slice rf.a rf.z rf.c]] w (RetFs St (withF L f) w) := by
  obtain ⟨V, hV⟩ : ∃ V, V = w.alloc (.cells #[.string rf.n, .string rf.d, .slice rf.a rf.z rf.c] 47) := ⟨_, rfl⟩
  have hbV : Below w.heap.size w V := by rw [hV]; exact (Below.refl _ _).alloc (Nat.le_refl _) _
  have hR : Row V w.heap.size #[.string rf.n, .string rf.d, .slice rf.a rf.z rf.c] 47 := by rw [hV]; exact Row.made _ _ _
  have HV := Lib.hid hV; have HB0 := Lib.hid hbV; have HL := Lib.hid hL
  have HRF := Lib.hid hf; have HN := Lib.hid hn
  have HBOX : Hid (∀ W, Below V.heap.size V W → W.cell? ⟨w.heap.size, 0, none⟩ = some (.string rf.n) ∧ W.cell? ⟨w.heap.size, 1, none⟩ = some (.string rf.d) ∧ W.cell? ⟨w.heap.size, 2, none⟩ = some (.slice rf.a rf.z rf.c)) := Lib.hid (fun W hW => by
    have hR2 := hR.step hW
    have p0 := hR2.cell 0; have p1 := hR2.cell 1; have p2 := hR2.cell 2
    simp only [List.getElem?_toArray, List.getElem?_cons_zero, List.getElem?_cons_succ] at p0 p1 p2
    exact ⟨p0, p1, p2⟩)
  obtain ⟨hml, a, cap, hu, _, hc0⟩ := h.stays hbV
  obtain ⟨z, hz⟩ : ∃ z, z = L.length := ⟨_, rfl⟩
  rw [← hz] at hu hl
  subst hu
  have HZ := Lib.hid hz; have HC := Lib.hid hc0
  have hmz : z ≤ 9223372036854775807 := by omega
  clear hml hz hc0 hV hbV hR hL hf h hn
  go_enter Try.func42, Try.ntmps42
  go_wp2_with fail
  rw [← HV.out]
  go_loopw [5, 6, 7] (fun o c i wr => ∃ (k : Nat) (u : Value) (dn : Bool) (R : List Dfr) (M : List Dfl), k ≤ z ∧ i = .int .i64 k ∧ c = .bool dn ∧ u = o ∧ R.length ≤ k + 1 ∧ (dn = false → R.length ≤ k) ∧ OwnD V.heap.size wr u R ∧ RowsS St R M ∧ WithI L f k dn M ∧ Below V.heap.size V wr) (fun _ _ i _ => z - (intOf i).toNat)
  case atStart => exact ⟨0, _, false, [], [], Nat.zero_le _, rfl, rfl, rfl, by simp, fun _ => Nat.le_refl _, ownD_nil _ _, trivial, withI_zero _ _, Below.refl _ _⟩
  case round =>
    obtain ⟨k, u, dn, R, M, hk, rfl, rfl, rfl, hRk, hRf, hO, hR, hI, hB⟩ := hrel
    have HO := Lib.hid hO; have HR := Lib.hid hR; have HB := Lib.hid hB; have HI := Lib.hid hI
    clear hO hR hI
    obtain ⟨p0, p1, p2⟩ := HBOX.out _ hB
    by_cases hlt : k < z
    · have hko : k < L.length := by have := HZ.out; omega
      obtain ⟨b1, o1, rfl, hbl, g1⟩ := HC.out (by omega)
      obtain ⟨r, hr, c0, c1, c2⟩ := g1 k hko
      have HEL : Hid (∀ W, Below V.heap.size V W → W.cell? ⟨b1, o1 + k * 3, none⟩ = some (.string r.n) ∧ W.cell? ⟨b1, o1 + k * 3 + 1, none⟩ = some (.string r.d) ∧ W.cell? ⟨b1, o1 + k * 3 + 2, none⟩ = some (.slice r.a r.z r.c)) := Lib.hid (fun W hW =>
        ⟨(hW.cell (p := ⟨b1, o1 + k * 3, none⟩) hbl).trans c0, (hW.cell (p := ⟨b1, o1 + k * 3 + 1, none⟩) hbl).trans c1, (hW.cell (p := ⟨b1, o1 + k * 3 + 2, none⟩) hbl).trans c2⟩)
      obtain ⟨q0, q1, q2⟩ := HEL.out _ hB
      have hrt : r.n.data.toList = (L[k]'hko).t := by rw [HN.out _ _ hr]; rfl
      have hft : rf.n.data.toList = f.t := by rw [HN.out _ _ HRF.out]; rfl
      have HLT := Lib.hid (fun (hd : WithI L f k false M) (hx : (L[k]'hko).t < f.t) => withI_lt hd hko hx)
      have HEQ := Lib.hid (fun (hd : WithI L f k false M) (hx : (L[k]'hko).t = f.t) => withI_eq hd hko hx)
      have HGT := Lib.hid (fun (hd : WithI L f k false M) (hx : f.t < (L[k]'hko).t) => withI_gt hd hko hx)
      have HPA := Lib.hid (fun (hd : WithI L f k true M) => withI_past hd HL.out hko)
      obtain ⟨x, hx⟩ : ∃ x, x = L[k]'hko := ⟨_, rfl⟩
      rw [← hx] at hr hrt HLT HEQ HGT HPA
      have HRW := Lib.hid hr
      have hbk : decide ((k : Int) < (z : Int)) = true := by simpa using (show (k : Int) < z by omega)
      have hRl : R.length ≤ 1000000 := by omega
      have hRl2 : ∀ y : Dfr, (R ++ [y]).length ≤ 1000000 := fun y => by simp; omega
      have HRL := Lib.hid hRl; have HRL2 := Lib.hid hRl2
      clear g1 hr c0 c1 c2 hx hRl hRl2
      cases dn with
      | true =>
        obtain ⟨hi2, hgt⟩ := HPA.out HI.out
        have HI2 := Lib.hid hi2
        have hne : r.n ≠ rf.n := fun e => t_irrefl f.t (by rw [str_txt, hrt, hft] at e; rwa [e] at hgt)
        have e0 := bne_str hne
        have e1 : (r.n.toList != rf.n.toList) = true := by simp [bne, e0]
        go_wp2_with fail
        go_quiet (fail)
        obtain ⟨X1, hX1⟩ : ∃ X, X = wr.drewN nq := ⟨_, rfl⟩
        rw [← hX1]
        have hx1 : Below wr.heap.size wr X1 := by rw [hX1]; exact below_drewN (Below.refl _ _) _
        have HO1 := Lib.hid (HO.out.stays hx1); have HB1 := Lib.hid (below_step HB.out hx1)
        clear hX1 hx1 p0 p1 p2 q0 q1 q2
        obtain ⟨p0, p1, p2⟩ := HBOX.out _ HB1.out
        obtain ⟨q0, q1, q2⟩ := HEL.out _ HB1.out
        go_wp2_with fail
        go_quiet (fail)
        obtain ⟨X3, hX3⟩ : ∃ X, X = X1.drewN nq := ⟨_, rfl⟩
        rw [← hX3]
        have hx3 : Below X1.heap.size X1 X3 := by rw [hX3]; exact below_drewN (Below.refl _ _) _
        have HO3 := Lib.hid (HO1.out.stays hx3); have HB3 := Lib.hid (below_step HB1.out hx3)
        clear hX3 hx3 p0 p1 p2 q0 q1 q2
        obtain ⟨p0, p1, p2⟩ := HBOX.out _ HB3.out
        obtain ⟨q0, q1, q2⟩ := HEL.out _ HB3.out
        go_wp2_with (at_builtin; refine wpList_append_dfr (y := r) rfl _ _ rfl HO3.out HB3.out.size rfl rfl HRL.out ?_)
        intro v4 X4 ho4 hb4
        have HO4 := Lib.hid ho4; have HB4 := Lib.hid (HB3.out.trans hb4)
        clear ho4 hb4 p0 p1 p2 q0 q1 q2
        go_wp2
        go_roundw
        case rel => exact ⟨k + 1, _, true, R ++ [r], _, by omega, by go_num, rfl, rfl, by simp; omega, fun e => (by cases e), HO4.out, RowsS.snoc HRW.out HR.out, HI2.out, HB4.out⟩
        case measure => simp [intOf]; omega
      | false =>
        have hRf2 := hRf rfl
        by_cases h1 : x.t < f.t
        · have HI2 := Lib.hid (HLT.out HI.out h1)
          have hne : r.n ≠ rf.n := fun e => t_irrefl f.t (by rw [str_txt, hrt, hft] at e; rwa [e] at h1)
          have l0 : Op.bytesLess r.n.toList rf.n.toList = true := by rw [less_eq, hrt, hft]; exact decide_eq_true h1
          have e0 := bne_str hne
          have e1 : (r.n.toList != rf.n.toList) = true := by simp [bne, e0]
          go_wp2_with fail
          go_quiet (fail)
          obtain ⟨X1, hX1⟩ : ∃ X, X = wr.drewN nq := ⟨_, rfl⟩
          rw [← hX1]
          have hx1 : Below wr.heap.size wr X1 := by rw [hX1]; exact below_drewN (Below.refl _ _) _
          have HO1 := Lib.hid (HO.out.stays hx1); have HB1 := Lib.hid (below_step HB.out hx1)
          clear hX1 hx1 p0 p1 p2 q0 q1 q2
          obtain ⟨p0, p1, p2⟩ := HBOX.out _ HB1.out
          obtain ⟨q0, q1, q2⟩ := HEL.out _ HB1.out
          go_wp2_with fail
          go_quiet (fail)
          obtain ⟨X3, hX3⟩ : ∃ X, X = X1.drewN nq := ⟨_, rfl⟩
          rw [← hX3]
          have hx3 : Below X1.heap.size X1 X3 := by rw [hX3]; exact below_drewN (Below.refl _ _) _
          have HO3 := Lib.hid (HO1.out.stays hx3); have HB3 := Lib.hid (below_step HB1.out hx3)
          clear hX3 hx3 p0 p1 p2 q0 q1 q2
          obtain ⟨p0, p1, p2⟩ := HBOX.out _ HB3.out
          obtain ⟨q0, q1, q2⟩ := HEL.out _ HB3.out
          go_wp2_with (at_builtin; refine wpList_append_dfr (y := r) rfl _ _ rfl HO3.out HB3.out.size rfl rfl HRL.out ?_)
          intro v4 X4 ho4 hb4
          have HO4 := Lib.hid ho4; have HB4 := Lib.hid (HB3.out.trans hb4)
          clear ho4 hb4 p0 p1 p2 q0 q1 q2
          go_wp2
          go_roundw
          case rel => exact ⟨k + 1, _, false, R ++ [r], _, by omega, by go_num, rfl, rfl, by simp; omega, by simp; omega, HO4.out, RowsS.snoc HRW.out HR.out, HI2.out, HB4.out⟩
          case measure => simp [intOf]; omega
        · have l0 : Op.bytesLess r.n.toList rf.n.toList = false := by rw [less_eq, hrt, hft]; exact decide_eq_false h1
          have l1 : Op.bytesLess rf.n.toList rf.n.toList = false := by rw [less_eq]; exact decide_eq_false (t_irrefl _)
          by_cases h2 : x.t = f.t
          · have HI2 := Lib.hid (HEQ.out HI.out h2)
            have he : r.n = rf.n := by rw [str_txt, hrt, hft]; exact h2
            have e0 := beq_str he
            have e1 : (r.n.toList != rf.n.toList) = false := by simp [bne, e0]
            go_wp2_with fail
            go_quiet (fail)
            obtain ⟨X1, hX1⟩ : ∃ X, X = wr.drewN nq := ⟨_, rfl⟩
            rw [← hX1]
            have hx1 : Below wr.heap.size wr X1 := by rw [hX1]; exact below_drewN (Below.refl _ _) _
            have HO1 := Lib.hid (HO.out.stays hx1); have HB1 := Lib.hid (below_step HB.out hx1)
            clear hX1 hx1 p0 p1 p2 q0 q1 q2
            obtain ⟨p0, p1, p2⟩ := HBOX.out _ HB1.out
            obtain ⟨q0, q1, q2⟩ := HEL.out _ HB1.out
            go_wp2_with (at_builtin; refine wpList_append_dfr (y := rf) rfl _ _ rfl HO1.out HB1.out.size rfl rfl HRL.out ?_)
            intro v2 X2 ho2 hb2
            have HO2 := Lib.hid ho2; have HB2 := Lib.hid (HB1.out.trans hb2)
            clear ho2 hb2 p0 p1 p2 q0 q1 q2
            obtain ⟨p0, p1, p2⟩ := HBOX.out _ HB2.out
            obtain ⟨q0, q1, q2⟩ := HEL.out _ HB2.out
            go_wp2_with fail
            go_quiet (fail)
            obtain ⟨X3, hX3⟩ : ∃ X, X = X2.drewN nq := ⟨_, rfl⟩
            rw [← hX3]
            have hx3 : Below X2.heap.size X2 X3 := by rw [hX3]; exact below_drewN (Below.refl _ _) _
            have HO3 := Lib.hid (HO2.out.stays hx3); have HB3 := Lib.hid (below_step HB2.out hx3)
            clear hX3 hx3 p0 p1 p2 q0 q1 q2
            obtain ⟨p0, p1, p2⟩ := HBOX.out _ HB3.out
            obtain ⟨q0, q1, q2⟩ := HEL.out _ HB3.out
            go_wp2
            go_roundw
            case rel => exact ⟨k + 1, _, true, R ++ [rf], _, by omega, by go_num, rfl, rfl, by simp; omega, fun e => (by cases e), HO3.out, RowsS.snoc HRF.out HR.out, HI2.out, HB3.out⟩
            case measure => simp [intOf]; omega
          · have h3 : f.t < x.t := Classical.byContradiction fun c => h2 (t_tri _ _ h1 c)
            have HI2 := Lib.hid (HGT.out HI.out h3)
            have hne : r.n ≠ rf.n := fun e => h2 (by rwa [str_txt, hrt, hft] at e)
            have e0 := bne_str hne
            have e1 : (r.n.toList != rf.n.toList) = true := by simp [bne, e0]
            go_wp2_with fail
            go_quiet (fail)
            obtain ⟨X1, hX1⟩ : ∃ X, X = wr.drewN nq := ⟨_, rfl⟩
            rw [← hX1]
            have hx1 : Below wr.heap.size wr X1 := by rw [hX1]; exact below_drewN (Below.refl _ _) _
            have HO1 := Lib.hid (HO.out.stays hx1); have HB1 := Lib.hid (below_step HB.out hx1)
            clear hX1 hx1 p0 p1 p2 q0 q1 q2
            obtain ⟨p0, p1, p2⟩ := HBOX.out _ HB1.out
            obtain ⟨q0, q1, q2⟩ := HEL.out _ HB1.out
            go_wp2_with (at_builtin; refine wpList_append_dfr (y := rf) rfl _ _ rfl HO1.out HB1.out.size rfl rfl HRL.out ?_)
            intro v2 X2 ho2 hb2
            have HO2 := Lib.hid ho2; have HB2 := Lib.hid (HB1.out.trans hb2)
            clear ho2 hb2 p0 p1 p2 q0 q1 q2
            obtain ⟨p0, p1, p2⟩ := HBOX.out _ HB2.out
            obtain ⟨q0, q1, q2⟩ := HEL.out _ HB2.out
            go_wp2_with fail
            go_quiet (fail)
            obtain ⟨X3, hX3⟩ : ∃ X, X = X2.drewN nq := ⟨_, rfl⟩
            rw [← hX3]
            have hx3 : Below X2.heap.size X2 X3 := by rw [hX3]; exact below_drewN (Below.refl _ _) _
            have HO3 := Lib.hid (HO2.out.stays hx3); have HB3 := Lib.hid (below_step HB2.out hx3)
            clear hX3 hx3 p0 p1 p2 q0 q1 q2
            obtain ⟨p0, p1, p2⟩ := HBOX.out _ HB3.out
            obtain ⟨q0, q1, q2⟩ := HEL.out _ HB3.out
            go_wp2_with (at_builtin; refine wpList_append_dfr (y := r) rfl _ _ rfl HO3.out HB3.out.size rfl rfl (HRL2.out rf) ?_)
            intro v4 X4 ho4 hb4
            have HO4 := Lib.hid ho4; have HB4 := Lib.hid (HB3.out.trans hb4)
            clear ho4 hb4 p0 p1 p2 q0 q1 q2
            go_wp2
            go_roundw
            case rel => exact ⟨k + 1, _, true, R ++ [rf, r], _, by omega, by go_num, rfl, rfl, by simp; omega, fun e => (by cases e), HO4.out, (by have := RowsS.snoc HRW.out (RowsS.snoc HRF.out HR.out); simpa using this), HI2.out, HB4.out⟩
            case measure => simp [intOf]; omega
    · obtain rfl : k = z := by omega
      have hbk : decide ((k : Int) < (k : Int)) = false := by simp
      have HKL : Hid (L.length ≤ k) := Lib.hid (by rw [← HZ.out]; exact Nat.le_refl _)
      cases dn with
      | true =>
        go_wp2
        go_ret
        exact ⟨_, _, rfl, ownD_low HO.out HB0.out.size, by rw [← withI_done HI.out HKL.out]; exact HR.out, below_step HB0.out HB.out⟩
      | false =>
        have hRl : R.length ≤ 1000000 := by omega
        go_wp2_with (at_builtin; refine wpList_append_dfr rfl _ _ rfl HO.out HB.out.size rfl rfl hRl ?_)
        intro v' w' hown' hb'
        have HO2 := Lib.hid hown'; have HB2 := Lib.hid (HB.out.trans hb')
        clear hown' hb'
        go_wp2
        go_ret
        exact ⟨_, _, rfl, ownD_low HO2.out HB0.out.size, by rw [← withI_last HI.out HKL.out]; exact RowsS.snoc HRF.out HR.out, below_step HB0.out HB2.out⟩
structure TwoB (w W : World) (x y : Array Value) : Prop where
  box : Row W w.heap.size x 24
  res : Row W (w.heap.size + 1) y 24
  below : Below w.heap.size w W
def putB (W : World) (B : Nat) (a b c : Value) : World := ((W.setCell ⟨B, 0, none⟩ a).setCell ⟨B, 1, none⟩ b).setCell ⟨B, 2, none⟩ c
section
variable {w W W' : World} {x y : Array Value}
theorem TwoB.step (h : TwoB w W x y) (hb : Below W.heap.size W W') : TwoB w W' x y := ⟨h.box.step hb, h.res.step hb, below_step h.below hb⟩
theorem TwoB.put0 {a b c a' b' c' : Value} (h : TwoB w W #[a, b, c] y) : TwoB w (putB W w.heap.size a' b' c') #[a', b', c'] y :=
  ⟨by have := ((h.box.set 0 a').set 1 b').set 2 c'; exact this,
   ((h.res.other ⟨w.heap.size, 0, none⟩ a' (by simp)).other ⟨w.heap.size, 1, none⟩ b' (by simp)).other ⟨w.heap.size, 2, none⟩ c' (by simp),
   ((h.below.setCell (p := ⟨w.heap.size, 0, none⟩) (Nat.le_refl _) a').setCell (p := ⟨w.heap.size, 1, none⟩) (Nat.le_refl _) b').setCell (p := ⟨w.heap.size, 2, none⟩) (Nat.le_refl _) c'⟩
theorem TwoB.put1 {a b c a' b' c' : Value} (h : TwoB w W x #[a, b, c]) : TwoB w (putB W (w.heap.size + 1) a' b' c') x #[a', b', c'] :=
  ⟨((h.box.other ⟨w.heap.size + 1, 0, none⟩ a' (by simp)).other ⟨w.heap.size + 1, 1, none⟩ b' (by simp)).other ⟨w.heap.size + 1, 2, none⟩ c' (by simp),
   by have := ((h.res.set 0 a').set 1 b').set 2 c'; exact this,
   ((h.below.setCell (p := ⟨w.heap.size + 1, 0, none⟩) (Nat.le_succ _) a').setCell (p := ⟨w.heap.size + 1, 1, none⟩) (Nat.le_succ _) b').setCell (p := ⟨w.heap.size + 1, 2, none⟩) (Nat.le_succ _) c'⟩
theorem TwoB.set0 {a b c a' : Value} (h : TwoB w W #[a, b, c] y) : TwoB w (W.setCell ⟨w.heap.size, 0, none⟩ a') #[a', b, c] y :=
  ⟨by have := h.box.set 0 a'; exact this, h.res.other ⟨w.heap.size, 0, none⟩ a' (by simp), h.below.setCell (p := ⟨w.heap.size, 0, none⟩) (Nat.le_refl _) a'⟩
theorem TwoB.cells {a b c a' b' c' : Value} (h : TwoB w W #[a, b, c] #[a', b', c']) : (W.cell? ⟨w.heap.size, 0, none⟩ = some a ∧ W.cell? ⟨w.heap.size, 1, none⟩ = some b ∧ W.cell? ⟨w.heap.size, 2, none⟩ = some c) ∧
    (W.cell? ⟨w.heap.size + 1, 0, none⟩ = some a' ∧ W.cell? ⟨w.heap.size + 1, 1, none⟩ = some b' ∧ W.cell? ⟨w.heap.size + 1, 2, none⟩ = some c') ∧
    (∀ i, W.frozen? ⟨w.heap.size, i, none⟩ = false) ∧ (∀ i, W.frozen? ⟨w.heap.size + 1, i, none⟩ = false) := by
  have p0 := h.box.cell 0; have p1 := h.box.cell 1; have p2 := h.box.cell 2
  have r0 := h.res.cell 0; have r1 := h.res.cell 1; have r2 := h.res.cell 2
  simp only [List.getElem?_toArray, List.getElem?_cons_zero, List.getElem?_cons_succ] at p0 p1 p2 r0 r1 r2
  exact ⟨⟨p0, p1, p2⟩, ⟨r0, r1, r2⟩, fun i => h.box.free i, fun i => h.res.free i⟩
end
theorem grownBy_set_Dkh (w : World) (b i : Nat) (u : Value) : w.grownBy (w.setCell ⟨b, i, none⟩ u) (some b) :=
  ⟨rfl, rfl, rfl, by simp [World.setCell], fun k hk hr => Below.heap_setCell _ _ _ _ (fun e => hr (by rw [e]))⟩
theorem ownD_set {B b i : Nat} {w : World} {v u : Value} {R : List Dfr} (h : OwnD B w v R) (hb : b < B) : OwnD B (w.setCell ⟨b, i, none⟩ u) v R :=
  World.ownsRow.kept h (grownBy_set_Dkh w b i u) (by
    cases hv : v.ownBlock with
    | none => exact .inl rfl
    | some k =>
      refine .inr fun e => ?_
      have := (World.ownsRow.lt h k hv).1
      cases e; omega)
theorem ownD_put {B b : Nat} {w : World} {v x y z : Value} {R : List Dfr} (h : OwnD B w v R) (hb : b < B) : OwnD B (putB w b x y z) v R := ownD_set (ownD_set (ownD_set h hb) hb) hb
theorem OwnD.len {B : Nat} {w : World} {v : Value} {R : List Dfr} (h : OwnD B w v R) : ∃ a n c, v = .slice a n c := by
  rcases h.2 with ⟨rfl, _⟩ | ⟨g, cap, cur, rfl, _⟩
  · exact ⟨_, _, _, rfl⟩
  · exact ⟨_, _, _, rfl⟩
theorem TwoB.lt {w W : World} {x y : Array Value} (h : TwoB w W x y) : w.heap.size + 1 < W.heap.size := h.res.lt
def RetD (r : Dsk × Int) (w : World) (e : Ending) (w' : World) : Prop := ∃ v, e = .returned (.tuple #[dskV v r.1, .int .i64 r.2]) ∧ IsDfs w' v r.1.fs ∧ Below w.heap.size w w'
theorem powD_fs (d : Dsk) : (powD d).1.fs = d.fs := by
  unfold powD; split
  · rfl
  · split <;> rfl
theorem thenD_bad {d : Dsk} {fs : List Dfl} (h : (powD d).2 ≠ 0) : thenD d fs = powD d := if_pos h
theorem thenD_ok {d : Dsk} {fs : List Dfl} (h : (powD d).2 = 0) : thenD d fs = (⟨fs, (powD d).1.off, (powD d).1.fuse⟩, 0) := if_neg (by simpa using h)
theorem twoB_new (w : World) (a : Option Addr) (z cap : Nat) (off : Bool) (fuse : Int) : TwoB w ((w.alloc (.cells #[.slice a z cap, .bool off, .int .i64 fuse] 24)).alloc (.cells #[.slice none 0 0, .bool false, .int .i64 0] 24)) #[.slice a z cap, .bool off, .int .i64 fuse] #[.slice none 0 0, .bool false, .int .i64 0] :=
  ⟨(Row.made _ _ _).alloc _, by have := Row.made (w.alloc (.cells #[.slice a z cap, .bool off, .int .i64 fuse] 24)) #[.slice none 0 0, .bool false, .int .i64 0] 24; simpa using this, ((Below.refl _ _).alloc (Nat.le_refl _) _).alloc (by simp) _⟩
set_option maxRecDepth 100000 in
set_option maxHeartbeats 8000000 in
theorem rRemove_any (d : Dsk) (v : Value) (s : ByteArray) (w : World) (h : IsDfs w v d.fs) (hf : FitD nameB d) :
    Calls Try.prog 24 #[dskV v d, .string s] w (RetD (removeD d s) w) := by
  have HI := Lib.hid h; have HF := Lib.hid hf
  have hl8 := hf.many
  obtain ⟨_, a, cap, hu, _, _⟩ := h
  obtain ⟨z, hz⟩ : ∃ z, z = d.fs.length := ⟨_, rfl⟩
  rw [← hz] at hu hl8
  subst hu
  have CP := Lib.hid (fun W (hW : Below w.heap.size w W) => rPlace_any d (.slice a z cap) s W (HI.out.stays hW))
  have CW := Lib.hid (fun W => rPower_any d a z cap W HF.out.lo HF.out.hi)
  have CX := Lib.hid (fun W (hW : Below w.heap.size w W) => rWithout_any (RowF w) (fun r x h => h.1) d.fs (.slice a z cap) s W ((HI.out.toS fun r x h => h).stays hW) (by have := HF.out.many; omega))
  clear hf hz
  obtain ⟨fs, off, fuse⟩ := d
  unfold dskV at CP CW ⊢
  dsimp only at CP CW CX HI ⊢
  obtain ⟨V, hV⟩ : ∃ V, V = (w.alloc (.cells #[.slice a z cap, .bool off, .int .i64 fuse] 24)).alloc (.cells #[.slice none 0 0, .bool false, .int .i64 0] 24) := ⟨_, rfl⟩
  have hT := twoB_new w a z cap off fuse
  rw [← hV] at hT
  have HV := Lib.hid hV; have HT := Lib.hid hT
  obtain ⟨⟨p0, p1, p2⟩, ⟨r0, r1, r2⟩, fz0, fz1⟩ := hT.cells
  clear hV hT
  cases off with
  | true =>
    go_enter Try.func24, Try.ntmps24
    go_wp2_with fail
    have hb : Below w.heap.size w ((w.alloc (.cells #[.slice a z cap, .bool true, .int .i64 fuse] 24)).alloc (.cells #[.slice a z cap, .bool true, .int .i64 fuse] 24)) := ((Below.refl _ _).alloc (Nat.le_refl _) _).alloc (by simp) _
    exact bodyPost_ret (v := .tuple #[.agg #[.slice a z cap, .bool true, .int .i64 fuse], .int .i64 13]) (by simp [results, Try.results24, go_sem]) rfl ⟨.slice a z cap, rfl, HI.out.stays hb, hb⟩
  | false =>
    have C1 := Lib.hid (CP.out V HT.out.below)
    go_enter Try.func24, Try.ntmps24
    go_wp2_with fail
    rw [← HV.out]
    go_wp2_with fail
    refine C1.out.mono ?_
    rintro e w2 ⟨r, rfl, hr, hb2⟩
    have HT2 := Lib.hid (HT.out.step hb2)
    clear p0 p1 p2 r0 r1 r2 fz0 fz1 hb2
    obtain ⟨⟨p0, p1, p2⟩, ⟨r0, r1, r2⟩, fz0, fz1⟩ := HT2.out.cells
    rcases hr with ⟨k, hk, rfl, ht, hg⟩ | ⟨rfl, hg⟩
    · have hb0 : decide ((k : Int) < 0) = false := decide_eq_false (by omega)
      have HRM : Hid (removeD ⟨fs, false, fuse⟩ s = thenD ⟨fs, false, fuse⟩ (lessF fs s.data.toList)) := Lib.hid (by unfold removeD; dsimp only; rw [if_neg (by simp), hg])
      have C2 := Lib.hid (CW.out w2)
      clear hg ht
      go_wp2_with fail
      refine C2.out.mono ?_
      rintro e w3 ⟨rfl, hb3⟩
      have HT3 := Lib.hid (HT2.out.step hb3)
      clear p0 p1 p2 r0 r1 r2 fz0 fz1 hb3
      obtain ⟨⟨p0, p1, p2⟩, ⟨r0, r1, r2⟩, fz0, fz1⟩ := HT3.out.cells
      have HPF := Lib.hid (powD_fs ⟨fs, false, fuse⟩)
      obtain ⟨pd, hpd⟩ : ∃ p, p = powD ⟨fs, false, fuse⟩ := ⟨_, rfl⟩
      rw [← hpd]
      have HPD := Lib.hid hpd
      clear hpd
      obtain ⟨⟨fs3, o3, f3⟩, pe⟩ := pd
      dsimp only at HPF HPD ⊢
      have hfs : fs3 = fs := by have := HPF.out; rw [← HPD.out] at this; exact this
      subst hfs
      by_cases hpe : pe = 0
      · subst hpe
        have HRE : Hid (removeD ⟨fs3, false, fuse⟩ s = (⟨lessF fs3 s.data.toList, o3, f3⟩, 0)) := Lib.hid (by rw [HRM.out, thenD_ok (by rw [← HPD.out]), ← HPD.out])
        have HT4 := Lib.hid (HT3.out.put0 (a' := .slice a z cap) (b' := .bool o3) (c' := .int .i64 f3))
        have C4 := Lib.hid (CX.out _ HT4.out.below)
        unfold putB at HT4 C4
        go_wp2_with fail
        refine C4.out.mono ?_
        rintro e w5 ⟨v5, R, rfl, ho5, hr5, hb5⟩
        have HT5 := Lib.hid (HT4.out.step hb5)
        have HLT := Lib.hid HT4.out.lt
        obtain ⟨a5, n5, c5, rfl⟩ := ho5.len
        have HO5 := Lib.hid ho5; have HR5 := Lib.hid hr5
        clear p0 p1 p2 r0 r1 r2 fz0 fz1 hb5 ho5 hr5
        obtain ⟨⟨p0, p1, p2⟩, ⟨r0, r1, r2⟩, fz0, fz1⟩ := HT5.out.cells
        have HT6 := Lib.hid ((HT5.out.set0 (a' := .slice a5 n5 c5)).put1 (a' := .slice a5 n5 c5) (b' := .bool o3) (c' := .int .i64 f3))
        have HO6 := Lib.hid (ownD_put (x := .slice a5 n5 c5) (y := .bool o3) (z := .int .i64 f3) (ownD_set (i := 0) (u := .slice a5 n5 c5) HO5.out (show w.heap.size < _ by have := HLT.out; omega)) (show w.heap.size + 1 < _ from HLT.out))
        unfold putB at HT6 HO6
        go_wp2_with fail
        obtain ⟨_, ⟨r0', r1', r2'⟩, _, _⟩ := HT6.out.cells
        exact bodyPost_ret (v := .tuple #[.agg #[.slice a5 n5 c5, .bool o3, .int .i64 f3], .int .i64 0]) (by simp [results, Try.results24, go_sem, r0', r1', r2']) rfl ⟨.slice a5 n5 c5, by rw [HRE.out]; rfl, by rw [HRE.out]; exact HO6.out.is HR5.out fun r x h => h.stays HT6.out.below, HT6.out.below⟩
      · have HRE : Hid (removeD ⟨fs3, false, fuse⟩ s = (⟨fs3, o3, f3⟩, pe)) := Lib.hid (by rw [HRM.out, thenD_bad (by rw [← HPD.out]; exact hpe), ← HPD.out])
        have e0 : (pe == 0) = false := by simpa using hpe
        have HT4 := Lib.hid ((HT3.out.put0 (a' := .slice a z cap) (b' := .bool o3) (c' := .int .i64 f3)).put1 (a' := .slice a z cap) (b' := .bool o3) (c' := .int .i64 f3))
        unfold putB at HT4
        go_wp2_with fail
        obtain ⟨_, ⟨r0', r1', r2'⟩, _, _⟩ := HT4.out.cells
        exact bodyPost_ret (v := .tuple #[.agg #[.slice a z cap, .bool o3, .int .i64 f3], .int .i64 pe]) (by simp [results, Try.results24, go_sem, r0', r1', r2']) rfl ⟨.slice a z cap, by rw [HRE.out]; rfl, by rw [HRE.out]; exact HI.out.stays HT4.out.below, HT4.out.below⟩
    · have HRM : Hid (removeD ⟨fs, false, fuse⟩ s = (⟨fs, false, fuse⟩, 5)) := Lib.hid (by unfold removeD; dsimp only; rw [if_neg (by simp), hg])
      have HT4 := Lib.hid (HT2.out.put1 (a' := .slice a z cap) (b' := .bool false) (c' := .int .i64 fuse))
      unfold putB at HT4
      clear hg
      go_wp2_with fail
      obtain ⟨_, ⟨r0', r1', r2'⟩, _, _⟩ := HT4.out.cells
      exact bodyPost_ret (v := .tuple #[.agg #[.slice a z cap, .bool false, .int .i64 fuse], .int .i64 5]) (by simp [results, Try.results24, go_sem, r0', r1', r2']) rfl ⟨.slice a z cap, by rw [HRM.out]; rfl, by rw [HRM.out]; exact HI.out.stays HT4.out.below, HT4.out.below⟩
end Go.Proofs.Ytninfmlemdnjbaa
namespace Go.Proofs.Ytninfmlemdnjbaa
open Go
section
variable {P : Program} {ops : Array Oper} {Q : Exit → Act → World → Prop}
def predsOf (ops : Array Oper) (i : Nat) : List Nat := ((ops[i]?).map fun o => (o.after.toList.filter (Region.binds .any)).map (·.on)).getD []
def ancOf (ops : Array Oper) : Nat → Nat → List Nat
  | 0, _ => []
  | f + 1, i => predsOf ops i ++ (predsOf ops i).flatMap (ancOf ops f)
theorem anc_listed {listed : Array Bool} (hc : ∀ k, listed.getD k false = true → ∀ j ∈ predsOf ops k, listed.getD j false = true) : ∀ (f i : Nat), (∀ j ∈ predsOf ops i, listed.getD j false = true) → ∀ k ∈ ancOf ops f i, listed.getD k false = true
  | 0, _, _, k, hk => by cases hk
  | f + 1, i, hp, k, hk => by
    rw [ancOf, List.mem_append, List.mem_flatMap] at hk
    rcases hk with hk | ⟨j, hj, hk⟩
    · exact hp k hk
    · exact anc_listed hc f j (hc j (hp j hj)) k hk
def slot (a : Act) (t : Tmp) : Value := a.tmps.getD t undef
theorem slot_put_same (a : Act) (t : Tmp) (v : Value) (h : t < a.tmps.size) : slot (a.put (some t) v) t = v := by
  simp [slot, Act.put, h]
theorem slot_put_other (a : Act) (d : Option Tmp) (t : Tmp) (v : Value) (h : d ≠ some t) : slot (a.put d v) t = slot a t := by
  cases d with
  | none => rfl
  | some d =>
    have h' : d ≠ t := fun e => h (by rw [e])
    simp [slot, Act.put, h']
theorem size_put (a : Act) (d : Option Tmp) (v : Value) : (a.put d v).tmps.size = a.tmps.size := by
  cases d <;> simp [Act.put]
theorem defers_put (a : Act) (d : Option Tmp) (v : Value) : (a.put d v).defers = a.defers := by
  cases d <;> simp [Act.put]
def dstOf (ops : Array Oper) (i : Nat) : Option Tmp := (ops[i]?).bind (·.dst)
def keptA (ops : Array Oper) (needs : Nat → List Nat) (last : List Nat) (i k : Nat) : Bool := last.contains k || (List.range ops.size).any fun j => j != i && !(ancOf ops 3 i).contains j && (needs j).contains k
def leanA (ops : Array Oper) (m : Nat) (needs : Nat → List Nat) (last : List Nat) (dep : Nat → List Tmp) : Bool :=
  (List.range ops.size).all fun i => ((needs i).all fun k => decide (ops.size ≤ k) || (ancOf ops 3 i).contains k) &&
    (List.range m).all fun k => k == i || (ancOf ops 3 k).contains i || !keptA ops needs last i k || ((dstOf ops i).map fun t => !(dep k).contains t).getD true
structure RelyInv (ops : Array Oper) (m : Nat) (a0 : Act) (G : World → Prop) (V : Nat → Act → World → Prop) (needs : Nat → List Nat) (last : List Nat) (listed : Array Bool) (a : Act) (w : World) : Prop where
  g : G w
  defers : a.defers = a0.defers
  size : a.tmps.size = a0.tmps.size
  len : listed.size = ops.size
  val : ∀ k, k < m → (ops.size ≤ k ∨ listed.getD k false = true) → (k ∈ last ∨ ∃ j, j < ops.size ∧ listed.getD j false = false ∧ k ∈ needs j) → V k a w
  old : ∀ t, (∀ k, dstOf ops k = some t → listed.getD k false = false) → slot a t = slot a0 t
  closed : ∀ k, listed.getD k false = true → ∀ j ∈ predsOf ops k, listed.getD j false = true
theorem ready_spec {listed : Array Bool} {i : Nat} (h : i ∈ Region.ready .any ops listed) (hl : listed.size = ops.size) : i < ops.size ∧ listed.getD i false = false ∧ ∀ j ∈ predsOf ops i, listed.getD j false = true := by
  unfold Region.ready at h
  rw [List.mem_filter, List.mem_range] at h
  obtain ⟨hi, h2⟩ := h
  simp only [Bool.and_eq_true, Bool.not_eq_true'] at h2
  obtain ⟨h2, h3⟩ := h2
  refine ⟨hi, ?_, ?_⟩
  · have hil : i < listed.size := by omega
    simpa [Array.getD, hil] using h2
  · intro j hj
    unfold predsOf at hj
    rw [Array.getElem?_eq_getElem hi] at hj h3
    simp only [Option.map_some, Option.getD_some, List.mem_map, List.mem_filter] at hj h3
    obtain ⟨e, ⟨he, hb⟩, rfl⟩ := hj
    rw [Array.all_eq_true_iff_forall_mem] at h3
    have := h3 e (by simpa using he)
    simpa [hb] using this
theorem ready_of {listed : Array Bool} {i : Nat} (hi : i < ops.size) (hl : listed.size = ops.size) (h0 : listed.getD i false = false) (hp : ∀ j ∈ predsOf ops i, listed.getD j false = true) : i ∈ Region.ready .any ops listed := by
  unfold Region.ready
  rw [List.mem_filter, List.mem_range]
  refine ⟨hi, ?_⟩
  simp only [Bool.and_eq_true, Bool.not_eq_true']
  refine ⟨?_, ?_⟩
  · have hil : i < listed.size := by omega
    simpa [Array.getD, hil] using h0
  · rw [Array.getElem?_eq_getElem hi]
    simp only [Option.map_some, Option.getD_some]
    rw [Array.all_eq_true_iff_forall_mem]
    intro e he
    by_cases hb : Region.binds .any e = true
    · have := hp e.on (by unfold predsOf; rw [Array.getElem?_eq_getElem hi]; simp only [Option.map_some, Option.getD_some, List.mem_map, List.mem_filter]; exact ⟨e, ⟨by simpa using he, hb⟩, rfl⟩)
      simp [hb, this]
    · simp [hb]
def unl (n : Nat) (listed : Array Bool) : Nat := (List.range n).countP fun i => !listed.getD i false
theorem unl_zero {n : Nat} {listed : Array Bool} (h : unl n listed = 0) (i : Nat) (hi : i < n) : listed.getD i false = true := by
  unfold unl at h
  rw [List.countP_eq_zero] at h
  have := h i (List.mem_range.2 hi)
  simpa using this
theorem getD_set (listed : Array Bool) (i j : Nat) (hi : i < listed.size) : (listed.setIfInBounds i true).getD j false = if j = i then true else listed.getD j false := by
  by_cases h : j = i
  · subst h; simp [hi]
  · have h' : i ≠ j := fun e => h e.symm
    simp [h, h']
theorem countP_flip {l : List Nat} (hn : l.Nodup) {p q : Nat → Bool} {i : Nat} (hi : i ∈ l) (hp : p i = true) (hq : q i = false) (he : ∀ j, j ≠ i → q j = p j) : l.countP p = l.countP q + 1 := by
  induction l with
  | nil => cases hi
  | cons x l ih =>
    rw [List.nodup_cons] at hn
    rw [List.countP_cons, List.countP_cons]
    by_cases hx : x = i
    · subst hx
      have : l.countP p = l.countP q := List.countP_congr fun j hj => by rw [he j (fun e => hn.1 (e ▸ hj))]
      simp [hp, hq, this]
    · rcases List.mem_cons.1 hi with h | h
      · exact absurd h.symm hx
      · have := ih hn.2 h
        rw [he x hx]; omega
theorem unl_set {n : Nat} {listed : Array Bool} {i : Nat} (hi : i < n) (hs : i < listed.size) (h0 : listed.getD i false = false) : unl n listed = unl n (listed.setIfInBounds i true) + 1 := by
  unfold unl
  refine countP_flip List.nodup_range (List.mem_range.2 hi) (by simpa using h0) (by rw [getD_set _ _ _ hs]; simp) fun j hj => ?_
  rw [getD_set _ _ _ hs, if_neg hj]
theorem all_listed {listed : Array Bool} (hl : listed.size = ops.size) (hord : ∀ i, i < ops.size → ∀ j ∈ predsOf ops i, j < i) (hr : Region.ready .any ops listed = []) : ∀ i, i < ops.size → listed.getD i false = true := by
  intro i
  induction i using Nat.strongRecOn with
  | ind i ih =>
    intro hi
    by_cases h : listed.getD i false = true
    · exact h
    · exfalso
      have := ready_of hi hl (by simpa using h) (fun j hj => ih j (hord i hi j hj) (Nat.lt_trans (hord i hi j hj) hi))
      rw [hr] at this
      cases this
def AllFrom (S : Nat → Oper → Prop) : Nat → List Oper → Prop
  | _, [] => True
  | n, o :: l => S n o ∧ AllFrom S (n + 1) l
theorem allFrom_get {S : Nat → Oper → Prop} : ∀ {l : List Oper} {n : Nat}, AllFrom S n l → ∀ i (hi : i < l.length), S (n + i) l[i]
  | _ :: _, _, h, 0, _ => h.1
  | _ :: l, n, h, i + 1, hi => by
    have := allFrom_get h.2 i (by simpa using hi)
    rw [Nat.add_assoc, Nat.add_comm 1 i] at this
    exact this
theorem forall_ops {S : Nat → Oper → Prop} {l : List Oper} (h : AllFrom S 0 l) : ∀ i (hi : i < l.toArray.size), S i (l.toArray[i]) := fun i hi => by
  have := allFrom_get h i (by simpa using hi)
  rw [Nat.zero_add] at this
  simpa using this
def oldB (ops : Array Oper) (i : Nat) (t : Tmp) : Bool := (List.range ops.size).all fun k => !(dstOf ops k == some t) || (predsOf ops k).contains i
theorem old_of {i : Nat} {t : Tmp} (h : oldB ops i t = true) : ∀ k, dstOf ops k = some t → i ∈ predsOf ops k := fun k hk => by
  have hkl : k < ops.size := by
    rcases Nat.lt_or_ge k ops.size with h | h
    · exact h
    · unfold dstOf at hk; rw [Array.getElem?_eq_none h] at hk; cases hk
  have := (List.all_eq_true.1 h) k (List.mem_range.2 hkl)
  rw [hk] at this
  simpa using this
theorem wp_value {o : Oper} {a : Act} {w w' : World} {v : Value} {K : Act → World → Prop} (h : (execOp a.eval o).run P w = .ok (.value v) w') (hk : K (a.put o.dst v) w') : o.wp P a w K Q := by
  unfold Oper.wp; rw [h]; exact hk
theorem wp_skip {o : Oper} {a : Act} {w w' : World} {K : Act → World → Prop} (h : (execOp a.eval o).run P w = .ok .skip w') (hk : K (a.put o.dst undef) w') : o.wp P a w K Q := by
  unfold Oper.wp; rw [h]; exact hk
def patchL (ds : List Tmp) (s : Tmp → Value) : Nat → List Value → List Value
  | _, [] => []
  | t, v :: l => (if ds.contains t then s t else v) :: patchL ds s (t + 1) l
theorem patchL_get (ds : List Tmp) (s : Tmp → Value) : ∀ (l : List Value) (n i : Nat), (patchL ds s n l)[i]? = (l[i]?).map fun v => if ds.contains (n + i) then s (n + i) else v
  | [], _, _ => by simp [patchL]
  | v :: l, n, 0 => by simp [patchL]
  | v :: l, n, i + 1 => by
    rw [patchL, List.getElem?_cons_succ, patchL_get ds s l (n + 1) i, List.getElem?_cons_succ, Nat.add_assoc, Nat.add_comm 1 i]
theorem act_patch {a a0 : Act} (ds : List Tmp) (hS : a.tmps.size = a0.tmps.size) (hD : a.defers = a0.defers) (h : ∀ t, t ∉ ds → slot a t = slot a0 t) : a = ⟨(patchL ds (slot a) 0 a0.tmps.toList).toArray, a0.defers⟩ := by
  obtain ⟨tm, df⟩ := a
  obtain ⟨tm0, df0⟩ := a0
  simp only at hS hD
  subst hD
  congr 1
  apply Array.ext_getElem?
  intro i
  simp only [List.getElem?_toArray, patchL_get, Nat.zero_add, Array.getElem?_toList]
  by_cases hi : i < tm.size
  · have hi0 : i < tm0.size := by omega
    rw [Array.getElem?_eq_getElem hi, Array.getElem?_eq_getElem hi0]
    simp only [Option.map_some, Option.some.injEq]
    split
    · simp [slot, hi]
    · rename_i hc
      have := h i (by simpa using hc)
      simpa [slot, hi, hi0] using this
  · rw [Array.getElem?_eq_none (by omega), Array.getElem?_eq_none (by omega)]; rfl
def dstsOf (ops : Array Oper) : List Tmp := (List.range ops.size).filterMap (dstOf ops)
theorem free_of {t : Tmp} (h : t ∉ dstsOf ops) : ∀ k : Nat, dstOf ops k ≠ some t := fun k hk => by
  refine h (List.mem_filterMap.2 ⟨k, ?_, hk⟩)
  rw [List.mem_range]
  rcases Nat.lt_or_ge k ops.size with h | h
  · exact h
  · unfold dstOf at hk; rw [Array.getElem?_eq_none h] at hk; cases hk
theorem eval_slot (a : Act) (t : Tmp) : a.eval (.tmp t) = slot a t := rfl
end
end Go.Proofs.Ytninfmlemdnjbaa
set_option linter.unusedVariables false
namespace Go.Proofs.Ytninfmlemdnjbaa
open Go.RowKit
theorem wp_callf {P : Program} {o : Oper} {a : Act} {w : World} {K : Act → World → Prop} {Q : Exit → Act → World → Prop} (f : FuncId) (args : Array Operand) (tys : Array TypeId) (ho : o.op = .call { callee := .value (.func f), args := args, argTypes := tys })
    (hen : ∀ xs w, (callFunc f xs).run P w = .ok (.enter f xs) w) (xs : Array Value) (hxs : args.map a.eval = xs) (v : Value) {R : World → Prop} (h : Calls P f xs w fun e w' => e = .returned v ∧ R w') (hk : ∀ w', R w' → K (a.put o.dst v) w') : o.wp P a w K Q := by
  unfold Oper.wp execOp
  simp only [ho]
  simp [hxs, go_sem, hen]
  refine h.mono ?_
  rintro e w' ⟨rfl, hr⟩
  exact hk w' hr
theorem alloc3 (w : World) (A B C : Array Value) (ta tb tc : TypeId) :
    Row (((w.alloc (.cells A ta)).alloc (.cells B tb)).alloc (.cells C tc)) w.heap.size A ta ∧ Row (((w.alloc (.cells A ta)).alloc (.cells B tb)).alloc (.cells C tc)) (w.heap.size + 1) B tb ∧
      Row (((w.alloc (.cells A ta)).alloc (.cells B tb)).alloc (.cells C tc)) (w.heap.size + 1 + 1) C tc ∧ Below w.heap.size w (((w.alloc (.cells A ta)).alloc (.cells B tb)).alloc (.cells C tc)) ∧
      (((w.alloc (.cells A ta)).alloc (.cells B tb)).alloc (.cells C tc)).heap.size = w.heap.size + 3 := by
  refine ⟨((Row.made _ _ _).alloc _).alloc _, ?_, ?_, (((Below.refl _ _).alloc (Nat.le_refl _) _).alloc (by simp) _).alloc (by simp; omega) _, by simp⟩
  · have := (Row.made (w.alloc (.cells A ta)) B tb).alloc (.cells C tc)
    simpa using this
  · have := Row.made ((w.alloc (.cells A ta)).alloc (.cells B tb)) C tc
    simpa using this
theorem slotE {a : Act} {t : Tmp} {v : Value} (h : slot a t = v) : a.eval (.tmp t) = v := h
def needL (l : List (List Nat)) (i : Nat) : List Nat := l.getD i []
def boundL (l : List (List Nat)) (m : Nat) : Bool := l.all fun x => x.all (· < m)
theorem needL_bound {l : List (List Nat)} {m : Nat} (h : boundL l m = true) (i k : Nat) (hk : k ∈ needL l i) : k < m := by
  unfold needL at hk
  rw [List.getD_eq_getElem?_getD] at hk
  cases hi : l[i]? with
  | none => rw [hi] at hk; cases hk
  | some x =>
    rw [hi] at hk
    have h1 := (List.all_eq_true.1 h) x (List.mem_of_getElem? hi)
    simpa using (List.all_eq_true.1 h1) k hk
theorem run_move_slot {P : Program} {a : Act} {w : World} {o : Oper} {s : Tmp} {v : Value} (ho : o.op = .move (.tmp s) ∨ o.op = .assign (.tmp s)) (h : slot a s = v) : (execOp a.eval o).run P w = .ok (.value v) w := by
  have e : a.eval (.tmp s) = v := h
  rcases ho with ho | ho <;> simp [execOp, ho, e]
theorem slot_at {a : Act} {t : Tmp} {v : Value} (h : slot a t = v) : a.tmps[t]?.getD undef = v := by rw [← h]; simp [slot]
end Go.Proofs.Ytninfmlemdnjbaa
set_option linter.unusedVariables false
namespace Go.Proofs.Ytninfmlemdnjbaa
open Go Go.RowKit
section
variable {P : Program} {ops : Array Oper} {Q : Exit → Act → World → Prop}
def relyGB (ops : Array Oper) (n : Nat) : Bool :=
  (List.range ops.size).all fun i => (predsOf ops i).all (· < i) &&
    (((ops[i]?).bind (·.dst)).map fun t => decide (t < n) && (List.range ops.size).all fun k => k == i || !(((ops[k]?).bind (·.dst)) == some t)).getD true
theorem wp_any_relyG {a0 : Act} {w0 : World} (hB : relyGB ops a0.tmps.size = true) (T : Nat → World → World → Prop) (G : World → Prop) (V : Nat → Act → World → Prop)
    (m : Nat) (needs : Nat → List Nat) (last : List Nat) (dep : Nat → List Tmp) (hL : leanA ops m needs last dep = true) (hneeds : ∀ i k, k ∈ needs i → k < m)
    (hdep : ∀ k a a' w, k < m → (∀ t ∈ dep k, slot a' t = slot a t) → V k a w → V k a' w)
    (hT : ∀ i k a w w', i < ops.size → k < m → k ≠ i → keptA ops needs last i k = true → i ∉ ancOf ops 3 k → V k a w → T i w w' → V k a w')
    (hG : G { w0 with drawn := w0.drawn + 1 }) (hV0 : ∀ k, k < m → ops.size ≤ k → V k a0 { w0 with drawn := w0.drawn + 1 })
    (step : ∀ i (hi : i < ops.size) a w, G w → (∀ k ∈ needs i, V k a w) → (∀ t, (∀ k, dstOf ops k = some t → i ∈ predsOf ops k) → slot a t = slot a0 t) → a.tmps.size = a0.tmps.size →
      (Region.wanted (ops[i]) (yielded ops a.tmps) = true ∧ (ops[i]).wp P a w (fun a' w' => ∃ v, a' = a.put (ops[i]).dst v ∧ T i w w' ∧ G w' ∧ V i a' w') Q) ∨
        (Region.wanted (ops[i]) (yielded ops a.tmps) = false ∧ T i w w ∧ V i (a.put (ops[i]).dst undef) w))
    (done : ∀ a w, G w → (∀ k ∈ last, k < m → V k a w) → (∀ t, (∀ k : Nat, dstOf ops k ≠ some t) → slot a t = slot a0 t) → a.tmps.size = a0.tmps.size → a.defers = a0.defers → Q .normal a w) :
    wpAny P .any ops Q ops.size (Array.replicate ops.size false) a0 { w0 with drawn := w0.drawn + 1 } := by
  have hB' : ∀ i, i < ops.size → (∀ j ∈ predsOf ops i, j < i) ∧
      (((ops[i]?).bind (·.dst)).map fun t => decide (t < a0.tmps.size) && (List.range ops.size).all fun k => k == i || !(((ops[k]?).bind (·.dst)) == some t)).getD true = true := by
    intro i hi
    have := (List.all_eq_true.1 hB) i (List.mem_range.2 hi)
    simp only [Bool.and_eq_true] at this
    obtain ⟨h1, h3⟩ := this
    exact ⟨fun j hj => by simpa using (List.all_eq_true.1 h1) j hj, h3⟩
  have hL' : ∀ i, i < ops.size → (∀ k ∈ needs i, ops.size ≤ k ∨ k ∈ ancOf ops 3 i) ∧ ∀ k, k < m → k ≠ i → i ∉ ancOf ops 3 k → keptA ops needs last i k = true → ∀ t, dstOf ops i = some t → t ∉ dep k := by
    intro i hi
    have := (List.all_eq_true.1 hL) i (List.mem_range.2 hi)
    rw [Bool.and_eq_true] at this
    obtain ⟨h1, h2⟩ := this
    refine ⟨fun k hk => by simpa using (List.all_eq_true.1 h1) k hk, fun k hk hki hip hke t ht => ?_⟩
    have h3 := (List.all_eq_true.1 h2) k (List.mem_range.2 hk)
    have hip' : (ancOf ops 3 k).contains i = false := by simpa using hip
    have hki' : (k == i) = false := by simpa using hki
    rw [hke, hip', hki', ht] at h3
    simpa using h3
  have key : ∀ fuel listed a w, unl ops.size listed ≤ fuel → RelyInv ops m a0 G V needs last listed a w → wpAny P .any ops Q fuel listed a w := by
    intro fuel
    have fin : ∀ listed a w, RelyInv ops m a0 G V needs last listed a w → (∀ i, i < ops.size → listed.getD i false = true) → Q .normal a w := fun listed a w I hall =>
      done a w I.g (fun k hk hkm => I.val k hkm (by
        rcases Nat.lt_or_ge k ops.size with h | h
        · exact .inr (hall k h)
        · exact .inl h) (.inl hk)) (fun t ht => I.old t fun k hk => absurd hk (ht k)) I.size I.defers
    induction fuel with
    | zero =>
      intro listed a w hu I
      have hall := fun i hi => unl_zero (Nat.le_zero.1 hu) i hi
      refine ⟨?_, fin listed a w I hall⟩
      apply List.eq_nil_iff_forall_not_mem.2
      intro i hi
      obtain ⟨h1, h2, _⟩ := ready_spec hi I.len
      rw [hall i h1] at h2; cases h2
    | succ fuel ih =>
      intro listed a w hu I
      refine ⟨fun hr => fin listed a w I (all_listed I.len (fun i hi => (hB' i hi).1) hr), fun i hi => ?_⟩
      obtain ⟨h1, h2, h3⟩ := ready_spec hi I.len
      have hil : i < listed.size := by rw [I.len]; exact h1
      have hst := step i h1 a w I.g (fun k hk => I.val k (hneeds i k hk) (((hL' i h1).1 k hk).imp (fun h => h) (anc_listed I.closed 3 i h3 k)) (.inr ⟨i, h1, h2, hk⟩)) (fun t ht => I.old t fun k hk => by
        by_cases hc : listed.getD k false = true
        · have := I.closed k hc i (ht k hk)
          rw [h2] at this; cases this
        · simpa using hc) I.size
      have next : ∀ v w', T i w w' → G w' → V i (a.put (ops[i]).dst v) w' → wpAny P .any ops Q fuel (listed.setIfInBounds i true) (a.put (ops[i]).dst v) w' := by
        intro v w' hTi hG' hv
        refine ih _ _ _ (by have := unl_set h1 hil h2; omega) ⟨hG', by rw [defers_put]; exact I.defers, by rw [size_put]; exact I.size, by simp [I.len], ?_, ?_, ?_⟩
        · intro k hkm hkl hkn
          by_cases e : k = i
          · subst e; exact hv
          · have hkl' : ops.size ≤ k ∨ listed.getD k false = true := hkl.imp (fun h => h) fun h => by rwa [getD_set _ _ _ hil, if_neg e] at h
            have hip : i ∉ ancOf ops 3 k := fun hip => by
              rcases hkl' with h | h
              · have e0 : predsOf ops k = [] := by unfold predsOf; rw [Array.getElem?_eq_none h]; rfl
                simp [ancOf, e0] at hip
              · have := anc_listed I.closed 3 k (I.closed k h) i hip
                rw [h2] at this; cases this
            have hkn' : (k ∈ last ∨ ∃ j, j < ops.size ∧ listed.getD j false = false ∧ k ∈ needs j) ∧ keptA ops needs last i k = true := by
              rcases hkn with h | ⟨j, hj, hjl, hjk⟩
              · exact ⟨.inl h, by simp [keptA, h]⟩
              · rw [getD_set _ _ _ hil] at hjl
                split at hjl
                · cases hjl
                · rename_i hji
                  refine ⟨.inr ⟨j, hj, hjl, hjk⟩, ?_⟩
                  unfold keptA
                  rw [Bool.or_eq_true]
                  right
                  rw [List.any_eq_true]
                  have hja : j ∉ ancOf ops 3 i := fun h => by
                    have := anc_listed I.closed 3 i h3 j h
                    rw [hjl] at this; cases this
                  exact ⟨j, List.mem_range.2 hj, by simp [hji, hjk, hja]⟩
            refine hdep k a _ w' hkm (fun t ht => slot_put_other _ _ _ _ fun hd => (hL' i h1).2 k hkm e hip hkn'.2 t (by unfold dstOf; rw [Array.getElem?_eq_getElem h1]; exact hd) ht) ?_
            exact hT i k a w w' h1 hkm e hkn'.2 hip (I.val k hkm hkl' hkn'.1) hTi
        · intro t ht
          rw [slot_put_other _ _ _ _ (fun hd => by
            have := ht i (by unfold dstOf; rw [Array.getElem?_eq_getElem h1]; exact hd)
            rw [getD_set _ _ _ hil, if_pos rfl] at this; cases this)]
          exact I.old t fun k hk => by
            have := ht k hk
            rw [getD_set _ _ _ hil] at this
            split at this
            · cases this
            · exact this
        · intro k hkl j hj
          rw [getD_set _ _ _ hil]
          split
          · rfl
          · rename_i hji
            rw [getD_set _ _ _ hil] at hkl
            split at hkl
            · rename_i hki; subst hki; exact h3 j hj
            · exact I.closed k hkl j hj
      unfold wpOp
      rw [Array.getElem?_eq_getElem h1]
      rcases hst with ⟨hw, hst⟩ | ⟨hw, hTi, hv⟩
      · simp only [hw, if_true]
        refine .inl (Oper.wp_mono ?_ hst)
        rintro a' w' ⟨v, rfl, hTi, hG', hv⟩
        exact next v w' hTi hG' hv
      · simp only [hw, Bool.false_eq_true, if_false]
        exact next undef w hTi I.g hv
  refine key _ _ _ _ ?_ ⟨hG, rfl, rfl, by simp, ?_, fun t _ => rfl, ?_⟩
  · unfold unl
    exact Nat.le_trans (List.countP_le_length) (by simp)
  · intro k hkm h _
    rcases h with h | h
    · exact hV0 k hkm h
    · simp [Array.getElem?_replicate] at h
      split at h <;> simp at h
  · intro k h
    simp [Array.getElem?_replicate] at h
    split at h <;> simp at h
def exV (ex : Nat → Option Tmp) (k : Nat) (a : Act) : Value := ((ex k).map (slot a)).getD undef
def wordE (ops : Array Oper) (ex : Nat → Option Tmp) (U : Nat → Value → Value → World → Prop) (k : Nat) (a : Act) (w : World) : Prop := U k (((dstOf ops k).map (slot a)).getD undef) (exV ex k a) w
def depE (ops : Array Oper) (ex : Nat → Option Tmp) (k : Nat) : List Tmp := (dstOf ops k).toList ++ (ex k).toList
def StepG (P : Program) (ops : Array Oper) (Q : Exit → Act → World → Prop) (a0 : Act) (T : Nat → World → World → Prop) (G : World → Prop) (ex : Nat → Option Tmp) (U : Nat → Value → Value → World → Prop) (nl : List (List Nat)) (i : Nat) (o : Oper) : Prop :=
  ∀ a w, G w → (∀ k ∈ needL nl i, wordE ops ex U k a w) → (∀ t, oldB ops i t = true → slot a t = slot a0 t) →
    (Region.wanted o (yielded ops a.tmps) = true ∧ o.wp P a w (fun a' w' => ∃ v, a' = a.put o.dst v ∧ T i w w' ∧ G w' ∧ U i (if o.dst.isSome then v else undef) (exV ex i a) w') Q) ∨ (Region.wanted o (yielded ops a.tmps) = false ∧ T i w w ∧ U i undef (exV ex i a) w)
theorem wp_any_wordsG {a0 : Act} {w0 : World} (hB : relyGB ops a0.tmps.size = true)
    (T : Nat → World → World → Prop) (G : World → Prop) (ex : Nat → Option Tmp) (U : Nat → Value → Value → World → Prop) (m : Nat) (nl : List (List Nat)) (last : List Nat) (hb : boundL nl m = true) (hL : leanA ops m (needL nl) last (depE ops ex) = true)
    (hex : ((List.range m).all fun k => (dstOf ops k).isNone || (ex k).isNone || !(dstOf ops k == ex k)) = true)
    (bad : List (Nat × Nat)) (hbad : (bad.all fun x => !keptA ops (needL nl) last x.1 x.2 || (ancOf ops 3 x.2).contains x.1) = true) (hT : ∀ i k v e w w', i < ops.size → k < m → k ≠ i → (i, k) ∉ bad → U k v e w → T i w w' → U k v e w') (hm2 : ops.size ≤ m)
    (hG : G { w0 with drawn := w0.drawn + 1 }) (hV0 : ∀ k, k < m → ops.size ≤ k → U k undef (exV ex k a0) { w0 with drawn := w0.drawn + 1 })
    (ds : List Tmp) (hds : dstsOf ops = ds) (step : ∀ i (hi : i < ops.size), StepG P ops Q a0 T G ex U nl i ops[i])
    (done : ∀ a w, G w → (∀ k ∈ last, k < m → wordE ops ex U k a w) → a.tmps.size = a0.tmps.size → a = ⟨(patchL ds (slot a) 0 a0.tmps.toList).toArray, a0.defers⟩ → Q .normal a w) :
    wpAny P .any ops Q ops.size (Array.replicate ops.size false) a0 { w0 with drawn := w0.drawn + 1 } := by
  subst hds
  refine wp_any_relyG hB T G (wordE ops ex U) m (needL nl) last (depE ops ex) hL (needL_bound hb) ?_ (fun i k a w w' hi hk hne hke hip h hTi => hT i k _ _ w w' hi hk hne (fun hx => by have := (List.all_eq_true.1 hbad) _ hx; simp [hke] at this; exact hip this) h hTi) hG ?_ ?_ ?_
  · intro k a a' w hk h hv
    have h1 : ((dstOf ops k).map (slot a')).getD undef = ((dstOf ops k).map (slot a)).getD undef := by
      cases hd : dstOf ops k with
      | none => rfl
      | some t => simp only [Option.map_some, Option.getD_some]; exact h t (by simp [depE, hd])
    have h2 : exV ex k a' = exV ex k a := by
      unfold exV
      cases hd : ex k with
      | none => rfl
      | some t => simp only [Option.map_some, Option.getD_some]; exact h t (by simp [depE, hd])
    unfold wordE at hv ⊢
    rw [h1, h2]; exact hv
  · intro k hk hge
    unfold wordE
    have : dstOf ops k = none := by unfold dstOf; rw [Array.getElem?_eq_none hge]; rfl
    rw [this]; exact hV0 k hk hge
  · intro i hi a w hGw hN hO hS
    have fin : ∀ v w', U i (if (ops[i]).dst.isSome then v else undef) (exV ex i a) w' → wordE ops ex U i (a.put (ops[i]).dst v) w' := by
      intro v w' h3
      have hd : dstOf ops i = ops[i].dst := by unfold dstOf; rw [Array.getElem?_eq_getElem hi]; rfl
      have h4 : exV ex i (a.put (ops[i]).dst v) = exV ex i a := by
        unfold exV
        cases he : ex i with
        | none => rfl
        | some t =>
          simp only [Option.map_some, Option.getD_some]
          refine slot_put_other _ _ _ _ fun hdt => ?_
          have := (List.all_eq_true.1 hex) i (List.mem_range.2 (by omega))
          rw [hd, hdt, he] at this
          simp at this
      unfold wordE
      rw [hd, h4]
      cases ht : ops[i].dst with
      | none => rw [ht] at h3; exact h3
      | some t =>
        rw [ht] at h3
        have hlt : t < a0.tmps.size := by
          have := (List.all_eq_true.1 hB) i (List.mem_range.2 hi)
          simp only [Bool.and_eq_true] at this
          have h5 := this.2
          have hd' : (ops[i]?).bind (·.dst) = some t := by rw [Array.getElem?_eq_getElem hi]; exact ht
          rw [hd'] at h5
          simp only [Option.map_some, Option.getD_some, Bool.and_eq_true, decide_eq_true_eq] at h5
          exact h5.1
        simp only [Option.map_some, Option.getD_some]
        rw [slot_put_same _ _ _ (by rw [hS]; exact hlt)]
        exact h3
    rcases step i hi a w hGw hN (fun t ht => hO t (old_of ht)) with ⟨hw, hst⟩ | ⟨hw, h1, h3⟩
    · refine .inl ⟨hw, Oper.wp_mono ?_ hst⟩
      rintro a' w' ⟨v, rfl, h1, h2, h3⟩
      exact ⟨v, rfl, h1, h2, fin v w' h3⟩
    · exact .inr ⟨hw, h1, fin undef w (by split <;> exact h3)⟩
  · intro a w hGw hV hO hS hD
    exact done a w hGw hV hS (act_patch _ hS hD (fun t ht => hO t (free_of ht)))
end
section
variable {P : Program} {ops : Array Oper} {Q : Exit → Act → World → Prop} {a0 : Act} {T : Nat → World → World → Prop} {G : World → Prop} {ex : Nat → Option Tmp} {U : Nat → Value → Value → World → Prop} {nl : List (List Nat)} {i : Nat} {o : Oper}
def StepR (P : Program) (ops : Array Oper) (Q : Exit → Act → World → Prop) (a0 : Act) (T : Nat → World → World → Prop) (G : World → Prop) (ex : Nat → Option Tmp) (U : Nat → Value → Value → World → Prop) (nl : List (List Nat)) (i : Nat) (o : Oper) : Prop :=
  ∀ a w, G w → (∀ k ∈ needL nl i, wordE ops ex U k a w) → (∀ t, oldB ops i t = true → slot a t = slot a0 t) →
    o.wp P a w (fun a' w' => ∃ v, a' = a.put o.dst v ∧ T i w w' ∧ G w' ∧ U i (if o.dst.isSome then v else undef) (exV ex i a) w') Q
theorem stepG_of (hg : o.guard = none) (h : StepR P ops Q a0 T G ex U nl i o) : StepG P ops Q a0 T G ex U nl i o := fun a w hG hN hO => .inl ⟨by unfold Region.wanted; rw [hg], h a w hG hN hO⟩
theorem yields_word {j : Nat} {a : Act} {w : World} {b : Bool} (hj : wordE ops ex U j a w) (hU : ∀ v e w, U j v e w → v = .bool b) : yielded ops a.tmps j = some b := by
  have h := hU _ _ _ hj
  unfold yielded
  have hd : (ops[j]?).bind (·.dst) = dstOf ops j := rfl
  rw [hd]
  cases ht : dstOf ops j with
  | none => rw [ht] at h; cases h
  | some t =>
    rw [ht] at h
    simp only [Option.map_some, Option.getD_some, slot, Array.getD_eq_getD_getElem?] at h
    simp only [Option.bind_some]
    cases hv : a.tmps[t]? with
    | none => rw [hv] at h; cases h
    | some v => rw [hv] at h; simp only [Option.getD_some] at h; rw [h]
theorem stepG_on {j : Nat} {b : Bool} (hg : o.guard = some (j, b)) (hj : j ∈ needL nl i) (hU : ∀ v e w, U j v e w → v = .bool b) (h : StepR P ops Q a0 T G ex U nl i o) : StepG P ops Q a0 T G ex U nl i o := fun a w hG hN hO => .inl ⟨by
      unfold Region.wanted; rw [hg]; simp only [yields_word (hN j hj) hU]; simp, h a w hG hN hO⟩
theorem stepR_value {t : Tmp} (v : Value) (hd : o.dst = some t) (hTr : ∀ w, T i w w)
    (hrun : ∀ a w, G w → (∀ k ∈ needL nl i, wordE ops ex U k a w) → (∀ t, oldB ops i t = true → slot a t = slot a0 t) → (execOp a.eval o).run P w = .ok (.value v) w)
    (hU : ∀ a w, G w → (∀ k ∈ needL nl i, wordE ops ex U k a w) → U i v (exV ex i a) w) : StepR P ops Q a0 T G ex U nl i o := by
  intro a w hG hN hO
  exact wp_value (hrun a w hG hN hO) ⟨v, rfl, hTr w, hG, by rw [hd]; exact hU a w hG hN⟩
end
variable {P : Program} {ops : Array Oper} {Q : Exit → Act → World → Prop}
theorem wp_region_wordsG {id : Nat} {a0 : Act} {w0 : World} (hm : P.follows .mixedOrders = true) (hB : relyGB ops a0.tmps.size = true)
    (T : Nat → World → World → Prop) (G : World → Prop) (ex : Nat → Option Tmp) (U : Nat → Value → Value → World → Prop) (m : Nat) (nl : List (List Nat)) (last : List Nat) (hb : boundL nl m = true) (hL : leanA ops m (needL nl) last (depE ops ex) = true)
    (hex : ((List.range m).all fun k => (dstOf ops k).isNone || (ex k).isNone || !(dstOf ops k == ex k)) = true)
    (bad : List (Nat × Nat)) (hbad : (bad.all fun x => !keptA ops (needL nl) last x.1 x.2 || (ancOf ops 3 x.2).contains x.1) = true) (hT : ∀ i k v e w w', i < ops.size → k < m → k ≠ i → (i, k) ∉ bad → U k v e w → T i w w' → U k v e w') (hm2 : ops.size ≤ m)
    (hG : G { w0 with drawn := w0.drawn + 1 }) (hV0 : ∀ k, k < m → ops.size ≤ k → U k undef (exV ex k a0) { w0 with drawn := w0.drawn + 1 })
    (ds : List Tmp) (hds : dstsOf ops = ds) (step : ∀ i (hi : i < ops.size), StepG P ops Q a0 T G ex U nl i ops[i])
    (done : ∀ a w, G w → (∀ k ∈ last, k < m → wordE ops ex U k a w) → a.tmps.size = a0.tmps.size → a = ⟨(patchL ds (slot a) 0 a0.tmps.toList).toArray, a0.defers⟩ → Q .normal a w) :
    (Code.region id ops true).wp P Q a0 w0 :=
  wp_region_any hm (wp_any_wordsG hB T G ex U m nl last hb hL hex bad hbad hT hm2 hG hV0 ds hds step done)
end Go.Proofs.Ytninfmlemdnjbaa
set_option linter.unusedVariables false
namespace Go.Proofs.Ytninfmlemdnjbaa
open Go.RowKit
def appT (j : Nat) (R : World → World → Prop) (i : Nat) (w w' : World) : Prop := if i = j then R w w' else Below w.heap.size w w'
theorem appT_at {j : Nat} {R : World → World → Prop} {w w' : World} (h : R w w') : appT j R j w w' := by unfold appT; rw [if_pos rfl]; exact h
theorem appT_in {j : Nat} {R : World → World → Prop} {w w' : World} (h : appT j R j w w') : R w w' := by unfold appT at h; rw [if_pos rfl] at h; exact h
theorem appT_other {j i : Nat} {R : World → World → Prop} {w w' : World} (hi : i ≠ j) (h : Below w.heap.size w w') : appT j R i w w' := by unfold appT; rw [if_neg hi]; exact h
theorem appT_out {j i : Nat} {R : World → World → Prop} {w w' : World} (hi : i ≠ j) (h : appT j R i w w') : Below w.heap.size w w' := by unfold appT at h; rw [if_neg hi] at h; exact h
def allT (_ : Nat) (w w' : World) : Prop := Below w.heap.size w w'
theorem wp_callx {P : Program} {o : Oper} {a : Act} {w : World} {K : Act → World → Prop} {Q : Exit → Act → World → Prop} (f : FuncId) (args : Array Operand) (tys : Array TypeId) (ho : o.op = .call { callee := .value (.func f), args := args, argTypes := tys })
    (hen : ∀ xs w, (callFunc f xs).run P w = .ok (.enter f xs) w) (xs : Array Value) (hxs : args.map a.eval = xs) {R : Value → World → Prop} (h : Calls P f xs w fun e w' => ∃ v, e = .returned v ∧ R v w') (hk : ∀ v w', R v w' → K (a.put o.dst v) w') : o.wp P a w K Q := by
  unfold Oper.wp execOp
  simp only [ho]
  simp [hxs, go_sem, hen]
  refine h.mono ?_
  rintro e w' ⟨v, rfl, hr⟩
  exact hk v w' hr
def appTs (l : List Nat) (R : Nat → World → World → Prop) (i : Nat) (w w' : World) : Prop := if i ∈ l then R i w w' else Below w.heap.size w w'
theorem appTs_at {l : List Nat} {R : Nat → World → World → Prop} {i : Nat} {w w' : World} (hi : i ∈ l) (h : R i w w') : appTs l R i w w' := by unfold appTs; rw [if_pos hi]; exact h
theorem appTs_in {l : List Nat} {R : Nat → World → World → Prop} {i : Nat} {w w' : World} (hi : i ∈ l) (h : appTs l R i w w') : R i w w' := by unfold appTs at h; rw [if_pos hi] at h; exact h
theorem appTs_other {l : List Nat} {R : Nat → World → World → Prop} {i : Nat} {w w' : World} (hi : i ∉ l) (h : Below w.heap.size w w') : appTs l R i w w' := by unfold appTs; rw [if_neg hi]; exact h
theorem appTs_out {l : List Nat} {R : Nat → World → World → Prop} {i : Nat} {w w' : World} (hi : i ∉ l) (h : appTs l R i w w') : Below w.heap.size w w' := by unfold appTs at h; rw [if_neg hi] at h; exact h
end Go.Proofs.Ytninfmlemdnjbaa
set_option linter.unusedVariables false
namespace Go.Proofs.Ytninfmlemdnjbaa
open Go.RowKit
attribute [local go_sem] Oper.semAt_some
theorem wp_store_fs {o : Oper} {a : Act} {K : Act → World → Prop} {Q : Exit → Act → World → Prop} {w : World} {p q : Tmp} (ho : o.op = .store 22 (.tmp p) (.tmp q)) {g i : Nat} {av : Option Addr} {z c : Nat} {u : Value}
    (h1 : a.eval (.tmp p) = .pointer (some ⟨g, i, none⟩)) (h2 : a.eval (.tmp q) = .slice av z c) (hc : w.cell? ⟨g, i, none⟩ = some u) (hf : w.frozen? ⟨g, i, none⟩ = false)
    (hk : K (a.put o.dst undef) (w.setCell ⟨g, i, none⟩ (.slice av z c))) : o.wp Try.prog a w K Q := by
  refine wp_skip (w' := w.setCell ⟨g, i, none⟩ (.slice av z c)) ?_ hk
  unfold execOp
  rw [ho]
  simp only [h1, h2]
  clear hk
  go_simp
def DocS (w0 : World) (B : Nat) (L : List Dfl) (o3 : Bool) (f3 : Int) (y : Array Value) (wz : World) : Prop := ∃ a5 n5 c5 R, TwoB w0 wz #[.slice a5 n5 c5, .bool o3, .int .i64 f3] y ∧ OwnD B wz (.slice a5 n5 c5) R ∧ RowsS (RowF w0) R L
theorem OwnD.isS {St : Dfr → Dfl → Prop} {B : Nat} {w : World} {v : Value} {R : List Dfr} {L : List Dfl} (h : OwnD B w v R) (hr : RowsS St R L) : IsDfsS St w v L := by
  have hlt := h.lt
  have hc := fun g hg => h.cells (g := g) hg
  have hl := hr.len
  rcases h.2 with ⟨rfl, h0⟩ | ⟨g, cap, cur, rfl, hbg, hg, hle, hm, _⟩
  · obtain rfl := List.length_eq_zero_iff.1 h0
    obtain rfl : L = [] := List.length_eq_zero_iff.1 (by rw [← hl]; rfl)
    exact ⟨Nat.zero_le _, none, 0, rfl, ⟨fun _ => ⟨rfl, rfl⟩, Nat.le_refl _⟩, fun h => absurd h (by simp)⟩
  · rw [hl] at hle ⊢
    refine ⟨Nat.le_trans hle hm, some ⟨g, 0, none⟩, cap, rfl, ⟨fun h => (by cases h), hle⟩, fun _ => ⟨g, 0, rfl, (hlt g rfl).2, fun i hi => ?_⟩⟩
    have hi' : i < R.length := by omega
    have hh := fun j (hj : j < 3) u (hu : (dfrC R[i])[j]? = some u) => hc g rfl (i * 3 + j) u (by rw [dfrCells_get hi' hj]; exact hu)
    refine ⟨R[i], hr.get i hi' hi, ?_, ?_, ?_⟩
    · have := hh 0 (by decide) _ rfl; rw [add_plain'] at this; exact this
    · have := hh 1 (by decide) _ rfl; rw [add_plain'] at this; exact this
    · have := hh 2 (by decide) _ rfl; rw [add_plain'] at this; exact this
def dkyU (w0 W4 : World) (b1 o1 z cap k : Nat) (o3 : Bool) (f3 : Int) (n : ByteArray) (f : Dfl) (uu : Option Addr) (uz uc : Nat) (fs3 : List Dfl) : Nat → Value → Value → World → Prop
  | 0 => fun v _ _ => v = .pointer (some ⟨w0.heap.size, 0, none⟩)
  | 1 => fun v _ _ => v = .slice (some ⟨b1, o1, none⟩) z cap
  | 2 => fun v _ _ => v = .string n
  | 3 => fun v _ _ => v = .pointer (some ⟨w0.heap.size, 0, none⟩)
  | 4 => fun v _ _ => v = .slice (some ⟨b1, o1, none⟩) z cap
  | 5 => fun v _ _ => v = .int .i64 k
  | 6 => fun v _ _ => v = .pointer (some ⟨b1, o1 + k * 3, none⟩)
  | 7 => fun v _ _ => v = .agg #[.string f.n, .string f.d, .slice uu uz uc]
  | 8 => fun v _ _ => v = .string (strT (seenF f))
  | 9 => fun v _ _ => v = .agg #[.string n, .string (strT (seenF f)), .slice none 0 0]
  | 10 => fun v _ wz => ∃ a5 n5 c5 R, v = .slice a5 n5 c5 ∧ OwnD W4.heap.size wz (.slice a5 n5 c5) R ∧ RowsS (RowF w0) R (withF fs3 ⟨n, strT (seenF f), []⟩)
  | 11 => fun v _ _ => v = .pointer (some ⟨w0.heap.size, 0, none⟩)
  | 12 => fun _ _ wz => DocS w0 W4.heap.size (withF fs3 ⟨n, strT (seenF f), []⟩) o3 f3 #[.slice none 0 0, .bool false, .int .i64 0] wz
  | 13 => fun _ _ wz => TwoB w0 wz #[.slice (some ⟨b1, o1, none⟩) z cap, .bool o3, .int .i64 f3] #[.slice none 0 0, .bool false, .int .i64 0] ∧ W4.heap.size ≤ wz.heap.size
  | _ => fun _ _ _ => True
def dkyN : List (List Nat) := [[], [0, 13], [], [], [3, 13], [], [4, 5], [6, 13], [7, 13], [2, 8], [1, 9, 13], [], [11, 10, 13]]
def dkyE : Nat → Option Tmp
  | _ => none
def dkyB : List (Nat × Nat) := [(12, 10), (12, 13)]
theorem dky_T (w0 W4 : World) (b1 o1 z cap k : Nat) (o3 : Bool) (f3 : Int) (n : ByteArray) (f : Dfl) (uu : Option Addr) (uz uc : Nat) (fs3 : List Dfl) (ix kx : Nat) (v e : Value) (w w' : World) (hk : kx < 14) (hne : kx ≠ ix) (hbd : (ix, kx) ∉ dkyB) (hU : (dkyU w0 W4 b1 o1 z cap k o3 f3 n f uu uz uc fs3) kx v e w) (hT : (appT 12 (fun _ _ => True)) ix w w') : (dkyU w0 W4 b1 o1 z cap k o3 f3 n f uu uz uc fs3) kx v e w' := by
  by_cases hi12 : ix = 12
  · subst hi12
    have hR := appT_in hT
    rcases (show kx = 0 ∨ kx = 1 ∨ kx = 2 ∨ kx = 3 ∨ kx = 4 ∨ kx = 5 ∨ kx = 6 ∨ kx = 7 ∨ kx = 8 ∨ kx = 9 ∨ kx = 10 ∨ kx = 11 ∨ kx = 12 ∨ kx = 13 by omega) with rfl | rfl | rfl | rfl | rfl | rfl | rfl | rfl | rfl | rfl | rfl | rfl | rfl | rfl
    iterate 10 exact hU
    · exact absurd (by decide) hbd
    · exact hU
    · exact absurd rfl hne
    · exact absurd (by decide) hbd
  have hb : Below w.heap.size w w' := appT_out hi12 hT
  rcases (show kx = 0 ∨ kx = 1 ∨ kx = 2 ∨ kx = 3 ∨ kx = 4 ∨ kx = 5 ∨ kx = 6 ∨ kx = 7 ∨ kx = 8 ∨ kx = 9 ∨ kx = 10 ∨ kx = 11 ∨ kx = 12 ∨ kx = 13 by omega) with rfl | rfl | rfl | rfl | rfl | rfl | rfl | rfl | rfl | rfl | rfl | rfl | rfl | rfl
  iterate 10 exact hU
  · exact (by obtain ⟨a5, n5, c5, R, h1, h2, h3⟩ := hU; exact ⟨a5, n5, c5, R, h1, h2.stays (hb), h3⟩)
  · exact hU
  · exact (by obtain ⟨a5, n5, c5, R, h1, h2, h3⟩ := hU; exact ⟨a5, n5, c5, R, h1.step hb, h2.stays hb, h3⟩)
  · exact ⟨hU.1.step hb, Nat.le_trans hU.2 hb.size⟩
set_option maxRecDepth 100000 in
set_option maxHeartbeats 8000000 in
theorem rSync_any (d : Dsk) (v : Value) (n : ByteArray) (w0 : World) (h : IsDfs w0 v d.fs) (hf : FitD nameB d) :
    Calls Try.prog 20 #[dskV v d, .string n] w0 (RetD (syncD d n) w0) := by
  have HI := Lib.hid h; have HF := Lib.hid hf
  have hl8 := hf.many
  obtain ⟨_, a, cap, hu, _, _⟩ := h
  obtain ⟨z, hz⟩ : ∃ z, z = d.fs.length := ⟨_, rfl⟩
  rw [← hz] at hu hl8
  subst hu
  have HZ := Lib.hid hz
  have CP := Lib.hid (fun W (hW : Below w0.heap.size w0 W) => rPlace_any d (.slice a z cap) n W (HI.out.stays hW))
  have CW := Lib.hid (fun W => rPower_any d a z cap W HF.out.lo HF.out.hi)
  have CX := Lib.hid (fun W (hW : Below w0.heap.size w0 W) (f : Dfl) (rf : Dfr) (hrf : RowF w0 rf f) => rWith_any (RowF w0) (fun r x h => h.1) d.fs (.slice a z cap) f rf W ((HI.out.toS fun r x h => h).stays hW) HF.out.rise (by have := HF.out.many; omega) hrf)
  clear hf hz
  obtain ⟨fs, off, fuse⟩ := d
  unfold dskV at CP CW ⊢
  dsimp only at CP CW HI HZ ⊢
  obtain ⟨V, hV⟩ : ∃ V, V = (w0.alloc (.cells #[.slice a z cap, .bool off, .int .i64 fuse] 24)).alloc (.cells #[.slice none 0 0, .bool false, .int .i64 0] 24) := ⟨_, rfl⟩
  have hT := twoB_new w0 a z cap off fuse
  rw [← hV] at hT
  have HV := Lib.hid hV; have HT := Lib.hid hT
  obtain ⟨⟨p0, p1, p2⟩, ⟨r0, r1, r2⟩, fz0, fz1⟩ := hT.cells
  clear hV hT
  have C1 := Lib.hid (CP.out V HT.out.below)
  go_enter Try.func20, Try.ntmps20
  go_wp2_with fail
  rw [← HV.out]
  go_wp2_with fail
  refine C1.out.mono ?_
  rintro e w2 ⟨r, rfl, hr, hb2⟩
  have HT2 := Lib.hid (HT.out.step hb2)
  clear p0 p1 p2 r0 r1 r2 fz0 fz1 hb2
  obtain ⟨⟨p0, p1, p2⟩, ⟨r0, r1, r2⟩, fz0, fz1⟩ := HT2.out.cells
  cases off with
  | true =>
    have HRE : Hid (syncD ⟨fs, true, fuse⟩ n = (⟨fs, true, fuse⟩, 13)) := Lib.hid (if_pos rfl)
    clear hr
    have HTR := Lib.hid (HT2.out.put1 (a' := .slice a z cap) (b' := .bool true) (c' := .int .i64 fuse))
    unfold putB at HTR
    go_wp2_with fail
    obtain ⟨_, ⟨r0', r1', r2'⟩, _, _⟩ := HTR.out.cells
    exact bodyPost_ret (v := .tuple #[.agg #[.slice a z cap, .bool true, .int .i64 fuse], .int .i64 13]) (by simp [results, Try.results20, go_sem, r0', r1', r2']) rfl ⟨.slice a z cap, by rw [HRE.out]; rfl, by rw [HRE.out]; exact HI.out.stays HTR.out.below, HTR.out.below⟩
  | false =>
    rcases hr with ⟨k, hk, rfl, ht, hg⟩ | ⟨rfl, hg⟩
    · have hb0 : decide ((k : Int) < 0) = false := decide_eq_false (by omega)
      have HRM : Hid (syncD ⟨fs, false, fuse⟩ n = thenD ⟨fs, false, fuse⟩ (withF fs ⟨n, strT (seenF fs[k]), []⟩)) := Lib.hid (by unfold syncD; dsimp only; rw [if_neg (by simp), hg])
      have HFK := Lib.hid (HF.out.files _ (List.getElem_mem hk))
      have hkz : k < z := by have := HZ.out; omega
      obtain ⟨_, _, _, hev, _, hc⟩ := id HI.out
      rw [← HZ.out] at hev
      cases hev
      obtain ⟨b1, o1, rfl, hbl, g1⟩ := hc (by have := HZ.out; omega)
      obtain ⟨uv, q0, q1, q2, hu⟩ := g1 k hk
      obtain ⟨uu, uc, rfl⟩ := hu.len
      obtain ⟨uz, huz⟩ : ∃ uz, uz = (fs[k]'hk).ops.length := ⟨_, rfl⟩
      rw [← huz] at q2 hu
      obtain ⟨f, hfd⟩ : ∃ f, f = fs[k]'hk := ⟨_, rfl⟩
      rw [← hfd] at q0 q1 hu HFK HRM
      have HU := Lib.hid hu
      have CS := Lib.hid (fun W (hW : Below w0.heap.size w0 W) => rSeen_any f (.slice uu uz uc) W (HU.out.stays hW) HFK.out.bytes HFK.out.ops)
      have HQ0 := Lib.hid q0; have HQ1 := Lib.hid q1; have HQ2 := Lib.hid q2
      have C2 := Lib.hid (CW.out w2)
      clear hg ht g1 hc q0 q1 q2 hu hfd huz
      go_wp2_with fail
      refine C2.out.mono ?_
      rintro e w3 ⟨rfl, hb3⟩
      have HT3 := Lib.hid (HT2.out.step hb3)
      clear hb3
      clear p0 p1 p2 r0 r1 r2 fz0 fz1
      obtain ⟨⟨p0, p1, p2⟩, ⟨r0, r1, r2⟩, fz0, fz1⟩ := HT3.out.cells
      have HPF := Lib.hid (powD_fs ⟨fs, false, fuse⟩)
      obtain ⟨pd, hpd⟩ : ∃ p, p = powD ⟨fs, false, fuse⟩ := ⟨_, rfl⟩
      rw [← hpd]
      have HPD := Lib.hid hpd
      clear hpd
      obtain ⟨⟨fs3, o3, f3⟩, pe⟩ := pd
      dsimp only at HPF HPD ⊢
      have hfs : fs3 = fs := by have := HPF.out; rw [← HPD.out] at this; exact this
      subst hfs
      by_cases hpe : pe = 0
      · subst hpe
        have HRE : Hid (syncD ⟨fs3, false, fuse⟩ n = (⟨withF fs3 ⟨n, strT (seenF f), []⟩, o3, f3⟩, 0)) := Lib.hid (by rw [HRM.out, thenD_ok (by rw [← HPD.out]), ← HPD.out])
        have HT4 := Lib.hid (HT3.out.put0 (a' := .slice (some ⟨b1, o1, none⟩) z cap) (b' := .bool o3) (c' := .int .i64 f3))
        unfold putB at HT4
        go_wp2_with fail
        obtain ⟨W4, hW4⟩ : ∃ W, W = ((w3.setCell ⟨w0.heap.size, 0, none⟩ (.slice (some ⟨b1, o1, none⟩) z cap)).setCell ⟨w0.heap.size, 1, none⟩ (.bool o3)).setCell ⟨w0.heap.size, 2, none⟩ (.int .i64 f3) := ⟨_, rfl⟩
        rw [← hW4] at HT4 ⊢
        clear hW4 p0 p1 p2 r0 r1 r2 fz0 fz1
        have HBL := Lib.hid hbl
        clear hbl
        refine wp_region_wordsG (by kernel_rfl) (by kernel_rfl) (appT 12 (fun _ _ => True)) (fun _ => True) dkyE (dkyU w0 W4 b1 o1 z cap k o3 f3 n f uu uz uc fs3) 14 dkyN [12] (by kernel_rfl) (by kernel_rfl) (by kernel_rfl)
          dkyB (by kernel_rfl) (fun ix kx v e w w' hi hk hne hb hU hT => dky_T _ _ _ _ _ _ _ _ _ _ _ _ _ _ _  ix kx v e w w' hk hne hb hU hT) (by decide) trivial (fun kx hk hge => ?hv0)
          [26, 27, 28, 29, 30, 31, 32, 33, 34, 35, 36, 37] (by kernel_rfl) (forall_ops ?steps) ?behind
        case hv0 =>
          have hge' : 13 ≤ kx := hge
          rcases (show kx = 13 by omega) with rfl
          · exact ⟨HT4.out.step (Below.refl _ _).drew, Nat.le_refl _⟩
        case steps =>
          refine ⟨?_, ?_, ?_, ?_, ?_, ?_, ?_, ?_, ?_, ?_, ?_, ?_, ?_, trivial⟩
          · refine stepG_of rfl ?_
            exact stepR_value (t := 26) (.pointer (some ⟨w0.heap.size, 0, none⟩)) rfl (fun _ => appT_other (by decide) (Below.refl _ _)) (fun ac w hG hN hO => by
              have e2 : slot ac 2 = .pointer (some ⟨w0.heap.size, 0, none⟩) := hO 2 (by kernel_rfl)
              have f2 := slot_at e2
              unfold execOp; go_simp) (fun ac w hG hN => rfl)
          · refine stepG_of rfl ?_
            exact stepR_value (t := 27) (.slice (some ⟨b1, o1, none⟩) z cap) rfl (fun _ => appT_other (by decide) (Below.refl _ _)) (fun ac w hG hN hO => by
              have e26 : slot ac 26 = .pointer (some ⟨w0.heap.size, 0, none⟩) := hN 0 (by decide)
              have hx : TwoB w0 w #[.slice (some ⟨b1, o1, none⟩) z cap, .bool o3, .int .i64 f3] #[.slice none 0 0, .bool false, .int .i64 0] ∧ W4.heap.size ≤ w.heap.size := hN 13 (by decide)
              obtain ⟨⟨p0, p1, p2⟩, _, _, _⟩ := hx.1.cells
              have q0 := (hx.1.below.cell (p := ⟨b1, o1 + k * 3, none⟩) HBL.out).trans HQ0.out
              have q1 := (hx.1.below.cell (p := ⟨b1, o1 + k * 3 + 1, none⟩) HBL.out).trans HQ1.out
              have q2 := (hx.1.below.cell (p := ⟨b1, o1 + k * 3 + 2, none⟩) HBL.out).trans HQ2.out
              have f26 := slot_at e26
              unfold execOp; go_simp) (fun ac w hG hN => rfl)
          · refine stepG_of rfl ?_
            exact stepR_value (t := 28) (.string n) rfl (fun _ => appT_other (by decide) (Below.refl _ _)) (fun ac w hG hN hO => by
              have e1 : slot ac 1 = .string n := hO 1 (by kernel_rfl)
              exact run_move_slot (.inl rfl) e1) (fun ac w hG hN => rfl)
          · refine stepG_of rfl ?_
            exact stepR_value (t := 29) (.pointer (some ⟨w0.heap.size, 0, none⟩)) rfl (fun _ => appT_other (by decide) (Below.refl _ _)) (fun ac w hG hN hO => by
              have e2 : slot ac 2 = .pointer (some ⟨w0.heap.size, 0, none⟩) := hO 2 (by kernel_rfl)
              have f2 := slot_at e2
              unfold execOp; go_simp) (fun ac w hG hN => rfl)
          · refine stepG_of rfl ?_
            exact stepR_value (t := 30) (.slice (some ⟨b1, o1, none⟩) z cap) rfl (fun _ => appT_other (by decide) (Below.refl _ _)) (fun ac w hG hN hO => by
              have e29 : slot ac 29 = .pointer (some ⟨w0.heap.size, 0, none⟩) := hN 3 (by decide)
              have hx : TwoB w0 w #[.slice (some ⟨b1, o1, none⟩) z cap, .bool o3, .int .i64 f3] #[.slice none 0 0, .bool false, .int .i64 0] ∧ W4.heap.size ≤ w.heap.size := hN 13 (by decide)
              obtain ⟨⟨p0, p1, p2⟩, _, _, _⟩ := hx.1.cells
              have q0 := (hx.1.below.cell (p := ⟨b1, o1 + k * 3, none⟩) HBL.out).trans HQ0.out
              have q1 := (hx.1.below.cell (p := ⟨b1, o1 + k * 3 + 1, none⟩) HBL.out).trans HQ1.out
              have q2 := (hx.1.below.cell (p := ⟨b1, o1 + k * 3 + 2, none⟩) HBL.out).trans HQ2.out
              have f29 := slot_at e29
              unfold execOp; go_simp) (fun ac w hG hN => rfl)
          · refine stepG_of rfl ?_
            exact stepR_value (t := 31) (.int .i64 k) rfl (fun _ => appT_other (by decide) (Below.refl _ _)) (fun ac w hG hN hO => by
              have e6 : slot ac 6 = .int .i64 k := hO 6 (by kernel_rfl)
              exact run_move_slot (.inl rfl) e6) (fun ac w hG hN => rfl)
          · refine stepG_of rfl ?_
            exact stepR_value (t := 32) (.pointer (some ⟨b1, o1 + k * 3, none⟩)) rfl (fun _ => appT_other (by decide) (Below.refl _ _)) (fun ac w hG hN hO => by
              have e30 : slot ac 30 = .slice (some ⟨b1, o1, none⟩) z cap := hN 4 (by decide)
              have e31 : slot ac 31 = .int .i64 k := hN 5 (by decide)
              have f30 := slot_at e30
              have f31 := slot_at e31
              unfold execOp; go_simp) (fun ac w hG hN => rfl)
          · refine stepG_of rfl ?_
            exact stepR_value (t := 33) (.agg #[.string f.n, .string f.d, .slice uu uz uc]) rfl (fun _ => appT_other (by decide) (Below.refl _ _)) (fun ac w hG hN hO => by
              have e32 : slot ac 32 = .pointer (some ⟨b1, o1 + k * 3, none⟩) := hN 6 (by decide)
              have hx : TwoB w0 w #[.slice (some ⟨b1, o1, none⟩) z cap, .bool o3, .int .i64 f3] #[.slice none 0 0, .bool false, .int .i64 0] ∧ W4.heap.size ≤ w.heap.size := hN 13 (by decide)
              obtain ⟨⟨p0, p1, p2⟩, _, _, _⟩ := hx.1.cells
              have q0 := (hx.1.below.cell (p := ⟨b1, o1 + k * 3, none⟩) HBL.out).trans HQ0.out
              have q1 := (hx.1.below.cell (p := ⟨b1, o1 + k * 3 + 1, none⟩) HBL.out).trans HQ1.out
              have q2 := (hx.1.below.cell (p := ⟨b1, o1 + k * 3 + 2, none⟩) HBL.out).trans HQ2.out
              have f32 := slot_at e32
              unfold execOp; go_simp) (fun ac w hG hN => rfl)
          · refine stepG_of rfl ?_
            intro ac wx hG hN hO
            have e33 : slot ac 33 = .agg #[.string f.n, .string f.d, .slice uu uz uc] := hN 7 (by decide)
            have hx : TwoB w0 wx #[.slice (some ⟨b1, o1, none⟩) z cap, .bool o3, .int .i64 f3] #[.slice none 0 0, .bool false, .int .i64 0] ∧ W4.heap.size ≤ wx.heap.size := hN 13 (by decide)
            refine wp_callx 34 _ _ rfl (enters_of Try.func34 (by kernel_rfl) rfl) #[.agg #[.string f.n, .string f.d, .slice uu uz uc]] (by simp [eval_slot, e33]) (R := fun v wz => v = .string (strT (seenF f)) ∧ Below wx.heap.size wx wz) ((CS.out wx hx.1.below).mono fun e wz hz => ⟨_, hz.1, rfl, hz.2⟩) ?_
            rintro v wz ⟨hv, hb⟩
            exact ⟨v, rfl, appT_other (by decide) hb, trivial, hv⟩
          · refine stepG_of rfl ?_
            exact stepR_value (t := 35) (.agg #[.string n, .string (strT (seenF f)), .slice none 0 0]) rfl (fun _ => appT_other (by decide) (Below.refl _ _)) (fun ac w hG hN hO => by
              have e28 : slot ac 28 = .string n := hN 2 (by decide)
              have e34 : slot ac 34 = .string (strT (seenF f)) := hN 8 (by decide)
              have f28 := slot_at e28
              have f34 := slot_at e34
              unfold execOp; go_simp) (fun ac w hG hN => rfl)
          · refine stepG_of rfl ?_
            intro ac wx hG hN hO
            have e27 : slot ac 27 = .slice (some ⟨b1, o1, none⟩) z cap := hN 1 (by decide)
            have e35 : slot ac 35 = .agg #[.string n, .string (strT (seenF f)), .slice none 0 0] := hN 9 (by decide)
            have hx : TwoB w0 wx #[.slice (some ⟨b1, o1, none⟩) z cap, .bool o3, .int .i64 f3] #[.slice none 0 0, .bool false, .int .i64 0] ∧ W4.heap.size ≤ wx.heap.size := hN 13 (by decide)
            refine wp_callx 42 _ _ rfl (enters_of Try.func42 (by kernel_rfl) rfl) #[.slice (some ⟨b1, o1, none⟩) z cap, .agg #[.string n, .string (strT (seenF f)), .slice none 0 0]] (by simp [eval_slot, e27, e35]) (R := fun v wz => ∃ R, OwnD wx.heap.size wz v R ∧ RowsS (RowF w0) R (withF fs3 ⟨n, strT (seenF f), []⟩) ∧ Below wx.heap.size wx wz) ((CX.out wx hx.1.below ⟨n, strT (seenF f), []⟩ ⟨n, strT (seenF f), none, 0, 0⟩ ⟨rfl, rfl, ops_nil _⟩).mono fun e wz hz => ?_) ?_
            · obtain ⟨v, R, h1, h2, h3, h4⟩ := hz
              exact ⟨v, h1, R, h2, h3, h4⟩
            rintro v wz ⟨R, h2, h3, hb⟩
            obtain ⟨a5, n5, c5, rfl⟩ := h2.len
            exact ⟨_, rfl, appT_other (by decide) hb, trivial, a5, n5, c5, R, rfl, ownD_low h2 hx.2, h3⟩
          · refine stepG_of rfl ?_
            exact stepR_value (t := 37) (.pointer (some ⟨w0.heap.size, 0, none⟩)) rfl (fun _ => appT_other (by decide) (Below.refl _ _)) (fun ac w hG hN hO => by
              have e2 : slot ac 2 = .pointer (some ⟨w0.heap.size, 0, none⟩) := hO 2 (by kernel_rfl)
              have f2 := slot_at e2
              unfold execOp; go_simp) (fun ac w hG hN => rfl)
          · refine stepG_of rfl ?_
            intro ac wx hG hN hO
            have e37 : slot ac 37 = .pointer (some ⟨w0.heap.size, 0, none⟩) := hN 11 (by decide)
            have h10 : ∃ a5 n5 c5 R, slot ac 36 = .slice a5 n5 c5 ∧ OwnD W4.heap.size wx (.slice a5 n5 c5) R ∧ RowsS (RowF w0) R (withF fs3 ⟨n, strT (seenF f), []⟩) := hN 10 (by decide)
            have hx : TwoB w0 wx #[.slice (some ⟨b1, o1, none⟩) z cap, .bool o3, .int .i64 f3] #[.slice none 0 0, .bool false, .int .i64 0] ∧ W4.heap.size ≤ wx.heap.size := hN 13 (by decide)
            obtain ⟨a5, n5, c5, R, e36, hO, hR⟩ := h10
            obtain ⟨⟨p0, p1, p2⟩, _, fz0, _⟩ := hx.1.cells
            refine wp_store_fs rfl (slotE e37) (slotE e36) p0 (fz0 0) ?_
            exact ⟨_, rfl, appT_at trivial, trivial, a5, n5, c5, R, hx.1.set0, ownD_set hO (show w0.heap.size < W4.heap.size by have := HT4.out.lt; omega), hR⟩
        case behind =>
          intro ac w5 hG hV hS ha
          have h9 : DocS w0 W4.heap.size (withF fs3 ⟨n, strT (seenF f), []⟩) o3 f3 #[.slice none 0 0, .bool false, .int .i64 0] w5 := hV 12 (by decide) (by decide)
          generalize slot ac = sl at ha 
          subst ha
          simp only [patchL, List.contains_cons, List.contains_nil, Nat.reduceBEq, Bool.or_false, Bool.or_true, if_true, Bool.false_eq_true, if_false, Nat.reduceAdd]
          generalize sl 26 = s26
          generalize sl 27 = s27
          generalize sl 28 = s28
          generalize sl 29 = s29
          generalize sl 30 = s30
          generalize sl 31 = s31
          generalize sl 32 = s32
          generalize sl 33 = s33
          generalize sl 34 = s34
          generalize sl 35 = s35
          generalize sl 36 = s36
          generalize sl 37 = s37
          clear hV hS
          
          have HE9 := Lib.hid h9
          clear hG h9
          obtain ⟨a5, n5, c5, R5, hT5, hO5, hR5⟩ := HE9.out
          have HT5 := Lib.hid hT5; have HO5 := Lib.hid hO5; have HR5 := Lib.hid hR5
          clear hT5 hO5 hR5
          have HLT := Lib.hid HT5.out.lt
          obtain ⟨⟨p0, p1, p2⟩, ⟨r0, r1, r2⟩, fz0, fz1⟩ := HT5.out.cells
          have HT6 := Lib.hid (HT5.out.put1 (a' := .slice a5 n5 c5) (b' := .bool o3) (c' := .int .i64 f3))
          have HO6 := Lib.hid (ownD_put (x := .slice a5 n5 c5) (y := .bool o3) (z := .int .i64 f3) HO5.out (show w0.heap.size + 1 < W4.heap.size from HT4.out.lt))
          unfold putB at HT6 HO6
          go_wp2_with fail
          obtain ⟨_, ⟨r0', r1', r2'⟩, _, _⟩ := HT6.out.cells
          exact bodyPost_ret (v := .tuple #[.agg #[.slice a5 n5 c5, .bool o3, .int .i64 f3], .int .i64 0]) (by simp [results, Try.results20, go_sem, r0', r1', r2']) rfl ⟨.slice a5 n5 c5, by rw [HRE.out]; rfl, by rw [HRE.out]; exact HO6.out.is HR5.out fun r x h => h.stays HT6.out.below, HT6.out.below⟩
      · have HRE : Hid (syncD ⟨fs3, false, fuse⟩ n = (⟨fs3, o3, f3⟩, pe)) := Lib.hid (by rw [HRM.out, thenD_bad (by rw [← HPD.out]; exact hpe), ← HPD.out])
        have e0 : (pe == 0) = false := by simpa using hpe
        have HT4 := Lib.hid ((HT3.out.put0 (a' := .slice (some ⟨b1, o1, none⟩) z cap) (b' := .bool o3) (c' := .int .i64 f3)).put1 (a' := .slice (some ⟨b1, o1, none⟩) z cap) (b' := .bool o3) (c' := .int .i64 f3))
        unfold putB at HT4
        clear hbl
        go_wp2_with fail
        obtain ⟨_, ⟨r0', r1', r2'⟩, _, _⟩ := HT4.out.cells
        exact bodyPost_ret (v := .tuple #[.agg #[.slice (some ⟨b1, o1, none⟩) z cap, .bool o3, .int .i64 f3], .int .i64 pe]) (by simp [results, Try.results20, go_sem, r0', r1', r2']) rfl ⟨.slice (some ⟨b1, o1, none⟩) z cap, by rw [HRE.out]; rfl, by rw [HRE.out]; exact HI.out.stays HT4.out.below, HT4.out.below⟩
    · have HRE : Hid (syncD ⟨fs, false, fuse⟩ n = (⟨fs, false, fuse⟩, 5)) := Lib.hid (by unfold syncD; dsimp only; rw [if_neg (by simp), hg])
      clear hg
      have HTR := Lib.hid (HT2.out.put1 (a' := .slice a z cap) (b' := .bool false) (c' := .int .i64 fuse))
      unfold putB at HTR
      go_wp2_with fail
      obtain ⟨_, ⟨r0', r1', r2'⟩, _, _⟩ := HTR.out.cells
      exact bodyPost_ret (v := .tuple #[.agg #[.slice a z cap, .bool false, .int .i64 fuse], .int .i64 5]) (by simp [results, Try.results20, go_sem, r0', r1', r2']) rfl ⟨.slice a z cap, by rw [HRE.out]; rfl, by rw [HRE.out]; exact HI.out.stays HTR.out.below, HTR.out.below⟩
def dkzU (w0 w3 W4 : World) (b1 o1 z cap k : Nat) (o3 : Bool) (f3 : Int) (n m : ByteArray) (f : Dfl) (uu : Option Addr) (uz uc : Nat) (fs3 : List Dfl) : Nat → Value → Value → World → Prop
  | 0 => fun v _ _ => v = .pointer (some ⟨w0.heap.size, 0, none⟩)
  | 1 => fun v _ _ => v = .slice (some ⟨b1, o1, none⟩) z cap
  | 2 => fun v _ _ => v = .string n
  | 3 => fun v _ wz => ∃ a5 n5 c5 R, v = .slice a5 n5 c5 ∧ OwnD W4.heap.size wz (.slice a5 n5 c5) R ∧ RowsS (RowF w0) R (lessF fs3 n.data.toList)
  | 4 => fun v _ _ => v = .agg #[.string m, .string f.d, .slice uu uz uc]
  | 5 => fun v _ wz => ∃ a5 n5 c5 R, v = .slice a5 n5 c5 ∧ OwnD W4.heap.size wz (.slice a5 n5 c5) R ∧ RowsS (RowF w0) R (withF (lessF fs3 n.data.toList) ⟨m, f.d, f.ops⟩)
  | 6 => fun v _ _ => v = .pointer (some ⟨w0.heap.size, 0, none⟩)
  | 7 => fun _ _ wz => DocS w0 W4.heap.size (withF (lessF fs3 n.data.toList) ⟨m, f.d, f.ops⟩) o3 f3 #[.slice none 0 0, .bool false, .int .i64 0] wz
  | 8 => fun _ _ wz => TwoB w0 wz #[.slice (some ⟨b1, o1, none⟩) z cap, .bool o3, .int .i64 f3] #[.slice none 0 0, .bool false, .int .i64 0] ∧ W4.heap.size ≤ wz.heap.size ∧ Row wz w3.heap.size #[.string m, .string f.d, .slice uu uz uc] 47
  | _ => fun _ _ _ => True
def dkzN : List (List Nat) := [[], [0, 8], [], [1, 2, 8], [8], [3, 4, 8], [], [6, 5, 8]]
def dkzE : Nat → Option Tmp
  | _ => none
def dkzB : List (Nat × Nat) := [(7, 3), (7, 5), (7, 8)]
theorem dkz_T (w0 w3 W4 : World) (b1 o1 z cap k : Nat) (o3 : Bool) (f3 : Int) (n m : ByteArray) (f : Dfl) (uu : Option Addr) (uz uc : Nat) (fs3 : List Dfl) (ix kx : Nat) (v e : Value) (w w' : World) (hk : kx < 9) (hne : kx ≠ ix) (hbd : (ix, kx) ∉ dkzB) (hU : (dkzU w0 w3 W4 b1 o1 z cap k o3 f3 n m f uu uz uc fs3) kx v e w) (hT : (appT 7 (fun _ _ => True)) ix w w') : (dkzU w0 w3 W4 b1 o1 z cap k o3 f3 n m f uu uz uc fs3) kx v e w' := by
  by_cases hi7 : ix = 7
  · subst hi7
    have hR := appT_in hT
    rcases (show kx = 0 ∨ kx = 1 ∨ kx = 2 ∨ kx = 3 ∨ kx = 4 ∨ kx = 5 ∨ kx = 6 ∨ kx = 7 ∨ kx = 8 by omega) with rfl | rfl | rfl | rfl | rfl | rfl | rfl | rfl | rfl
    iterate 3 exact hU
    · exact absurd (by decide) hbd
    · exact hU
    · exact absurd (by decide) hbd
    · exact hU
    · exact absurd rfl hne
    · exact absurd (by decide) hbd
  have hb : Below w.heap.size w w' := appT_out hi7 hT
  rcases (show kx = 0 ∨ kx = 1 ∨ kx = 2 ∨ kx = 3 ∨ kx = 4 ∨ kx = 5 ∨ kx = 6 ∨ kx = 7 ∨ kx = 8 by omega) with rfl | rfl | rfl | rfl | rfl | rfl | rfl | rfl | rfl
  iterate 3 exact hU
  · exact (by obtain ⟨a5, n5, c5, R, h1, h2, h3⟩ := hU; exact ⟨a5, n5, c5, R, h1, h2.stays (hb), h3⟩)
  · exact hU
  · exact (by obtain ⟨a5, n5, c5, R, h1, h2, h3⟩ := hU; exact ⟨a5, n5, c5, R, h1, h2.stays (hb), h3⟩)
  · exact hU
  · exact (by obtain ⟨a5, n5, c5, R, h1, h2, h3⟩ := hU; exact ⟨a5, n5, c5, R, h1.step hb, h2.stays hb, h3⟩)
  · exact ⟨hU.1.step hb, Nat.le_trans hU.2.1 hb.size, hU.2.2.step hb⟩
set_option maxRecDepth 100000 in
set_option maxHeartbeats 8000000 in
theorem rRename_any (d : Dsk) (v : Value) (n m : ByteArray) (w0 : World) (h : IsDfs w0 v d.fs) (hf : FitD nameB d) :
    Calls Try.prog 22 #[dskV v d, .string n, .string m] w0 (RetD (renameD nameB d n m) w0) := by
  have HI := Lib.hid h; have HF := Lib.hid hf
  have hl8 := hf.many
  obtain ⟨_, a, cap, hu, _, _⟩ := h
  obtain ⟨z, hz⟩ : ∃ z, z = d.fs.length := ⟨_, rfl⟩
  rw [← hz] at hu hl8
  subst hu
  have HZ := Lib.hid hz
  have CP := Lib.hid (fun W (hW : Below w0.heap.size w0 W) => rPlace_any d (.slice a z cap) n W (HI.out.stays hW))
  have CW := Lib.hid (fun W => rPower_any d a z cap W HF.out.lo HF.out.hi)
  have CX := Lib.hid (fun W (hW : Below w0.heap.size w0 W) => rWithout_any (RowF w0) (fun r x h => h.1) d.fs (.slice a z cap) n W ((HI.out.toS fun r x h => h).stays hW) (by have := HF.out.many; omega))
  have CY := Lib.hid (fun (L : List Dfl) (v : Value) W (f : Dfl) (rf : Dfr) (hL : IsDfsS (RowF w0) W v L) (h1 : L.Pairwise fun x y => x.t < y.t) (h2 : L.length ≤ 1000) (hrf : RowF w0 rf f) => rWith_any (RowF w0) (fun r x h => h.1) L v f rf W hL h1 h2 hrf)
  have CN := Lib.hid (fun W => refName_any m W)
  have HLE := Lib.hid (lessF_rise (t := n.data.toList) HF.out.rise)
  have HLL : Hid ((lessF d.fs n.data.toList).length ≤ 1000) := Lib.hid (by have h1 := lessF_len d.fs n.data.toList; have h2 := HF.out.many; omega)
  clear hf hz
  obtain ⟨fs, off, fuse⟩ := d
  unfold dskV at CP CW ⊢
  dsimp only at CP CW CX HLE HLL HI HZ ⊢
  obtain ⟨V, hV⟩ : ∃ V, V = (w0.alloc (.cells #[.slice a z cap, .bool off, .int .i64 fuse] 24)).alloc (.cells #[.slice none 0 0, .bool false, .int .i64 0] 24) := ⟨_, rfl⟩
  have hT := twoB_new w0 a z cap off fuse
  rw [← hV] at hT
  have HV := Lib.hid hV; have HT := Lib.hid hT
  obtain ⟨⟨p0, p1, p2⟩, ⟨r0, r1, r2⟩, fz0, fz1⟩ := hT.cells
  clear hV hT
  have C1 := Lib.hid (CP.out V HT.out.below)
  go_enter Try.func22, Try.ntmps22
  go_wp2_with fail
  rw [← HV.out]
  go_wp2_with fail
  refine C1.out.mono ?_
  rintro e w2 ⟨r, rfl, hr, hb2⟩
  have HT2 := Lib.hid (HT.out.step hb2)
  clear p0 p1 p2 r0 r1 r2 fz0 fz1 hb2
  obtain ⟨⟨p0, p1, p2⟩, ⟨r0, r1, r2⟩, fz0, fz1⟩ := HT2.out.cells
  cases off with
  | true =>
    have HRE : Hid (renameD nameB ⟨fs, true, fuse⟩ n m = (⟨fs, true, fuse⟩, 13)) := Lib.hid (if_pos rfl)
    clear hr
    have HTR := Lib.hid (HT2.out.put1 (a' := .slice a z cap) (b' := .bool true) (c' := .int .i64 fuse))
    unfold putB at HTR
    go_wp2_with fail
    obtain ⟨_, ⟨r0', r1', r2'⟩, _, _⟩ := HTR.out.cells
    exact bodyPost_ret (v := .tuple #[.agg #[.slice a z cap, .bool true, .int .i64 fuse], .int .i64 13]) (by simp [results, Try.results22, go_sem, r0', r1', r2']) rfl ⟨.slice a z cap, by rw [HRE.out]; rfl, by rw [HRE.out]; exact HI.out.stays HTR.out.below, HTR.out.below⟩
  | false =>
    have C0 := Lib.hid (CN.out w2)
    cases hnm : nameB m.data.toList with
    | false =>
      have HRE : Hid (renameD nameB ⟨fs, false, fuse⟩ n m = (⟨fs, false, fuse⟩, 7)) := Lib.hid (by unfold renameD; dsimp only; rw [if_neg (by simp), if_pos hnm])
      rw [hnm] at C0
      clear hr hnm
      go_wp2_with fail
      refine C0.out.mono ?_
      rintro e w2' ⟨rfl, rfl⟩
      have HTR := Lib.hid (HT2.out.put1 (a' := .slice a z cap) (b' := .bool false) (c' := .int .i64 fuse))
      unfold putB at HTR
      go_wp2_with fail
      obtain ⟨_, ⟨r0', r1', r2'⟩, _, _⟩ := HTR.out.cells
      exact bodyPost_ret (v := .tuple #[.agg #[.slice a z cap, .bool false, .int .i64 fuse], .int .i64 7]) (by simp [results, Try.results22, go_sem, r0', r1', r2']) rfl ⟨.slice a z cap, by rw [HRE.out]; rfl, by rw [HRE.out]; exact HI.out.stays HTR.out.below, HTR.out.below⟩
    | true =>
      rw [hnm] at C0
      rcases hr with ⟨k, hk, rfl, ht, hg⟩ | ⟨rfl, hg⟩
      · have hb0 : decide ((k : Int) < 0) = false := decide_eq_false (by omega)
        have HRM : Hid (renameD nameB ⟨fs, false, fuse⟩ n m = thenD ⟨fs, false, fuse⟩ (withF (lessF fs n.data.toList) ⟨m, fs[k].d, fs[k].ops⟩)) := Lib.hid (by unfold renameD; dsimp only; rw [if_neg (by simp), if_neg (by simp [hnm]), hg])
        have hkz : k < z := by have := HZ.out; omega
        obtain ⟨_, _, _, hev, _, hc⟩ := id HI.out
        rw [← HZ.out] at hev
        cases hev
        obtain ⟨b1, o1, rfl, hbl, g1⟩ := hc (by have := HZ.out; omega)
        obtain ⟨uv, q0, q1, q2, hu⟩ := g1 k hk
        obtain ⟨uu, uc, rfl⟩ := hu.len
        obtain ⟨uz, huz⟩ : ∃ uz, uz = (fs[k]'hk).ops.length := ⟨_, rfl⟩
        rw [← huz] at q2 hu
        obtain ⟨f, hfd⟩ : ∃ f, f = fs[k]'hk := ⟨_, rfl⟩
        rw [← hfd] at q0 q1 hu HRM
        have HU := Lib.hid hu
        have HRF : Hid (RowF w0 ⟨m, f.d, uu, uz, uc⟩ ⟨m, f.d, f.ops⟩) := Lib.hid ⟨rfl, rfl, hu⟩
        have HQ0 := Lib.hid q0; have HQ1 := Lib.hid q1; have HQ2 := Lib.hid q2
        have C2 := Lib.hid (CW.out w2)
        clear hg ht g1 hc q0 q1 q2 hu hfd huz hnm
        go_wp2_with fail
        refine C0.out.mono ?_
        rintro e w2' ⟨rfl, rfl⟩
        go_wp2_with fail
        refine C2.out.mono ?_
        rintro e w3 ⟨rfl, hb3⟩
        have HT3 := Lib.hid (HT2.out.step hb3)
        clear hb3
        clear p0 p1 p2 r0 r1 r2 fz0 fz1
        obtain ⟨⟨p0, p1, p2⟩, ⟨r0, r1, r2⟩, fz0, fz1⟩ := HT3.out.cells
        have HPF := Lib.hid (powD_fs ⟨fs, false, fuse⟩)
        obtain ⟨pd, hpd⟩ : ∃ p, p = powD ⟨fs, false, fuse⟩ := ⟨_, rfl⟩
        rw [← hpd]
        have HPD := Lib.hid hpd
        clear hpd
        obtain ⟨⟨fs3, o3, f3⟩, pe⟩ := pd
        dsimp only at HPF HPD ⊢
        have hfs : fs3 = fs := by have := HPF.out; rw [← HPD.out] at this; exact this
        subst hfs
        by_cases hpe : pe = 0
        · subst hpe
          have HRE : Hid (renameD nameB ⟨fs3, false, fuse⟩ n m = (⟨withF (lessF fs3 n.data.toList) ⟨m, f.d, f.ops⟩, o3, f3⟩, 0)) := Lib.hid (by rw [HRM.out, thenD_ok (by rw [← HPD.out]), ← HPD.out])
          have HT4 := Lib.hid (HT3.out.put0 (a' := .slice (some ⟨b1, o1, none⟩) z cap) (b' := .bool o3) (c' := .int .i64 f3))
          unfold putB at HT4
          have q0 := (HT4.out.below.cell (p := ⟨b1, o1 + k * 3, none⟩) hbl).trans HQ0.out
          have q1 := (HT4.out.below.cell (p := ⟨b1, o1 + k * 3 + 1, none⟩) hbl).trans HQ1.out
          have q2 := (HT4.out.below.cell (p := ⟨b1, o1 + k * 3 + 2, none⟩) hbl).trans HQ2.out
          go_wp2_with fail
          obtain ⟨W4, hW4⟩ : ∃ W, W = (((w3.setCell ⟨w0.heap.size, 0, none⟩ (.slice (some ⟨b1, o1, none⟩) z cap)).setCell ⟨w0.heap.size, 1, none⟩ (.bool o3)).setCell ⟨w0.heap.size, 2, none⟩ (.int .i64 f3)).alloc (.cells #[.string m, .string f.d, .slice uu uz uc] 47) := ⟨_, rfl⟩
          have HTW : Hid (TwoB w0 W4 #[.slice (some ⟨b1, o1, none⟩) z cap, .bool o3, .int .i64 f3] #[.slice none 0 0, .bool false, .int .i64 0]) := Lib.hid (by rw [hW4]; exact HT4.out.step ((Below.refl _ _).alloc (Nat.le_refl _) _))
          have HRW : Hid (Row W4 w3.heap.size #[.string m, .string f.d, .slice uu uz uc] 47) := Lib.hid (by
            rw [hW4]
            have h0 := Row.made (((w3.setCell ⟨w0.heap.size, 0, none⟩ (.slice (some ⟨b1, o1, none⟩) z cap)).setCell ⟨w0.heap.size, 1, none⟩ (.bool o3)).setCell ⟨w0.heap.size, 2, none⟩ (.int .i64 f3)) #[.string m, .string f.d, .slice uu uz uc] 47
            simpa using h0)
          rw [← hW4]
          clear hW4 p0 p1 p2 r0 r1 r2 fz0 fz1 q0 q1 q2
          have HBL := Lib.hid hbl
          clear hbl
          refine wp_region_wordsG (by kernel_rfl) (by kernel_rfl) (appT 7 (fun _ _ => True)) (fun _ => True) dkzE (dkzU w0 w3 W4 b1 o1 z cap k o3 f3 n m f uu uz uc fs3) 9 dkzN [7] (by kernel_rfl) (by kernel_rfl) (by kernel_rfl)
            dkzB (by kernel_rfl) (fun ix kx v e w w' hi hk hne hb hU hT => dkz_T _ _ _ _ _ _ _ _ _ _ _ _ _ _ _ _ _  ix kx v e w w' hk hne hb hU hT) (by decide) trivial (fun kx hk hge => ?hv0)
            [43, 44, 45, 46, 47, 48, 49] (by kernel_rfl) (forall_ops ?steps) ?behind
          case hv0 =>
            have hge' : 8 ≤ kx := hge
            rcases (show kx = 8 by omega) with rfl
            · exact ⟨HTW.out.step (Below.refl _ _).drew, Nat.le_refl _, HRW.out.step (Below.refl _ _).drew⟩
          case steps =>
            refine ⟨?_, ?_, ?_, ?_, ?_, ?_, ?_, ?_, trivial⟩
            · refine stepG_of rfl ?_
              exact stepR_value (t := 43) (.pointer (some ⟨w0.heap.size, 0, none⟩)) rfl (fun _ => appT_other (by decide) (Below.refl _ _)) (fun ac w hG hN hO => by
                have e3 : slot ac 3 = .pointer (some ⟨w0.heap.size, 0, none⟩) := hO 3 (by kernel_rfl)
                have f3 := slot_at e3
                unfold execOp; go_simp) (fun ac w hG hN => rfl)
            · refine stepG_of rfl ?_
              exact stepR_value (t := 44) (.slice (some ⟨b1, o1, none⟩) z cap) rfl (fun _ => appT_other (by decide) (Below.refl _ _)) (fun ac w hG hN hO => by
                have e43 : slot ac 43 = .pointer (some ⟨w0.heap.size, 0, none⟩) := hN 0 (by decide)
                have hx : TwoB w0 w #[.slice (some ⟨b1, o1, none⟩) z cap, .bool o3, .int .i64 f3] #[.slice none 0 0, .bool false, .int .i64 0] ∧ W4.heap.size ≤ w.heap.size ∧ Row w w3.heap.size #[.string m, .string f.d, .slice uu uz uc] 47 := hN 8 (by decide)
                obtain ⟨⟨p0, p1, p2⟩, _, _, _⟩ := hx.1.cells
                have m0 := hx.2.2.cell 0; have m1 := hx.2.2.cell 1; have m2 := hx.2.2.cell 2
                simp only [List.getElem?_toArray, List.getElem?_cons_zero, List.getElem?_cons_succ] at m0 m1 m2
                have f43 := slot_at e43
                unfold execOp; go_simp) (fun ac w hG hN => rfl)
            · refine stepG_of rfl ?_
              exact stepR_value (t := 45) (.string n) rfl (fun _ => appT_other (by decide) (Below.refl _ _)) (fun ac w hG hN hO => by
                have e1 : slot ac 1 = .string n := hO 1 (by kernel_rfl)
                exact run_move_slot (.inl rfl) e1) (fun ac w hG hN => rfl)
            · refine stepG_of rfl ?_
              intro ac wx hG hN hO
              have e44 : slot ac 44 = .slice (some ⟨b1, o1, none⟩) z cap := hN 1 (by decide)
              have e45 : slot ac 45 = .string n := hN 2 (by decide)
              have hx : TwoB w0 wx #[.slice (some ⟨b1, o1, none⟩) z cap, .bool o3, .int .i64 f3] #[.slice none 0 0, .bool false, .int .i64 0] ∧ W4.heap.size ≤ wx.heap.size ∧ Row wx w3.heap.size #[.string m, .string f.d, .slice uu uz uc] 47 := hN 8 (by decide)
              refine wp_callx 51 _ _ rfl (enters_of Try.func51 (by kernel_rfl) rfl) #[.slice (some ⟨b1, o1, none⟩) z cap, .string n] (by simp [eval_slot, e44, e45]) (R := fun v wz => ∃ R, OwnD wx.heap.size wz v R ∧ RowsS (RowF w0) R (lessF fs3 n.data.toList) ∧ Below wx.heap.size wx wz) ((CX.out wx hx.1.below).mono fun e wz hz => ?_) ?_
              · obtain ⟨v, R, h1, h2, h3, h4⟩ := hz
                exact ⟨v, h1, R, h2, h3, h4⟩
              rintro v wz ⟨R, h2, h3, hb⟩
              obtain ⟨a5, n5, c5, rfl⟩ := h2.len
              exact ⟨_, rfl, appT_other (by decide) hb, trivial, a5, n5, c5, R, rfl, ownD_low h2 hx.2.1, h3⟩
            · refine stepG_of rfl ?_
              exact stepR_value (t := 47) (.agg #[.string m, .string f.d, .slice uu uz uc]) rfl (fun _ => appT_other (by decide) (Below.refl _ _)) (fun ac w hG hN hO => by
                have e10 : slot ac 10 = .pointer (some ⟨w3.heap.size, 0, none⟩) := hO 10 (by kernel_rfl)
                have hx : TwoB w0 w #[.slice (some ⟨b1, o1, none⟩) z cap, .bool o3, .int .i64 f3] #[.slice none 0 0, .bool false, .int .i64 0] ∧ W4.heap.size ≤ w.heap.size ∧ Row w w3.heap.size #[.string m, .string f.d, .slice uu uz uc] 47 := hN 8 (by decide)
                obtain ⟨⟨p0, p1, p2⟩, _, _, _⟩ := hx.1.cells
                have m0 := hx.2.2.cell 0; have m1 := hx.2.2.cell 1; have m2 := hx.2.2.cell 2
                simp only [List.getElem?_toArray, List.getElem?_cons_zero, List.getElem?_cons_succ] at m0 m1 m2
                have f10 := slot_at e10
                unfold execOp; go_simp) (fun ac w hG hN => rfl)
            · refine stepG_of rfl ?_
              intro ac wx hG hN hO
              have h3 : ∃ a5 n5 c5 R, slot ac 46 = .slice a5 n5 c5 ∧ OwnD W4.heap.size wx (.slice a5 n5 c5) R ∧ RowsS (RowF w0) R (lessF fs3 n.data.toList) := hN 3 (by decide)
              have e47 : slot ac 47 = .agg #[.string m, .string f.d, .slice uu uz uc] := hN 4 (by decide)
              have hx : TwoB w0 wx #[.slice (some ⟨b1, o1, none⟩) z cap, .bool o3, .int .i64 f3] #[.slice none 0 0, .bool false, .int .i64 0] ∧ W4.heap.size ≤ wx.heap.size ∧ Row wx w3.heap.size #[.string m, .string f.d, .slice uu uz uc] 47 := hN 8 (by decide)
              obtain ⟨a4, n4, c4, R4, e46, hO4, hR4⟩ := h3
              refine wp_callx 42 _ _ rfl (enters_of Try.func42 (by kernel_rfl) rfl) #[.slice a4 n4 c4, .agg #[.string m, .string f.d, .slice uu uz uc]] (by simp [eval_slot, e46, e47]) (R := fun v wz => ∃ R, OwnD wx.heap.size wz v R ∧ RowsS (RowF w0) R (withF (lessF fs3 n.data.toList) ⟨m, f.d, f.ops⟩) ∧ Below wx.heap.size wx wz) ((CY.out (lessF fs3 n.data.toList) _ wx ⟨m, f.d, f.ops⟩ ⟨m, f.d, uu, uz, uc⟩ (hO4.isS hR4) HLE.out HLL.out HRF.out).mono fun e wz hz => ?_) ?_
              · obtain ⟨v, R, h1, h2, h3, h4⟩ := hz
                exact ⟨v, h1, R, h2, h3, h4⟩
              rintro v wz ⟨R, h2, h3, hb⟩
              obtain ⟨a5, n5, c5, rfl⟩ := h2.len
              exact ⟨_, rfl, appT_other (by decide) hb, trivial, a5, n5, c5, R, rfl, ownD_low h2 hx.2.1, h3⟩
            · refine stepG_of rfl ?_
              exact stepR_value (t := 49) (.pointer (some ⟨w0.heap.size, 0, none⟩)) rfl (fun _ => appT_other (by decide) (Below.refl _ _)) (fun ac w hG hN hO => by
                have e3 : slot ac 3 = .pointer (some ⟨w0.heap.size, 0, none⟩) := hO 3 (by kernel_rfl)
                have f3 := slot_at e3
                unfold execOp; go_simp) (fun ac w hG hN => rfl)
            · refine stepG_of rfl ?_
              intro ac wx hG hN hO
              have e49 : slot ac 49 = .pointer (some ⟨w0.heap.size, 0, none⟩) := hN 6 (by decide)
              have h10 : ∃ a5 n5 c5 R, slot ac 48 = .slice a5 n5 c5 ∧ OwnD W4.heap.size wx (.slice a5 n5 c5) R ∧ RowsS (RowF w0) R (withF (lessF fs3 n.data.toList) ⟨m, f.d, f.ops⟩) := hN 5 (by decide)
              have hx : TwoB w0 wx #[.slice (some ⟨b1, o1, none⟩) z cap, .bool o3, .int .i64 f3] #[.slice none 0 0, .bool false, .int .i64 0] ∧ W4.heap.size ≤ wx.heap.size ∧ Row wx w3.heap.size #[.string m, .string f.d, .slice uu uz uc] 47 := hN 8 (by decide)
              obtain ⟨a5, n5, c5, R, e48, hO, hR⟩ := h10
              obtain ⟨⟨p0, p1, p2⟩, _, fz0, _⟩ := hx.1.cells
              refine wp_store_fs rfl (slotE e49) (slotE e48) p0 (fz0 0) ?_
              exact ⟨_, rfl, appT_at trivial, trivial, a5, n5, c5, R, hx.1.set0, ownD_set hO (show w0.heap.size < W4.heap.size by have := HTW.out.lt; omega), hR⟩
          case behind =>
            intro ac w5 hG hV hS ha
            have h9 : DocS w0 W4.heap.size (withF (lessF fs3 n.data.toList) ⟨m, f.d, f.ops⟩) o3 f3 #[.slice none 0 0, .bool false, .int .i64 0] w5 := hV 7 (by decide) (by decide)
            generalize slot ac = sl at ha 
            subst ha
            simp only [patchL, List.contains_cons, List.contains_nil, Nat.reduceBEq, Bool.or_false, Bool.or_true, if_true, Bool.false_eq_true, if_false, Nat.reduceAdd]
            generalize sl 43 = s43
            generalize sl 44 = s44
            generalize sl 45 = s45
            generalize sl 46 = s46
            generalize sl 47 = s47
            generalize sl 48 = s48
            generalize sl 49 = s49
            clear hV hS
            
            have HE9 := Lib.hid h9
            clear hG h9
            obtain ⟨a5, n5, c5, R5, hT5, hO5, hR5⟩ := HE9.out
            have HT5 := Lib.hid hT5; have HO5 := Lib.hid hO5; have HR5 := Lib.hid hR5
            clear hT5 hO5 hR5
            have HLT := Lib.hid HT5.out.lt
            obtain ⟨⟨p0, p1, p2⟩, ⟨r0, r1, r2⟩, fz0, fz1⟩ := HT5.out.cells
            have HT6 := Lib.hid (HT5.out.put1 (a' := .slice a5 n5 c5) (b' := .bool o3) (c' := .int .i64 f3))
            have HO6 := Lib.hid (ownD_put (x := .slice a5 n5 c5) (y := .bool o3) (z := .int .i64 f3) HO5.out (show w0.heap.size + 1 < W4.heap.size from HTW.out.lt))
            unfold putB at HT6 HO6
            go_wp2_with fail
            obtain ⟨_, ⟨r0', r1', r2'⟩, _, _⟩ := HT6.out.cells
            exact bodyPost_ret (v := .tuple #[.agg #[.slice a5 n5 c5, .bool o3, .int .i64 f3], .int .i64 0]) (by simp [results, Try.results22, go_sem, r0', r1', r2']) rfl ⟨.slice a5 n5 c5, by rw [HRE.out]; rfl, by rw [HRE.out]; exact HO6.out.is HR5.out fun r x h => h.stays HT6.out.below, HT6.out.below⟩
        · have HRE : Hid (renameD nameB ⟨fs3, false, fuse⟩ n m = (⟨fs3, o3, f3⟩, pe)) := Lib.hid (by rw [HRM.out, thenD_bad (by rw [← HPD.out]; exact hpe), ← HPD.out])
          have e0 : (pe == 0) = false := by simpa using hpe
          have HT4 := Lib.hid ((HT3.out.put0 (a' := .slice (some ⟨b1, o1, none⟩) z cap) (b' := .bool o3) (c' := .int .i64 f3)).put1 (a' := .slice (some ⟨b1, o1, none⟩) z cap) (b' := .bool o3) (c' := .int .i64 f3))
          unfold putB at HT4
          clear hbl
          go_wp2_with fail
          obtain ⟨_, ⟨r0', r1', r2'⟩, _, _⟩ := HT4.out.cells
          exact bodyPost_ret (v := .tuple #[.agg #[.slice (some ⟨b1, o1, none⟩) z cap, .bool o3, .int .i64 f3], .int .i64 pe]) (by simp [results, Try.results22, go_sem, r0', r1', r2']) rfl ⟨.slice (some ⟨b1, o1, none⟩) z cap, by rw [HRE.out]; rfl, by rw [HRE.out]; exact HI.out.stays HT4.out.below, HT4.out.below⟩
      · have HRE : Hid (renameD nameB ⟨fs, false, fuse⟩ n m = (⟨fs, false, fuse⟩, 5)) := Lib.hid (by unfold renameD; dsimp only; rw [if_neg (by simp), if_neg (by simp [hnm]), hg])
        clear hg hnm
        go_wp2_with fail
        refine C0.out.mono ?_
        rintro e w2' ⟨rfl, rfl⟩
        have HTR := Lib.hid (HT2.out.put1 (a' := .slice a z cap) (b' := .bool false) (c' := .int .i64 fuse))
        unfold putB at HTR
        go_wp2_with fail
        obtain ⟨_, ⟨r0', r1', r2'⟩, _, _⟩ := HTR.out.cells
        exact bodyPost_ret (v := .tuple #[.agg #[.slice a z cap, .bool false, .int .i64 fuse], .int .i64 5]) (by simp [results, Try.results22, go_sem, r0', r1', r2']) rfl ⟨.slice a z cap, by rw [HRE.out]; rfl, by rw [HRE.out]; exact HI.out.stays HTR.out.below, HTR.out.below⟩
theorem keptT_app (keep : List Bool) (o : Dop) : ∀ (P : List Dop) (n : Nat) (s : Txt), keptT keep n s (P ++ [o]) = if keep.getD (n + P.length) false then layT (keptT keep n s P) o.a o.t else keptT keep n s P
  | [], n, s => rfl
  | p :: P, n, s => by
    show keptT keep (n + 1) _ (P ++ [o]) = _
    rw [keptT_app keep o P]
    have : n + 1 + P.length = n + (p :: P).length := by rw [List.length_cons]; omega
    rw [this]; rfl
theorem opsL_cons_Dmf (f : Dfl) (l : List Dfl) : opsL (f :: l) = f.ops.length + opsL l := by unfold opsL; rw [List.map_cons, List.sum_cons]
theorem opsL_app (l : List Dfl) (f : Dfl) : opsL (l ++ [f]) = opsL l + f.ops.length := by unfold opsL; rw [List.map_append, List.sum_append]; simp
theorem crashL_app (keep : List Bool) (f : Dfl) : ∀ (l : List Dfl) (n : Nat), crashL keep n (l ++ [f]) = crashL keep n l ++ [⟨f.n, strT (keptT keep (n + opsL l) f.d.data.toList f.ops), []⟩]
  | [], n => by simp [crashL, opsL]
  | g :: l, n => by
    show _ :: crashL keep (n + g.ops.length) (l ++ [f]) = _ :: crashL keep (n + g.ops.length) l ++ _
    rw [crashL_app keep f l, opsL_cons_Dmf, List.cons_append, Nat.add_assoc]
theorem opsL_take (l : List Dfl) (k : Nat) : opsL (l.take k) ≤ opsL l := by
  have h : opsL (l.take k ++ l.drop k) = opsL (l.take k) + opsL (l.drop k) := by unfold opsL; rw [List.map_append, List.sum_append]
  rw [List.take_append_drop] at h; omega
def RetC (d : Dsk) (keep : List Bool) (w : World) (e : Ending) (w' : World) : Prop := ∃ v, e = .returned (dskV v (crashD d keep)) ∧ IsDfs w' v (crashD d keep).fs ∧ Below w.heap.size w w'
set_option maxRecDepth 100000 in
set_option maxHeartbeats 8000000 in
theorem rCrash_any (d : Dsk) (v kv : Value) (keep : List Bool) (w0 : World) (h : IsDfs w0 v d.fs) (hk : IsBls w0 kv keep) (hf : FitD nameB d) :
    Calls Try.prog 26 #[dskV v d, kv] w0 (RetC d keep w0) := by
  have HI := Lib.hid h; have HF := Lib.hid hf; have HKI := Lib.hid hk
  have hl8 := hf.many
  have HOM := Lib.hid (opsL_max hf)
  obtain ⟨_, a, cap, hu, _, _⟩ := h
  obtain ⟨_, ka, kcap, hku, _, _⟩ := hk
  obtain ⟨z, hz⟩ : ∃ z, z = d.fs.length := ⟨_, rfl⟩
  obtain ⟨kz, hkz⟩ : ∃ z, z = keep.length := ⟨_, rfl⟩
  rw [← hz] at hu hl8
  rw [← hkz] at hku
  subst hu hku
  have HZ := Lib.hid hz; have HKZ := Lib.hid hkz
  clear hf hz hkz
  obtain ⟨fs, off, fuse⟩ := d
  unfold dskV RetC
  dsimp only at HI HZ HOM ⊢
  obtain ⟨V, hV⟩ : ∃ V, V = (w0.alloc (.cells #[.slice a z cap, .bool off, .int .i64 fuse] 24)).alloc (.cells #[.slice none 0 0, .bool false, .int .i64 0] 24) := ⟨_, rfl⟩
  have hT := twoB_new w0 a z cap off fuse
  rw [← hV] at hT
  have HV := Lib.hid hV; have HT := Lib.hid hT
  clear hV hT
  go_enter Try.func26, Try.ntmps26
  go_wp2_with fail
  rw [← HV.out]
  go_wp2_with fail
  go_loopw [5, 6, 7] (fun o n i wr => ∃ (q : Nat) (u : Value) (R : List Dfr), q ≤ z ∧ i = .int .i64 q ∧ n = .int .i64 (opsL (fs.take q) : Nat) ∧ u = o ∧ R.length = q ∧ OwnD V.heap.size wr u R ∧ RowsS (RowF w0) R (crashL keep 0 (fs.take q)) ∧ Below V.heap.size V wr) (fun _ _ i _ => z - (intOf i).toNat)
  case atStart => exact ⟨0, _, [], Nat.zero_le _, rfl, rfl, rfl, rfl, ownD_nil _ _, trivial, Below.refl _ _⟩
  case round =>
    obtain ⟨q, u, R, hq, rfl, rfl, rfl, hRq, hO, hR, hB⟩ := hrel
    rename World => w3
    have HO := Lib.hid hO; have HR := Lib.hid hR; have HB := Lib.hid hB; have HRQ := Lib.hid hRq
    have HTR := Lib.hid (HT.out.step hB)
    obtain ⟨⟨p0, p1, p2⟩, ⟨r0, r1, r2⟩, fz0, fz1⟩ := HTR.out.cells
    clear hRq
    by_cases hlt : q < z
    · have hqo : q < fs.length := by have := HZ.out; omega
      have HTK := Lib.hid (List.take_succ_eq_append_getElem hqo)
      have HFK := Lib.hid (HF.out.files _ (List.getElem_mem hqo))
      obtain ⟨_, _, _, hev, _, hc⟩ := id HI.out
      rw [← HZ.out] at hev
      cases hev
      obtain ⟨b1, o1, rfl, hbl, g1⟩ := hc (by have := HZ.out; omega)
      obtain ⟨uv, q0, q1, q2, hu⟩ := g1 q hqo
      obtain ⟨uu, uc, rfl⟩ := hu.len
      obtain ⟨uz, huz⟩ : ∃ uz, uz = (fs[q]'hqo).ops.length := ⟨_, rfl⟩
      rw [← huz] at q2 hu
      obtain ⟨f, hfd⟩ : ∃ f, f = fs[q]'hqo := ⟨_, rfl⟩
      rw [← hfd] at q0 q1 hu HFK HTK huz
      have HU := Lib.hid hu; have HUZ := Lib.hid huz
      have HWR := Lib.hid (HTR.out.below)
      rw [← HWR.out.cell (p := ⟨b1, o1 + q * 3, none⟩) hbl] at q0
      rw [← HWR.out.cell (p := ⟨b1, o1 + q * 3 + 1, none⟩) hbl] at q1
      rw [← HWR.out.cell (p := ⟨b1, o1 + q * 3 + 2, none⟩) hbl] at q2
      have hblr : b1 < w3.heap.size := Nat.lt_of_lt_of_le hbl HWR.out.size
      have hbk : decide ((q : Int) < (z : Int)) = true := by simpa using (show (q : Int) < z by omega)
      have hul : uz ≤ 200 := by have := HFK.out.many; omega
      have HN1 : Hid (opsL (fs.take (q + 1)) = opsL (fs.take q) + uz) := Lib.hid (by rw [HTK.out, opsL_app, ← HUZ.out])
      have HC1 : Hid (crashL keep 0 (fs.take (q + 1)) = crashL keep 0 (fs.take q) ++ [⟨f.n, strT (keptT keep (opsL (fs.take q)) f.d.data.toList f.ops), []⟩]) := Lib.hid (by rw [HTK.out, crashL_app, Nat.zero_add])
      have HM : Hid (∀ m, (keptT keep (opsL (fs.take q)) f.d.data.toList (f.ops.take m)).length ≤ 262144) := Lib.hid (fun m => keptT_max (by rw [dsize]; exact HFK.out.bytes) fun o hm => opOk_len (HFK.out.ops o (List.mem_of_mem_take hm)))
      have hn9 : opsL (fs.take q) ≤ 1600 := Nat.le_trans (opsL_take fs q) HOM.out
      obtain ⟨n0, hn0⟩ : ∃ n0, n0 = opsL (fs.take q) := ⟨_, rfl⟩
      rw [← hn0] at HN1 HC1 HM hn9 ⊢
      obtain ⟨W, hW⟩ : ∃ W, W = w3.alloc (.cells #[.string f.n, .string f.d, .slice uu uz uc] 47) := ⟨_, rfl⟩
      have hbW : Below w3.heap.size w3 W := by rw [hW]; exact (Below.refl _ _).alloc (Nat.le_refl _) _
      have HBX : Hid (Row W w3.heap.size #[.string f.n, .string f.d, .slice uu uz uc] 47) := by rw [hW]; exact Lib.hid (Row.made _ _ _)
      have HW := Lib.hid hW; have HBW := Lib.hid hbW; have hbW9 := HBW
      clear g1 hc hu hfd huz hn0 hW hbW hO hR hB
      go_wp2_with fail
      rw [← HW.out]
      have m1 := HBX.out.cell 1
      simp only [List.getElem?_toArray, List.getElem?_cons_zero, List.getElem?_cons_succ] at m1
      clear p0 p1 p2 r0 r1 r2 fz0 fz1 q0 q1 q2
      go_wp2_with fail
      have hbk2 : True := trivial
      clear hbk
      go_loopw [6, 9, 10] (fun n s j w5 => ∃ (k m : Nat) (x : ByteArray), k ≤ uz ∧ j = .int .i64 k ∧ n = .int .i64 (m : Int) ∧ m = n0 + k ∧ s = .string x ∧ x = strT (keptT keep n0 f.d.data.toList (f.ops.take k)) ∧ Below W.heap.size W w5) (fun _ _ j _ => uz - (intOf j).toNat)
      case atStart => exact ⟨0, n0, f.d, Nat.zero_le _, rfl, rfl, rfl, rfl, (txt_strT _).symm, Below.refl _ _⟩
      case round =>
        obtain ⟨k, m, x, hk, rfl, rfl, hm, rfl, hx, hB5⟩ := hrel
        clear m1
        have HB5 := Lib.hid hB5; have HX := Lib.hid hx; have HMM := Lib.hid hm
        have hm9 : m ≤ 1800 := by omega
        have hXR := HBX.out.step hB5
        have m2 := hXR.cell 2
        simp only [List.getElem?_toArray, List.getElem?_cons_zero, List.getElem?_cons_succ] at m2
        have HB0 := Lib.hid (below_step HWR.out (below_step HBW.out hB5))
        by_cases hlt2 : k < uz
        · have hko : k < f.ops.length := by have := HUZ.out; omega
          obtain ⟨_, _, _, hev, _, hc⟩ := HU.out.stays HB0.out
          rw [← HUZ.out] at hev
          cases hev
          obtain ⟨b2, o2, rfl, hbl2, g1⟩ := hc (by omega)
          obtain ⟨q1, q2⟩ := g1 k hko
          have hop := HFK.out.ops _ (List.getElem_mem hko)
          have hst : f.ops.take (k + 1) = f.ops.take k ++ [f.ops[k]] := List.take_succ_eq_append_getElem hko
          obtain ⟨o, hoo⟩ : ∃ o, o = f.ops[k] := ⟨_, rfl⟩
          rw [← hoo] at q1 q2 hop hst
          rw [opOk_at hop] at q1
          have hln := opOk_len hop
          have hds : o.d.size ≤ 262144 := by unfold Dop.t at hln; rw [dsize] at hln; omega
          have hkt := keptT_app keep o (f.ops.take k) n0 f.d.data.toList
          rw [← hst, List.length_take_of_le (by omega), ← hm] at hkt
          have HKT := Lib.hid hkt
          have hbk : decide ((k : Int) < (uz : Int)) = true := by simpa using (show (k : Int) < uz by omega)
          obtain ⟨_, _, _, hkev, _, hkc⟩ := HKI.out.stays HB0.out
          rw [← HKZ.out] at hkev
          cases hkev
          by_cases hmk : m < kz
          · have hmo : m < keep.length := by have := HKZ.out; omega
            have d1 : decide ((m : Int) < (kz : Int)) = true := by simpa using (show (m : Int) < kz by omega)
            obtain ⟨b4, o4, rfl, hbl4, g4⟩ := hkc (by have := HKZ.out; omega)
            have kc := g4 m hmo
            have hgd : keep.getD m false = keep[m] := by simp [hmo]
            rw [hgd] at hkt
            cases hkb : keep[m] with
            | false =>
              rw [hkb] at kc hkt
              have HY : Hid (x = strT (keptT keep n0 f.d.data.toList (f.ops.take (k + 1)))) := Lib.hid (by rw [hkt, hx]; rfl)
              clear g1 hc hoo hop hst hln hds hkt hx hB5 hko hXR g4 hkc hgd hkb hm
              go_wp2_with fail
              go_roundw
              case rel => exact ⟨k + 1, m + 1, x, by omega, by go_num, by go_num, by have := HMM.out; omega, rfl, HY.out, HB5.out⟩
              case measure => simp [intOf]; omega
            | true =>
              rw [hkb] at kc hkt
              obtain ⟨na, hna⟩ : ∃ na, na = o.a := ⟨_, rfl⟩
              rw [← hna] at q1 hkt hln
              have hxs : x.size ≤ 262144 := by rw [hx, strT_size]; exact HM.out k
              have CL := fun W => rLay_any x na o.d W (by omega) (by omega) (by omega)
              obtain ⟨y, hy⟩ : ∃ y, y = strT (layT x.data.toList na o.d.data.toList) := ⟨_, rfl⟩
              rw [← hy] at CL
              have HY : Hid (y = strT (keptT keep n0 f.d.data.toList (f.ops.take (k + 1)))) := Lib.hid (by rw [hy, hkt, if_pos rfl, hx, strT_txt]; rfl)
              have HC := Lib.hid CL
              clear g1 hc hoo hop hst hln hds hkt hx hB5 hko hXR g4 hkc hgd hkb hm hna hxs hy CL
              have k0 := fun d os => cell_regrown m2 d os
              have k1 := fun d os => cell_regrown q1 d os
              have k2 := fun d os => cell_regrown q2 d os
              go_wp2_with fail
              refine wp_region_quiet_below (by kernel_rfl) (by kernel_rfl) ?_
              repeat (first | go_big_quiet_step (exact Calls.regrown_of (HC.out _)) | quiet_step (exact Calls.regrown_of (HC.out _)))
              refine wpQuiet_nil ?_
              intro wq hwq
              have hbq : Below wr.heap.size wr wq := by obtain ⟨p, rfl⟩ := hwq; exact below_regrown _ _ _
              clear hwq k0 k1 k2 q1 q2 m2
              have HBQ := Lib.hid (below_step HB5.out hbq)
              clear hbq
              go_wp2
              go_roundw
              case rel => exact ⟨k + 1, m + 1, y, by omega, by go_num, by go_num, by have := HMM.out; omega, rfl, HY.out, HBQ.out⟩
              case measure => simp [intOf]; omega
          · have d1 : decide ((m : Int) < (kz : Int)) = false := by simpa using (show (kz : Int) ≤ m by omega)
            have hgd : keep.getD m false = false := by
              rw [List.getD_eq_getElem?_getD, List.getElem?_eq_none (by have := HKZ.out; omega)]; rfl
            rw [hgd] at hkt
            have HY : Hid (x = strT (keptT keep n0 f.d.data.toList (f.ops.take (k + 1)))) := Lib.hid (by rw [hkt, hx]; rfl)
            clear g1 hc hoo hop hst hln hds hkt hx hB5 hko hXR hkc hgd hm
            go_wp2_with fail
            go_roundw
            case rel => exact ⟨k + 1, m + 1, x, by omega, by go_num, by go_num, by have := HMM.out; omega, rfl, HY.out, HB5.out⟩
            case measure => simp [intOf]; omega
        · obtain rfl : k = uz := by omega
          have hbk : decide ((k : Int) < (k : Int)) = false := by simp
          have HE : Hid (x = strT (keptT keep n0 f.d.data.toList f.ops)) := Lib.hid (by rw [hx, List.take_of_length_le (by have := HUZ.out; omega)])
          have m0 := hXR.cell 0
          simp only [List.getElem?_toArray, List.getElem?_cons_zero] at m0
          have HO5 := Lib.hid (HO.out.stays (below_step hbW9.out hB5))
          have HB6 := Lib.hid (below_step HB.out (below_step HBW.out hB5))
          have hRl : R.length ≤ 1000000 := by have := HRQ.out; omega
          have HRL := Lib.hid hRl
          clear hx hB5 hXR hm
          go_wp2_with (at_builtin; refine wpList_append_dfr (y := ⟨f.n, x, none, 0, 0⟩) rfl _ _ rfl HO5.out HB6.out.size rfl rfl HRL.out ?_)
          intro v7 w7 ho7 hb7
          have HO7 := Lib.hid ho7; have HB7 := Lib.hid (HB6.out.trans hb7)
          have HR7 : Hid (RowsS (RowF w0) (R ++ [⟨f.n, x, none, 0, 0⟩]) (crashL keep 0 (fs.take (q + 1)))) := Lib.hid (by rw [HC1.out, ← HE.out]; exact RowsS.snoc ⟨rfl, rfl, ops_nil _⟩ HR.out)
          clear ho7 hb7 m0 m2
          go_wp2
          go_roundw
          case rel => exact ⟨q + 1, _, _, by omega, by go_num, by rw [HN1.out, ← HMM.out], rfl, by rw [List.length_append, HRQ.out]; rfl, HO7.out, HR7.out, HB7.out⟩
          case measure => simp [intOf]; omega
    · obtain rfl : q = z := by omega
      have hbk : decide ((q : Int) < (q : Int)) = false := by simp
      have HE : Hid (RowsS (RowF w0) R (crashL keep 0 fs)) := Lib.hid (by have := HR.out; rwa [List.take_of_length_le (by have := HZ.out; omega)] at this)
      obtain ⟨a5, n5, c5, rfl⟩ := hO.len
      have HT6 := Lib.hid (HTR.out.put1 (a' := .slice a5 n5 c5) (b' := .bool false) (c' := .int .i64 (-1)))
      have HO6 := Lib.hid (ownD_put (x := .slice a5 n5 c5) (y := .bool false) (z := .int .i64 (-1)) HO.out (show w0.heap.size + 1 < V.heap.size from HT.out.lt))
      unfold putB at HT6 HO6
      clear hO hR hB
      go_wp2_with fail
      obtain ⟨_, ⟨r0', r1', r2'⟩, _, _⟩ := HT6.out.cells
      exact bodyPost_ret (v := .agg #[.slice a5 n5 c5, .bool false, .int .i64 (-1)]) (by simp [results, Try.results26, go_sem, r0', r1', r2']) rfl ⟨.slice a5 n5 c5, rfl, HO6.out.is HE.out fun r x h => h.stays HT6.out.below, HT6.out.below⟩
theorem conv_str_Dlg (w : World) (s : ByteArray) : (convert 9 91 (.string s)).run Try.prog w = .ok (.slice (some ⟨w.heap.size, 0, none⟩) s.size (grownCap w s.size 0 5))
      (w.drew.alloc (.cells (bytesRow s (grownCap w s.size 0 5)) 5 ((bytesRow s (grownCap w s.size 0 5)).size, (bytesRow s (grownCap w s.size 0 5)).size + 1))) :=
  run_bytes_of_string w 9 91 5 s Try.underlying9 Try.underlying91 Try.underlying5
set_option maxRecDepth 100000 in
set_option maxHeartbeats 4000000 in
theorem seen_any (f : Dfl) (u : Value) (w : World) (h : IsOps w u f.ops) (hd : f.d.size ≤ 262144) (ho : ∀ o ∈ f.ops, opOk o) :
    Calls Try.prog 32 #[.agg #[.string f.n, .string f.d, u]] w fun e w' => e = .returned (.string (strT (seenF f))) ∧ Below w.heap.size w w' := by
  obtain ⟨V, hV⟩ : ∃ V, V = w.alloc (.cells #[.string f.n, .string f.d, u] 47) := ⟨_, rfl⟩
  have hbV : Below w.heap.size w V := by rw [hV]; exact (Below.refl _ _).alloc (Nat.le_refl _) _
  have hR : Row V w.heap.size #[.string f.n, .string f.d, u] 47 := by rw [hV]; exact Row.made _ _ _
  have HV := Lib.hid hV; have HI := Lib.hid (h.stays hbV); have HO := Lib.hid ho; have HB0 := Lib.hid hbV
  have HM : Hid (∀ k, (seenT f.d.data.toList (f.ops.take k)).length ≤ 262144) := Lib.hid (fun k => seenT_max (by rw [dsize]; exact hd) fun o hm => opOk_len (ho o (List.mem_of_mem_take hm)))
  obtain ⟨hml, a, cap, hu, _, _⟩ := h
  obtain ⟨z, hz⟩ : ∃ z, z = f.ops.length := ⟨_, rfl⟩
  rw [← hz] at hu
  subst hu
  have HR := Lib.hid hR; have HZ := Lib.hid hz
  have p1 := hR.cell 1; have p2 := hR.cell 2
  simp only [List.getElem?_toArray, List.getElem?_cons_zero, List.getElem?_cons_succ] at p1 p2
  have hmz : z ≤ 9223372036854775807 := by unfold maxLen at hml; omega
  have hcv := conv_str_Dlg V f.d
  obtain ⟨W1, hW1⟩ : ∃ W1, W1 = V.drew.alloc (.cells (bytesRow f.d (grownCap V f.d.size 0 5)) 5 ((bytesRow f.d (grownCap V f.d.size 0 5)).size, (bytesRow f.d (grownCap V f.d.size 0 5)).size + 1)) := ⟨_, rfl⟩
  rw [← hW1] at hcv
  have ho1 : OwnB15 V.heap.size W1 (.slice (some ⟨V.heap.size, 0, none⟩) f.d.size (grownCap V f.d.size 0 5)) f.d.data.toList := by
    have := ownsE_conv V 5 f.d (by unfold maxLen; omega) V.heap.size (Nat.le_refl _)
    rw [← hW1] at this
    unfold OwnB15; rw [dsize]; exact this
  have hb1 : Below V.heap.size V W1 := by rw [hW1]; exact ((Below.refl _ V).drew).alloc (Nat.le_refl _) _
  have p2' : W1.cell? ⟨w.heap.size, 2, none⟩ = some (.slice a z cap) := (hb1.cell (p := ⟨w.heap.size, 2, none⟩) hR.lt).trans p2
  have HO1 := Lib.hid ho1; have HB1 := Lib.hid hb1; have HCV := Lib.hid hcv
  clear hV hbV hR ho hml hz hW1 ho1 hb1 hcv p2
  go_enter Try.func32, Try.ntmps32
  go_wp2_with fail
  rw [← HV.out]
  go_wp2_with fail
  rw [HCV.out]
  simp only [Result.andThen]
  rw [Oper.upon_value]
  go_wp2_with fail
  go_loopw [3, 12] (fun b i wr => ∃ (k : Nat) (l : Txt) (v : Value), k ≤ z ∧ i = .int .i64 k ∧ v = b ∧ OwnB15 V.heap.size wr v l ∧ l = seenT f.d.data.toList (f.ops.take k) ∧ Below V.heap.size V wr) (fun _ i _ => z - (intOf i).toNat)
  case atStart => exact ⟨0, f.d.data.toList, _, Nat.zero_le _, rfl, rfl, HO1.out, rfl, HB1.out⟩
  case round =>
    obtain ⟨k, l, v, hk, rfl, rfl, hO, hl, hB⟩ := hrel
    clear p1 p2' HO1 HB1 HCV
    have HB := Lib.hid hB; have HOW := Lib.hid hO
    have HX := Lib.hid hl
    by_cases hlt : k < z
    · have hko : k < f.ops.length := by have := HZ.out; omega
      obtain ⟨_, _, _, hev, _, hc⟩ := HI.out.stays hB
      rw [← HZ.out] at hev
      cases hev
      obtain ⟨b1, o1, rfl, hbl, g1⟩ := hc (by omega)
      obtain ⟨q1, q2⟩ := g1 k hko
      have hop := HO.out _ (List.getElem_mem hko)
      have hst := seen_step (s := f.d.data.toList) hko
      obtain ⟨o, hoo⟩ : ∃ o, o = f.ops[k] := ⟨_, rfl⟩
      rw [← hoo] at q1 q2 hop hst
      rw [opOk_at hop] at q1
      have hln := opOk_len hop
      have hds : o.d.size ≠ 0 := hop.2.1
      have hln2 : o.a + o.d.size ≤ 262144 := by unfold Dop.t at hln; rw [dsize] at hln; exact hln
      obtain ⟨na, hna⟩ : ∃ na, na = o.a := ⟨_, rfl⟩
      rw [← hna] at q1 hst hln2
      have hls : l.length ≤ 262144 := by rw [hl]; exact HM.out k
      have CL := Lib.hid (fun (W : World) (hb : Below wr.heap.size wr W) => laid_any V.heap.size v l na o.d W (hO.step hb) (Nat.le_trans hB.size hb.size) hls hln2 hds)
      obtain ⟨y, hy⟩ : ∃ y, y = layT l na o.d.data.toList := ⟨_, rfl⟩
      rw [← hy] at CL
      have HY : Hid (y = seenT f.d.data.toList (f.ops.take (k + 1))) := Lib.hid (by rw [hy, hst, hl]; rfl)
      have hbk : decide ((k : Int) < (z : Int)) = true := by simpa using (show (k : Int) < z by omega)
      have HBA : Hid (Below wr.heap.size wr (wr.alloc (.cells #[.int .i64 (na : Int), .string o.d] 52))) := Lib.hid ((Below.refl _ _).alloc (Nat.le_refl _) _)
      clear g1 hc hoo hop hst hln hds hna hls hy hl hB hko hO hln2
      go_wp2_with fail
      refine (CL.out _ HBA.out).mono ?_
      rintro e w2 ⟨v2, rfl, ho2, hb2⟩
      have HO2 := Lib.hid ho2; have HB2 := Lib.hid ((HB.out.trans (HBA.out.mono HB.out.size)).trans hb2)
      clear ho2 hb2 q1 q2
      go_wp2
      go_roundw
      case rel => exact ⟨k + 1, y, v2, by omega, by go_num, rfl, HO2.out, HY.out, HB2.out⟩
      case measure => simp [intOf]; omega
    · obtain rfl : k = z := by omega
      have hbk : decide ((k : Int) < (k : Int)) = false := by simp
      have HE : Hid (l = seenF f) := Lib.hid (by rw [hl, List.take_of_length_le (by have := HZ.out; omega)]; rfl)
      have HC := Lib.hid hO.conv
      clear hl hO
      have hc := HC.out
      go_wp2_with fail
      go_ret
      exact ⟨by rw [← HE.out]; rfl, below_step HB0.out hB⟩
end Go.Proofs.Ytninfmlemdnjbaa
set_option linter.unusedVariables false
namespace Go.Proofs.Ytninfmlemdnjbaa
open Go.RowKit Go.Shelf
attribute [local go_sem] Oper.semAt_some
theorem cloneL_any (s : ByteArray) (hs : s.size ≤ 281474976710656) (w : World) : Calls Try.prog 73 #[.string s] w fun e w' => e = .returned (.string s) ∧ Below w.heap.size w w' := by
  have C := AnyPu.stringslite_Clone Try.lays_pu25 s w hs
  change Calls Try.prog 73 _ _ _ at C
  refine C.mono ?_
  rintro e w' ⟨h1, h2⟩
  exact ⟨h1, h2⟩
theorem Clone_any_Pap (s : ByteArray) (hs : s.size ≤ 281474976710656) (w : World) : Calls Try.prog 66 #[.string s] w fun e w' => e = .returned (.string s) ∧ Below w.heap.size w w' := by
  go_enter Try.func66, Try.ntmps66
  go_wp2_with fail
  refine (cloneL_any s hs _).mono ?_
  rintro e w1 ⟨rfl, hb⟩
  go_wp2
  go_ret
  exact ⟨rfl, hb⟩
end Go.Proofs.Ytninfmlemdnjbaa
set_option linter.unusedVariables false
namespace Go.Proofs.Ytninfmlemdnjbaa
open Go Go.RowKit
variable {P : Program} {ops : Array Oper} {Q : Exit → Act → World → Prop}
theorem rowsIn_wide {l n : Nat} {row : String} {args : Array Value} {w : World} {R : Value → World → Prop} (h : Rows P row args w R) : RowsIn (Fence.wide.inRound l) n P row args w R :=
  fun c cs _ => let ⟨v, w', r, s⟩ := h c cs; ⟨v, w', r, stepsIn_wide.2 s⟩
theorem uponIn_round {l n : Nat} {o : Oper} {a : Act} {next : Act → World → Prop} {r : Result Next} (h : o.upon P a next Q r) : o.uponIn (Fence.wide.inRound l) n P a next Q r := by
  cases r with
  | ok x w' =>
    cases x <;> simp only [Oper.upon, Oper.uponIn] at h ⊢ <;>
      first
        | exact h
        | exact ⟨fun h => (by cases h), CallsIn.inRound l (callsIn_wide.2 h)⟩
        | exact ⟨fun h => (by cases h), rowsIn_wide h⟩
  | halt x w' => cases x <;> simp only [Oper.upon, Oper.uponIn] at h ⊢ <;> exact h
theorem wpIn_round {l n : Nat} {o : Oper} {a : Act} {w : World} {next : Act → World → Prop} (hd : ∀ c, o.op ≠ .defer c) (h : o.wp P a w next Q) : o.wpIn (Fence.wide.inRound l) n P a w next Q := by
  refine ⟨fun _ _ => trivial, ?_⟩
  rw [Fence.inRound_round, Oper.semAt_some _ _ _ hd]
  exact uponIn_round h
def noDefer (ops : Array Oper) : Bool := ops.all fun o => match o.op with
  | .defer _ => false
  | _ => true
theorem noDefer_at (h : noDefer ops = true) {i : Nat} {o : Oper} (hi : ops[i]? = some o) : ∀ c, o.op ≠ .defer c := fun c e => by
  obtain ⟨hlt, rfl⟩ := Array.getElem?_eq_some_iff.1 hi
  have := Array.all_eq_true.1 h i hlt
  rw [e] at this; cases this
theorem wpOpIn_round {l n i : Nat} {K : Act → World → Prop} {a : Act} {w : World} (hd : noDefer ops = true) (hQ : ¬ LetsOut Q) (h : wpOp P ops Q i K a w) : wpOpIn (Fence.wide.inRound l) n P ops Q i K a w := by
  unfold wpOp at h; unfold wpOpIn
  cases ho : ops[i]? with
  | none => rw [ho] at h; exact h
  | some o =>
    rw [ho] at h
    simp only at h ⊢
    by_cases hw : Region.wanted o (yielded ops a.tmps) = true
    · simp only [hw, if_true] at h ⊢
      rcases h with h | h
      · exact wpIn_round (noDefer_at hd ho) h
      · exact absurd h.2 hQ
    · simp only [hw] at h ⊢
      exact ⟨fun _ _ => trivial, h⟩
theorem wpAnyIn_round {l n : Nat} {md : Region.Mode} (hd : noDefer ops = true) (hQ : ¬ LetsOut Q) : ∀ (fuel : Nat) (listed : Array Bool) (a : Act) (w : World), wpAny P md ops Q fuel listed a w → wpAnyIn (Fence.wide.inRound l) n P md ops Q fuel listed a w
  | 0, _, _, _, h => h
  | fuel + 1, listed, a, w, h => ⟨h.1, fun i hi => wpOpIn_mono (fun a w h => wpAnyIn_round hd hQ fuel _ a w h) (wpOpIn_round hd hQ (h.2 i hi))⟩
theorem wpIn_region_round {l n id : Nat} {a : Act} {w : World} (hm : P.follows .mixedOrders = true) (hd : noDefer ops = true) (hQ : ¬ LetsOut Q)
    (h : wpAny P .any ops Q ops.size (Array.replicate ops.size false) a { w with drawn := w.drawn + 1 }) : (Code.region id ops true).wpIn (Fence.wide.inRound l) n P Q a w :=
  wpIn_region_any hm (wpAnyIn_round hd hQ _ _ _ _ h)
end Go.Proofs.Ytninfmlemdnjbaa
set_option linter.unusedVariables false
namespace Go.Proofs.Ytninfmlemdnjbaa
open Go.RowKit
attribute [local go_sem] Oper.semAt_some
noncomputable def sameX (x y : Dfl) : Bool := @decide (x = y) (Classical.propDecidable _)
theorem sameX_yes {x y : Dfl} (h : x = y) : sameX x y = true := @decide_eq_true _ (Classical.propDecidable _) h
theorem sameX_no {x y : Dfl} (h : x ≠ y) : sameX x y = false := @decide_eq_false _ (Classical.propDecidable _) h
noncomputable def sameFs (L M : List Dfl) : Bool := @decide (L = M) (Classical.propDecidable _)
theorem sameFs_yes {L M : List Dfl} (h : L = M) : sameFs L M = true := @decide_eq_true _ (Classical.propDecidable _) h
theorem sameFs_no {L M : List Dfl} (h : L ≠ M) : sameFs L M = false := @decide_eq_false _ (Classical.propDecidable _) h
set_option maxRecDepth 100000 in
set_option maxHeartbeats 2000000 in
theorem sameFile_any (x y : Dfl) (u1 u2 : Value) (w : World) (h1 : IsOps w u1 x.ops) (h2 : IsOps w u2 y.ops) :
    Calls Try.prog 30 #[.agg #[.string x.n, .string x.d, u1], .agg #[.string y.n, .string y.d, u2]] w fun e w' => e = .returned (.bool (sameX x y)) ∧ Below w.heap.size w w' := by
  obtain ⟨V, hV⟩ : ∃ V, V = (w.alloc (.cells #[.string x.n, .string x.d, u1] 47)).alloc (.cells #[.string y.n, .string y.d, u2] 47) := ⟨_, rfl⟩
  have hbV : Below w.heap.size w V := by rw [hV]; exact ((Below.refl _ _).alloc (Nat.le_refl _) _).alloc (by simp) _
  have C := Lib.hid (opEqual_any u1 u2 x.ops y.ops V (h1.stays hbV) (h2.stays hbV))
  have HV := Lib.hid hV; have HB := Lib.hid hbV
  obtain ⟨a1, c1, rfl⟩ := h1.len
  obtain ⟨a2, c2, rfl⟩ := h2.len
  clear hV hbV h1 h2
  by_cases hn : x.n = y.n
  · have n1 : (x.n.toList == y.n.toList) = true := by rw [hn]; simp
    by_cases hd : x.d = y.d
    · have n2 : (x.d.toList == y.d.toList) = true := by rw [hd]; simp
      have HS : Hid (sameX x y = sameP x.ops y.ops) := Lib.hid (by
        by_cases ho : x.ops = y.ops
        · rw [sameX_yes (dfl_ext hn hd ho), sameP_yes ho]
        · rw [sameX_no (fun e => ho (by rw [e])), sameP_no ho])
      obtain ⟨r, hr⟩ : ∃ r, r = sameP x.ops y.ops := ⟨_, rfl⟩
      rw [← hr] at C HS
      clear hn hd hr
      go_enter Try.func30, Try.ntmps30
      go_wp2_with fail
      rw [← HV.out]
      refine C.out.mono ?_
      rintro e w2 ⟨rfl, hb⟩
      go_wp2
      go_ret
      exact ⟨by rw [HS.out]; rfl, below_step HB.out hb⟩
    · have n2 : (x.d.toList == y.d.toList) = false := by
        rw [Bool.eq_false_iff]; intro e
        have := eq_of_beq e
        rw [Lib.toList_data, Lib.toList_data] at this
        exact hd (ByteArray.ext (Array.toList_inj.1 this))
      have HS : Hid (sameX x y = false) := Lib.hid (sameX_no fun e => hd (by rw [e]))
      clear hn hd
      go_enter Try.func30, Try.ntmps30
      go_wp2_with fail
      go_ret
      exact ⟨by rw [HS.out]; rfl, by rw [← HV.out]; exact HB.out⟩
  · have n1 : (x.n.toList == y.n.toList) = false := by
      rw [Bool.eq_false_iff]; intro e
      have := eq_of_beq e
      rw [Lib.toList_data, Lib.toList_data] at this
      exact hn (ByteArray.ext (Array.toList_inj.1 this))
    have HS : Hid (sameX x y = false) := Lib.hid (sameX_no fun e => hn (by rw [e]))
    clear hn
    go_enter Try.func30, Try.ntmps30
    go_wp2_with fail
    go_ret
    exact ⟨by rw [HS.out]; rfl, by rw [← HV.out]; exact HB.out⟩
set_option maxRecDepth 100000 in
set_option maxHeartbeats 4000000 in
theorem dEqual_any (v1 v2 : Value) (L M : List Dfl) (w : World) (h1 : IsDfs w v1 L) (h2 : IsDfs w v2 M) :
    Calls Try.prog 29 #[v1, v2, .func (.func 30) #[] #[]] w fun e w' => e = .returned (.bool (sameFs L M)) ∧ Below w.heap.size w w' := by
  have HI1 := Lib.hid h1; have HI2 := Lib.hid h2
  have P := Lib.hid (fun x y u1 u2 W => sameFile_any x y u1 u2 W)
  obtain ⟨hm1, a1, cap1, rfl, _, hc1⟩ := h1
  obtain ⟨hm2, a2, cap2, rfl, _, hc2⟩ := h2
  have hmm1 : L.length ≤ 9223372036854775807 := by unfold maxLen at hm1; omega
  have hmm2 : M.length ≤ 9223372036854775807 := by unfold maxLen at hm2; omega
  clear hc1 hm1 hc2 hm2
  by_cases hl : L.length = M.length
  · have hll : ((L.length : Int) == (M.length : Int)) = true := beq_iff_eq.2 (by omega)
    have hll2 : ((L.length : Int) != (M.length : Int)) = false := by rw [bne, hll]; rfl
    have HL := Lib.hid hl
    clear hl
    go_enter Try.func29, Try.ntmps29
    go_wp2
    go_loopw [17] (fun i wr => ∃ k : Nat, k ≤ L.length ∧ i = .int .i64 k ∧ L.take k = M.take k ∧ Below w.heap.size w wr) (fun i _ => L.length - (intOf i).toNat)
    case atStart => exact ⟨0, Nat.zero_le _, rfl, rfl, Below.refl _ _⟩
    case round =>
      obtain ⟨k, hk, rfl, he, hB⟩ := hrel
      have HE := Lib.hid he; have HB := Lib.hid hB; clear he
      by_cases hlt : k < L.length
      · have hlt2 : k < M.length := by have := HL.out; omega
        obtain ⟨_, _, _, e1, _, hc1⟩ := HI1.out.stays hB
        cases e1
        obtain ⟨_, _, _, e2, _, hc2⟩ := HI2.out.stays hB
        cases e2
        obtain ⟨b1, o1, rfl, hb1, g1⟩ := hc1 (by omega)
        obtain ⟨b2, o2, rfl, hb2, g2⟩ := hc2 (by omega)
        obtain ⟨u1, c0, c1, c2, q1⟩ := g1 k hlt
        obtain ⟨u2, d0, d1, d2, q2⟩ := g2 k hlt2
        have hbk : decide ((k : Int) < (L.length : Int)) = true := by simpa using (show (k : Int) < L.length by omega)
        have hbk2 : decide ((k : Int) < (M.length : Int)) = true := by simpa using (show (k : Int) < M.length by omega)
        have HT := Lib.hid (takeF_same hlt hlt2 HE.out)
        have HG := Lib.hid (show L[k] ≠ M[k] → L ≠ M from fun h e => h (by subst e; rfl))
        obtain ⟨x, hx⟩ : ∃ x, x = L[k] := ⟨_, rfl⟩
        obtain ⟨y, hy⟩ : ∃ y, y = M[k] := ⟨_, rfl⟩
        rw [← hx] at c0 c1 q1 HT HG
        rw [← hy] at d0 d1 q2 HT HG
        have hbW := ((Below.refl wr.heap.size wr).alloc (Nat.le_refl _) (.cells #[.string x.n, .string x.d, u1] 47)).alloc (by simp) (.cells #[.string y.n, .string y.d, u2] 47)
        have C := Lib.hid (P.out x y u1 u2 _ (q1.stays hbW) (q2.stays hbW))
        have HBW := Lib.hid hbW
        obtain ⟨r, hr⟩ : ∃ r, r = sameX x y := ⟨_, rfl⟩
        rw [← hr] at C
        obtain ⟨a3, c3, rfl⟩ := q1.len
        obtain ⟨a4, c4, rfl⟩ := q2.len
        clear hx hy g1 g2 hc1 hc2 q1 q2 hbW hB
        go_wp2_with fail
        refine C.out.mono ?_
        rintro e w2 ⟨rfl, hb⟩
        have HB2 := Lib.hid (below_step (below_step HB.out HBW.out) hb)
        clear hb c0 c1 c2 d0 d1 d2
        by_cases hxy : x = y
        · have hr1 : r = true := by rw [hr, sameX_yes hxy]
          subst hr1
          have HT2 := Lib.hid (HT.out hxy)
          clear hxy hr
          go_wp2
          go_roundw
          case rel => exact ⟨k + 1, by omega, by go_num, HT2.out, HB2.out⟩
          case measure => simp [intOf]; omega
        · have hr1 : r = false := by rw [hr, sameX_no hxy]
          subst hr1
          have HN := Lib.hid (sameFs_no (HG.out hxy))
          clear hxy hr
          go_wp2
          go_ret
          exact ⟨by rw [HN.out]; rfl, HB2.out⟩
      · have hk' : k = L.length := by omega
        have hbk : decide ((k : Int) < (L.length : Int)) = false := decide_eq_false (by omega)
        have HS : Hid (sameFs L M = true) := sameFs_yes (by have := HE.out; rwa [hk', List.take_length, HL.out, List.take_length] at this)
        clear hk'
        go_wp2
        go_ret
        exact ⟨by rw [HS.out]; rfl, HB.out⟩
  · have hll : ((L.length : Int) == (M.length : Int)) = false := beq_eq_false_iff_ne.2 (by omega)
    have hll2 : ((L.length : Int) != (M.length : Int)) = true := by rw [bne, hll]; rfl
    have HN := Lib.hid (sameFs_no (show L ≠ M from fun e => hl (by rw [e])))
    clear hl
    go_enter Try.func29, Try.ntmps29
    go_wp2
    go_ret
    exact ⟨by rw [HN.out]; rfl, Below.refl _ _⟩
set_option maxRecDepth 100000 in
theorem pSame_any_Dly (d g : Dsk) (v1 v2 : Value) (w : World) (h1 : IsDfs w v1 d.fs) (h2 : IsDfs w v2 g.fs) :
    Calls Try.prog 13 #[dskV v1 d, dskV v2 g] w fun e w' => e = .returned (.bool (sameD d g)) ∧ Below w.heap.size w w' := by
  have gab := Try.isAgg4; have gzb := Try.sizeOf4
  obtain ⟨a1, c1, hv1⟩ := h1.len
  obtain ⟨a2, c2, hv2⟩ := h2.len
  obtain ⟨V, hV⟩ : ∃ V, V = (w.alloc (.cells #[v1, .bool d.off, .int .i64 d.fuse] 24)).alloc (.cells #[v2, .bool g.off, .int .i64 g.fuse] 24) := ⟨_, rfl⟩
  have hbV : Below w.heap.size w V := by rw [hV]; exact ((Below.refl _ _).alloc (Nat.le_refl _) _).alloc (by simp) _
  have C := Lib.hid (dEqual_any v1 v2 d.fs g.fs V (h1.stays hbV) (h2.stays hbV))
  have HV := Lib.hid hV; have HB := Lib.hid hbV
  subst hv1 hv2
  clear hV hbV h1 h2
  unfold dskV
  by_cases ho : d.off = g.off
  · have n1 : (d.off == g.off) = true := by rw [ho]; simp
    by_cases hf : d.fuse = g.fuse
    · have n2 : (d.fuse == g.fuse) = true := by rw [hf]; simp
      have HS : Hid (sameD d g = sameFs d.fs g.fs) := Lib.hid (by
        obtain ⟨fs1, o1, f1⟩ := d
        obtain ⟨fs2, o2, f2⟩ := g
        dsimp only at ho hf ⊢
        subst ho hf
        by_cases hq : fs1 = fs2
        · subst hq; rw [sameD_yes rfl, sameFs_yes rfl]
        · rw [sameD_no (fun e => hq (by cases e; rfl)), sameFs_no hq])
      obtain ⟨r, hr⟩ : ∃ r, r = sameFs d.fs g.fs := ⟨_, rfl⟩
      rw [← hr] at C HS
      clear ho hf hr
      go_enter Try.func13, Try.ntmps13
      go_wp2_with fail
      rw [← HV.out]
      refine C.out.mono ?_
      rintro e w2 ⟨rfl, hb⟩
      go_wp2
      go_ret
      exact ⟨by rw [HS.out]; rfl, below_step HB.out hb⟩
    · have n2 : (d.fuse == g.fuse) = false := beq_eq_false_iff_ne.2 hf
      have HS : Hid (sameD d g = false) := Lib.hid (sameD_no fun e => hf (by rw [e]))
      clear ho hf
      go_enter Try.func13, Try.ntmps13
      go_wp2_with fail
      go_ret
      exact ⟨by rw [HS.out]; rfl, by rw [← HV.out]; exact HB.out⟩
  · have n1 : (d.off == g.off) = false := beq_eq_false_iff_ne.2 ho
    have HS : Hid (sameD d g = false) := Lib.hid (sameD_no fun e => ho (by rw [e]))
    clear ho
    go_enter Try.func13, Try.ntmps13
    go_wp2_with fail
    go_ret
    exact ⟨by rw [HS.out]; rfl, by rw [← HV.out]; exact HB.out⟩
def fewOp (o : Dop) : Prop := o.d.size ≤ 5000 ∧ ¬ (20000 < o.at_ ∧ o.at_ ≤ 262144)
def fewFl (f : Dfl) : Prop := f.n.size ≤ 100 ∧ f.d.size ≤ 20000 ∧ f.ops.length ≤ 210 ∧ ∀ o ∈ f.ops, fewOp o
def FewD (d : Dsk) : Prop := d.fs.length ≤ 12 ∧ ∀ f ∈ d.fs, fewFl f
noncomputable def fewDB (d : Dsk) : Bool := @decide (FewD d) (Classical.propDecidable _)
theorem fewDB_yes {d : Dsk} (h : FewD d) : fewDB d = true := @decide_eq_true _ (Classical.propDecidable _) h
theorem fewDB_no {d : Dsk} (h : ¬ FewD d) : fewDB d = false := @decide_eq_false _ (Classical.propDecidable _) h
theorem fewDB_iff {d : Dsk} : fewDB d = true ↔ FewD d := ⟨fun h => Classical.byContradiction fun c => (by rw [fewDB_no c] at h; cases h), fewDB_yes⟩
set_option maxRecDepth 100000 in
set_option maxHeartbeats 8000000 in
theorem few15_any (d : Dsk) (v : Value) (w : World) (h : IsDfs w v d.fs) :
    Calls Try.prog 9 #[dskV v d] w fun e w' => e = .returned (.bool (fewDB d)) ∧ Below w.heap.size w w' := by
  obtain ⟨L, off, fuse⟩ := d
  unfold dskV
  dsimp only at h ⊢
  obtain ⟨V, hV⟩ : ∃ V, V = w.alloc (.cells #[v, .bool off, .int .i64 fuse] 24) := ⟨_, rfl⟩
  have hbV : Below w.heap.size w V := by rw [hV]; exact (Below.refl _ _).alloc (Nat.le_refl _) _
  have HV := Lib.hid hV; have HI := Lib.hid (h.stays hbV); have HB0 := Lib.hid hbV
  obtain ⟨hml, a, cap, hu, _, _⟩ := h
  obtain ⟨z, hz⟩ : ∃ z, z = L.length := ⟨_, rfl⟩
  rw [← hz] at hu
  subst hu
  have HZ := Lib.hid hz
  have hmz : z ≤ 9223372036854775807 := by unfold maxLen at hml; omega
  clear hV hbV hml hz
  by_cases c1 : z ≤ 12
  · have d1 : decide ((12 : Int) < (z : Int)) = false := decide_eq_false (by omega)
    go_enter Try.func9, Try.ntmps9
    go_wp2_with fail
    rw [← HV.out]
    go_loopw [14] (fun i wr => ∃ k : Nat, k ≤ z ∧ i = .int .i64 k ∧ (∀ f ∈ L.take k, fewFl f) ∧ Below V.heap.size V wr) (fun i _ => z - (intOf i).toNat)
    case atStart => exact ⟨0, Nat.zero_le _, rfl, fun f h => (by cases h), Below.refl _ _⟩
    case round =>
      obtain ⟨k, hk, rfl, hf, hB⟩ := hrel
      have HF := Lib.hid hf; have HB := Lib.hid hB
      by_cases hlt : k < z
      · have hko : k < L.length := by have := HZ.out; omega
        obtain ⟨_, _, _, hev, _, hc⟩ := HI.out.stays hB
        rw [← HZ.out] at hev
        cases hev
        obtain ⟨b1, o1, rfl, hbl, g1⟩ := hc (by omega)
        obtain ⟨u, q0, q1, q2, hu⟩ := g1 k hko
        have HME := Lib.hid (List.getElem_mem hko)
        have HTK := Lib.hid (List.take_succ_eq_append_getElem hko)
        obtain ⟨x, hx⟩ : ∃ x, x = L[k]'hko := ⟨_, rfl⟩
        rw [← hx] at q0 q1 hu HME HTK
        have HBAD := Lib.hid (fun hh : ¬ fewFl x => fewDB_no (d := ⟨L, off, fuse⟩) fun c => hh (c.2 x HME.out))
        have hbk : decide ((k : Int) < (z : Int)) = true := by simpa using (show (k : Int) < z by omega)
        obtain ⟨uu, ucc, rfl⟩ := hu.len
        obtain ⟨X, hX⟩ : ∃ X, X = wr.alloc (.cells #[.string x.n, .string x.d, .slice uu x.ops.length ucc] 47) := ⟨_, rfl⟩
        have hbX : Below wr.heap.size wr X := by rw [hX]; exact (Below.refl _ _).alloc (Nat.le_refl _) _
        have HX := Lib.hid hX; have HU := Lib.hid (hu.stays hbX); have HBX := Lib.hid (below_step hB hbX)
        obtain ⟨n, hn⟩ : ∃ n, n = x.ops.length := ⟨_, rfl⟩
        rw [← hn] at HX q2 HU
        have HN := Lib.hid hn
        have hnm : n ≤ 9223372036854775807 := by have := HU.out.1; unfold maxLen at this; rw [hn]; omega
        clear g1 hc hx hf hB hu hX hbX hn
        by_cases e1 : x.n.size ≤ 100
        · have f1 : decide ((100 : Int) < (x.n.size : Int)) = false := decide_eq_false (by omega)
          by_cases e2 : x.d.size ≤ 20000
          · have f2 : decide ((20000 : Int) < (x.d.size : Int)) = false := decide_eq_false (by omega)
            by_cases e3 : n ≤ 210
            · have f3 : decide ((210 : Int) < (n : Int)) = false := decide_eq_false (by omega)
              have HE := Lib.hid (show x.n.size ≤ 100 ∧ x.d.size ≤ 20000 ∧ x.ops.length ≤ 210 from ⟨e1, e2, by rw [← HN.out]; exact e3⟩)
              go_wp2_with fail
              rw [← HX.out]
              go_loopw [37] (fun i wq => ∃ j : Nat, j ≤ n ∧ i = .int .i64 j ∧ (∀ o ∈ x.ops.take j, fewOp o) ∧ Below X.heap.size X wq) (fun i _ => n - (intOf i).toNat)
              case atStart => exact ⟨0, Nat.zero_le _, rfl, fun o h => (by cases h), Below.refl _ _⟩
              case round =>
                clear q0 q1 q2
                obtain ⟨j, hj, rfl, hjo, hBq⟩ := hrel
                have HJO := Lib.hid hjo; have HBQ := Lib.hid hBq
                by_cases hlj : j < n
                · have hjo2 : j < x.ops.length := by have := HN.out; omega
                  obtain ⟨_, _, _, hev, _, hc⟩ := HU.out.stays hBq
                  rw [← HN.out] at hev
                  cases hev
                  obtain ⟨b2, o2, rfl, hbl2, g2⟩ := hc (by omega)
                  obtain ⟨q0, q1⟩ := g2 j hjo2
                  have HME2 := Lib.hid (List.getElem_mem hjo2)
                  have HTJ := Lib.hid (List.take_succ_eq_append_getElem hjo2)
                  obtain ⟨o, ho⟩ : ∃ o, o = x.ops[j]'hjo2 := ⟨_, rfl⟩
                  rw [← ho] at q0 q1 HME2 HTJ
                  have HBO := Lib.hid (fun hh : ¬ fewOp o => HBAD.out fun c => hh (c.2.2.2 o HME2.out))
                  have hbj : decide ((j : Int) < (n : Int)) = true := by simpa using (show (j : Int) < n by omega)
                  have HB3 := Lib.hid (below_step hBq ((Below.refl _ _).alloc (Nat.le_refl _) (.cells #[.int .i64 o.at_, .string o.d] 52)))
                  have HN1 := Lib.hid (fun hh : ¬ fewOp o => HBO.out hh)
                  clear g2 hc ho hjo hBq
                  by_cases h5 : o.d.size ≤ 5000
                  · have g5 : decide ((5000 : Int) < (o.d.size : Int)) = false := decide_eq_false (by omega)
                    by_cases h6 : 20000 < o.at_
                    · have g6 : decide (20000 < o.at_) = true := decide_eq_true h6
                      by_cases h7 : o.at_ ≤ 262144
                      · have g7 : decide (o.at_ ≤ 262144) = true := decide_eq_true h7
                        have HNO := Lib.hid (HN1.out fun c => c.2 ⟨h6, h7⟩)
                        go_wp2
                        go_ret
                        exact ⟨by rw [HNO.out]; rfl, below_step HB0.out (below_step HBX.out HB3.out)⟩
                      · have g7 : decide (o.at_ ≤ 262144) = false := decide_eq_false h7
                        have HOK : Hid (∀ y ∈ x.ops.take (j + 1), fewOp y) := Lib.hid (fun y hy => by
                          rw [HTJ.out] at hy
                          rcases List.mem_append.1 hy with hy | hy
                          · exact HJO.out y hy
                          · rw [List.mem_singleton.1 hy]; exact ⟨h5, fun c => h7 c.2⟩)
                        go_wp2
                        go_roundw
                        case rel => exact ⟨j + 1, by omega, by go_num, HOK.out, HB3.out⟩
                        case measure => simp [intOf]; omega
                    · have g6 : decide (20000 < o.at_) = false := decide_eq_false h6
                      have HOK : Hid (∀ y ∈ x.ops.take (j + 1), fewOp y) := Lib.hid (fun y hy => by
                        rw [HTJ.out] at hy
                        rcases List.mem_append.1 hy with hy | hy
                        · exact HJO.out y hy
                        · rw [List.mem_singleton.1 hy]; exact ⟨h5, fun c => h6 c.1⟩)
                      go_wp2
                      go_roundw
                      case rel => exact ⟨j + 1, by omega, by go_num, HOK.out, HB3.out⟩
                      case measure => simp [intOf]; omega
                  · have g5 : decide ((5000 : Int) < (o.d.size : Int)) = true := decide_eq_true (by omega)
                    have HNO := Lib.hid (HN1.out fun c => h5 c.1)
                    go_wp2
                    go_ret
                    exact ⟨by rw [HNO.out]; rfl, below_step HB0.out (below_step HBX.out HB3.out)⟩
                · obtain rfl : j = n := by omega
                  have hbj : decide ((j : Int) < (j : Int)) = false := by simp
                  have HOK : Hid (∀ y ∈ L.take (k + 1), fewFl y) := Lib.hid (fun y hy => by
                    rw [HTK.out] at hy
                    rcases List.mem_append.1 hy with hy | hy
                    · exact HF.out y hy
                    · rw [List.mem_singleton.1 hy]
                      refine ⟨HE.out.1, HE.out.2.1, HE.out.2.2, ?_⟩
                      have hx := HJO.out
                      rwa [List.take_of_length_le (by have := HN.out; omega)] at hx)
                  have HB9 := Lib.hid (below_step HBX.out hBq)
                  clear hjo hBq
                  go_wp2
                  go_roundw
                  case rel => exact ⟨k + 1, by omega, by go_num, HOK.out, HB9.out⟩
                  case measure => simp [intOf]; omega
            · have f3 : decide ((210 : Int) < (n : Int)) = true := decide_eq_true (by omega)
              have HNO := Lib.hid (HBAD.out fun c => e3 (by rw [HN.out]; exact c.2.2.1))
              go_wp2
              go_ret
              exact ⟨by rw [HNO.out]; rfl, below_step HB0.out (by rw [← HX.out]; exact HBX.out)⟩
          · have f2 : decide ((20000 : Int) < (x.d.size : Int)) = true := decide_eq_true (by omega)
            have HNO := Lib.hid (HBAD.out fun c => e2 c.2.1)
            go_wp2
            go_ret
            exact ⟨by rw [HNO.out]; rfl, below_step HB0.out (by rw [← HX.out]; exact HBX.out)⟩
        · have f1 : decide ((100 : Int) < (x.n.size : Int)) = true := decide_eq_true (by omega)
          have HNO := Lib.hid (HBAD.out fun c => e1 c.1)
          go_wp2
          go_ret
          exact ⟨by rw [HNO.out]; rfl, below_step HB0.out (by rw [← HX.out]; exact HBX.out)⟩
      · obtain rfl : k = z := by omega
        have hbk : decide ((k : Int) < (k : Int)) = false := by simp
        have HS := Lib.hid (fewDB_yes (d := ⟨L, off, fuse⟩) (by
          have hx := HF.out
          rw [List.take_of_length_le (by have := HZ.out; omega)] at hx
          exact ⟨by have := HZ.out; show L.length ≤ 12; omega, hx⟩))
        have hb9 := below_step HB0.out hB
        clear hf hB
        go_wp2
        go_ret
        exact ⟨by rw [HS.out]; rfl, hb9⟩
  · have d1 : decide ((12 : Int) < (z : Int)) = true := decide_eq_true (by omega)
    have HN := Lib.hid (fewDB_no (d := ⟨L, off, fuse⟩) fun c => c1 (by rw [HZ.out]; exact c.1))
    go_enter Try.func9, Try.ntmps9
    go_wp2_with fail
    go_ret
    exact ⟨by rw [HN.out]; rfl, (Below.refl _ _).alloc (Nat.le_refl _) _⟩
end Go.Proofs.Ytninfmlemdnjbaa

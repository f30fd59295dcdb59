/-
  NodeKids as a walk over this translation.
-/
import Derived.Test.YtohicccbaenegaaGreatDoorYNea
import Derived.Test.YtohicccbaenegaaGreatDoorYNed
import Derived.Test.YtohicccbaenegaaGreatDoorYKfi
import Derived.Test.YtohicccbaenegaaGreatDoorYNdg
import Derived.Test.YtohicccbaenegaaGreatDoorQ3
import Derived.Lib.RowBridge
set_option linter.unusedVariables false
namespace Go.Proofs.YtohicccbaenegaaGreatDoor
open Go.RowKit
attribute [local go_sem] Oper.semAt_some

theorem ofL_len (l : List Txt) : (ofL l).length ≤ l.length := by
  unfold ofL
  refine Nat.le_trans (Lib.compact_length_le _) ?_
  rw [List.length_mergeSort]
  exact List.length_filter_le _ _
theorem ofL_none : ofL [] = [] := List.eq_nil_iff_forall_not_mem.2 fun x hx => absurd (((ofL_spec []).2 x).1 hx).1 (by simp)
theorem kids_none (d : ByteArray) : ofL (kidsN ⟨1, d, [], []⟩) = [] := ofL_none
theorem hasP {n : Nd} {k : Nat} (hk : k < n.ps.length) : hasB (ofL (kidsN n)) n.ps[k].k.data.toList = decide (n.ps[k].k.size = 32) := by
  have hm : n.ps[k].k.data.toList ∈ kidsN n := List.mem_append.2 (.inl (List.mem_map.2 ⟨n.ps[k], List.getElem_mem _, rfl⟩))
  have := (ofL_spec (kidsN n)).2 n.ps[k].k.data.toList
  unfold hasB
  rw [← Bool.coe_iff_coe, decide_eq_true_eq, decide_eq_true_eq, this, Lib.size_eq]
  exact ⟨fun h => h.2, fun h => ⟨hm, h⟩⟩
theorem hasE {n : Nd} {k : Nat} (hk : k < n.es.length) : hasB (ofL (kidsN n)) n.es[k].k.data.toList = decide (n.es[k].k.size = 32) := by
  have hm : n.es[k].k.data.toList ∈ kidsN n := List.mem_append.2 (.inr (List.mem_map.2 ⟨n.es[k], List.getElem_mem _, rfl⟩))
  have := (ofL_spec (kidsN n)).2 n.es[k].k.data.toList
  unfold hasB
  rw [← Bool.coe_iff_coe, decide_eq_true_eq, decide_eq_true_eq, this, Lib.size_eq]
  exact ⟨fun h => h.2, fun h => ⟨hm, h⟩⟩

/-- What stands while the law runs. -/
def One (w : World) (n : Nd) (a b v : Value) (L : List ByteArray) (W : World) : Prop :=
  NdBox W w.heap.size n a b ∧ (IsParts W a n.ps ∧ IsEntries W b n.es) ∧ IsStrs W v L ∧ ErrT W ∧ Below w.heap.size w W
theorem One.on {w W W' : World} {n : Nd} {a b v : Value} {L : List ByteArray} (h : One w n a b v L W) (hb : Below W.heap.size W W') : One w n a b v L W' :=
  ⟨h.1.stays hb, ⟨h.2.1.1.stays hb, h.2.1.2.stays hb⟩, h.2.2.1.stays hb, h.2.2.2.1.stays hb, below_step h.2.2.2.2 hb⟩
theorem One.errT {w W : World} {n : Nd} {a b v : Value} {L : List ByteArray} (h : One w n a b v L W) : ErrT W := h.2.2.2.1
theorem One.parts {w W : World} {n : Nd} {a b v : Value} {L : List ByteArray} (h : One w n a b v L W) : IsParts W a n.ps := h.2.1.1
theorem One.entries {w W : World} {n : Nd} {a b v : Value} {L : List ByteArray} (h : One w n a b v L W) : IsEntries W b n.es := h.2.1.2
theorem One.strs {w W : World} {n : Nd} {a b v : Value} {L : List ByteArray} (h : One w n a b v L W) : IsStrs W v L := h.2.2.1
theorem One.below {w W : World} {n : Nd} {a b v : Value} {L : List ByteArray} (h : One w n a b v L W) : Below w.heap.size w W := h.2.2.2.2
theorem One.cells {w W : World} {n : Nd} {a b v : Value} {L : List ByteArray} (h : One w n a b v L W) :
    W.cell? ⟨w.heap.size, 0, none⟩ = some (.int .i64 n.kd) ∧ W.cell? ⟨w.heap.size, 1, none⟩ = some (.string n.d) ∧ W.cell? ⟨w.heap.size, 2, none⟩ = some a ∧ W.cell? ⟨w.heap.size, 3, none⟩ = some b := h.1.cells
theorem One.has {w W : World} {n : Nd} {a b v : Value} {L : List ByteArray} (h : One w n a b v L W) (x : ByteArray) {c : Bool} (hc : hasB (txts L) x.data.toList = c) :
    Calls Tryz.prog 23 #[v, .string x] W fun e w' => e = .returned (.bool c) ∧ Below W.heap.size W w' :=
  (refHas_any v L x W h.2.2.1).mono fun e w' ⟨h1, h2⟩ => ⟨by rw [← hc]; exact h1, by rw [← h2]; exact Below.refl _ _⟩

set_option maxRecDepth 100000 in
set_option maxHeartbeats 40000000 in
theorem NodeKids_w (n : Nd) (pv ev : Value) (w : World) (hp : IsParts w pv n.ps) (he : IsEntries w ev n.es) (hT : ErrT w) :
    Calls Tryz.prog 5 #[ndV n pv ev] w fun e w' => e = .returned (.bool true) ∧ Below w.heap.size w w' := by
  have HP := Lib.hid hp; have HE := Lib.hid he
  obtain ⟨_, a1, cap1, hv1, _, _⟩ := hp
  obtain ⟨_, a2, cap2, hv2, _, _⟩ := he
  subst hv1 hv2
  obtain ⟨V, hV⟩ : ∃ V, V = w.alloc (.cells #[.int .i64 n.kd, .string n.d, .slice a1 n.ps.length cap1, .slice a2 n.es.length cap2] 25) := ⟨_, rfl⟩
  have hbV : Below w.heap.size w V := by rw [hV]; exact (Below.refl _ _).alloc (Nat.le_refl _) _
  have hX : NdBox V w.heap.size n (.slice a1 n.ps.length cap1) (.slice a2 n.es.length cap2) := by rw [hV]; exact ndBox_new w n _ _ _
  have HH : Hid (One w n (.slice a1 n.ps.length cap1) (.slice a2 n.es.length cap2) (.slice none 0 0) [] V) := Lib.hid ⟨hX, ⟨HP.out.stays hbV, HE.out.stays hbV⟩, isStrs_nil V, hT.stays hbV, hbV⟩
  have HV := Lib.hid hV
  have AW := Lib.hid awake_any
  have F1 : Hid (∀ W, One w n (.slice a1 n.ps.length cap1) (.slice a2 n.es.length cap2) (.slice none 0 0) [] W → _) := Lib.hid fun W h => few_any n (.slice a1 n.ps.length cap1) (.slice a2 n.es.length cap2) W h.2.1.1 h.2.1.2
  clear hV hbV hX HP HE hT
  obtain ⟨c0, c1, c2, c3⟩ := HH.out.cells
  rcases hf1 : fewN n with _ | _
  · rw [hf1] at F1
    clear hf1
    go_enter Tryz.func5, Tryz.ntmps5
    go_wp2_with fail
    rw [← HV.out]
    go_wp2_with fail
    with_reducible refine (F1.out _ HH.out).mono ?_
    rintro e w1 ⟨rfl, hb⟩
    replace HH := Lib.hid (HH.out.on hb)
    clear hb
    go_wp2_with fail
    with_reducible refine (AW.out _ (One.errT HH.out)).mono ?_
    rintro e w9 ⟨rfl, hb⟩
    go_wp2
    go_ret
    exact ⟨rfl, below_step HH.out.below hb⟩
  · rw [hf1] at F1
    obtain ⟨_, l1, l2, _, _⟩ := few_n hf1
    have hkl : (kidsN n).length ≤ n.ps.length + n.es.length := by unfold kidsN; rw [List.length_append, keysP_len, keysE_len]; exact Nat.le_refl _
    have hl3 : (ofL (kidsN n)).length ≤ n.ps.length + n.es.length := Nat.le_trans (ofL_len _) hkl
    have K1 : Hid (∀ W, One w n (.slice a1 n.ps.length cap1) (.slice a2 n.es.length cap2) (.slice none 0 0) [] W → _) := Lib.hid fun W h => pKids_any n (.slice a1 n.ps.length cap1) (.slice a2 n.es.length cap2) W h.2.1.1 h.2.1.2 (by omega)
    have K2 := Lib.hid (fun W => pKids_any ⟨1, n.d, [], []⟩ (.slice none 0 0) (.slice none 0 0) W (parts_nil _) (entries_nil _) (Nat.zero_le _))
    rw [kids_none] at K2
    have H1 : Hid (∀ k (hk : k < n.ps.length), hasB (ofL (kidsN n)) n.ps[k].k.data.toList = decide (n.ps[k].k.size = 32)) := Lib.hid fun k hk => hasP hk
    have H2 : Hid (∀ k (hk : k < n.es.length), hasB (ofL (kidsN n)) n.es[k].k.data.toList = decide (n.es[k].k.size = 32)) := Lib.hid fun k hk => hasE hk
    have HF := Lib.hid (fitB_true (ofL_fit (kidsN n)))
    obtain ⟨L, hL⟩ : ∃ L, L = strsOf (ofL (kidsN n)) := ⟨_, rfl⟩
    have hLt : txts L = ofL (kidsN n) := by rw [hL, txts_strsOf]
    have hLl : L.length ≤ n.ps.length + n.es.length := by rw [hL, strsOf_len]; exact hl3
    have K1b : Hid (∀ W, One w n (.slice a1 n.ps.length cap1) (.slice a2 n.es.length cap2) (.slice none 0 0) [] W → Calls Tryz.prog 18 #[ndV n (.slice a1 n.ps.length cap1) (.slice a2 n.es.length cap2)] W fun e w' => ∃ v', e = .returned v' ∧ IsStrs w' v' L ∧ Below W.heap.size W w') := Lib.hid fun W h => by rw [hL]; exact K1.out W h
    clear K1
    rw [← hLt] at H1 H2 HF
    clear hf1 hkl hl3 hL hLt
    go_enter Tryz.func5, Tryz.ntmps5
    go_wp2_with fail
    rw [← HV.out]
    go_wp2_with fail
    with_reducible refine (F1.out _ HH.out).mono ?_
    rintro e w1 ⟨rfl, hb⟩
    replace HH := Lib.hid (HH.out.on hb)
    clear hb c0 c1 c2 c3
    obtain ⟨c0, c1, c2, c3⟩ := HH.out.cells
    go_wp2_with fail
    with_reducible refine (K1b.out _ HH.out).mono ?_
    rintro e w2 ⟨v8, rfl, hs8, hb⟩
    have hH := HH.out.on hb
    replace HH : Hid (One w n (.slice a1 n.ps.length cap1) (.slice a2 n.es.length cap2) v8 L w2) := Lib.hid ⟨hH.1, hH.2.1, hs8, hH.2.2.2⟩
    obtain ⟨_, a8, cap8, hv8, _, _⟩ := hs8
    subst hv8
    clear hb hH c0 c1 c2 c3
    obtain ⟨c0, c1, c2, c3⟩ := HH.out.cells
    have FT := Lib.hid (refFit_any (.slice a8 L.length cap8) L w2 (One.strs HH.out))
    rw [HF.out] at FT
    go_wp2_with fail
    with_reducible refine FT.out.mono ?_
    rintro e w3 ⟨rfl, hb⟩
    replace HH := Lib.hid (HH.out.on hb)
    clear hb c0 c1 c2 c3
    obtain ⟨c0, c1, c2, c3⟩ := HH.out.cells
    have q1 : decide ((n.ps.length : Int) + (n.es.length : Int) < (L.length : Int)) = false := decide_eq_false (by omega)
    have q2 : ¬ 9223372036854775807 < n.ps.length + n.es.length := by omega
    clear FT
    go_wp2
    clear q1 q2
    go_loopw [32] (fun i wr => ∃ k : Nat, k ≤ n.ps.length ∧ i = .int .i64 k ∧ One w n (.slice a1 n.ps.length cap1) (.slice a2 n.es.length cap2) (.slice a8 L.length cap8) L wr) (fun i _ => n.ps.length - (intOf i).toNat)
    case atStart => exact ⟨0, Nat.zero_le _, rfl, HH.out⟩
    case round =>
      clear c0 c1 c2 c3
      obtain ⟨k, hk, rfl, hO⟩ := hrel
      replace HH := Lib.hid hO
      obtain ⟨c0, c1, c2, c3⟩ := HH.out.cells
      clear hO
      by_cases hlt : k < n.ps.length
      · obtain ⟨_, _, _, e, _, hc⟩ := One.parts HH.out
        cases e
        obtain ⟨b, off, rfl, hbl, g⟩ := hc (by omega)
        obtain ⟨u0, u1⟩ := g k hlt
        clear g hc
        have hbk : decide ((k : Int) < (n.ps.length : Int)) = true := by simpa using (show (k : Int) < n.ps.length by omega)
        have hH := H1.out k hlt
        obtain ⟨x, hx⟩ : ∃ x, x = n.ps[k] := ⟨_, rfl⟩
        rw [← hx] at u0 u1 hH
        clear hx
        obtain ⟨V2, hV2⟩ : ∃ V2, V2 = wr.alloc (.cells #[.string x.k, .int .i64 x.n] 40) := ⟨_, rfl⟩
        have hb2 : Below wr.heap.size wr V2 := by rw [hV2]; exact (Below.refl _ _).alloc (Nat.le_refl _) _
        have y0 : V2.cell? ⟨wr.heap.size, 0, none⟩ = some (.string x.k) := by rw [hV2]; simp
        have HG := Lib.hid (HH.out.on hb2)
        have HV2 := Lib.hid hV2
        clear hV2 hb2
        rcases hsz : decide (x.k.size = 32) with _ | _
        · rw [hsz] at hH
          have q := ie_f (show (x.k.size : Int) ≠ 32 by have := of_decide_eq_false hsz; omega)
          have HA := Lib.hid (fun W (hb : Below V2.heap.size V2 W) => (HG.out.on hb).has x.k hH)
          clear hsz hH
          go_wp2_with fail
          rw [← HV2.out]
          have k0 := fun d os => cell_regrown y0 d os
          refine wp_region_quiet_below (by kernel_rfl) (by kernel_rfl) ?_
          repeat (first | go_big_quiet_step ((with_reducible exact Calls.regrown_of (HA.out _ (below_regrown _ _ _)))) | quiet_step ((with_reducible exact Calls.regrown_of (HA.out _ (below_regrown _ _ _)))))
          refine wpQuiet_nil ?_
          intro wq hwq
          have hbq : Below V2.heap.size V2 wq := by obtain ⟨p, rfl⟩ := hwq; exact below_regrown _ _ _
          replace HG := Lib.hid (HG.out.on hbq)
          clear hwq hbq k0 y0 c0 c1 c2 c3 u0 u1
          go_wp2
          go_roundw
          case rel => exact ⟨k + 1, by omega, by go_num, HG.out⟩
          case measure => simp [intOf]; omega
        · rw [hsz] at hH
          have q := ie_t (show (x.k.size : Int) = 32 by have := of_decide_eq_true hsz; omega)
          have HA := Lib.hid (fun W (hb : Below V2.heap.size V2 W) => (HG.out.on hb).has x.k hH)
          clear hsz hH
          go_wp2_with fail
          rw [← HV2.out]
          have k0 := fun d os => cell_regrown y0 d os
          refine wp_region_quiet_below (by kernel_rfl) (by kernel_rfl) ?_
          repeat (first | go_big_quiet_step ((with_reducible exact Calls.regrown_of (HA.out _ (below_regrown _ _ _)))) | quiet_step ((with_reducible exact Calls.regrown_of (HA.out _ (below_regrown _ _ _)))))
          refine wpQuiet_nil ?_
          intro wq hwq
          have hbq : Below V2.heap.size V2 wq := by obtain ⟨p, rfl⟩ := hwq; exact below_regrown _ _ _
          replace HG := Lib.hid (HG.out.on hbq)
          clear hwq hbq k0 y0 c0 c1 c2 c3 u0 u1
          go_wp2
          go_roundw
          case rel => exact ⟨k + 1, by omega, by go_num, HG.out⟩
          case measure => simp [intOf]; omega
      · skip
        go_wp2
        go_loopw [49] (fun i wr => ∃ k : Nat, k ≤ n.es.length ∧ i = .int .i64 k ∧ One w n (.slice a1 n.ps.length cap1) (.slice a2 n.es.length cap2) (.slice a8 L.length cap8) L wr) (fun i _ => n.es.length - (intOf i).toNat)
        case atStart => exact ⟨0, Nat.zero_le _, rfl, HH.out⟩
        case round =>
          clear c0 c1 c2 c3
          obtain ⟨k, hk, rfl, hO⟩ := hrel
          replace HH := Lib.hid hO
          obtain ⟨c0, c1, c2, c3⟩ := HH.out.cells
          clear hO
          by_cases hlt : k < n.es.length
          · obtain ⟨_, _, _, e, _, hc⟩ := One.entries HH.out
            cases e
            obtain ⟨b, off, rfl, hbl, g⟩ := hc (by omega)
            obtain ⟨u0, u1, u2, u3⟩ := g k hlt
            clear g hc
            have hbk : decide ((k : Int) < (n.es.length : Int)) = true := by simpa using (show (k : Int) < n.es.length by omega)
            have hH := H2.out k hlt
            obtain ⟨x, hx⟩ : ∃ x, x = n.es[k] := ⟨_, rfl⟩
            rw [← hx] at u0 u1 u2 u3 hH
            clear hx
            obtain ⟨V2, hV2⟩ : ∃ V2, V2 = wr.alloc (.cells #[.string x.m, .int .i64 x.kd, .bool x.x, .string x.k] 43) := ⟨_, rfl⟩
            have hb2 : Below wr.heap.size wr V2 := by rw [hV2]; exact (Below.refl _ _).alloc (Nat.le_refl _) _
            have y0 : V2.cell? ⟨wr.heap.size, 3, none⟩ = some (.string x.k) := by rw [hV2]; simp
            have HG := Lib.hid (HH.out.on hb2)
            have HV2 := Lib.hid hV2
            clear hV2 hb2
            rcases hsz : decide (x.k.size = 32) with _ | _
            · rw [hsz] at hH
              have q := ie_f (show (x.k.size : Int) ≠ 32 by have := of_decide_eq_false hsz; omega)
              have HA := Lib.hid (fun W (hb : Below V2.heap.size V2 W) => (HG.out.on hb).has x.k hH)
              clear hsz hH
              go_wp2_with fail
              rw [← HV2.out]
              have k0 := fun d os => cell_regrown y0 d os
              refine wp_region_quiet_below (by kernel_rfl) (by kernel_rfl) ?_
              repeat (first | go_big_quiet_step ((with_reducible exact Calls.regrown_of (HA.out _ (below_regrown _ _ _)))) | quiet_step ((with_reducible exact Calls.regrown_of (HA.out _ (below_regrown _ _ _)))))
              refine wpQuiet_nil ?_
              intro wq hwq
              have hbq : Below V2.heap.size V2 wq := by obtain ⟨p, rfl⟩ := hwq; exact below_regrown _ _ _
              replace HG := Lib.hid (HG.out.on hbq)
              clear hwq hbq k0 y0 c0 c1 c2 c3 u0 u1 u2 u3
              go_wp2
              go_roundw
              case rel => exact ⟨k + 1, by omega, by go_num, HG.out⟩
              case measure => simp [intOf]; omega
            · rw [hsz] at hH
              have q := ie_t (show (x.k.size : Int) = 32 by have := of_decide_eq_true hsz; omega)
              have HA := Lib.hid (fun W (hb : Below V2.heap.size V2 W) => (HG.out.on hb).has x.k hH)
              clear hsz hH
              go_wp2_with fail
              rw [← HV2.out]
              have k0 := fun d os => cell_regrown y0 d os
              refine wp_region_quiet_below (by kernel_rfl) (by kernel_rfl) ?_
              repeat (first | go_big_quiet_step ((with_reducible exact Calls.regrown_of (HA.out _ (below_regrown _ _ _)))) | quiet_step ((with_reducible exact Calls.regrown_of (HA.out _ (below_regrown _ _ _)))))
              refine wpQuiet_nil ?_
              intro wq hwq
              have hbq : Below V2.heap.size V2 wq := by obtain ⟨p, rfl⟩ := hwq; exact below_regrown _ _ _
              replace HG := Lib.hid (HG.out.on hbq)
              clear hwq hbq k0 y0 c0 c1 c2 c3 u0 u1 u2 u3
              go_wp2
              go_roundw
              case rel => exact ⟨k + 1, by omega, by go_num, HG.out⟩
              case measure => simp [intOf]; omega
          · skip
            have K2w := Lib.hid (K2.out wr)
            go_wp2_with fail
            with_reducible refine (K2.out _).mono ?_
            rintro e w5 ⟨v9, rfl, hs9, hb⟩
            obtain ⟨_, a9, cap9, hv9, _, _⟩ := hs9
            have hv9 : v9 = .slice a9 0 cap9 := hv9
            subst hv9
            replace HH := Lib.hid (HH.out.on hb)
            clear hb c0 c1 c2 c3
            go_wp2_with fail
            with_reducible refine (AW.out _ (One.errT HH.out)).mono ?_
            rintro e w9 ⟨rfl, hb⟩
            go_wp2
            go_ret
            exact ⟨rfl, below_step HH.out.below hb⟩
end Go.Proofs.YtohicccbaenegaaGreatDoor

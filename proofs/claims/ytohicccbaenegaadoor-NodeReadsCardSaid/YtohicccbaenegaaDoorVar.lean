/-
  Contracts of varint's calls over this translation: Put, Take, Zig, Zag, PutText, TakeText.
-/
import Derived.RangeFuncNested
import Derived.RangeFuncBound
import Derived.RangeFuncCalls
import Derived.RangeFuncLeaves
import Derived.Shelf.Abstract
import Derived.Shelf.RegionOpen
import Derived.WalkKit
import Derived.OwnWalkIn
import Derived.TacticsInMore
import Derived.LoopNIn
import Derived.LoopIn
import Derived.Outline
import Derived.Lib.Hide
import Derived.Test.YtohicccbaenegaaDoorBuf
import Derived.Test.YtohicccbaenegaaDoorRan
import Derived.Test.YtohicccbaenegaaDoorVam
import Derived.Test.YtohicccbaenegaaDoorRef
set_option linter.unusedVariables false
namespace Go.Proofs.YtohicccbaenegaaDoor
open Go.RowKit Go.Shelf
attribute [local go_sem] Oper.semAt_some

abbrev encB (c : UInt8) : Value := .int .u8 c.toNat

set_option maxHeartbeats 1000000 in
set_option maxRecDepth 100000 in
theorem numberBytes1_stops (F : Fence) (n : Nat) (hf : F.fn 63) (hro : F.round = none) (hn : 1 ≤ n) (Bn : Nat) (Kp : World → World → Prop) (v : Nat) (hv : U64 v) (w : World) (hB : Bn < w.heap.size)
    (hc : w.cell? ⟨Bn, 0, none⟩ = some (.int .u64 v)) :
    SeqStopsK F n Tryd.prog 63 #[.pointer (some ⟨Bn, 0, none⟩)] (fun c => #[encB c]) Kp (fun xs => xs = vput v) (fun pre => pre <+: vput v) (vput v).length w := fun l J Jx W hW hJ hJx hY h0 => by
  have hc1 : W.cell? ⟨Bn, 0, none⟩ = some (.int .u64 v) := (hW.cell (p := ⟨Bn, 0, none⟩) hB).trans hc
  refine callsIn_of_wp Tryd.func63 rfl hf ?_ hro
  simp only [Tryd.ntmps63, List.size_toArray, List.length_cons, List.length_nil, Nat.reduceAdd, Nat.reduceSub, Array.replicate_succ, Array.replicate_zero, List.push_toArray, List.append_toArray, List.nil_append, List.cons_append]
  gi_wp2
  gi_loopw [3] (fun p wr => ∃ (pre : List UInt8) (k r : Nat), p = .int .u64 r ∧ left v pre k r ∧ J pre wr)
    (fun p wr => (intOf p).toNat)
  case atStart =>
    exact ⟨[], 9, v, rfl, ⟨by unfold U64 at hv; omega, hv, rfl⟩, h0⟩
  case round =>
    obtain ⟨pre, k, r, rfl, hl, hJs⟩ := hrel
    have hu : U64 r := hl.2.1
    by_cases h : 128 ≤ r
    · have hY1 := hY pre (UInt8.ofNat (r % 128 + 128)) wr hJs (by rw [hl.2.2, vputF_hi h]; simp)
      obtain ⟨fn, tmps, assign, body, hy, hR⟩ := hY1
      simp only [encB] at hy
      rw [← low_byte hu] at hy
      clear hY
      gi_wp2
      refine hR.mono ?_
      rintro e W3 (⟨rfl, hJ3, hk3⟩ | ⟨rfl, hJx3⟩)
      · gi_wp2
        go_roundw
        case rel => 
          refine ⟨_, k - 1, r / 128, by go_num, left_step hl h, hJ3⟩
        case measure => simp [intOf]; omega
      · gi_wp2
        refine bodyPost_ret (results_none rfl _ _ _) rfl ?_
        exact ⟨⟨_, rfl⟩, .inr ⟨_, left_pre hl h, hJx3⟩⟩
    · have hlt : r < 128 := by omega
      have hY1 := hY pre (UInt8.ofNat r) wr hJs (by rw [hl.2.2, vputF_lo hlt]; simp)
      obtain ⟨fn, tmps, assign, body, hy, hR⟩ := hY1
      simp only [encB] at hy
      rw [last_byte hlt] at hy
      clear hY
      have hfin : vput v = pre ++ [UInt8.ofNat r] := by rw [hl.2.2, vputF_lo hlt]
      have Hfin := Lib.hid hfin; clear hfin
      gi_wp2
      refine hR.mono ?_
      rintro e W3 (⟨rfl, hJ3, hk3⟩ | ⟨rfl, hJx3⟩)
      · gi_wp2
        go_end0
        exact ⟨⟨_, rfl⟩, .inl ⟨_, Hfin.out.symm, hJ3⟩⟩
      · gi_wp2
        go_end0
        exact ⟨⟨_, rfl⟩, .inr ⟨_, by rw [Hfin.out]; exact List.prefix_refl _, hJx3⟩⟩

theorem numberBytes_any (v : Nat) (w : World) :
    Calls Tryd.prog 55 #[.int .u64 v] w fun e w' => e = .returned (.func (.func 63) #[] #[.pointer (some ⟨w.heap.size, 0, none⟩)]) ∧ w' = w.alloc (.cells #[.int .u64 v] 44) := by
  go_enter Tryd.func55, Tryd.ntmps55
  go_wp2
  go_ret
  exact ⟨rfl, rfl⟩

set_option maxRecDepth 100000 in
set_option maxHeartbeats 2000000 in
theorem Put_any (v : Nat) (hv : U64 v) (w : World) :
    Calls Tryd.prog 38 #[.int .u64 v] w fun e w' => e = .returned (.string ⟨(vput v).toArray⟩) ∧ Below w.heap.size w w' := by
  refine (callsIn_wide (n := 5)).1 ?_
  have hro : Fence.wide.round = none := rfl
  refine callsIn_of_wp_marks Tryd.func38 rfl trivial ?_ hro
  simp only [Tryd.ntmps38, List.size_toArray, List.length_cons, List.length_nil, Nat.reduceAdd, Nat.reduceSub, Array.replicate_succ, Array.replicate_zero, List.push_toArray, List.append_toArray, List.nil_append, List.cons_append]
  gi_wp2_with (refine ⟨trivial, ?_⟩; gi_at_call 55; refine (callsIn_wide.2 (numberBytes_any v _)).mono ?_; rintro e w' ⟨rfl, rfl⟩)
  have hc := (Boxed.new (w.alloc (.cells #[.pointer none, .slice none 0 0] 88)) 44 (.int .u64 v)).cell
  rw [World.size_alloc] at hc
  have hB0 : Below w.heap.size w ((w.alloc (.cells #[.pointer none, .slice none 0 0] 88)).alloc (.cells #[.int .u64 v] 44)) := ((Below.refl _ w).alloc (Nat.le_refl _) _).alloc (by simp) _
  have hI0 : Lib.IsBuilderF 88 5 w.heap.size w.heap.size [] ((w.alloc (.cells #[.pointer none, .slice none 0 0] 88)).alloc (.cells #[.int .u64 v] 44)) :=
    (Lib.IsBuilderF.of (Lib.fresh_isBuilder 88 5 w)).alloc _
  refine wpIn_rangeFunc_ownF hro (by decide) (gf := 63) (lb := #[.pointer (some ⟨w.heap.size + 1, 0, none⟩)]) rfl trivial (enters_of Tryd.func63 (by kernel_rfl) rfl)
    (numberBytes1_stops Fence.wide 4 trivial hro (by decide) (w.heap.size + 1) (Below w.heap.size) v hv _ (by simp) hc) belowK_t (belowK_b (by simp; omega)) (Below.refl _ _) (fun _ => rfl)
    (fun pre W => Lib.IsBuilderF 88 5 w.heap.size w.heap.size (Lib.byteCells pre) W ∧ Below w.heap.size w W)
    (fun _ _ _ => False)
    (OwnFrom.and (Own.from (isBuilderF_own 88 5 w.heap.size w.heap.size (fun pre : List UInt8 => Lib.byteCells pre)) _) (ownFrom_below (Nat.le_refl _) (by simp; omega)))
    (fun _ _ _ _ _ hs _ _ => hs)
    ⟨hI0, hB0⟩
    (fun x => { tmps := #[.int .u64 v, undef, .string { data := #[] }, .pointer (some ⟨w.heap.size, 0, none⟩), encB x, .int .u64 v, .func (.func 63) #[] #[.pointer (some ⟨w.heap.size + 1, 0, none⟩)], encB x, undef, undef, undef], defers := [] }) ?assign ?body ?done ?stop
  case assign =>
    intro l x W K hK
    gi_wp2
    exact hK
  case body =>
    rintro l pre x W ⟨hI, hB⟩ hlen
    have hl10 := vput_len v
    have hcc : (Lib.byteCells pre).length + 1 ≤ 140737488355328 := by rw [Lib.byteCells_length]; omega
    have hbw := hB.size
    gi_wp2_with (refine ⟨trivial, ?_⟩; gi_at_call 56; refine (CallsIn.inRound l (callsIn_wide.2 (WriteByte_k w.heap.size w.heap.size (Lib.byteCells pre) _ W hI hcc hbw))).mono ?_; rintro e w' ⟨rfl, hb', hbel, hoth⟩)
    refine ⟨keeps_of_others hoth hbel.size (isBuilderF_cells hI), hbel, .inr ?_, hB.trans hbel⟩
    rw [Lib.byteCells_append]; exact hb'
  case done =>
    rintro D xs W hD rfl ⟨hI, hB⟩ hK
    have hne : vput v ≠ [] := fun h => by have := vput_pos v; rw [h] at this; simp at this
    gi_wp2_with (refine ⟨trivial, ?_⟩; gi_at_call 39; refine (callsIn_wide.2 (String_full_k w.heap.size w.heap.size (vput v) W hI hne)).mono ?_; rintro e w' ⟨rfl, hI', hbel, hoth⟩)
    have hK' := hoth D _ hK (fun h => by cases h; obtain ⟨o, ho, hc⟩ := isBuilderF_cells hI; rw [hK] at ho; cases ho; cases hc) (fun _ _ h => by cases h)
    refine ⟨by simp, .inl ⟨_, _, rfl, run_takeDeferred hK', ?_⟩⟩
    exact ⟨_, results_tmp rfl _ _ _, rfl, (hB.trans hbel).trans (belowK_b (w := w) (Nat.le_refl _) w' D _ _ (by simp at hD; omega) hK' rfl rfl)⟩
  case stop =>
    rintro D c pre W _ _ h _
    exact h.elim
end Go.Proofs.YtohicccbaenegaaDoor

/-
  Contracts over this translation of the document's own answers for varint (siloref01) and of varint's plain numbers.
-/
import Derived.WalkKit
import Derived.LoopTactic
import Derived.OwnWalk
import Derived.Laws.AppendOwn
import Derived.Laws.IdiomStrings
import Derived.Outline
import Derived.Lib.Hide
import Derived.Test.YtohicccbaenegaaDoorBuf
import Derived.Test.YtohicccbaenegaaDoorVam
set_option linter.unusedVariables false
namespace Go.Proofs.YtohicccbaenegaaDoor
open Go.RowKit

/-- What the loop of numberBytes holds: r is left, in at most k + 1 bytes; pre has come. -/
def left (v : Nat) (pre : List UInt8) (k r : Nat) : Prop := r < 128 ^ (k + 1) ∧ U64 r ∧ vput v = pre ++ vputF (k + 1) r
theorem left_step {v : Nat} {pre : List UInt8} {k r : Nat} (h : left v pre k r) (hr : 128 ≤ r) : left v (pre ++ [UInt8.ofNat (r % 128 + 128)]) (k - 1) (r / 128) := by
  obtain ⟨h1, h2, h3⟩ := h
  obtain ⟨j, rfl⟩ : ∃ j, k = j + 1 := by
    cases k with
    | zero => simp at h1; omega
    | succ j => exact ⟨j, rfl⟩
  refine ⟨?_, h2.div _, ?_⟩
  · rw [Nat.add_sub_cancel, Nat.div_lt_iff_lt_mul (by decide)]; rw [Nat.pow_succ] at h1; exact h1
  · rw [h3, vputF_hi hr]; simp
theorem left_pre {v : Nat} {pre : List UInt8} {k r : Nat} (h : left v pre k r) (hr : 128 ≤ r) : pre ++ [UInt8.ofNat (r % 128 + 128)] <+: vput v := by
  rw [(left_step h hr).2.2]; exact List.prefix_append _ _
theorem left_len {v : Nat} {pre : List UInt8} {k r : Nat} (h : left v pre k r) : pre.length ≤ 9 := by
  have h1 := vput_len v
  have h2 := vputF_pos k r
  rw [h.2.2, List.length_append] at h1
  omega
theorem left_end {v : Nat} {pre : List UInt8} {k r : Nat} (h : left v pre k r) (hr : r < 128) : vput v = pre ++ [UInt8.ofNat r] := by rw [h.2.2, vputF_lo hr]

theorem ownsRow_slice {w : World} {base : Nat} {e : TypeId} {v : Value} {n : Nat} {xs : List Value} (h : w.ownsRow base e 1 v (n + 1) xs) : ∃ g cap, v = .slice (some ⟨g, 0, none⟩) (n + 1) cap := by
  rcases h.2 with ⟨_, h0⟩ | ⟨g, cap, _, rfl, _⟩
  · omega
  · exact ⟨g, cap, rfl⟩

set_option maxRecDepth 100000 in
set_option maxHeartbeats 2000000 in
theorem refPut_any (v : Nat) (hv : U64 v) (w : World) :
    Calls Tryd.prog 35 #[.int .u64 v] w fun e w' => e = .returned (.string ⟨(vput v).toArray⟩) ∧ Below w.heap.size w w' := by
  obtain ⟨i0, hi, hz0, hz1, hz2⟩ := info_parts infoByte
  go_enter Tryd.func35, Tryd.ntmps35
  go_wp2
  go_loopw [0, 3] (fun t s wr => ∃ (pre : List UInt8) (k r : Nat), t = .int .u64 r ∧ left v pre k r ∧ wr.ownsRow w.heap.size 5 1 s pre.length (Lib.byteCells pre) ∧ Below w.heap.size w wr)
    (fun t s _ => (intOf t).toNat)
  case atStart => exact ⟨[], 9, v, rfl, ⟨by unfold U64 at hv; omega, hv, rfl⟩, World.ownsRow_nil _ _ _ _, Below.refl _ _⟩
  case round =>
    obtain ⟨pre, k, r, rfl, hl, hown, hB⟩ := hrel
    have hu : U64 r := hl.2.1
    have hp9 := left_len hl
    have hsz := hB.size
    by_cases h : 128 ≤ r
    · have hmod : (0 : Int) ≤ (r : Int) % 128 ∧ (r : Int) % 128 < 128 := by omega
      go_wp2_with (at_builtin; refine wpList_append_own _ rfl _ _ 83 rfl w.heap.size 5 i0 (.int .u8 0) 1 1 Tryd.underlying83 hi hz0 hz1 hz2 rfl (by decide) _ _ _ rfl (hown.alloc _) ⟨wr.heap.size, 0, none⟩ 1 1 [.int .u8 ((r : Int) % 128 + 128)] rfl rfl ?c1 ?c2 ?c3 ?c4 ?c5 ?_)
      case c1 =>
        intro j u hj
        match j, hj with
        | 0, hj => simp at hj; subst hj; simp [Addr.add]
      case c2 => intro u hu; simp at hu; subst hu; rfl
      case c3 => unfold maxLen; omega
      case c4 => omega
      case c5 => simp; omega
      intro v' w1 hown' hgrow _
      obtain ⟨g, cap, rfl⟩ := ownsRow_slice hown'
      have hb1 : Below w.heap.size w w1 := (hB.alloc hsz _).grown hgrow (by simp; omega) (fun j hj => (hown.lt j hj).1)
      have hown2 : w1.ownsRow w.heap.size 5 1 (.slice (some ⟨g, 0, none⟩) (pre.length + 1) cap) (pre ++ [UInt8.ofNat (r % 128 + 128)]).length (Lib.byteCells (pre ++ [UInt8.ofNat (r % 128 + 128)])) := by
        rw [Lib.byteCells_append, List.length_append]
        have e : Lib.byteCells [UInt8.ofNat (r % 128 + 128)] = [Value.int .u8 ((r : Int) % 128 + 128)] := by
          simp [Lib.byteCells]; omega
        rw [e]; exact hown'
      have hl2 := left_step hl h
      clear hown hown' hgrow
      have hwd := hu.wrap_div 128
      simp only [Int.cast_ofNat_Int] at hwd
      go_wp2
      go_roundw
      case rel => exact ⟨_, _, _, by go_num, hl2, hown2, hb1⟩
      case measure => simp [intOf]; omega
    · have hlt : r < 128 := by omega
      have hfin := left_end hl hlt
      have HF := Lib.hid hfin; clear hfin
      go_wp2_with (at_builtin; refine wpList_append_own _ rfl _ _ 83 rfl w.heap.size 5 i0 (.int .u8 0) 1 1 Tryd.underlying83 hi hz0 hz1 hz2 rfl (by decide) _ _ _ rfl (hown.alloc _) ⟨wr.heap.size, 0, none⟩ 1 1 [.int .u8 (r : Int)] rfl rfl ?c1 ?c2 ?c3 ?c4 ?c5 ?_)
      case c1 =>
        intro j u hj
        match j, hj with
        | 0, hj => simp at hj; subst hj; simp [Addr.add]
      case c2 => intro u hu; simp at hu; subst hu; rfl
      case c3 => unfold maxLen; omega
      case c4 => omega
      case c5 => simp; omega
      intro v' w1 hown' hgrow _
      obtain ⟨g, cap, rfl⟩ := ownsRow_slice hown'
      have hb1 : Below w.heap.size w w1 := (hB.alloc hsz _).grown hgrow (by simp; omega) (fun j hj => (hown.lt j hj).1)
      have hown2 : w1.ownsRow w.heap.size 5 1 (.slice (some ⟨g, 0, none⟩) (pre.length + 1) cap) (pre.length + 1) (Lib.byteCells (vput v)) := by
        have e : Lib.byteCells [UInt8.ofNat r] = [Value.int .u8 (r : Int)] := by
          simp [Lib.byteCells]; omega
        rw [HF.out, Lib.byteCells_append, e]; exact hown'
      have hlv : (vput v).length = pre.length + 1 := by rw [HF.out]; simp
      have hcv := run_convert_bytes_back (P := Tryd.prog) w1 83 9 5 ⟨g, 0, none⟩ cap (vput v) Tryd.underlying83 Tryd.underlying5 Tryd.underlying9
        (fun j hj => hown2.cells (g := g) rfl j _ (by simp [Lib.byteCells, hj]))
      rw [hlv] at hcv
      clear hown hown' hgrow hown2 hlv
      go_wp2
      go_ret
      exact ⟨rfl, hb1⟩
end Go.Proofs.YtohicccbaenegaaDoor

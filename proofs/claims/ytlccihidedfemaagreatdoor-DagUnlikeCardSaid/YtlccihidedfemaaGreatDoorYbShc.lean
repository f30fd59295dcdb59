/-
  Contracts over this translation: sha's Block.
-/
import Derived.WalkKit
import Derived.LoopTactic
import Derived.Outline
import Derived.Laws.BitsAllLaws
import Derived.Lib.Hide
import Derived.Below
import Derived.Laws.Rows
import Derived.Laws.CopyOwn
import Derived.Test.YtlccihidedfemaaGreatDoorProg
import Derived.Test.YtlccihidedfemaaGreatDoorQb0
import Derived.Test.YtlccihidedfemaaGreatDoorYbShb
import Derived.Test.YtlccihidedfemaaGreatDoorQb2
import Derived.Great.BuildSlice
import Derived.BigRegion
import Derived.Deep.QuietTactic
import Derived.BigQuiet
import Derived.StillTailTactics
import Derived.IntWalk
import Derived.WalkSmall
import Derived.RegionTactic
set_option linter.unusedVariables false
set_option pp.maxSteps 200000
namespace Go.Proofs.YtlccihidedfemaaGreatDoor
open Go.RowKit
set_option maxRecDepth 100000 in
set_option maxHeartbeats 1000000 in
def mixL (s f : St) (k : Nat) : List Nat := (List.range 8).map fun j => if j < k then ad (s.list.getD j 0) (f.list.getD j 0) else s.list.getD j 0
theorem mixL_zero (s f : St) : mixL s f 0 = s.list := rfl
theorem mixL_full (s f : St) : mixL s f 8 = (s.add f).list := rfl
theorem mixL_len (s f : St) (k : Nat) : (mixL s f k).length = 8 := by simp [mixL]
theorem mixL_get (s f : St) (k : Nat) (h : k < 8) : (mixL s f k).getD k 0 = s.list.getD k 0 := by
 simp [mixL, h]
theorem mixL_set (s f : St) (k : Nat) (h : k < 8) : (mixL s f k).set k (ad (s.list.getD k 0) (f.list.getD k 0)) = mixL s f (k + 1) := by
 match k, h with
 | 0, _ | 1, _ | 2, _ | 3, _ | 4, _ | 5, _ | 6, _ | 7, _ => rfl
 | n + 8, h => exact absurd h (by omega)
structure BkCtx where
 w0 : World
 V : Array Value
 X : Array Value
 Y : Array Value
 F : Array Value
structure bkG (c : BkCtx) (w : World) : Prop where
 below : Below c.w0.heap.size c.w0 w
 size : c.w0.heap.size + 3 ≤ w.heap.size
 r1 : Row w c.w0.heap.size c.V 87
 r2 : Row w (c.w0.heap.size + 1) c.X 89
 r3 : Row w (c.w0.heap.size + 1 + 1) (zrow 8) 87
def bkT (c : BkCtx) (i : Nat) (w w' : World) : Prop := if i = 5 then Below (c.w0.heap.size + 3) w w' else Below w.heap.size w w'
def bkV (c : BkCtx) : Nat → Act → World → Prop
 | 0 => fun a _ => slot a 8 = .agg c.V
 | 1 => fun a _ => slot a 9 = .agg c.X
 | 2 => fun a _ => slot a 10 = .agg c.Y
 | 3 => fun a _ => slot a 11 = .agg c.F
 | 4 => fun a w => ∃ B, slot a 5 = .pointer (some ⟨B, 0, none⟩) ∧ c.w0.heap.size + 3 ≤ B ∧ Row w B (zrow 8) 87
 | 5 => fun a w => ∃ B, slot a 5 = .pointer (some ⟨B, 0, none⟩) ∧ c.w0.heap.size + 3 ≤ B ∧ Row w B c.F 87
 | _ => fun _ _ => True
def bkNeeds : Nat → List Nat | 2 => [1] | 3 => [0, 2] | 5 => [3, 4] | _ => []
def bkDep : Nat → List Tmp | 0 => [8] | 1 => [9] | 2 => [10] | 3 => [11] | 4 => [5] | 5 => [5] | _ => []
theorem bk_needs (i k : Nat) (h : k ∈ bkNeeds i) : k < 6 := by
 unfold bkNeeds at h
 split at h <;> simp at h <;> omega
theorem bk_dep (c : BkCtx) (k : Nat) (a a' : Act) (w : World) (hk : k < 6) (h : ∀ t ∈ bkDep k, slot a' t = slot a t) (hv : bkV c k a w) : bkV c k a' w := by
 match k, hk with
 | 0, _ | 1, _ | 2, _ | 3, _ | 4, _ | 5, _ =>
  simp only [bkDep, List.mem_singleton, forall_eq] at h
  simp only [bkV] at hv ⊢
  rw [h]; exact hv
 | n + 6, hk => exact absurd hk (by omega)
theorem bk_T (c : BkCtx) (i k : Nat) (a : Act) (w w' : World) (hi : i < 6) (hk : k < 6) (hne : k ≠ i) (hke : keptB 6 bkNeeds [5] i k = true) (h : bkV c k a w) (hT : bkT c i w w') : bkV c k a w' := by
 match k, hk with
 | 0, _ | 1, _ | 2, _ | 3, _ => exact h
 | 4, _ =>
  have hi5 : i ≠ 5 := fun e => by subst e; revert hke; decide
  rw [bkT, if_neg hi5] at hT
  obtain ⟨B, h1, h2, h3⟩ := h
  exact ⟨B, h1, h2, h3.step hT⟩
 | 5, _ =>
  rw [bkT, if_neg (fun e => hne e.symm)] at hT
  obtain ⟨B, h1, h2, h3⟩ := h
  exact ⟨B, h1, h2, h3.step hT⟩
 | n + 6, hk => exact absurd hk (by omega)
theorem bkG_T {c : BkCtx} {i : Nat} {w w' : World} (h : bkG c w) (hT : bkT c i w w') : bkG c w' := by
 have hb : Below (c.w0.heap.size + 3) w w' := by
  unfold bkT at hT
  split at hT
  ·exact hT
  ·exact hT.mono h.size
 exact ⟨h.below.trans (hb.mono (by omega)), Nat.le_trans h.size hb.size, h.r1.below hb (by omega), h.r2.below hb (by omega), h.r3.below hb (by omega)⟩
theorem bkT_refl (c : BkCtx) (i : Nat) (w : World) : bkT c i w w := by
 unfold bkT; split <;> exact Below.refl _ _
set_option maxRecDepth 100000 in
set_option maxHeartbeats 2000000 in
theorem Block_any (l : List UInt8) (hl : l.length = 64) (s : St) (hs : s.ok) (w : World) : Calls Tryz.prog 158 #[.agg (numV s.list), .agg (bytV l)] w fun e w' => e = .returned (.agg (numV (blkS s (fun i => (l.getD i 0).toNat)).list)) ∧ Below w.heap.size w w' := by
 obtain ⟨L, hL⟩ : ∃ L : Nat → Nat, L = fun i => (l.getD i 0).toNat := ⟨_, rfl⟩
 have hl8 : ∀ i, L i < 256 := fun i => by rw [hL]; exact UInt8.toNat_lt _
 have CS := Lib.hid (fun w => spread_any l hl w)
 rw [← hL] at CS ⊢
 have CM := Lib.hid (fun w => mixed_any L hl8 s hs w)
 obtain ⟨f, hf⟩ : ∃ f, f = rounds L s 64 := ⟨_, rfl⟩
 rw [← hf] at CM
 have HF : Hid (blkS s L = s.add f) := Lib.hid (by rw [hf]; rfl)
 have hV8 : (numV s.list).size = 8 := by rw [numV_size]; rfl
 have hX8 : (bytV l).size = 64 := by rw [bytV_size, hl]
 obtain ⟨V, hV⟩ : ∃ V, V = numV s.list := ⟨_, rfl⟩
 obtain ⟨X, hX⟩ : ∃ X, X = bytV l := ⟨_, rfl⟩
 rw [← hV] at CM hV8 ⊢
 rw [← hX] at CS hX8 ⊢
 have HV := Lib.hid hV; have HX := Lib.hid hX; have HV8 := Lib.hid hV8; have HX8 := Lib.hid hX8
 clear hL hl8 hf hV hX hV8 hX8
 go_enter Tryz.func158, Tryz.ntmps158
 go_wp2_with (refine wpList_alloc_zero rfl _ rfl _ zero24 ?_)
 simp only [Act.put, List.setIfInBounds_toArray, List.set_cons_zero, List.set_cons_succ]
 rw [show ((w.alloc (.cells V 87)).alloc (.cells X 89)).heap.size = w.heap.size + 1 + 1 by simp]
 obtain ⟨W1, hW1⟩ : ∃ W1, W1 = ((w.alloc (.cells V 87)).alloc (.cells X 89)).alloc (.cells (zrow 8) 87) := ⟨_, rfl⟩
 rw [← hW1]
 have hG : bkG ⟨w, V, X, numV (wlist L 64), numV f.list⟩ { W1 with drawn := W1.drawn + 1 } := by
  refine ⟨?_, ?_, ?_, ?_, ?_⟩
  ·show Below w.heap.size w W1.drew
   rw [hW1]; exact ((((Below.refl _ _).alloc (Nat.le_refl _) _).alloc (by simp) _).alloc (by simp; omega) _).drew
  ·show w.heap.size + 3 ≤ W1.heap.size
   rw [hW1]; simp
  ·show Row W1 w.heap.size V _
   rw [hW1]; exact ((Row.made _ _ _).alloc _).alloc _
  ·show Row W1 (w.heap.size + 1) X _
   rw [hW1]
   have := (Row.made (w.alloc (.cells V 87)) X 89).alloc (.cells (zrow 8) 87)
   simpa using this
  ·show Row W1 (w.heap.size + 1 + 1) (zrow 8) _
   rw [hW1]
   have := Row.made ((w.alloc (.cells V 87)).alloc (.cells X 89)) (zrow 8) 87
   simpa using this
 clear hW1
 refine wp_region_rely (by kernel_rfl) (by kernel_rfl) (bkT ⟨w, V, X, numV (wlist L 64), numV f.list⟩) (bkG ⟨w, V, X, numV (wlist L 64), numV f.list⟩) (bkV ⟨w, V, X, numV (wlist L 64), numV f.list⟩) 6 bkNeeds [5] bkDep (by kernel_rfl) bk_needs (bk_dep _)
  (fun i k a w w' hi hk hne hke h hT => bk_T _ i k a w w' hi hk hne hke h hT) hG (fun j hj hge => absurd hj (by have : 6 ≤ j := hge; omega)) (forall_ops (S := fun i o => ∀ a w', bkG ⟨w, V, X, numV (wlist L 64), numV f.list⟩ w' → (∀ k ∈ bkNeeds i, bkV ⟨w, V, X, numV (wlist L 64), numV f.list⟩ k a w') → (∀ t, (∀ k, dstOf _ k = some t → i ∈ predsOf _ k) → slot a t = slot _ t) → a.tmps.size = _ → o.wp Tryz.prog a w' (fun a' w'' => ∃ v, a' = a.put o.dst v ∧ bkT ⟨w, V, X, numV (wlist L 64), numV f.list⟩ i w' w'' ∧ bkG ⟨w, V, X, numV (wlist L 64), numV f.list⟩ w'' ∧ bkV ⟨w, V, X, numV (wlist L 64), numV f.list⟩ i a' w'') _) ?_) ?_
 ·refine ⟨?_, ?_, ?_, ?_, ?_, ?_, trivial⟩
  ·intro a w' hG hN hO hS
   have e : slot a 2 = .pointer (some ⟨w.heap.size, 0, none⟩) := hO 2 (old_of (by kernel_rfl))
   refine wp_load_row 87 (.tmp 2) rfl w.heap.size (slotE e) 87 V (0, 0) _ hG.r1 Tryz.underlying87 rfl (by rw [HV8.out]; exact size24) ?_
   exact ⟨_, rfl, bkT_refl _ _ _, hG, slot_put_same _ _ _ (by rw [hS]; show (_ : Nat) < 25; decide)⟩
  ·intro a w' hG hN hO hS
   have e : slot a 3 = .pointer (some ⟨w.heap.size + 1, 0, none⟩) := hO 3 (old_of (by kernel_rfl))
   refine wp_load_row 89 (.tmp 3) rfl (w.heap.size + 1) (slotE e) 89 X (0, 0) _ hG.r2 Tryz.underlying89 rfl (by rw [HX8.out]; kernel_rfl) ?_
   exact ⟨_, rfl, bkT_refl _ _ _, hG, slot_put_same _ _ _ (by rw [hS]; show (_ : Nat) < 25; decide)⟩
  ·intro a w' hG hN hO hS
   have e : slot a 9 = .agg X := hN 1 (by decide)
   refine wp_callf 172 _ _ rfl (enters_of Tryz.func172 (by kernel_rfl) rfl) #[.agg X] (by simp [slotE e]) _ (CS.out w') ?_
   intro w'' hb
   have hT : bkT ⟨w, V, X, numV (wlist L 64), numV f.list⟩ 2 w' w'' := hb
   exact ⟨_, rfl, hT, bkG_T hG hT, slot_put_same _ _ _ (by rw [hS]; show (_ : Nat) < 25; decide)⟩
  ·intro a w' hG hN hO hS
   have e : slot a 8 = .agg V := hN 0 (by decide)
   have e2 : slot a 10 = .agg (numV (wlist L 64)) := hN 2 (by decide)
   refine wp_callf 171 _ _ rfl (enters_of Tryz.func171 (by kernel_rfl) rfl) #[.agg V, .agg (numV (wlist L 64))] (by simp [slotE e, slotE e2]) _ (CM.out w') ?_
   intro w'' hb
   have hT : bkT ⟨w, V, X, numV (wlist L 64), numV f.list⟩ 3 w' w'' := hb
   exact ⟨_, rfl, hT, bkG_T hG hT, slot_put_same _ _ _ (by rw [hS]; show (_ : Nat) < 25; decide)⟩
  ·intro a w' hG hN hO hS
   refine wp_alloc_zero _ rfl _ zero24 ?_
   have hT : bkT ⟨w, V, X, numV (wlist L 64), numV f.list⟩ 4 w' (w'.alloc (.cells (zrow 8) 87)) := (Below.refl _ _).alloc (Nat.le_refl _) _
   exact ⟨_, rfl, hT, bkG_T hG hT, _, slot_put_same _ _ _ (by rw [hS]; show (_ : Nat) < 25; decide), hG.size, Row.made _ _ _⟩
  ·intro a w' hG hN hO hS
   obtain ⟨B, e, hB, hR⟩ := hN 4 (by decide)
   have e2 : slot a 11 = .agg (numV f.list) := hN 3 (by decide)
   refine wp_store_row 87 (.tmp 5) (.tmp 11) rfl B (numV f.list) (slotE e) (slotE e2) 87 (zrow 8) hR (by rw [numV_size]; exact size24) (by rw [numV_size, zrow_size]; rfl) (numV_one _) ?_
   have hT : bkT ⟨w, V, X, numV (wlist L 64), numV f.list⟩ 5 w' (w'.setRow B (numV f.list)) := below_setRow (Below.refl _ _) hB _
   exact ⟨_, rfl, hT, bkG_T hG hT, B, e, hB, hR.setRow _⟩
 ·intro a w' hG hV hO hS hD
  obtain ⟨B, e, hB, hR⟩ := hV 5 (by decide) (by decide)
  have ha := act_patch [8, 9, 10, 11, 5] hS hD (fun t ht => hO t (free_of (fun h => ht h)))
  generalize slot a = sl at e ha
  subst ha
  simp only [patchL, List.contains_cons, List.contains_nil, Nat.reduceBEq, Bool.or_false, Bool.or_true, if_true, Bool.false_eq_true, if_false, Nat.reduceAdd]
  rw [e]
  generalize sl 8 = s8
  generalize sl 9 = s9
  generalize sl 10 = s10
  generalize sl 11 = s11
  have b1 := hG.below; have r1 := hG.r1; have r3 := hG.r3
  dsimp only at b1 r1 r3 hB hR
  clear e hG hV hO hS hD
  have HR := Lib.hid hR; have R3 := Lib.hid r3; have HB := Lib.hid hB
  rw [HV.out, ← mixL_zero s f] at r1
  have R1 := Lib.hid r1
  clear hR r3 r1 hB
  go_wp2_with (refine wpList_load_row rfl 87 _ rfl B rfl 87 (numV f.list) (0, 0) _ HR.out Tryz.underlying87 rfl (by rw [numV_size]; exact size24) ?_)
  go_loopw [13] (fun i wr => ∃ k : Nat, k ≤ 8 ∧ i = .int .i64 k ∧ Row wr w.heap.size (numV (mixL s f k)) 87 ∧ Row wr (w.heap.size + 1 + 1) (zrow 8) 87 ∧ Below w.heap.size w wr) (fun i _ => 8 - (intOf i).toNat)
  case atStart => exact ⟨0, by omega, rfl, R1.out, R3.out, b1⟩
  case round =>
   clear R1 R3 b1
   obtain ⟨k, hk, rfl, r1, r3, hb⟩ := hrel
   by_cases hlt : k < 8
   ·have hbk : decide ((k : Int) < 8) = true := by simpa using (show (k : Int) < 8 by omega)
    obtain ⟨x, hx⟩ : ∃ x, x = s.list.getD k 0 := ⟨_, rfl⟩
    obtain ⟨y, hy⟩ : ∃ x, x = f.list.getD k 0 := ⟨_, rfl⟩
    have c1 : wr.cell? ⟨w.heap.size, k, none⟩ = some (.int .u32 x) := by rw [r1.cell, numV_get _ _ (by rw [mixL_len]; exact hlt), mixL_get _ _ _ hlt, hx]
    have cf := r1.free k
    have hyv : (numV f.list)[k]? = some (.int .u32 y) := by rw [numV_get _ _ (by rw [list_len]; exact hlt), hy]
    have HM := Lib.hid (mixL_set s f k hlt)
    rw [← hx, ← hy] at HM
    have b5 : (0 : Int) ≤ (k : Int) ∧ (k : Int) < 8 := by omega
    have R1 := Lib.hid r1; have R3 := Lib.hid r3
    clear r1 r3 hx hy
    go_wp2_with (refine wpList_index_arr rfl 87 _ _ rfl 8 85 .i64 k (numV f.list) (.int .u32 y) rfl rfl Tryz.underlying87 hlt (by kernel_rfl) (fun w => by kernel_rfl) hyv ?_)
    go_roundw
    case rel =>
     refine ⟨k + 1, by omega, by go_num, ?_, R3.out.other _ _ (by show w.heap.size + 1 + 1 ≠ w.heap.size; omega), hb.setCell (Nat.le_refl _) _⟩
     have := R1.out.set k (.int .u32 (ad x y : Nat))
     rw [numV_set, HM.out] at this
     rw [show ((x : Int) + (y : Int)) % 4294967296 = (ad x y : Nat) by unfold ad; omega]
     exact this
    case measure => simp [intOf]; omega
   ·obtain rfl : k = 8 := by omega
    have hbk : decide (((8 : Nat) : Int) < 8) = false := rfl
    rw [mixL_full] at r1
    have R1 := Lib.hid r1; have R3 := Lib.hid r3
    clear r1 r3
    go_wp2_with (first
     | refine wpList_load_row rfl 87 _ rfl w.heap.size rfl 87 (numV (s.add f).list) (0, 0) _ R1.out Tryz.underlying87 rfl (by rw [numV_size]; exact size24) ?_
     | refine wpList_store_row rfl 87 _ _ rfl (w.heap.size + 1 + 1) (numV (s.add f).list) rfl rfl 87 (zrow 8) R3.out (by rw [numV_size]; exact size24) (by rw [numV_size, zrow_size]; rfl) (numV_one _) ?_)
    refine bodyPost_ret (v := .agg (numV (s.add f).list)) (results_cell_row rfl _ _ (w.heap.size + 1 + 1) 87 (numV (s.add f).list) (0, 0) _ rfl (setRow_heap _ _ _ _ _ _ R3.out) Tryz.underlying87 rfl (by rw [numV_size]; exact size24)) rfl ?_
    exact ⟨by rw [HF.out], below_setRow hb (by omega) _⟩
end Go.Proofs.YtlccihidedfemaaGreatDoor

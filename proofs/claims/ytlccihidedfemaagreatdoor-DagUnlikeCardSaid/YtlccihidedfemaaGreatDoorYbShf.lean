/-
  Contracts over this translation: the reader.
-/
import Derived.WalkKit
import Derived.LoopTactic
import Derived.Outline
import Derived.Laws.BitsAllLaws
import Derived.Lib.Hide
import Derived.Below
import Derived.Laws.Rows
import Derived.Laws.CopyOwn
import Derived.Test.YtlccihidedfemaaGreatDoorProg
import Derived.Test.YtlccihidedfemaaGreatDoorQb0
import Derived.Test.YtlccihidedfemaaGreatDoorQb5
import Derived.Test.YtlccihidedfemaaGreatDoorQb4
import Derived.Test.YtlccihidedfemaaGreatDoorQb2
import Derived.Great.BuildSlice
import Derived.BigRegion
import Derived.Deep.QuietTactic
import Derived.BigQuiet
import Derived.StillTailTactics
import Derived.IntWalk
import Derived.WalkSmall
import Derived.RegionTactic
set_option linter.unusedVariables false
set_option pp.maxSteps 200000
namespace Go.Proofs.YtlccihidedfemaaGreatDoor
open Go.RowKit
set_option maxRecDepth 100000 in
set_option maxHeartbeats 1000000 in
def rcl (s : St) (rest : List UInt8) (held size : Nat) : List Value :=
 s.list.map (fun n : Nat => Value.int .u32 (n : Int)) ++ (rest.map (fun n : UInt8 => Value.int .u8 (n.toNat : Int)) ++ [.int .i64 (held : Int), .int .u64 (size : Int)])
theorem rcl_len (s : St) (rest : List UInt8) (held size : Nat) (h : rest.length = 64) : (rcl s rest held size).length = 74 := by simp [rcl, h, list_len]
def FedTo (B : Nat) (W : World) (s : St) (p : List UInt8) (size : Nat) : Prop :=
 ∃ rest : List UInt8, rest.length = 64 ∧ rest.take p.length = p ∧ p.length < 64 ∧ Row W B (rcl s rest p.length size).toArray 168
set_option maxRecDepth 100000 in
set_option maxHeartbeats 2000000 in
theorem newReader_any (w : World) : Calls Tryz.prog 120 #[] w fun e w' => ∃ B, w.heap.size ≤ B ∧ e = .returned (.pointer (some ⟨B, 0, none⟩)) ∧ FedTo B w' first [] 0 ∧ Below w.heap.size w w' := by
  go_enter Tryz.func120, Tryz.ntmps120
  go_wp2_with fail
  refine (First_any _).mono ?_
  rintro e w1 ⟨rfl, hb1⟩
  go_wp2_with fail
  first
  | (refine cast (congrArg (Oper.upon _ _ _ _ _) (show Result.ok (Next.value (Value.agg (rcl first (List.replicate 64 0) 0 0).toArray)) w1 = _ by kernel_rfl)) ?_
     rw [Oper.upon_value]
     go_wp2
     go_ret
     refine ⟨w1.heap.size, hb1.size, rfl, ⟨List.replicate 64 0, by simp, rfl, by decide, ?_⟩, hb1.alloc hb1.size _⟩
     exact Row.made _ _ _)
  | (go_ret
     refine ⟨w1.heap.size, hb1.size, rfl, ⟨List.replicate 64 0, by simp, rfl, by decide, ?_⟩, hb1.alloc hb1.size _⟩
     exact cast (congrArg (fun xs => Row (w1.alloc (.cells xs 168)) w1.heap.size (rcl first (List.replicate 64 0) 0 0).toArray 168) (show (rcl first (List.replicate 64 0) 0 0).toArray = _ by kernel_rfl)) (Row.made _ _ _))
def strLen : Value → Nat | .string t => t.size | _ => 0
theorem rcl_parts (s : St) (rest : List UInt8) (held size h n : Nat) :
  rcl s rest held size = (s.list.map (fun n : Nat => Value.int .u32 (n : Int)) ++ (rest.take h).map (fun n : UInt8 => Value.int .u8 (n.toNat : Int))) ++ ((rest.drop h).take n).map (fun n : UInt8 => Value.int .u8 (n.toNat : Int)) ++ ((rest.drop (h + n)).map (fun n : UInt8 => Value.int .u8 (n.toNat : Int)) ++ [.int .i64 (held : Int), .int .u64 (size : Int)]) := by
 have e : rest = rest.take h ++ ((rest.drop h).take n ++ rest.drop (h + n)) := by rw [← List.drop_drop, List.take_append_drop, List.take_append_drop]
 unfold rcl
 conv => lhs; rw [e]
 simp
theorem rcl_held (s : St) (rest : List UInt8) (held size : Nat) (hr : rest.length = 64) : (rcl s rest held size)[72]? = some (.int .i64 (held : Int)) := by
 unfold rcl
 rw [List.getElem?_append_right (by simp [list_len]), List.getElem?_append_right (by simp [list_len, hr])]
 simp [list_len, hr]
theorem rcl_size (s : St) (rest : List UInt8) (held size : Nat) (hr : rest.length = 64) : (rcl s rest held size)[73]? = some (.int .u64 (size : Int)) := by
 unfold rcl
 rw [List.getElem?_append_right (by simp [list_len]), List.getElem?_append_right (by simp [list_len, hr])]
 simp [list_len, hr]
theorem rcl_set_held (s : St) (rest : List UInt8) (held size n : Nat) (hr : rest.length = 64) : (rcl s rest held size).toArray.setIfInBounds 72 (.int .i64 (n : Int)) = (rcl s rest n size).toArray := by
 rw [List.setIfInBounds_toArray]
 unfold rcl
 rw [List.set_append_right _ _ (by simp [list_len]), List.set_append_right _ _ (by simp [list_len, hr])]
 simp [list_len, hr]
theorem rcl_set_size (s : St) (rest : List UInt8) (held size n : Nat) (hr : rest.length = 64) : (rcl s rest held size).toArray.setIfInBounds 73 (.int .u64 (n : Int)) = (rcl s rest held n).toArray := by
 rw [List.setIfInBounds_toArray]
 unfold rcl
 rw [List.set_append_right _ _ (by simp [list_len]), List.set_append_right _ _ (by simp [list_len, hr])]
 simp [list_len, hr]
theorem rcl_set_hash (s t : St) (rest : List UInt8) (held size : Nat) : setSeg (rcl s rest held size).toArray 0 (numV t.list).toList = (rcl t rest held size).toArray := by
 have := setSeg_eq (numV t.list).toList [] (s.list.map (fun n : Nat => Value.int .u32 (n : Int))) (rest.map (fun n : UInt8 => Value.int .u8 (n.toNat : Int)) ++ [.int .i64 (held : Int), .int .u64 (size : Int)]) (by simp [numV, list_len])
 simpa [rcl, numV] using this
def fill (rest : List UInt8) (h : Nat) (t : List UInt8) (n : Nat) : List UInt8 := rest.take h ++ t.take n ++ rest.drop (h + n)
theorem fill_len {rest : List UInt8} (hr : rest.length = 64) {h n : Nat} {t : List UInt8} (hn : n ≤ t.length) (hh : h + n ≤ 64) : (fill rest h t n).length = 64 := by
 unfold fill; simp [hr]; omega
theorem fill_take {rest : List UInt8} (hr : rest.length = 64) {h n : Nat} {t : List UInt8} (hn : n ≤ t.length) (hh : h + n ≤ 64) : (fill rest h t n).take (h + n) = rest.take h ++ t.take n := by
 unfold fill
 rw [List.take_append_of_le_length (by simp [hr]; omega), List.take_of_length_le (by simp [hr]; omega)]
def ptr (b o : Nat) : Value := .pointer (some ⟨b, o, none⟩)
def fdU (B : Nat) (s f : St) (F : List UInt8) (h N : Nat) : Nat → Value → World → Prop
 | 0 | 1 | 2 | 3 | 5 | 6 | 10 | 11 => fun v _ => v = ptr B 0
 | 4 => fun v _ => v = .agg (numV s.list)
 | 7 => fun v _ => v = ptr B 8
 | 8 => fun v _ => v = .agg (bytV F)
 | 9 => fun v _ => v = .agg (numV f.list)
 | 12 => fun _ w => Row w B (rcl f F h N).toArray 168
 | 13 => fun _ w => Row w B (rcl s F h N).toArray 168
 | _ => fun _ _ => True
def fdT (B : Nat) (i : Nat) (w w' : World) : Prop := if i = 12 then Below B w w' else Below w.heap.size w w'
def fdG (B : Nat) (w0 w : World) : Prop := Below B w0 w ∧ B < w.heap.size
def fdN : List (List Nat) := [[], [], [1], [2], [3, 13], [], [5], [6], [7, 13], [4, 8], [0], [10], [9, 11, 13]]
theorem fdT_refl (B i : Nat) (w : World) : fdT B i w w := by unfold fdT; split <;> exact Below.refl _ _
theorem fdG_T {B i : Nat} {w0 w w' : World} (h : fdG B w0 w) (hT : fdT B i w w') : fdG B w0 w' := by
 have hb : Below B w w' := by
  unfold fdT at hT
  split at hT
  ·exact hT
  ·exact hT.mono (Nat.le_of_lt h.2)
 exact ⟨h.1.trans hb, Nat.lt_of_lt_of_le h.2 hb.size⟩
theorem fd_T (B : Nat) (s f : St) (F : List UInt8) (h N i k : Nat) (v : Value) (w w' : World) (hk : k < 14) (hne : k ≠ i) (hke : i = 12 → k ≠ 13) (hU : fdU B s f F h N k v w) (hT : fdT B i w w') : fdU B s f F h N k v w' := by
 match k, hk with
 | 0, _ | 1, _ | 2, _ | 3, _ | 4, _ | 5, _ | 6, _ | 7, _ | 8, _ | 9, _ | 10, _ | 11, _ => exact hU
 | 12, _ =>
  rw [fdT, if_neg (fun e => hne e.symm)] at hT
  exact Row.step hU hT
 | 13, _ =>
  rw [fdT, if_neg (fun e => hke e rfl)] at hT
  exact Row.step hU hT
 | n + 14, hk => exact absurd hk (by omega)
set_option maxRecDepth 100000 in
set_option maxHeartbeats 4000000 in
theorem feed_any (B : Nat) (s0 : St) (hs0 : s0.ok) (p0 : List UInt8) (size : Nat) (t0 : ByteArray) (w : World) (hF : FedTo B w s0 p0 size) (ht0 : t0.size ≤ maxLen) (hsz : size ≤ 4611686018427387904) :
  Calls Tryz.prog 121 #[.pointer (some ⟨B, 0, none⟩), .string t0] w fun e w' => e = .returned (.tuple #[]) ∧ FedTo B w' (absorb s0 (p0 ++ t0.data.toList)).1 (absorb s0 (p0 ++ t0.data.toList)).2 (size + t0.size) ∧ Below B w w' := by
 unfold maxLen at ht0
 obtain ⟨rest, hr, hp, hpl, q⟩ := hF
 have hst := Lib.size_eq t0
 have cs : w.cell? ⟨B, 73, none⟩ = some (.int .u64 size) := by rw [q.cell]; simp only [List.getElem?_toArray]; exact rcl_size _ _ _ _ hr
 have cf := q.free 73
 have e1 : IntKind.u64.wrap ((size : Int) + (t0.size : Int)) = ((size + t0.size : Nat) : Int) := by
  show ((size : Int) + (t0.size : Int)) % 18446744073709551616 = _
  omega
 have Q := Lib.hid q; have HST := Lib.hid hst; have HP := Lib.hid hp
 clear q hst hp
 go_enter Tryz.func121, Tryz.ntmps121
 go_wp2
 obtain ⟨G, hG⟩ : ∃ G, absorb s0 (p0 ++ t0.data.toList) = G := ⟨_, rfl⟩
 obtain ⟨N, hN⟩ : ∃ N, N = size + t0.size := ⟨_, rfl⟩
 have HN := Lib.hid hN
 have Q1 : Hid (Row (w.setCell ⟨B, 73, none⟩ (.int .u64 ((size : Int) + (t0.size : Int)))) B (rcl s0 rest p0.length N).toArray 168) := Lib.hid (by
  have := Q.out.set 73 (.int .u64 ((N : Nat) : Int))
  rw [rcl_set_size _ _ _ _ _ hr] at this
  rw [show (size : Int) + (t0.size : Int) = (N : Int) by omega]
  exact this)
 have hb1 : Below B w (w.setCell ⟨B, 73, none⟩ (.int .u64 ((size : Int) + (t0.size : Int)))) := (Below.refl B w).setCell (Nat.le_refl _) _
 go_loopw [1, 4] (fun tv _ wr => ∃ (s : St) (p rest : List UInt8) (t : ByteArray), s.ok ∧ tv = .string t ∧ rest.length = 64 ∧ rest.take p.length = p ∧ p.length < 64 ∧ t.size ≤ 9223372036854775807 ∧ absorb s (p ++ t.data.toList) = G ∧ Row wr B (rcl s rest p.length N).toArray 168 ∧ Below B w wr) (fun tv _ _ => strLen tv)
 case atStart => exact ⟨s0, p0, rest, t0, hs0, rfl, hr, HP.out, hpl, by omega, hG, Q1.out, hb1⟩
 case round =>
  have HG := Lib.hid hG
  clear hN hG Q1 hb1 Q HST HP hr hpl cs cf e1 ht0 hsz
  obtain ⟨s, p, rest, t, hs, rfl, hr, hp, hpl, ht, hA, q, hb⟩ := hrel
  by_cases h0 : 0 < t.size
  ·have hbt : decide ((0 : Int) < (t.size : Int)) = true := by simpa using (show (0 : Int) < (t.size : Int) by omega)
   obtain ⟨n, hn⟩ : ∃ n, Nat.min t.size (64 - p.length) = n := ⟨_, rfl⟩
   have hn1 : n ≤ t.size := by rw [← hn]; exact Nat.min_le_left _ _
   have hn2 : n ≤ 64 - p.length := by rw [← hn]; exact Nat.min_le_right _ _
   have hn3 : 1 ≤ n := by rw [← hn]; exact Nat.le_min.2 ⟨by omega, by omega⟩
   have hst := Lib.size_eq t
   have q' := q
   rw [rcl_parts s rest p.length N p.length n] at q'
   have hcp := run_copy_part (P := Tryz.prog) wr.drew 83 9 3 5 B (64 - p.length) (64 - p.length) t _ _ _ 168 Tryz.underlying83 (by kernel_rfl) q'.drew n hn (by simp [hr]; omega)
   have hlA : (s.list.map (fun n : Nat => Value.int .u32 (n : Int)) ++ (rest.take p.length).map (fun n : UInt8 => Value.int .u8 (n.toNat : Int))).length = 8 + p.length := by simp [list_len, hr]; omega
   rw [hlA] at hcp
   have hrow : (s.list.map (fun n : Nat => Value.int .u32 (n : Int)) ++ (rest.take p.length).map (fun n : UInt8 => Value.int .u8 (n.toNat : Int)) ++ Lib.byteCells (t.data.toList.take n) ++ ((rest.drop (p.length + n)).map (fun n : UInt8 => Value.int .u8 (n.toNat : Int)) ++ [.int .i64 (p.length : Int), .int .u64 (N : Int)])) = rcl s (fill rest p.length t.data.toList n) p.length N := by
    unfold rcl fill Lib.byteCells; simp
   rw [hrow] at hcp
   have ch : wr.cell? ⟨B, 72, none⟩ = some (.int .i64 p.length) := by rw [q.cell]; simp only [List.getElem?_toArray]; exact rcl_held _ _ _ _ hr
   have bp : (0 : Int) ≤ (p.length : Int) ∧ (p.length : Int) < 64 := by omega
   have bp2 : (p.length : Int) ≤ 64 := by omega
   have bp3 : ¬ 64 = p.length := by omega
   have Q := Lib.hid q; have Q' := Lib.hid q'; have HCP := Lib.hid hcp; have HA := Lib.hid hA; have HP := Lib.hid hp; have HN := Lib.hid hn; have HST := Lib.hid hst
   clear q q' hcp hA hp hn hst hlA hrow
   go_wp2_with fail
   go_still_tail 9, (by kernel_rfl)
   change wpList _ _ _ _ _ wr.drew
   go_wp2_with fail
   rw [HCP.out]
   simp only [Result.andThen]
   rw [Oper.upon_value]
   obtain ⟨F, hF⟩ : ∃ F, F = fill rest p.length t.data.toList n := ⟨_, rfl⟩
   have hF64 : F.length = 64 := by rw [hF]; exact fill_len hr (by have := HST.out; omega) (by omega)
   have hFt : F.take (p.length + n) = p ++ t.data.toList.take n := by
    rw [hF, fill_take hr (by have := HST.out; omega) (by omega), HP.out]
   obtain ⟨W2, hW2⟩ : ∃ W2, W2 = wr.drew.setRow B (rcl s (fill rest p.length t.data.toList n) p.length N).toArray := ⟨_, rfl⟩
   have q2 : Row W2 B (rcl s F p.length N).toArray 168 := by rw [hW2, hF]; exact (Row.drew Q.out).setRow _
   have hb2 : Below B w W2 := by rw [hW2]; exact below_setRow hb.drew (Nat.le_refl _) _
   rw [← hW2]
   clear hF hW2 HCP Q Q' ch hb
   have c72 : W2.cell? ⟨B, 72, none⟩ = some (.int .i64 p.length) := by rw [q2.cell]; simp only [List.getElem?_toArray]; exact rcl_held _ _ _ _ hF64
   have f72 := q2.free 72
   have bs : (0 : Int) ≤ (p.length : Int) + (n : Int) ∧ (p.length : Int) + (n : Int) ≤ 64 := by omega
   have bn : (0 : Int) ≤ (n : Int) ∧ (n : Int) ≤ (t.size : Int) := by omega
   have Q2 := Lib.hid q2; have HFT := Lib.hid hFt
   clear q2 hFt
   have hd := fun W => run_slice_from (P := Tryz.prog) Tryz.underlying9 t n hn1 W
   by_cases hfull : p.length + n = 64
   ·have hq : (((p.length : Int) + (n : Int)) == 64) = true := by rw [beq_iff_eq]; omega
    have HF := Lib.hid hfull; clear hfull
    go_wp2_with fail
    obtain ⟨W3, hW3⟩ : ∃ W3, W3 = W2.setCell ⟨B, 72, none⟩ (.int .i64 ((p.length : Int) + (n : Int))) := ⟨_, rfl⟩
    rw [← hW3]
    have q3 : Row W3 B (rcl s F (p.length + n) N).toArray 168 := by
     have := Q2.out.set 72 (.int .i64 ((p.length + n : Nat) : Int))
     rw [rcl_set_held _ _ _ _ _ hF64] at this
     rw [hW3]; exact this
    have hb3 : Below B w W3 := by rw [hW3]; exact hb2.setCell (Nat.le_refl _) _
    clear hW3 Q2 hb2 c72 f72 hd
    have Q3 := Lib.hid q3
    clear q3
    refine wp_region_words (by kernel_rfl) (by kernel_rfl) (fdT B) (fdG B w) (fdU B s (blk s F) F (p.length + n) N) 14 fdN [12] (by kernel_rfl) (by kernel_rfl)
     [(12, 13)] (by kernel_rfl) (fun i k v w w' hi hk hne hke hU hT => fd_T B s (blk s F) F (p.length + n) N i k v w w' hk hne (fun e1 e2 => hke (by subst e1; subst e2; decide)) hU hT) ⟨hb3.drew, Q3.out.lt⟩ ?_ [44, 45, 46, 47, 48, 49, 50, 51, 52, 53, 54, 55] (by kernel_rfl) (forall_ops ?_) ?_
    ·intro k hk hge
     match k, hk, hge with
     | 13, _, _ => exact Q3.out.drew
     | n + 14, hk, _ => exact absurd hk (by omega)
    ·refine ⟨?_, ?_, ?_, ?_, ?_, ?_, ?_, ?_, ?_, ?_, ?_, ?_, ?_, trivial⟩
     ·exact stepW_value (t := 44) (ptr B 0) rfl (fdT_refl B 0) (fun a w hG hN hO => by
       have e : slot a 0 = ptr B 0 := hO 0 (by kernel_rfl)
       exact run_move_slot (.inl rfl) e) (fun w hG => rfl)
     ·exact stepW_value (t := 45) (ptr B 0) rfl (fdT_refl B 1) (fun a w hG hN hO => by
       have e : slot a 0 = ptr B 0 := hO 0 (by kernel_rfl)
       exact run_move_slot (.inl rfl) e) (fun w hG => rfl)
     ·exact stepW_value (t := 46) (ptr B 0) rfl (fdT_refl B 2) (fun a w hG hN hO => by
       have e : slot a 45 = ptr B 0 := hN 1 (by decide)
       have e' := slot_at e; unfold ptr at e'; unfold execOp; go_simp; rfl) (fun w hG => rfl)
     ·exact stepW_value (t := 47) (ptr B 0) rfl (fdT_refl B 3) (fun a w hG hN hO => by
       have e : slot a 46 = ptr B 0 := hN 2 (by decide)
       have e' := slot_at e; unfold ptr at e'; unfold execOp; go_simp; rfl) (fun w hG => rfl)
     ·intro a w hG hN hO
      have e : slot a 47 = ptr B 0 := hN 3 (by decide)
      have q : Row w B (rcl s F (p.length + n) N).toArray 168 := hN 13 (by decide)
      refine wp_load_mid 166 (.tmp 47) rfl B 0 (slotE e) (numV s.list).toList _ (Row.rangeA (A := []) (M := numV s.list) (C := F.map (fun n : UInt8 => Value.int .u8 (n.toNat : Int)) ++ [.int .i64 ((p.length + n : Nat) : Int), .int .u64 (N : Int)]) (by simpa [rcl, numV] using q) 0 rfl) Tryz.underlying166 rfl (by rw [Array.length_toList, numV_size]; exact size53) ?_
      rw [Array.toArray_toList]
      exact ⟨_, rfl, fdT_refl _ _ _, hG, rfl⟩
     ·exact stepW_value (t := 49) (ptr B 0) rfl (fdT_refl B 5) (fun a w hG hN hO => by
       have e : slot a 0 = ptr B 0 := hO 0 (by kernel_rfl)
       exact run_move_slot (.inl rfl) e) (fun w hG => rfl)
     ·exact stepW_value (t := 50) (ptr B 0) rfl (fdT_refl B 6) (fun a w hG hN hO => by
       have e : slot a 49 = ptr B 0 := hN 5 (by decide)
       have e' := slot_at e; unfold ptr at e'; unfold execOp; go_simp; rfl) (fun w hG => rfl)
     ·exact stepW_value (t := 51) (ptr B 8) rfl (fdT_refl B 7) (fun a w hG hN hO => by
       have e : slot a 50 = ptr B 0 := hN 6 (by decide)
       have e' := slot_at e; unfold ptr at e'; unfold execOp; go_simp; rfl) (fun w hG => rfl)
     ·intro a w hG hN hO
      have e : slot a 51 = ptr B 8 := hN 7 (by decide)
      have q : Row w B (rcl s F (p.length + n) N).toArray 168 := hN 13 (by decide)
      refine wp_load_mid 89 (.tmp 51) rfl B 8 (slotE e) (bytV F).toList _ (Row.rangeA (A := s.list.map (fun n : Nat => Value.int .u32 (n : Int))) (M := bytV F) (C := [.int .i64 ((p.length + n : Nat) : Int), .int .u64 (N : Int)]) (by simpa [rcl, bytV] using q) 8 (by simp [list_len])) Tryz.underlying89 rfl (by rw [Array.length_toList, bytV_size, hF64]; exact size25) ?_
      rw [Array.toArray_toList]
      exact ⟨_, rfl, fdT_refl _ _ _, hG, rfl⟩
     ·intro a w hG hN hO
      have e : slot a 48 = .agg (numV s.list) := hN 4 (by decide)
      have e2 : slot a 52 = .agg (bytV F) := hN 8 (by decide)
      refine wp_callf 141 _ _ rfl (enters_of Tryz.func141 (by kernel_rfl) rfl) #[.agg (numV s.list), .agg (bytV F)] (by simp [slotE e, slotE e2]) _ (behind_any_She F hF64 s hs w) ?_
      intro w'' hb
      have hT : fdT B 9 w w'' := hb
      exact ⟨_, rfl, hT, fdG_T hG hT, rfl⟩
     ·exact stepW_value (t := 54) (ptr B 0) rfl (fdT_refl B 10) (fun a w hG hN hO => by
       have e : slot a 44 = ptr B 0 := hN 0 (by decide)
       have e' := slot_at e; unfold ptr at e'; unfold execOp; go_simp; rfl) (fun w hG => rfl)
     ·exact stepW_value (t := 55) (ptr B 0) rfl (fdT_refl B 11) (fun a w hG hN hO => by
       have e : slot a 54 = ptr B 0 := hN 10 (by decide)
       have e' := slot_at e; unfold ptr at e'; unfold execOp; go_simp; rfl) (fun w hG => rfl)
     ·intro a w hG hN hO
      have e : slot a 55 = ptr B 0 := hN 11 (by decide)
      have e2 : slot a 53 = .agg (numV (blk s F).list) := hN 9 (by decide)
      have q : Row w B (rcl s F (p.length + n) N).toArray 168 := hN 13 (by decide)
      refine wp_store_mid 166 (.tmp 55) (.tmp 53) rfl B 0 (numV (blk s F).list) (slotE e) (slotE e2) (q.there 0 _ (by rw [numV_size]; simp [rcl_len _ _ _ _ hF64, list_len])) (by rw [numV_size]; exact size53) (numV_one _) ?_
      have hT : fdT B 12 w (w.setCells B 0 (numV (blk s F).list).toList) := below_setCells _ (Below.refl _ _) 0 (Nat.le_refl _)
      refine ⟨_, rfl, hT, fdG_T hG hT, ?_⟩
      have := Row.setCells (W := w) (numV (blk s F).list).toList q 0
      rw [rcl_set_hash] at this
      exact this
    ·intro a w5 hG hV hS ha
     have q5 : Row w5 B (rcl (blk s F) F (p.length + n) N).toArray 168 := hV 12 (by decide) (by decide)
     generalize slot a = sl at ha
     subst ha
     simp only [patchL, List.contains_cons, List.contains_nil, Nat.reduceBEq, Bool.or_false, Bool.or_true, if_true, Bool.false_eq_true, if_false, Nat.reduceAdd]
     generalize sl 44 = s44
     generalize sl 45 = s45
     generalize sl 46 = s46
     generalize sl 47 = s47
     generalize sl 48 = s48
     generalize sl 49 = s49
     generalize sl 50 = s50
     generalize sl 51 = s51
     generalize sl 52 = s52
     generalize sl 53 = s53
     generalize sl 54 = s54
     generalize sl 55 = s55
     have hb5 := hG.1
     have f72 := q5.free 72
     have c72 : ∃ v, w5.cell? ⟨B, 72, none⟩ = some v := ⟨_, by rw [q5.cell]; simp only [List.getElem?_toArray]; exact rcl_held _ _ _ _ hF64⟩
     obtain ⟨v72, c72⟩ := c72
     have Q5 := Lib.hid q5
     clear hG hV hS q5 Q3 hb3
     go_wp2_with fail
     have hlen : (t.data.toList.take n).length = n := by rw [List.length_take, ← HST.out]; omega
     have hFe : F = p ++ t.data.toList.take n := by
      have h1 := HFT.out
      rwa [HF.out, List.take_of_length_le (by omega)] at h1
     have hn64 : n = 64 - p.length := by have := HF.out; omega
     refine ⟨⟨blk s F, [], F, t.extract n t.size, blk_ok _ _, rfl, hF64, rfl, by decide, ?_, ?_, ?_, hb5.setCell (Nat.le_refl _) _⟩, ?_⟩
     ·rw [ByteArray.size_extract]; omega
     ·rw [← HA.out, absorb_fill s p t.data.toList hpl (by rw [← HST.out]; omega), hFe, ← hn64, Lib.extract_data, List.nil_append, HST.out, List.take_of_length_le (i := t.data.toList.length - n) (by simp)]
     ·have := Q5.out.set 72 (.int .i64 ((0 : Nat) : Int))
      rw [rcl_set_held _ _ _ _ _ hF64] at this
      exact this
     ·show (t.extract n t.size).size < t.size
      rw [ByteArray.size_extract]; omega
   ·have hq : (((p.length : Int) + (n : Int)) == 64) = false := by rw [beq_eq_false_iff_ne]; omega
    have HF := Lib.hid hfull; clear hfull
    go_wp2_with fail
    refine ⟨⟨s, p ++ t.data.toList.take n, F, t.extract n t.size, hs, rfl, hF64, ?_, ?_, ?_, ?_, ?_, hb2.setCell (Nat.le_refl _) _⟩, ?_⟩
    ·rw [List.length_append, List.length_take, ← HST.out, Nat.min_eq_left hn1]; exact HFT.out
    ·have := HF.out
     rw [List.length_append, List.length_take, ← HST.out, Nat.min_eq_left hn1]; omega
    ·rw [ByteArray.size_extract]; omega
    ·rw [Lib.extract_data, List.append_assoc, HST.out, List.take_of_length_le (i := t.data.toList.length - n) (by simp), List.take_append_drop]; exact HA.out
    ·have := Q2.out.set 72 (.int .i64 ((p.length + n : Nat) : Int))
     rw [rcl_set_held _ _ _ _ _ hF64] at this
     rw [List.length_append, List.length_take, ← HST.out, Nat.min_eq_left hn1]
     exact this
    ·show (t.extract n t.size).size < t.size
     rw [ByteArray.size_extract]; omega
  ·have hbt : decide ((0 : Int) < (t.size : Int)) = false := by simpa using (show ¬ (0 : Int) < (t.size : Int) by omega)
   have htl : t.data.toList = [] := List.length_eq_zero_iff.1 (by rw [← Lib.size_eq]; omega)
   rw [htl, List.append_nil, absorb_lt s hpl] at hA
   have HA := Lib.hid hA; have HP := Lib.hid hp; have Q := Lib.hid q
   clear hA hp q htl
   go_wp2_with fail
   go_end0
   refine ⟨rfl, ?_, hb⟩
   rw [HG.out, ← HA.out]
   rw [← HN.out]
   exact ⟨rest, hr, HP.out, hpl, Q.out⟩
end Go.Proofs.YtlccihidedfemaaGreatDoor

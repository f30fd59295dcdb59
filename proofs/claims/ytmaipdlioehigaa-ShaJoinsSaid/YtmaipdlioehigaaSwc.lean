/-
  Contracts over this translation: the statement ShaPads as a walk.
-/
import Derived.WalkKit
import Derived.LoopTactic
import Derived.Outline
import Derived.Laws.BitsAllLaws
import Derived.Lib.Hide
import Derived.Below
import Derived.Laws.Rows
import Derived.Laws.CopyOwn
import Derived.Test.YtmaipdlioehigaaProg
import Derived.Test.YtmaipdlioehigaaShm
import Derived.Test.YtmaipdlioehigaaSwb
import Derived.Great.BuildSlice
import Derived.BigRegion
import Derived.Deep.QuietTactic
import Derived.BigQuiet
import Derived.StillTailTactics
import Derived.IntWalk
import Derived.WalkSmall
import Derived.RegionTactic
set_option linter.unusedVariables false
set_option pp.maxSteps 200000
namespace Go.Proofs.Ytmaipdlioehigaa
open Go.RowKit Go.Sort

theorem wpQuiet_conv_row {ops : Array Oper} {w0 : World} {Q : Act → Prop} {a : Act} {o : Oper} {rest : List Oper} (hw : Region.wanted o (yielded ops a.tmps) = true) (x : Operand) (ho : o.op = .convert 36 9 x)
    (B n cap : Nat) (hx : a.eval x = .slice (some ⟨B, 0, none⟩) n cap) (l : List UInt8) (T : TypeId) (hR : Row w0 B (bytV l) T) (hn : l.length = n)
    (h : wpQuiet Try.prog ops (fun w' => ∃ p : Regrown, w' = grow (redrawn w0 p.d) p.os) Q rest (a.put o.dst (.string ⟨l.toArray⟩))) : wpQuiet Try.prog ops (fun w' => ∃ p : Regrown, w' = grow (redrawn w0 p.d) p.os) Q (o :: rest) a := by
  refine wpQuiet_run hw _ (fun w hC => ?_) h
  obtain ⟨p, rfl⟩ := hC
  have hr := conv_bytes (row_grown hR p.d p.os) n cap hn
  unfold execOp
  simp only [ho, hx, Sem.run_bind, hr, Result.andThen_ok, Sem.run_pure]

/-- A text of less than 56 bytes, filled up. -/
def padX (l : List UInt8) : List UInt8 := ((l ++ List.replicate (64 - l.length) 0).set l.length 128).set 62 (UInt8.ofNat (l.length * 8 / 256)) |>.set 63 (UInt8.ofNat (l.length * 8))
theorem small_zero {n k : Nat} (hn : n ≤ 55) (hk : 16 ≤ k) : UInt8.ofNat (n * 8 / 2 ^ k) = 0 := by
  have : n * 8 / 2 ^ k = 0 := Nat.div_eq_of_lt (Nat.lt_of_lt_of_le (by omega : n * 8 < 2 ^ 16) (Nat.pow_le_pow_right (by decide) hk))
  rw [this]; rfl
theorem be8_small (n : Nat) (hn : n ≤ 55) : be8 (n * 8) = [0, 0, 0, 0, 0, 0, UInt8.ofNat (n * 8 / 256), UInt8.ofNat (n * 8)] := by
  show [UInt8.ofNat (n * 8 / 2 ^ 56), UInt8.ofNat (n * 8 / 2 ^ 48), UInt8.ofNat (n * 8 / 2 ^ 40), UInt8.ofNat (n * 8 / 2 ^ 32), UInt8.ofNat (n * 8 / 2 ^ 24), UInt8.ofNat (n * 8 / 2 ^ 16), UInt8.ofNat (n * 8 / 2 ^ 8), UInt8.ofNat (n * 8 / 2 ^ 0)] = _
  rw [small_zero hn (by decide), small_zero hn (by decide), small_zero hn (by decide), small_zero hn (by decide), small_zero hn (by decide), small_zero hn (by decide), Nat.pow_zero, Nat.div_one]
theorem padX_eq (l : List UInt8) (h : l.length ≤ 55) : padX l = l ++ closing l.length := by
  have hz : zerosN l.length = 55 - l.length := by unfold zerosN; omega
  unfold padX closing
  rw [be8_small _ h, hz, List.set_append_right _ _ (Nat.le_refl _), Nat.sub_self, show 64 - l.length = (55 - l.length) + 8 + 1 by omega, List.replicate_succ, List.set_cons_zero,
    List.set_append_right _ _ (by omega), List.set_append_right _ _ (by omega), show 62 - l.length = (61 - l.length) + 1 by omega, show 63 - l.length = (62 - l.length) + 1 by omega, List.set_cons_succ, List.set_cons_succ,
    ← List.replicate_append_replicate, List.set_append_right _ _ (by simp; omega), List.set_append_right _ _ (by simp; omega), List.length_replicate, show 61 - l.length - (55 - l.length) = 6 by omega, show 62 - l.length - (55 - l.length) = 7 by omega]
  rfl
theorem padX_len (l : List UInt8) (h : l.length ≤ 55) : (padX l).length = 64 := by simp [padX]; omega

theorem copy_head (W : World) (B : Nat) (T : TypeId) (s : ByteArray) (l : List UInt8) (hl : l = s.data.toList) (h55 : l.length ≤ 64) (hR : Row W B (bytV (List.replicate 64 0)) T) :
    (Builtin.copy_ #[36, 9] 3 #[.slice (some ⟨B, 0, none⟩) 64 64, .string s]).run Try.prog W = .ok (goInt l.length) (W.setRow B (bytV (l ++ List.replicate (64 - l.length) 0))) := by
  have hsz := Lib.size_eq s
  have e : bytV (List.replicate 64 0) = (([] : List Value) ++ (List.replicate l.length (0 : UInt8)).map (fun n : UInt8 => Value.int .u8 (n.toNat : Int)) ++ (List.replicate (64 - l.length) (0 : UInt8)).map (fun n : UInt8 => Value.int .u8 (n.toNat : Int))).toArray := by
    rw [List.nil_append, ← List.map_append, List.replicate_append_replicate, show l.length + (64 - l.length) = 64 by omega]; rfl
  rw [e] at hR
  have := run_copy_part (P := Try.prog) W 36 9 3 5 B 64 64 s _ _ _ T Try.underlying36 (by kernel_rfl) hR l.length (by rw [hsz, ← hl]; exact Nat.min_eq_left h55) (by simp)
  rw [List.length_nil] at this
  rw [this]
  congr 2
  simp only [bytV, List.nil_append, List.map_append, Lib.byteCells]
  rw [← hl, List.take_of_length_le (Nat.le_refl _)]

set_option maxRecDepth 100000 in
set_option maxHeartbeats 4000000 in
theorem ShaPads_walk (s : ByteArray) (b : List UInt8) (hb : b.length = 64) (w : World) :
    Calls Try.prog 6 #[.string s, .agg (bytV b)] w fun e w' => e = .returned (.bool true) ∧ RowKit.Below w.heap.size w w' := by
  obtain ⟨l, hl⟩ : ∃ l, l = s.data.toList := ⟨_, rfl⟩
  have hn : s.size = l.length := by rw [hl]; exact Lib.size_eq s
  have hX8 : (bytV b).size = 64 := by rw [bytV_size, hb]
  by_cases h : s.size ≤ 55
  · have hbd : decide ((55 : Int) < (s.size : Int)) = false := by simpa using (show ¬ (55 : Int) < (s.size : Int) by omega)
    have hp := padX_len l (by omega)
    have hpe := padX_eq l (by omega)
    -- the contracts
    obtain ⟨S1, hS1⟩ : ∃ S : ByteArray, S = ⟨(shaSum l).toArray⟩ := ⟨_, rfl⟩
    have C1 := Lib.hid (fun w => Sum_any s (by omega) w)
    rw [← hl, ← hS1] at C1
    have C2 := Lib.hid (fun w => refFirst_any w)
    obtain ⟨f1, hf1⟩ : ∃ f, f = blk first (padX l) := ⟨_, rfl⟩
    have C3 := Lib.hid (fun w => refBlock_any (padX l) hp first first_ok w)
    rw [show blkS first (fun i => ((padX l).getD i 0).toNat) = f1 from hf1.symm] at C3
    have hk1 : f1.ok := by rw [hf1]; exact blk_ok _ _
    have e1 : (⟨f1.bytes.toArray⟩ : ByteArray) = S1 := by
      rw [hS1, shaSum, ← hpe, absorb_one first hp, ← hf1]
    have C4 := Lib.hid (fun w => lawBytes_any f1 hk1 w)
    rw [e1] at C4
    obtain ⟨S2, hS2⟩ : ∃ S : ByteArray, S = ⟨(shaSum b).toArray⟩ := ⟨_, rfl⟩
    have C5 := Lib.hid (fun w => Sum_any ⟨b.toArray⟩ (by rw [size_mk, hb]; decide) w)
    rw [show (⟨b.toArray⟩ : ByteArray).data.toList = b from rfl, ← hS2] at C5
    have hy : (closing 64).length = 64 := by rw [closing_len]; decide
    obtain ⟨Y, hY⟩ : ∃ Y, Y = bytV (closing 64) := ⟨_, rfl⟩
    have C6 := Lib.hid (fun w => refBlock_any b hb first first_ok w)
    obtain ⟨f2, hf2⟩ : ∃ f, f = blk first b := ⟨_, rfl⟩
    rw [show blkS first (fun i => (b.getD i 0).toNat) = f2 from hf2.symm] at C6
    have hk2 : f2.ok := by rw [hf2]; exact blk_ok _ _
    have C7 := Lib.hid (fun w => refBlock_any (closing 64) hy f2 hk2 w)
    obtain ⟨f3, hf3⟩ : ∃ f, f = blk f2 (closing 64) := ⟨_, rfl⟩
    rw [show blkS f2 (fun i => ((closing 64).getD i 0).toNat) = f3 from hf3.symm, ← hY] at C7
    have hk3 : f3.ok := by rw [hf3]; exact blk_ok _ _
    have e3 : (⟨f3.bytes.toArray⟩ : ByteArray) = S2 := by
      rw [hS2, shaSum, hb, absorb_cons first hb, ← hf2, absorb_one f2 hy, ← hf3]
    have C8 := Lib.hid (fun w => lawBytes_any f3 hk3 w)
    rw [e3] at C8
    have hY8 : Y.size = 64 := by rw [hY, bytV_size, hy]
    obtain ⟨P1, hP1⟩ : ∃ P1, P1 = bytV (padX l) := ⟨_, rfl⟩
    have hP8 : P1.size = 64 := by rw [hP1, bytV_size, hp]
    rw [← hP1] at C3
    obtain ⟨X, hX⟩ : ∃ X, X = bytV b := ⟨_, rfl⟩
    rw [← hX] at C6 hX8 ⊢
    have HY := Lib.hid hY; have HY8 := Lib.hid hY8; have HP1 := Lib.hid hP1; have HP8 := Lib.hid hP8; have HX := Lib.hid hX; have HX8 := Lib.hid hX8
    have HL := Lib.hid hl; have HN := Lib.hid hn
    clear hS1 hf1 e1 hS2 hy hf2 hf3 e3 hY hY8 hP1 hP8 hX hX8 hp hpe hl hn
    -- memory
    have qx : Row (w.alloc (.cells X 25)) w.heap.size X 25 := Row.made _ _ _
    have qz : Row ((w.alloc (.cells X 25)).alloc (.cells (zbyt 64) 25)) (w.heap.size + 1) (bytV (List.replicate 64 0)) 25 := by
      have := Row.made (w.alloc (.cells X 25)) (zbyt 64) 25
      simpa [zbyt] using this
    have qx2 : Row ((w.alloc (.cells X 25)).alloc (.cells (zbyt 64) 25)) w.heap.size X 25 := qx.alloc _
    have hcp := copy_head _ _ _ s l HL.out (by have := HN.out; omega) qz
    have hb0 : RowKit.Below w.heap.size w ((w.alloc (.cells X 25)).alloc (.cells (zbyt 64) 25)) := ((RowKit.Below.refl _ _).alloc (Nat.le_refl _) _).alloc (by simp) _
    have q3 := qz.setRow (bytV (l ++ List.replicate (64 - l.length) 0))
    have q4 := qx2.setRow_other (w.heap.size + 1) (bytV (l ++ List.replicate (64 - l.length) 0)) (by omega)
    have hb1 := below_setRow hb0 (show w.heap.size ≤ w.heap.size + 1 by omega) (bytV (l ++ List.replicate (64 - l.length) 0))
    obtain ⟨W1, hW1⟩ : ∃ W1, W1 = ((w.alloc (.cells X 25)).alloc (.cells (zbyt 64) 25)).setRow (w.heap.size + 1) (bytV (l ++ List.replicate (64 - l.length) 0)) := ⟨_, rfl⟩
    have hsz1 : W1.heap.size = w.heap.size + 2 := by rw [hW1]; simp
    rw [← hW1] at hcp q3 q4 hb1
    have HCP := Lib.hid hcp; have Q3 := Lib.hid q3; have Q4 := Lib.hid q4; have HSZ := Lib.hid hsz1
    clear hcp q3 q4 hb0 qx qz qx2 hW1 hsz1
    go_enter Try.func6, Try.ntmps6
    go_wp2_with (refine wpList_alloc_zero rfl 25 rfl _ zero25 ?_)
    rw [HCP.out]
    simp only [Result.andThen]
    rw [Oper.upon_value]
    have hl64 : (l ++ List.replicate (64 - l.length) 0).length = 64 := by have := HN.out; simp; omega
    have cell64 : ∀ i, i < 64 → ∃ v, W1.cell? ⟨w.heap.size + 1, i, none⟩ = some v := fun i hi => ⟨_, by rw [Q3.out.cell, bytV_get _ _ (by rw [hl64]; exact hi)]⟩
    obtain ⟨v0, c0⟩ := cell64 s.size (by omega)
    obtain ⟨v1, c1⟩ := cell64 62 (by omega)
    obtain ⟨v2, c2⟩ := cell64 63 (by omega)
    have f0 := Q3.out.free s.size
    have f1 := Q3.out.free 62
    have f2 := Q3.out.free 63
    have n1 : ¬ s.size = 62 := by omega
    have n2 : ¬ s.size = 63 := by omega
    have n3 : ¬ 62 = s.size := by omega
    have n4 : ¬ 63 = s.size := by omega
    have bs : (0 : Int) ≤ (s.size : Int) ∧ (s.size : Int) < 64 := by omega
    clear cell64 HCP hl64
    obtain ⟨W2, hW2⟩ : ∃ W2, W2 = ((W1.setCell ⟨w.heap.size + 1, s.size, none⟩ (.int .u8 128)).setCell ⟨w.heap.size + 1, 62, none⟩ (.int .u8 ((s.size : Int) * 8 / 256))).setCell ⟨w.heap.size + 1, 63, none⟩ (.int .u8 ((s.size : Int) * 8 % 256)) := ⟨_, rfl⟩
    have z2 : W2.heap.size = W1.heap.size := by rw [hW2]; simp
    have p2 : Row W2 (w.heap.size + 1) P1 25 := by
      have h1 := ((Q3.out.set s.size (.int .u8 (((128 : UInt8).toNat : Nat) : Int))).set 62 (.int .u8 ((UInt8.ofNat (l.length * 8 / 256)).toNat : Nat))).set 63 (.int .u8 ((UInt8.ofNat (l.length * 8)).toNat : Nat))
      rw [bytV_set, bytV_set, bytV_set] at h1
      have e1 : ((UInt8.ofNat (l.length * 8 / 256)).toNat : Int) = (s.size : Int) * 8 / 256 := by have := HN.out; rw [UInt8.toNat_ofNat']; omega
      have e2 : ((UInt8.ofNat (l.length * 8)).toNat : Int) = (s.size : Int) * 8 % 256 := by have := HN.out; rw [UInt8.toNat_ofNat']; omega
      rw [e1, e2, HN.out] at h1
      rw [hW2, HP1.out, HN.out]
      exact h1
    have x2 : Row W2 w.heap.size X 25 := by
      rw [hW2]
      exact ((Q4.out.other _ _ (by show w.heap.size ≠ w.heap.size + 1; omega)).other _ _ (by show w.heap.size ≠ w.heap.size + 1; omega)).other _ _ (by show w.heap.size ≠ w.heap.size + 1; omega)
    have b2 : RowKit.Below w.heap.size w W2 := by
      rw [hW2]
      exact ((hb1.setCell (by show w.heap.size ≤ w.heap.size + 1; omega) _).setCell (by show w.heap.size ≤ w.heap.size + 1; omega) _).setCell (by show w.heap.size ≤ w.heap.size + 1; omega) _
    have y3 : (W2.alloc (.cells (zbyt 64) 25)).heap[W2.heap.size]? = some (.cells (zbyt 64) 25 (0, 0)) := Row.made _ _ _
    have y4 : Row ((W2.alloc (.cells (zbyt 64) 25)).setRow W2.heap.size Y) W2.heap.size Y 25 := Row.setRow (xs := zbyt 64) y3 _
    have hs2 := HSZ.out
    have p4 : Row ((W2.alloc (.cells (zbyt 64) 25)).setRow W2.heap.size Y) (w.heap.size + 1) P1 25 := (p2.alloc _).setRow_other _ _ (by omega)
    have x4 : Row ((W2.alloc (.cells (zbyt 64) 25)).setRow W2.heap.size Y) w.heap.size X 25 := (x2.alloc _).setRow_other _ _ (by omega)
    have b4 : RowKit.Below w.heap.size w ((W2.alloc (.cells (zbyt 64) 25)).setRow W2.heap.size Y) := below_setRow (b2.alloc (by omega) _) (by omega) _
    have HW2 := Lib.hid hW2; have Y3 := Lib.hid y3; have Y4 := Lib.hid y4; have P4 := Lib.hid p4; have X4 := Lib.hid x4
    clear hW2 z2 p2 x2 y3 y4 p4 x4 Q3 Q4 b2 hb1 hs2
    go_wp2_with (first
      | (rw [← HW2.out]; refine wpList_alloc_zero rfl 25 rfl _ zero25 ?_)
      | (refine wpList_store_row rfl 25 (.tmp 6) (.tmp 28) rfl W2.heap.size Y rfl (by rw [HY.out]; kernel_rfl) 25 (zbyt 64) Y3.out (by rw [HY8.out]; exact size25) (by rw [HY8.out, zbyt_size]) (by rw [HY.out]; exact bytV_one _) ?_))
    simp only [Act.put, List.setIfInBounds_toArray, List.set_cons_zero, List.set_cons_succ]
    obtain ⟨D, hD⟩ : ∃ D, D = W2.heap.size := ⟨_, rfl⟩
    obtain ⟨W3, hW3⟩ : ∃ W3, W3 = (W2.alloc (.cells (zbyt 64) 25)).setRow W2.heap.size Y := ⟨_, rfl⟩
    rw [← hW3] at Y4 P4 X4 b4 ⊢
    rw [← hD] at Y4 ⊢
    have xq : Row W3 w.heap.size (bytV b) 25 := by rw [← HX.out]; exact X4.out
    have XQ := Lib.hid xq
    clear Y3 hW3 hD HW2 xq c0 c1 c2 f0 f1 f2 n1 n2 n3 n4 bs
    refine wp_region_quiet_below (by kernel_rfl) (by kernel_rfl) ?_
    repeat (first
      | refine wpQuiet_load_row (by rfl) 25 _ rfl (w.heap.size + 1) rfl P1 _ P4.out _ Try.underlying25 rfl (by rw [HP8.out]; exact size25) ?_
      | refine wpQuiet_load_row (by rfl) 25 _ rfl w.heap.size rfl X _ X4.out _ Try.underlying25 rfl (by rw [HX8.out]; exact size25) ?_
      | refine wpQuiet_load_row (by rfl) 25 _ rfl D rfl Y _ Y4.out _ Try.underlying25 rfl (by rw [HY8.out]; exact size25) ?_
      | refine wpQuiet_conv_row (by rfl) _ rfl w.heap.size 64 64 rfl b _ XQ.out hb ?_
      | go_big_quiet_step ((first | (go_at_call 13; with_reducible exact Calls.regrown_of (C1.out _)) | (go_at_call 13; with_reducible exact Calls.regrown_of (C5.out _)) | (go_at_call 9; with_reducible exact Calls.regrown_of (C2.out _)) | (go_at_call 11; with_reducible exact Calls.regrown_of (C3.out _)) | (go_at_call 11; with_reducible exact Calls.regrown_of (C6.out _)) | (go_at_call 11; with_reducible exact Calls.regrown_of (C7.out _)) | (go_at_call 16; with_reducible exact Calls.regrown_of (C4.out _)) | (go_at_call 16; with_reducible exact Calls.regrown_of (C8.out _)) | (go_at_call 12; exact Calls.regrown_of (awake_any _))))
      | quiet_step ((first | (go_at_call 13; with_reducible exact Calls.regrown_of (C1.out _)) | (go_at_call 13; with_reducible exact Calls.regrown_of (C5.out _)) | (go_at_call 9; with_reducible exact Calls.regrown_of (C2.out _)) | (go_at_call 11; with_reducible exact Calls.regrown_of (C3.out _)) | (go_at_call 11; with_reducible exact Calls.regrown_of (C6.out _)) | (go_at_call 11; with_reducible exact Calls.regrown_of (C7.out _)) | (go_at_call 16; with_reducible exact Calls.regrown_of (C4.out _)) | (go_at_call 16; with_reducible exact Calls.regrown_of (C8.out _)) | (go_at_call 12; exact Calls.regrown_of (awake_any _)))))
    refine wpQuiet_nil ?_
    intro wq hwq
    have hbq : RowKit.Below W3.heap.size W3 wq := by obtain ⟨p, rfl⟩ := hwq; exact below_regrown _ _ _
    clear hwq
    go_wp2
    go_ret
    exact ⟨rfl, below_step b4 hbq⟩
  · have hbd : decide ((55 : Int) < (s.size : Int)) = true := by simpa using (show (55 : Int) < (s.size : Int) by omega)
    clear hn hl
    go_enter Try.func6, Try.ntmps6
    go_wp2_with fail
    refine (awake_any _).mono ?_
    rintro e w3 ⟨rfl, hb3⟩
    go_wp2_with fail
    go_ret
    exact ⟨rfl, below_step ((RowKit.Below.refl _ _).alloc (Nat.le_refl _) _) hb3⟩
end Go.Proofs.Ytmaipdlioehigaa

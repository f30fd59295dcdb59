/-
  Contracts over this translation: the document's Block.
-/
import Derived.WalkKit
import Derived.LoopTactic
import Derived.Outline
import Derived.Laws.BitsAllLaws
import Derived.Lib.Hide
import Derived.Below
import Derived.Laws.Rows
import Derived.Laws.CopyOwn
import Derived.Test.YtlccihidedfemaaGreatDoorProg
import Derived.Test.YtlccihidedfemaaGreatDoorQb0
import Derived.Test.YtlccihidedfemaaGreatDoorYbShc
import Derived.Great.BuildSlice
import Derived.BigRegion
import Derived.Deep.QuietTactic
import Derived.BigQuiet
import Derived.StillTailTactics
import Derived.IntWalk
import Derived.WalkSmall
import Derived.RegionTactic
set_option linter.unusedVariables false
set_option pp.maxSteps 200000
namespace Go.Proofs.YtlccihidedfemaaGreatDoor
open Go.RowKit
set_option maxRecDepth 100000 in
set_option maxHeartbeats 1000000 in
theorem chsr_int (e f g : Nat) (he : e < 4294967296) (hf : f < 4294967296) (hg : g < 4294967296) :
  bits .xor .u32 (bits .and .u32 (e : Int) (f : Int)) (bits .and .u32 (4294967295 - (e : Int)) (g : Int)) = (chs e f g : Nat) := by
 rw [show 4294967295 - (e : Int) = ((4294967295 - e : Nat) : Int) by omega, u32_and_nat _ _ he hf, u32_and_nat _ _ (by omega) hg, u32_xor_nat _ _ (and_lt' he) (and_lt' (by omega))]; rfl
def set8 (W : World) (D : Nat) (v0 v1 v2 v3 v4 v5 v6 v7 : Nat) : World :=
 (((((((W.setCell ⟨D, 7, none⟩ (.int .u32 v7)).setCell ⟨D, 6, none⟩ (.int .u32 v6)).setCell ⟨D, 5, none⟩ (.int .u32 v5)).setCell ⟨D, 4, none⟩ (.int .u32 v4)).setCell ⟨D, 3, none⟩ (.int .u32 v3)).setCell ⟨D, 2, none⟩ (.int .u32 v2)).setCell ⟨D, 1, none⟩ (.int .u32 v1)).setCell ⟨D, 0, none⟩ (.int .u32 v0)
theorem set8_row {W : World} {D : Nat} {r : St} {T : TypeId} (q : Row W D (numV r.list) T) (v0 v1 v2 v3 v4 v5 v6 v7 : Nat) : Row (set8 W D v0 v1 v2 v3 v4 v5 v6 v7) D (numV (St.list ⟨v0, v1, v2, v3, v4, v5, v6, v7⟩)) T := by
 have h := (((((((q.set 7 (.int .u32 v7)).set 6 (.int .u32 v6)).set 5 (.int .u32 v5)).set 4 (.int .u32 v4)).set 3 (.int .u32 v3)).set 2 (.int .u32 v2)).set 1 (.int .u32 v1)).set 0 (.int .u32 v0)
 rw [numV_set, numV_set, numV_set, numV_set, numV_set, numV_set, numV_set, numV_set] at h
 exact h
theorem set8_other {W : World} {B D : Nat} {xs : Array Value} {T : TypeId} (q : Row W B xs T) (hne : B ≠ D) (v0 v1 v2 v3 v4 v5 v6 v7 : Nat) : Row (set8 W D v0 v1 v2 v3 v4 v5 v6 v7) B xs T :=
 (((((((q.other _ _ hne).other _ _ hne).other _ _ hne).other _ _ hne).other _ _ hne).other _ _ hne).other _ _ hne).other _ _ hne
theorem set8_below {W : World} {b D : Nat} {w : World} (h : Below b w W) (hD : b ≤ D) (v0 v1 v2 v3 v4 v5 v6 v7 : Nat) : Below b w (set8 W D v0 v1 v2 v3 v4 v5 v6 v7) :=
 (((((((h.setCell hD _).setCell hD _).setCell hD _).setCell hD _).setCell hD _).setCell hD _).setCell hD _).setCell hD _
theorem row8 {W : World} {D : Nat} {a b c d e f g h : Nat} {T : TypeId} (q : Row W D (numV (St.list ⟨a, b, c, d, e, f, g, h⟩)) T) :
  (W.cell? ⟨D, 0, none⟩ = some (.int .u32 a) ∧ W.cell? ⟨D, 1, none⟩ = some (.int .u32 b) ∧ W.cell? ⟨D, 2, none⟩ = some (.int .u32 c) ∧ W.cell? ⟨D, 3, none⟩ = some (.int .u32 d) ∧
   W.cell? ⟨D, 4, none⟩ = some (.int .u32 e) ∧ W.cell? ⟨D, 5, none⟩ = some (.int .u32 f) ∧ W.cell? ⟨D, 6, none⟩ = some (.int .u32 g) ∧ W.cell? ⟨D, 7, none⟩ = some (.int .u32 h)) ∧
  (W.frozen? ⟨D, 0, none⟩ = false ∧ W.frozen? ⟨D, 1, none⟩ = false ∧ W.frozen? ⟨D, 2, none⟩ = false ∧ W.frozen? ⟨D, 3, none⟩ = false ∧ W.frozen? ⟨D, 4, none⟩ = false ∧ W.frozen? ⟨D, 5, none⟩ = false ∧ W.frozen? ⟨D, 6, none⟩ = false ∧ W.frozen? ⟨D, 7, none⟩ = false) := by
 refine ⟨⟨?_, ?_, ?_, ?_, ?_, ?_, ?_, ?_⟩, q.free 0, q.free 1, q.free 2, q.free 3, q.free 4, q.free 5, q.free 6, q.free 7⟩ <;> (rw [q.cell]; rfl)
set_option maxRecDepth 100000 in
set_option maxHeartbeats 4000000 in
theorem refBlock_any (l : List UInt8) (hl : l.length = 64) (s : St) (hs : s.ok) (w : World) : Calls Tryz.prog 45 #[.agg (numV s.list), .agg (bytV l)] w fun e w' => e = .returned (.agg (numV (blkS s (fun i => (l.getD i 0).toNat)).list)) ∧ Below w.heap.size w w' := by
 obtain ⟨L, hL⟩ : ∃ L : Nat → Nat, L = fun i => (l.getD i 0).toNat := ⟨_, rfl⟩
 have hl8 : ∀ i, L i < 256 := fun i => by rw [hL]; exact UInt8.toNat_lt _
 have CS := Lib.hid (fun w => refWords_any l hl w)
 rw [← hL] at CS ⊢
 have HF : Hid (blkS s L = s.add (rounds L s 64)) := Lib.hid rfl
 have hw64 := wlist_len L 64
 have hV8 : (numV s.list).size = 8 := by rw [numV_size]; rfl
 have hX8 : (bytV l).size = 64 := by rw [bytV_size, hl]
 obtain ⟨X, hX⟩ : ∃ X, X = bytV l := ⟨_, rfl⟩
 obtain ⟨Y, hY⟩ : ∃ Y, Y = numV (wlist L 64) := ⟨_, rfl⟩
 have hY8 : Y.size = 64 := by rw [hY, numV_size, hw64]
 rw [← hX] at CS hX8 ⊢
 rw [← hY] at CS
 obtain ⟨V, hV⟩ : ∃ V, V = numV s.list := ⟨_, rfl⟩
 rw [← hV] at hV8 ⊢
 have HV := Lib.hid hV; have HX := Lib.hid hX; have HV8 := Lib.hid hV8; have HX8 := Lib.hid hX8; have HY := Lib.hid hY; have HY8 := Lib.hid hY8; have HL8 := Lib.hid hl8
 clear hL hV hX hV8 hX8 hY hY8 hw64 hl8
 obtain ⟨q1, q2, q3, qb, qz⟩ := alloc3 w V X (zrow 8) 87 89 87
 have Q1 := Lib.hid q1; have Q2 := Lib.hid q2; have Q3 := Lib.hid q3; have QZ := Lib.hid qz
 clear q1 q2 q3 qz
 go_enter Tryz.func45, Tryz.ntmps45
 go_wp2_with (first
  | refine wpList_alloc_zero rfl _ rfl _ zero24 ?_
  | refine wpList_load_row rfl 89 _ rfl (w.heap.size + 1) rfl 89 X (0, 0) _ Q2.out Tryz.underlying89 rfl (by rw [HX8.out]; kernel_rfl) ?_)
 refine (CS.out _).mono ?_
 rintro e w1 ⟨rfl, hb1⟩
 have hz1 : w.heap.size + 3 ≤ w1.heap.size := by have := hb1.size; rw [QZ.out] at this; exact this
 have r1 := Q1.out.step hb1; have r3 := Q3.out.step hb1
 have hb1' := below_step qb (hb1.mono (by simp))
 have R1 := Lib.hid r1; have R3 := Lib.hid r3
 clear Q1 Q2 Q3 QZ qb hb1 r1 r3
 go_wp2_with (first
  | refine wpList_alloc_zero rfl _ rfl _ zero43 ?_
  | refine wpList_store_row rfl 116 _ _ rfl w1.heap.size Y rfl rfl 116 (zrow 64) (heap_alloc_new _ _) (by rw [HY8.out]; exact size43) (by rw [HY8.out, zrow_size]) (by rw [HY.out]; exact numV_one _) ?_)
 refine (refConstants_any _).mono ?_
 rintro e w2 ⟨rfl, hb2⟩
 obtain ⟨A, hA⟩ : ∃ A, A = w1.heap.size := ⟨_, rfl⟩
 have ra : Row w2 A Y 116 := by rw [hA]; exact (Row.setRow (Row.made _ _ _) _).step hb2
 have r1 : Row w2 w.heap.size V 87 := (Row.setRow_other (R1.out.alloc _) _ _ (by omega)).step hb2
 have r3 : Row w2 (w.heap.size + 1 + 1) (zrow 8) 87 := (Row.setRow_other (R3.out.alloc _) _ _ (by omega)).step hb2
 have hb2' : Below w.heap.size w w2 := below_step (below_setRow (hb1'.alloc (by omega) _) (by omega) _) hb2
 have hz2 : A < w2.heap.size := ra.lt
 rw [← hA] at hz1 ⊢
 have qc : Row ((w2.alloc (.cells (zrow 64) 116)).setRow w2.heap.size (numV ktab)) w2.heap.size (numV ktab) 116 := Row.setRow (Row.made _ _ _) _
 have qa : Row ((w2.alloc (.cells (zrow 64) 116)).setRow w2.heap.size (numV ktab)) A Y 116 := Row.setRow_other (ra.alloc _) _ _ (by omega)
 have q1 : Row ((w2.alloc (.cells (zrow 64) 116)).setRow w2.heap.size (numV ktab)) w.heap.size V 87 := Row.setRow_other (r1.alloc _) _ _ (by omega)
 have q3 : Row ((w2.alloc (.cells (zrow 64) 116)).setRow w2.heap.size (numV ktab)) (w.heap.size + 1 + 1) (zrow 8) 87 := Row.setRow_other (r3.alloc _) _ _ (by omega)
 have qb : Below w.heap.size w ((w2.alloc (.cells (zrow 64) 116)).setRow w2.heap.size (numV ktab)) := below_setRow (hb2'.alloc (by omega) _) (by omega) _
 clear R1 R3 hb1' hb2 ra r1 r3 hb2'
 obtain ⟨C, hC⟩ : ∃ C, C = w2.heap.size := ⟨_, rfl⟩
 obtain ⟨W3, hW3⟩ : ∃ W3, W3 = ((w2.alloc (.cells (zrow 64) 116)).setRow w2.heap.size (numV ktab)) := ⟨_, rfl⟩
 have hz3 : W3.heap.size = C + 1 := by rw [hW3, hC]; simp
 rw [← hW3] at qc qa q1 q3 qb
 rw [← hC] at qc hz2
 have QC := Lib.hid qc; have QA := Lib.hid qa; have Q1 := Lib.hid q1; have Q3 := Lib.hid q3; have HW3 := Lib.hid hW3; have HC := Lib.hid hC; have HZ3 := Lib.hid hz3; have HA := Lib.hid hA
 clear qc qa q1 q3 hC hW3 hz3 hA
 go_wp2_with (first
  | refine wpList_alloc_zero rfl _ rfl _ zero43 ?_
  | (refine wpList_store_row rfl 116 _ _ rfl w2.heap.size (numV ktab) rfl rfl 116 (zrow 64) (heap_alloc_new _ _) (by rw [numV_size]; exact size43) (by rw [numV_size]; kernel_rfl) (numV_one _) ?_; rw [← HW3.out, ← HC.out])
  | refine wpList_load_row rfl 87 _ rfl w.heap.size rfl 87 V (0, 0) _ Q1.out Tryz.underlying87 rfl (by rw [HV8.out]; exact size24) ?_
  | refine wpList_alloc_zero rfl 87 rfl _ zero24 ?_
  | refine wpList_store_row rfl 87 _ _ rfl W3.heap.size V rfl rfl 87 (zrow 8) (heap_alloc_new _ _) (by rw [HV8.out]; exact size24) (by rw [HV8.out, zrow_size]) (by rw [HV.out]; exact numV_one _) ?_)
 obtain ⟨D, hD⟩ : ∃ D, D = W3.heap.size := ⟨_, rfl⟩
 have hz3 : C < D := by rw [hD, HZ3.out]; omega
 have qd : Row ((W3.alloc (.cells (zrow 8) 87)).setRow W3.heap.size V) D (numV (rounds L s 0).list) 87 := by
  rw [hD, show rounds L s 0 = s from rfl, ← HV.out]; exact Row.setRow (Row.made _ _ _) _
 have qc : Row ((W3.alloc (.cells (zrow 8) 87)).setRow W3.heap.size V) C (numV ktab) 116 := Row.setRow_other (QC.out.alloc _) _ _ (by omega)
 have qa : Row ((W3.alloc (.cells (zrow 8) 87)).setRow W3.heap.size V) A Y 116 := Row.setRow_other (QA.out.alloc _) _ _ (by omega)
 have q1 : Row ((W3.alloc (.cells (zrow 8) 87)).setRow W3.heap.size V) w.heap.size V 87 := Row.setRow_other (Q1.out.alloc _) _ _ (by omega)
 have q3 : Row ((W3.alloc (.cells (zrow 8) 87)).setRow W3.heap.size V) (w.heap.size + 1 + 1) (zrow 8) 87 := Row.setRow_other (Q3.out.alloc _) _ _ (by omega)
 have qb4 : Below w.heap.size w ((W3.alloc (.cells (zrow 8) 87)).setRow W3.heap.size V) := below_setRow (qb.alloc qb.size _) qb.size _
 rw [← hD] at qd qc qa q1 q3 qb4 ⊢
 clear QC QA Q1 Q3 HZ3 HW3 qb hD
 have QD := Lib.hid qd; have QC := Lib.hid qc; have QA := Lib.hid qa; have Q1 := Lib.hid q1; have Q3 := Lib.hid q3
 clear qd qc qa q1 q3
 go_loopw [8] (fun i wr => ∃ k : Nat, k ≤ 64 ∧ i = .int .i64 k ∧ Row wr D (numV (rounds L s k).list) 87 ∧ Row wr C (numV ktab) 116 ∧ Row wr A Y 116 ∧ Row wr w.heap.size V 87 ∧ Row wr (w.heap.size + 1 + 1) (zrow 8) 87 ∧ Below w.heap.size w wr) (fun i _ => 64 - (intOf i).toNat)
 case atStart => exact ⟨0, by omega, rfl, QD.out, QC.out, QA.out, Q1.out, Q3.out, qb4⟩
 case round =>
  clear QD QC QA Q1 Q3 qb4
  obtain ⟨k, hk, rfl, qd, qc, qa, q1, q3, hb⟩ := hrel
  by_cases hlt : k < 64
  ·have hbk : decide ((k : Int) < 64) = true := by simpa using (show (k : Int) < 64 by omega)
   obtain ⟨la, lb, lc, ld, le, lf, lg, lh⟩ := rounds_ok L hs k
   have lw := wd_lt L HL8.out k
   have lk := kt_lt k
   have HN := Lib.hid (show rounds L s (k + 1) = rnd (rounds L s k) (kt k) (wd L k) from rfl)
   obtain ⟨r, hr⟩ : ∃ r, r = rounds L s k := ⟨_, rfl⟩
   rw [← hr] at la lb lc ld le lf lg lh HN qd
   obtain ⟨a, b, c, d, e, f, g, h⟩ := r
   dsimp only at la lb lc ld le lf lg lh
   have ca : wr.cell? ⟨A, k, none⟩ = some (.int .u32 (wd L k : Nat)) := by rw [qa.cell, HY.out, numV_get _ _ (by rw [wlist_len]; exact hlt)]; rfl
   have ct : wr.cell? ⟨C, k, none⟩ = some (.int .u32 (kt k : Nat)) := by rw [qc.cell, numV_get _ _ (by rw [ktab_len]; exact hlt)]; rfl
   obtain ⟨x, hxe⟩ : ∃ x, x = wd L k := ⟨_, rfl⟩
   obtain ⟨y, hye⟩ : ∃ x, x = kt k := ⟨_, rfl⟩
   rw [← hxe] at lw HN ca
   rw [← hye] at lk HN ct
   have b5 : (0 : Int) ≤ (k : Int) ∧ (k : Int) < 64 := by omega
   obtain ⟨⟨d0, d1, d2, d3, d4, d5, d6, d7⟩, f0, f1, f2, f3, f4, f5, f6, f7⟩ := row8 qd
   have QD := Lib.hid qd; have QC := Lib.hid qc; have QA := Lib.hid qa; have Q1 := Lib.hid q1; have Q3 := Lib.hid q3
   have HR := Lib.hid hr; have HXE := Lib.hid hxe; have HYE := Lib.hid hye
   clear qd qc qa q1 q3 hr hxe hye
   go_wp2_with fail
   go_quiet ((go_at_call 75; exact Calls.quiet_of_same (rot_q _ _ (by assumption) (by decide) _)))
   rw [bs1_int e le]
   obtain ⟨W5, hW5⟩ : ∃ W5, W5 = wr.drewN nq := ⟨_, rfl⟩
   rw [← hW5]
   have hb5 : Below w.heap.size w W5 := by rw [hW5]; exact below_drewN hb nq
   have qd := QD.out.drewN nq; have qc := QC.out.drewN nq; have qa := QA.out.drewN nq; have q1 := Q1.out.drewN nq; have q3 := Q3.out.drewN nq
   rw [← hW5] at qd qc qa q1 q3
   have ca' : W5.cell? ⟨A, k, none⟩ = some (.int .u32 x) := by rw [hW5]; exact ca
   have ct' : W5.cell? ⟨C, k, none⟩ = some (.int .u32 y) := by rw [hW5]; exact ct
   clear d0 d1 d2 d3 d4 d5 d6 d7 f0 f1 f2 f3 f4 f5 f6 f7 ca ct QD QC QA Q1 Q3 hb hW5
   have ca := ca'; have ct := ct'
   clear ca' ct'
   obtain ⟨⟨d0, d1, d2, d3, d4, d5, d6, d7⟩, f0, f1, f2, f3, f4, f5, f6, f7⟩ := row8 qd
   have QD := Lib.hid qd; have QC := Lib.hid qc; have QA := Lib.hid qa; have Q1 := Lib.hid q1; have Q3 := Lib.hid q3
   clear qd qc qa q1 q3
   go_wp2_with fail
   rw [chsr_int e f g le lf lg]
   go_quiet (fail)
   obtain ⟨W6, hW6⟩ : ∃ W6, W6 = W5.drewN nq := ⟨_, rfl⟩
   rw [← hW6]
   have hb6 : Below w.heap.size w W6 := by rw [hW6]; exact below_drewN hb5 nq
   have qd := QD.out.drewN nq; have qc := QC.out.drewN nq; have qa := QA.out.drewN nq; have q1 := Q1.out.drewN nq; have q3 := Q3.out.drewN nq
   rw [← hW6] at qd qc qa q1 q3
   have ca' : W6.cell? ⟨A, k, none⟩ = some (.int .u32 x) := by rw [hW6]; exact ca
   have ct' : W6.cell? ⟨C, k, none⟩ = some (.int .u32 y) := by rw [hW6]; exact ct
   clear d0 d1 d2 d3 d4 d5 d6 d7 f0 f1 f2 f3 f4 f5 f6 f7 ca ct QD QC QA Q1 Q3 hb5 hW6
   have ca := ca'; have ct := ct'
   clear ca' ct'
   obtain ⟨⟨d0, d1, d2, d3, d4, d5, d6, d7⟩, f0, f1, f2, f3, f4, f5, f6, f7⟩ := row8 qd
   have QD := Lib.hid qd; have QC := Lib.hid qc; have QA := Lib.hid qa; have Q1 := Lib.hid q1; have Q3 := Lib.hid q3
   clear qd qc qa q1 q3
   go_wp2_with fail
   go_quiet ((go_at_call 75; exact Calls.quiet_of_same (rot_q _ _ (by assumption) (by decide) _)))
   rw [bs0_int a la]
   obtain ⟨W7, hW7⟩ : ∃ W7, W7 = W6.drewN nq := ⟨_, rfl⟩
   rw [← hW7]
   have hb7 : Below w.heap.size w W7 := by rw [hW7]; exact below_drewN hb6 nq
   have qd := QD.out.drewN nq; have qc := QC.out.drewN nq; have qa := QA.out.drewN nq; have q1 := Q1.out.drewN nq; have q3 := Q3.out.drewN nq
   rw [← hW7] at qd qc qa q1 q3
   have ca' : W7.cell? ⟨A, k, none⟩ = some (.int .u32 x) := by rw [hW7]; exact ca
   have ct' : W7.cell? ⟨C, k, none⟩ = some (.int .u32 y) := by rw [hW7]; exact ct
   clear d0 d1 d2 d3 d4 d5 d6 d7 f0 f1 f2 f3 f4 f5 f6 f7 ca ct QD QC QA Q1 Q3 hb6 hW7
   have ca := ca'; have ct := ct'
   clear ca' ct'
   obtain ⟨⟨d0, d1, d2, d3, d4, d5, d6, d7⟩, f0, f1, f2, f3, f4, f5, f6, f7⟩ := row8 qd
   have QD := Lib.hid qd; have QC := Lib.hid qc; have QA := Lib.hid qa; have Q1 := Lib.hid q1; have Q3 := Lib.hid q3
   clear qd qc qa q1 q3
   clear ca ct b5
   go_wp2_with fail
   go_roundw
   case rel =>
    rw [mj_int a b c la lb lc]
    rw [show ((d : Int) + ((h : Int) + (bs1 e : Nat) + (chs e f g : Nat) + (y : Int) + (x : Int))) % 4294967296 = (ad d (tt ⟨a, b, c, d, e, f, g, h⟩ y x) : Nat) by
     show _ = ((ad d (ad (ad (ad (ad h (bs1 e)) (chs e f g)) y) x) : Nat) : Int); unfold ad; omega]
    rw [show ((h : Int) + (bs1 e : Nat) + (chs e f g : Nat) + (y : Int) + (x : Int) + (bs0 a : Nat) + (mj a b c : Nat)) % 4294967296 = (ad (tt ⟨a, b, c, d, e, f, g, h⟩ y x) (ad (bs0 a) (mj a b c)) : Nat) by
     show _ = ((ad (ad (ad (ad (ad h (bs1 e)) (chs e f g)) y) x) (ad (bs0 a) (mj a b c)) : Nat) : Int); unfold ad; omega]
    refine ⟨k + 1, by omega, by go_num, ?_, set8_other QC.out (by omega) _ _ _ _ _ _ _ _, set8_other QA.out (by omega) _ _ _ _ _ _ _ _, set8_other Q1.out (by omega) _ _ _ _ _ _ _ _, set8_other Q3.out (by omega) _ _ _ _ _ _ _ _, set8_below hb7 (by omega) _ _ _ _ _ _ _ _⟩
    rw [HN.out]
    exact set8_row QD.out _ _ _ _ _ _ _ _
   case measure => simp [intOf]; omega
  ·have hk64 : k = 64 := by omega
   have hbk : decide ((k : Int) < 64) = false := by rw [hk64]; rfl
   rw [hk64] at qd
   clear hk64 hk hlt
   obtain ⟨f, hf⟩ : ∃ f, f = rounds L s 64 := ⟨_, rfl⟩
   rw [← hf] at qd HF
   rw [HV.out, ← mixL_zero s f] at q1
   have Q1 := Lib.hid q1; have Q3 := Lib.hid q3; have QD := Lib.hid qd
   clear q1 q3 qd qa qc hf
   go_wp2_with fail
   go_loopw [14] (fun i wr => ∃ k : Nat, k ≤ 8 ∧ i = .int .i64 k ∧ Row wr w.heap.size (numV (mixL s f k)) 87 ∧ Row wr (w.heap.size + 1 + 1) (zrow 8) 87 ∧ Row wr D (numV f.list) 87 ∧ Below w.heap.size w wr) (fun i _ => 8 - (intOf i).toNat)
   case atStart => exact ⟨0, by omega, rfl, Q1.out, Q3.out, QD.out, hb⟩
   case round =>
    clear Q1 Q3 QD hb
    obtain ⟨k, hk, rfl, r1, r3, rd, hb⟩ := hrel
    by_cases hlt : k < 8
    ·have hbk : decide ((k : Int) < 8) = true := by simpa using (show (k : Int) < 8 by omega)
     obtain ⟨x, hx⟩ : ∃ x, x = s.list.getD k 0 := ⟨_, rfl⟩
     obtain ⟨y, hy⟩ : ∃ x, x = f.list.getD k 0 := ⟨_, rfl⟩
     have c1 : wr.cell? ⟨w.heap.size, k, none⟩ = some (.int .u32 x) := by rw [r1.cell, numV_get _ _ (by rw [mixL_len]; exact hlt), mixL_get _ _ _ hlt, hx]
     have c2 : wr.cell? ⟨D, k, none⟩ = some (.int .u32 y) := by rw [rd.cell, numV_get _ _ (by rw [list_len]; exact hlt), hy]
     have cf := r1.free k
     have HM := Lib.hid (mixL_set s f k hlt)
     rw [← hx, ← hy] at HM
     have b5 : (0 : Int) ≤ (k : Int) ∧ (k : Int) < 8 := by omega
     have R1 := Lib.hid r1; have R3 := Lib.hid r3; have RD := Lib.hid rd
     clear r1 r3 rd hx hy
     go_wp2_with fail
     go_still_tail 9, (by kernel_rfl)
     change wpList _ _ _ _ _ wr.drew
     clear c2
     go_wp2_with fail
     go_roundw
     case rel =>
      refine ⟨k + 1, by omega, by go_num, ?_, (Row.drew R3.out).other _ _ (by show w.heap.size + 1 + 1 ≠ w.heap.size; omega), (Row.drew RD.out).other _ _ (by show D ≠ w.heap.size; omega), (hb.drew).setCell (Nat.le_refl _) _⟩
      have := (Row.drew R1.out).set k (.int .u32 (ad x y : Nat))
      rw [numV_set, HM.out] at this
      rw [show ((x : Int) + (y : Int)) % 4294967296 = (ad x y : Nat) by unfold ad; omega]
      exact this
     case measure => simp [intOf]; omega
    ·obtain rfl : k = 8 := by omega
     have hbk : decide (((8 : Nat) : Int) < 8) = false := rfl
     rw [mixL_full] at r1
     have R1 := Lib.hid r1; have R3 := Lib.hid r3
     clear r1 r3 rd
     go_wp2_with (first
      | refine wpList_load_row rfl 87 _ rfl w.heap.size rfl 87 (numV (s.add f).list) (0, 0) _ R1.out Tryz.underlying87 rfl (by rw [numV_size]; exact size24) ?_
      | refine wpList_store_row rfl 87 _ _ rfl (w.heap.size + 1 + 1) (numV (s.add f).list) rfl rfl 87 (zrow 8) R3.out (by rw [numV_size]; exact size24) (by rw [numV_size, zrow_size]; rfl) (numV_one _) ?_)
     refine bodyPost_ret (v := .agg (numV (s.add f).list)) (results_cell_row rfl _ _ (w.heap.size + 1 + 1) 87 (numV (s.add f).list) (0, 0) _ rfl (setRow_heap _ _ _ _ _ _ R3.out) Tryz.underlying87 rfl (by rw [numV_size]; exact size24)) rfl ?_
     exact ⟨by rw [HF.out], below_setRow hb (by omega) _⟩
end Go.Proofs.YtlccihidedfemaaGreatDoor

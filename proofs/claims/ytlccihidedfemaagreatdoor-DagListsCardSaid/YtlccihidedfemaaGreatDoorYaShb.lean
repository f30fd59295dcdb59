/-
  Contracts over this translation: sha's rounds, a block.
-/
import Derived.WalkKit
import Derived.LoopTactic
import Derived.Outline
import Derived.Laws.BitsAllLaws
import Derived.Lib.Hide
import Derived.Below
import Derived.Laws.Rows
import Derived.Laws.CopyOwn
import Derived.Test.YtlccihidedfemaaGreatDoorProg
import Derived.Test.YtlccihidedfemaaGreatDoorQa0
import Derived.Test.YtlccihidedfemaaGreatDoorQa3
import Derived.Great.BuildSlice
import Derived.BigRegion
import Derived.Deep.QuietTactic
import Derived.BigQuiet
import Derived.StillTailTactics
import Derived.IntWalk
import Derived.WalkSmall
import Derived.RegionTactic
set_option linter.unusedVariables false
set_option pp.maxSteps 200000
namespace Go.Proofs.YtlccihidedfemaaGreatDoor
open Go.RowKit
set_option maxRecDepth 100000 in
set_option maxHeartbeats 1000000 in
theorem down_q (x : Nat) (z : Int) (hx : x < 4294967296) (h : 1 ≤ z ∧ z ≤ 31) (w : World) : Calls Tryz.prog 184 #[.int .u32 x, .int .i64 z] w fun e w' => e = .returned (.int .u32 (rotr x z.toNat)) ∧ w' = w :=
  (down_z x z hx h w).mono fun _ _ ⟨he, hw⟩ => ⟨he, hw.symm⟩
theorem ret_valH {k : IntKind} {a b : Int} (h : a = b) : Value.int k a = .int k b := by rw [h]
theorem bs1_int (x : Nat) (h : x < 4294967296) : bits .xor .u32 (bits .xor .u32 (rotr x 6 : Nat) (rotr x 11 : Nat)) (rotr x 25 : Nat) = (bs1 x : Nat) := xor3_int _ _ _ (rotr_lt _ h) (rotr_lt _ h) (rotr_lt _ h)
theorem bs0_int (x : Nat) (h : x < 4294967296) : bits .xor .u32 (bits .xor .u32 (rotr x 2 : Nat) (rotr x 13 : Nat)) (rotr x 22 : Nat) = (bs0 x : Nat) := xor3_int _ _ _ (rotr_lt _ h) (rotr_lt _ h) (rotr_lt _ h)
theorem not_int (x : Nat) (h : x < 4294967296) : bits .xor .u32 (if IntKind.u32.signed = true then -1 else IntKind.u32.max) (x : Int) = ((4294967295 - x : Nat) : Int) := by
  have h2 := u32_xor_nat 4294967295 x (by decide) h
  have e : (4294967295 ^^^ x) = 4294967295 - x := by
    have h1 := BitVec.toNat_not (x := BitVec.ofNat 32 x)
    rw [BitVec.not_def] at h1
    rw [BitVec.toNat_xor, BitVec.toNat_ofNat, BitVec.toNat_allOnes, Nat.mod_eq_of_lt (by omega)] at h1
    simpa using h1
  rw [e] at h2
  exact h2
theorem chs_int (e f g : Nat) (he : e < 4294967296) (hf : f < 4294967296) (hg : g < 4294967296) :
    bits .xor .u32 (bits .and .u32 (e : Int) (f : Int)) (bits .and .u32 (bits .xor .u32 (if IntKind.u32.signed = true then -1 else IntKind.u32.max) (e : Int)) (g : Int)) = (chs e f g : Nat) := by
  rw [not_int e he, u32_and_nat _ _ he hf, u32_and_nat _ _ (by omega) hg, u32_xor_nat _ _ (and_lt' he) (and_lt' (by omega))]; rfl
theorem mj_int (a b c : Nat) (ha : a < 4294967296) (hb : b < 4294967296) (hc : c < 4294967296) :
    bits .xor .u32 (bits .xor .u32 (bits .and .u32 (a : Int) (b : Int)) (bits .and .u32 (a : Int) (c : Int))) (bits .and .u32 (b : Int) (c : Int)) = (mj a b c : Nat) := by
  rw [u32_and_nat _ _ ha hb, u32_and_nat _ _ ha hc, u32_and_nat _ _ hb hc, xor3_int _ _ _ (and_lt' ha) (and_lt' ha) (and_lt' hb)]; rfl
def tt (s : St) (k w : Nat) : Nat := ad (ad (ad (ad s.h (bs1 s.e)) (chs s.e s.f s.g)) k) w
set_option maxRecDepth 100000 in
set_option maxHeartbeats 2000000 in
theorem mixed_any (L : Nat → Nat) (hL : ∀ i, L i < 256) (s : St) (hs : s.ok) (w : World) : Calls Tryz.prog 171 #[.agg (numV s.list), .agg (numV (wlist L 64))] w fun e w' => e = .returned (.agg (numV (rounds L s 64).list)) ∧ Below w.heap.size w w' := by
  have hw64 := wlist_len L 64
  have c0 : (numV s.list)[0]? = some (.int .u32 s.a) := rfl
  have c1 : (numV s.list)[1]? = some (.int .u32 s.b) := rfl
  have c2 : (numV s.list)[2]? = some (.int .u32 s.c) := rfl
  have c3 : (numV s.list)[3]? = some (.int .u32 s.d) := rfl
  have c4 : (numV s.list)[4]? = some (.int .u32 s.e) := rfl
  have c5 : (numV s.list)[5]? = some (.int .u32 s.f) := rfl
  have c6 : (numV s.list)[6]? = some (.int .u32 s.g) := rfl
  have c7 : (numV s.list)[7]? = some (.int .u32 s.h) := rfl
  obtain ⟨V, hV⟩ : ∃ V, V = numV s.list := ⟨_, rfl⟩
  obtain ⟨X, hX⟩ : ∃ X, X = numV (wlist L 64) := ⟨_, rfl⟩
  rw [← hV] at c0 c1 c2 c3 c4 c5 c6 c7
  rw [← hV, ← hX]
  have hXs : X.size = 64 := by rw [hX, numV_size, hw64]
  have HX := Lib.hid hX; have HXs := Lib.hid hXs
  have HV := Lib.hid hV; have HS := Lib.hid hs
  clear hX hXs hw64 hV hs
  go_enter Tryz.func171, Tryz.ntmps171
  go_wp2_with (first
    | refine wpList_alloc_zero rfl _ rfl _ zero24 ?_)
  obtain ⟨W1, hW1⟩ : ∃ W1, W1 = ((w.alloc (.cells V 87)).alloc (.cells X 116)).alloc (.cells (zrow 8) 87) := ⟨_, rfl⟩
  rw [← hW1]
  have hz : W1.heap.size = w.heap.size + 3 := by rw [hW1]; simp
  have r1 : Row W1 w.heap.size V 87 := by rw [hW1]; exact ((Row.made _ _ _).alloc _).alloc _
  have r2 : Row W1 (w.heap.size + 1) X 116 := by
    rw [hW1]
    have := (Row.made (w.alloc (.cells V 87)) X 116).alloc (.cells (zrow 8) 87)
    simpa using this
  have r3 : Row W1 (w.heap.size + 1 + 1) (zrow 8) 87 := by
    rw [hW1]
    have := Row.made ((w.alloc (.cells V 87)).alloc (.cells X 116)) (zrow 8) 87
    simpa using this
  have hb1 : Below w.heap.size w W1 := by rw [hW1]; exact (((Below.refl _ _).alloc (Nat.le_refl _) _).alloc (by simp) _).alloc (by simp; omega) _
  clear hW1
  have d0 := (r1.cell 0).trans c0
  have d1 := (r1.cell 1).trans c1
  have d2 := (r1.cell 2).trans c2
  have d3 := (r1.cell 3).trans c3
  have d4 := (r1.cell 4).trans c4
  have d5 := (r1.cell 5).trans c5
  have d6 := (r1.cell 6).trans c6
  have d7 := (r1.cell 7).trans c7
  clear c0 c1 c2 c3 c4 c5 c6 c7
  have R1 := Lib.hid r1; have R2 := Lib.hid r2; have R3 := Lib.hid r3; have HZ := Lib.hid hz
  clear r1 r2 r3 hz
  go_quiet (fail)
  obtain ⟨W2, hW2⟩ : ∃ W2, W2 = W1.drewN nq := ⟨_, rfl⟩
  rw [← hW2]
  have e4 : W2.cell? ⟨w.heap.size, 4, none⟩ = some (.int .u32 s.e) := by rw [hW2]; exact d4
  have e5 : W2.cell? ⟨w.heap.size, 5, none⟩ = some (.int .u32 s.f) := by rw [hW2]; exact d5
  have e6 : W2.cell? ⟨w.heap.size, 6, none⟩ = some (.int .u32 s.g) := by rw [hW2]; exact d6
  have e7 : W2.cell? ⟨w.heap.size, 7, none⟩ = some (.int .u32 s.h) := by rw [hW2]; exact d7
  have r2 : Row W2 (w.heap.size + 1) X 116 := by rw [hW2]; exact R2.out
  have r3 : Row W2 (w.heap.size + 1 + 1) (zrow 8) 87 := by rw [hW2]; exact R3.out
  have hb2 : Below w.heap.size w W2 := by rw [hW2]; exact below_drewN hb1 nq
  have hz : W2.heap.size = w.heap.size + 3 := by rw [hW2]; exact HZ.out
  clear d0 d1 d2 d3 d4 d5 d6 d7 hW2 R1 R2 R3 hb1 HZ
  have R2 := Lib.hid r2; have R3 := Lib.hid r3; have HZ := Lib.hid hz
  clear r2 r3 hz
  go_wp2_with fail
  go_quiet (fail)
  obtain ⟨W3, hW3⟩ : ∃ W3, W3 = W2.drewN nq := ⟨_, rfl⟩
  rw [← hW3]
  have r2 : Row W3 (w.heap.size + 1) X 116 := by rw [hW3]; exact R2.out
  have r3 : Row W3 (w.heap.size + 1 + 1) (zrow 8) 87 := by rw [hW3]; exact R3.out
  have hb3 : Below w.heap.size w W3 := by rw [hW3]; exact below_drewN hb2 nq
  have hz : W3.heap.size = w.heap.size + 3 := by rw [hW3]; exact HZ.out
  clear e4 e5 e6 e7 hW3 R2 R3 hb2 HZ
  have R2 := Lib.hid r2; have R3 := Lib.hid r3; have HZ := Lib.hid hz
  clear r2 r3 hz
  go_wp2_with fail
  refine (constants_any _).mono ?_
  rintro e w4 ⟨rfl, hb4⟩
  have hT : w.heap.size + 3 ≤ w4.heap.size := by have := hb4.size; have := HZ.out; omega
  have q2 : Row w4 (w.heap.size + 1) X 116 := R2.out.step hb4
  have q3 : Row w4 (w.heap.size + 1 + 1) (zrow 8) 87 := R3.out.step hb4
  have q1 : Row ((w4.alloc (.cells (zrow 64) 116)).setRow w4.heap.size (numV ktab)) w4.heap.size (numV ktab) 116 := Row.setRow (Row.made _ _ _) _
  have q4 : Row ((w4.alloc (.cells (zrow 64) 116)).setRow w4.heap.size (numV ktab)) (w.heap.size + 1) X 116 := Row.setRow_other (q2.alloc _) _ _ (by omega)
  have q5 : Row ((w4.alloc (.cells (zrow 64) 116)).setRow w4.heap.size (numV ktab)) (w.heap.size + 1 + 1) (zrow 8) 87 := Row.setRow_other (q3.alloc _) _ _ (by omega)
  have hb5 : Below w.heap.size w ((w4.alloc (.cells (zrow 64) 116)).setRow w4.heap.size (numV ktab)) := below_setRow ((below_step hb3 hb4).alloc (by omega) _) (by omega) _
  obtain ⟨T, hTe⟩ : ∃ T, T = w4.heap.size := ⟨_, rfl⟩
  have Q1 := Lib.hid q1; have Q4 := Lib.hid q4; have Q5 := Lib.hid q5; have HT := Lib.hid hT; have HTe := Lib.hid hTe
  clear q1 q2 q3 q4 q5 R2 R3 HZ hT hTe
  go_wp2_with (first
    | refine wpList_alloc_zero rfl _ rfl _ zero43 ?_
    | refine wpList_store_row rfl 116 _ _ rfl w4.heap.size (numV ktab) rfl rfl 116 (zrow 64) (heap_alloc_new _ _) (by rw [numV_size]; exact size43) (by rw [numV_size]; kernel_rfl) (numV_one _) ?_
    | refine wpList_load_row rfl 116 _ rfl (w.heap.size + 1) rfl 116 X (0, 0) _ Q4.out Tryz.underlying116 rfl (by rw [HXs.out]; exact size43) ?_)
  rw [← HTe.out]
  go_loopw [36, 5, 6, 7, 8, 9, 10, 11, 12] (fun i a b c d e f g h wr => ∃ k : Nat, k ≤ 64 ∧ i = .int .i64 k ∧ a = .int .u32 (rounds L s k).a ∧ b = .int .u32 (rounds L s k).b ∧ c = .int .u32 (rounds L s k).c ∧ d = .int .u32 (rounds L s k).d ∧ e = .int .u32 (rounds L s k).e ∧ f = .int .u32 (rounds L s k).f ∧ g = .int .u32 (rounds L s k).g ∧ h = .int .u32 (rounds L s k).h ∧ Row wr T (numV ktab) 116 ∧ Row wr (w.heap.size + 1 + 1) (zrow 8) 87 ∧ Below w.heap.size w wr) (fun i _ _ _ _ _ _ _ _ _ => 64 - (intOf i).toNat)
  case atStart => exact ⟨0, by omega, rfl, rfl, rfl, rfl, rfl, rfl, rfl, rfl, rfl, by have := Q1.out; rwa [← HTe.out] at this, by have := Q5.out; rwa [← HTe.out] at this, by rwa [← HTe.out] at hb5⟩
  case round =>
    clear Q1 Q4 Q5 hb5 hb3 hb4
    obtain ⟨k, hk, rfl, rfl, rfl, rfl, rfl, rfl, rfl, rfl, rfl, hQ, hZ, hb⟩ := hrel
    by_cases hlt : k < 64
    · have hbk : decide ((k : Int) < 64) = true := by simpa using (show (k : Int) < 64 by omega)
      obtain ⟨la, lb, lc, ld, le, lf, lg, lh⟩ := rounds_ok L HS.out k
      have lw := wd_lt L hL k
      have lk := kt_lt k
      have HN := Lib.hid (show rounds L s (k + 1) = rnd (rounds L s k) (kt k) (wd L k) from rfl)
      obtain ⟨r, hr⟩ : ∃ r, r = rounds L s k := ⟨_, rfl⟩
      rw [← hr] at la lb lc ld le lf lg lh HN ⊢
      obtain ⟨a, b, c, d, e, f, g, h⟩ := r
      dsimp only at la lb lc ld le lf lg lh ⊢
      have hx : X[k]? = some (.int .u32 (wd L k : Nat)) := by rw [HX.out, numV_get _ _ (by rw [wlist_len]; exact hlt)]; rfl
      have ct : wr.cell? ⟨T, k, none⟩ = some (.int .u32 (kt k : Nat)) := by rw [hQ.cell, numV_get _ _ (by rw [ktab_len]; exact hlt)]; rfl
      obtain ⟨x, hxe⟩ : ∃ x, x = wd L k := ⟨_, rfl⟩
      obtain ⟨y, hye⟩ : ∃ x, x = kt k := ⟨_, rfl⟩
      rw [← hxe] at lw HN hx
      rw [← hye] at lk HN ct
      have b5 : (0 : Int) ≤ (k : Int) ∧ (k : Int) < 64 := by omega
      have HQ := Lib.hid hQ; have HZ := Lib.hid hZ; have HR := Lib.hid hr; have HXE := Lib.hid hxe; have HYE := Lib.hid hye
      clear hQ hZ hr hxe hye
      go_wp2_with (refine wpList_index_arr rfl 116 _ _ rfl 64 85 .i64 k X (.int .u32 x) rfl rfl Tryz.underlying116 hlt (by kernel_rfl) (fun w => by kernel_rfl) hx ?_)
      go_quiet ((go_at_call 184; exact Calls.quiet_of_same (down_q _ _ (by assumption) (by decide) _)))
      rw [bs1_int e le, chs_int e f g le lf lg]
      obtain ⟨t, ht⟩ : ∃ t, t = tt ⟨a, b, c, d, e, f, g, h⟩ y x := ⟨_, rfl⟩
      have htv : (((h : Int) + (bs1 e : Nat) + (chs e f g : Nat) + (y : Int)) % 4294967296 + (x : Int)) % 4294967296 = (t : Int) := by rw [ht]; show _ = ((ad (ad (ad (ad h (bs1 e)) (chs e f g)) y) x : Nat) : Int); unfold ad; omega
      rw [htv]
      have lt' : t < 4294967296 := by rw [ht]; exact ad_lt _ _
      have HT' := Lib.hid ht
      clear htv ht ct hx
      obtain ⟨W5, hW5⟩ : ∃ W5, W5 = wr.drewN nq := ⟨_, rfl⟩
      rw [← hW5]
      have hb' : Below w.heap.size w W5 := by rw [hW5]; exact below_drewN hb nq
      have HQ5 : Hid (Row W5 T (numV ktab) 116) := Lib.hid (by rw [hW5]; exact HQ.out)
      have HZ5 : Hid (Row W5 (w.heap.size + 1 + 1) (zrow 8) 87) := Lib.hid (by rw [hW5]; exact HZ.out)
      clear hW5 HQ HZ hb
      go_wp2_with (go_at_call 184; refine (down_z _ _ (by assumption) (by decide) _).mono ?_; rintro e w1 ⟨rfl, rfl⟩)
      go_roundw
      case rel =>
        refine ⟨k + 1, by omega, by go_num, ?_, ?_, ?_, ?_, ?_, ?_, ?_, ?_, HQ5.out, HZ5.out, hb'⟩
        · rw [HN.out, bs0_int a la, mj_int a b c la lb lc]
          show _ = Value.int .u32 ((ad (tt ⟨a, b, c, d, e, f, g, h⟩ y x) (ad (bs0 a) (mj a b c)) : Nat) : Int)
          rw [← HT'.out]
          exact ret_valH (by unfold ad; omega)
        · rw [HN.out]; rfl
        · rw [HN.out]; rfl
        · rw [HN.out]; rfl
        · rw [HN.out]
          show _ = Value.int .u32 ((ad d (tt ⟨a, b, c, d, e, f, g, h⟩ y x) : Nat) : Int)
          rw [← HT'.out]
          exact ret_valH (by unfold ad; omega)
        · rw [HN.out]; rfl
        · rw [HN.out]; rfl
        · rw [HN.out]; rfl
      case measure => simp [intOf]; omega
    · obtain rfl : k = 64 := by omega
      have hbk : decide (((64 : Nat) : Int) < 64) = false := rfl
      obtain ⟨F, hF⟩ : ∃ F, F = rounds L s 64 := ⟨_, rfl⟩
      rw [← hF]
      have HF := Lib.hid hF; clear hF
      have HZ := Lib.hid hZ; clear hZ hQ
      go_wp2_with (first
        | refine wpList_store_row rfl 87 _ _ rfl (w.heap.size + 1 + 1) (numV F.list) rfl rfl 87 (zrow 8) HZ.out (by rw [numV_size]; exact size24) (by rw [numV_size, zrow_size]; rfl) (numV_one _) ?_)
      refine bodyPost_ret (v := .agg (numV F.list)) (results_cell_row rfl _ _ (w.heap.size + 1 + 1) 87 (numV F.list) (0, 0) _ rfl (setRow_heap _ _ _ _ _ _ HZ.out) Tryz.underlying87 rfl (by rw [numV_size]; exact size24)) rfl ?_
      exact ⟨by rw [HF.out], below_setRow hb (by omega) _⟩
end Go.Proofs.YtlccihidedfemaaGreatDoor

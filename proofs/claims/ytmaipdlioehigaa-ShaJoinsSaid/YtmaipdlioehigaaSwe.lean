/-
  Contracts over this translation: the statement ShaFolds as a walk.
-/
import Derived.WalkKit
import Derived.LoopTactic
import Derived.Outline
import Derived.Laws.BitsAllLaws
import Derived.Lib.Hide
import Derived.Below
import Derived.Laws.Rows
import Derived.Laws.CopyOwn
import Derived.Test.YtmaipdlioehigaaProg
import Derived.Test.YtmaipdlioehigaaShm
import Derived.Test.YtmaipdlioehigaaSwd
import Derived.Great.BuildSlice
import Derived.BigRegion
import Derived.Deep.QuietTactic
import Derived.BigQuiet
import Derived.StillTailTactics
import Derived.IntWalk
import Derived.WalkSmall
import Derived.RegionTactic
set_option linter.unusedVariables false
set_option pp.maxSteps 200000
namespace Go.Proofs.Ytmaipdlioehigaa
open Go.RowKit Go.Sort Go.ChangeShapes Go.WideShapes

/-- A slice of blocks that reads as a list. -/
def IsBlks (w : World) (v : Value) (L : List (List UInt8)) : Prop :=
  ∃ (a : Option Addr) (cap : Nat), v = .slice a L.length cap ∧ (∀ b ∈ L, b.length = 64) ∧ (0 < L.length → ∃ b off, a = some ⟨b, off, none⟩ ∧ b < w.heap.size ∧ ∀ i (h : i < L.length), w.rangeAt b (off + i * 64) (bytV L[i]).toList)
def catB (L : List (List UInt8)) : List UInt8 := L.flatten
theorem catB_len {L : List (List UInt8)} (h : ∀ b ∈ L, b.length = 64) : (catB L).length = 64 * L.length := by
  induction L with
  | nil => rfl
  | cons b L ih =>
    have h1 := h b (by simp)
    have h2 := ih (fun c hc => h c (by simp [hc]))
    unfold catB at h2 ⊢
    rw [List.flatten_cons, List.length_append, h1, h2, List.length_cons]; omega
theorem catB_take (L : List (List UInt8)) (k : Nat) (h : k < L.length) : catB (L.take (k + 1)) = catB (L.take k) ++ L[k] := by
  unfold catB
  rw [List.take_succ_eq_append_getElem h, List.flatten_append]; simp
def foldN (L : List (List UInt8)) (k : Nat) : St := (absorb first (catB (L.take k))).1
theorem foldN_rest {L : List (List UInt8)} (h : ∀ b ∈ L, b.length = 64) (k : Nat) : (absorb first (catB (L.take k))).2 = [] := by
  have := absorb_len (catB (L.take k)) first
  rw [catB_len (fun b hb => h b (List.mem_of_mem_take hb)), Nat.mul_mod_right] at this
  exact List.length_eq_zero_iff.1 this
theorem foldN_succ {L : List (List UInt8)} (h : ∀ b ∈ L, b.length = 64) (k : Nat) (hk : k < L.length) : foldN L (k + 1) = blk (foldN L k) L[k] := by
  unfold foldN
  rw [catB_take L k hk, ← absorb_append, foldN_rest h k, List.nil_append, absorb_one _ (h _ (List.getElem_mem hk))]
theorem foldN_ok (L : List (List UInt8)) (k : Nat) : (foldN L k).ok := absorb_ok _ first_ok
theorem foldN_zero (L : List (List UInt8)) : foldN L 0 = first := by unfold foldN; rw [List.take_zero, show catB [] = [] from rfl, absorb_lt _ (by decide)]
theorem fold_sum {L : List (List UInt8)} (h : ∀ b ∈ L, b.length = 64) : shaSum (catB L) = (blk (foldN L L.length) (closing (64 * L.length))).bytes := by
  have hr := foldN_rest h L.length
  have hc : (closing (64 * L.length)).length = 64 := by rw [closing_len]; unfold zerosN; omega
  unfold shaSum foldN
  rw [List.take_length] at hr ⊢
  rw [catB_len h, ← absorb_append, hr, List.nil_append, absorb_one _ hc]
theorem mid_zero {n k : Nat} (hn : n ≤ 1000) (hk : 16 ≤ k) : UInt8.ofNat (n * 8 / 2 ^ k) = 0 := by
  have : n * 8 / 2 ^ k = 0 := Nat.div_eq_of_lt (Nat.lt_of_lt_of_le (by omega : n * 8 < 2 ^ 16) (Nat.pow_le_pow_right (by decide) hk))
  rw [this]; rfl
theorem be8_mid (n : Nat) (hn : n ≤ 1000) : be8 (n * 8) = [0, 0, 0, 0, 0, 0, UInt8.ofNat (n * 8 / 256), UInt8.ofNat (n * 8)] := by
  show [UInt8.ofNat (n * 8 / 2 ^ 56), UInt8.ofNat (n * 8 / 2 ^ 48), UInt8.ofNat (n * 8 / 2 ^ 40), UInt8.ofNat (n * 8 / 2 ^ 32), UInt8.ofNat (n * 8 / 2 ^ 24), UInt8.ofNat (n * 8 / 2 ^ 16), UInt8.ofNat (n * 8 / 2 ^ 8), UInt8.ofNat (n * 8 / 2 ^ 0)] = _
  rw [mid_zero hn (by decide), mid_zero hn (by decide), mid_zero hn (by decide), mid_zero hn (by decide), mid_zero hn (by decide), mid_zero hn (by decide), Nat.pow_zero, Nat.div_one]
/-- The block that ends whole blocks. -/
def endRow (p q : Int) : Array Value := ((bytV (128 :: List.replicate 63 0)).setIfInBounds 62 (.int .u8 p)).setIfInBounds 63 (.int .u8 q)
theorem endRow_eq (K : Nat) (hK : K ≤ 12) : endRow ((64 * K : Nat) * 8 / 256 : Int) ((64 * K : Nat) * 8 % 256 : Int) = bytV (closing (64 * K)) := by
  have e1 : (((64 * K : Nat) : Int) * 8 / 256) = ((UInt8.ofNat (64 * K * 8 / 256)).toNat : Int) := by rw [UInt8.toNat_ofNat']; omega
  have e2 : (((64 * K : Nat) : Int) * 8 % 256) = ((UInt8.ofNat (64 * K * 8)).toNat : Int) := by rw [UInt8.toNat_ofNat']; omega
  have hz : zerosN (64 * K) = 55 := by unfold zerosN; omega
  unfold endRow closing
  rw [e1, e2, bytV_set, bytV_set, hz, be8_mid _ (by omega)]
  rfl
theorem endRow_size (p q : Int) : (endRow p q).size = 64 := by simp [endRow, bytV_size]
theorem all_set {xs : Array Value} {i : Nat} {v : Value} {f : Value → Bool} (h : xs.all f = true) (hv : f v = true) : (xs.setIfInBounds i v).all f = true := by
  rw [Array.all_eq_true_iff_forall_mem] at h ⊢
  intro x hx
  rcases Array.mem_or_eq_of_mem_setIfInBounds hx with h1 | h1
  · exact h x h1
  · rw [h1]; exact hv
theorem endRow_one (p q : Int) : (endRow p q).all (·.oneCell') = true := all_set (all_set (bytV_one _) rfl) rfl

theorem app_str (l m : List UInt8) : (⟨l.toArray⟩ : ByteArray) ++ ⟨m.toArray⟩ = ⟨(l ++ m).toArray⟩ := by
  apply ByteArray.ext
  rw [ByteArray.data_append]
  simp
set_option maxRecDepth 100000 in
set_option maxHeartbeats 4000000 in
theorem ShaFolds_walk (v : Value) (L : List (List UInt8)) (w : World) (hL : IsBlks w v L) :
    Calls Try.prog 7 #[v] w fun e w' => e = .returned (.bool true) ∧ RowKit.Below w.heap.size w w' := by
  obtain ⟨a, cap, rfl, h64, hc⟩ := hL
  by_cases h : L.length ≤ 12
  · have hbd : decide ((12 : Int) < (L.length : Int)) = false := by simpa using (show ¬ (12 : Int) < (L.length : Int) by omega)
    have HC := Lib.hid hc
    clear hc
    go_enter Try.func7, Try.ntmps7
    go_wp2_with fail
    refine (First_any _).mono ?_
    rintro e w1 ⟨rfl, hb1⟩
    have hz1 := hb1.size
    have q6 : Row ((w1.alloc (.cells (zrow 8) 24)).setRow w1.heap.size (numV first.list)) w1.heap.size (numV (foldN L 0).list) 24 := by
      rw [foldN_zero]; exact Row.setRow (Row.made _ _ _) _
    have hb2 : RowKit.Below w1.heap.size w1 ((w1.alloc (.cells (zrow 8) 24)).setRow w1.heap.size (numV first.list)) := below_setRow ((RowKit.Below.refl _ _).alloc (Nat.le_refl _) _) (Nat.le_refl _) _
    have Q6 := Lib.hid q6
    clear q6
    go_wp2_with (first
      | refine wpList_alloc_zero rfl 24 rfl _ zero24 ?_
      | refine wpList_store_row rfl 24 _ _ rfl w1.heap.size (numV first.list) rfl rfl 24 (zrow 8) (heap_alloc_new _ _) (by rw [numV_size]; exact size24) (by rw [numV_size, zrow_size]; rfl) (numV_one _) ?_)
    obtain ⟨H, hH⟩ : ∃ H, H = w1.heap.size := ⟨_, rfl⟩
    rw [← hH] at Q6 hb2 ⊢
    have hH1 : H ≤ w1.heap.size := by omega
    have hH2 : w1.heap.size ≤ H := by omega
    clear hH
    go_loopw [16, 4, 6] (fun i sv _ wr => ∃ k : Nat, k ≤ L.length ∧ i = .int .i64 k ∧ sv = .string ⟨(catB (L.take k)).toArray⟩ ∧ Row wr H (numV (foldN L k).list) 24 ∧ RowKit.Below H w1 wr) (fun i _ _ _ => L.length - (intOf i).toNat)
    case atStart => exact ⟨0, by omega, rfl, rfl, Q6.out, hb2⟩
    case round =>
      clear Q6 hb2
      obtain ⟨k, hk, rfl, rfl, q6, hbr⟩ := hrel
      have hHr := q6.lt
      have hsk : (catB (L.take k)).length = 64 * k := by rw [catB_len (fun b hb => h64 b (List.mem_of_mem_take hb)), List.length_take, Nat.min_eq_left hk]
      obtain ⟨S, hS⟩ : ∃ S : ByteArray, S = ⟨(catB (L.take k)).toArray⟩ := ⟨_, rfl⟩
      have hSs : S.size = 64 * k := by rw [hS, size_mk, hsk]
      rw [← hS]
      by_cases hlt : k < L.length
      · have hbk : decide ((k : Int) < (L.length : Int)) = true := by simpa using hlt
        obtain ⟨b, off, rfl, hbl, hcell⟩ := HC.out (by omega)
        have hr0 := hcell k hlt
        obtain ⟨x, hx⟩ : ∃ x, x = L[k] := ⟨_, rfl⟩
        rw [← hx] at hr0
        have hx64 : x.length = 64 := by rw [hx]; exact h64 _ (List.getElem_mem hlt)
        have hbw1 : b < w1.heap.size := Nat.lt_of_lt_of_le hbl hz1
        have hr1 : wr.rangeAt b (off + k * 64) (bytV x).toList := fun j v hv => by
          rw [hbr.cell (p := ⟨b, off + k * 64 + j, none⟩) (by show b < H; omega), hb1.cell (p := ⟨b, off + k * 64 + j, none⟩) hbl]
          exact hr0 j v hv
        have hf := foldN_succ h64 k hlt
        have hct := catB_take L k hlt
        rw [← hx] at hf hct
        have CB := Lib.hid (fun w => Block_any x hx64 (foldN L k) (foldN_ok L k) w)
        rw [show blkS (foldN L k) (fun i => (x.getD i 0).toNat) = foldN L (k + 1) from hf.symm] at CB
        obtain ⟨X, hX⟩ : ∃ X, X = bytV x := ⟨_, rfl⟩
        have hX8 : X.size = 64 := by rw [hX, bytV_size, hx64]
        rw [← hX] at CB hr1
        -- the block's copy
        have qx : Row ((wr.alloc (.cells (zbyt 64) 25)).setRow wr.heap.size X) wr.heap.size X 25 := Row.setRow (Row.made _ (zbyt 64) _) _
        have qh : Row ((wr.alloc (.cells (zbyt 64) 25)).setRow wr.heap.size X) H (numV (foldN L k).list) 24 := (q6.alloc _).setRow_other _ _ (by omega)
        have hbx : RowKit.Below H w1 ((wr.alloc (.cells (zbyt 64) 25)).setRow wr.heap.size X) := below_setRow (hbr.alloc (by omega) _) (by omega) _
        have HR1 := Lib.hid hr1; have QX := Lib.hid qx; have QH := Lib.hid qh; have HX := Lib.hid hX; have HX8 := Lib.hid hX8; have HXL := Lib.hid hx64; have HCT := Lib.hid hct; have HS := Lib.hid hS; have HSS := Lib.hid hSs
        have b0 : (0 : Int) ≤ (k : Int) ∧ (k : Int) < (L.length : Int) := by omega
        have hSb : S.size ≤ 768 := by omega
        clear hcell hr0 hr1 hf hct hX hX8 qx qh q6 hx hS hSs hsk hbr hx64
        go_wp2_with (first
          | refine wpList_load_mid rfl 25 _ rfl b (off + k * 64) rfl X.toList _ HR1.out Try.underlying25 rfl (by rw [Array.length_toList, HX8.out]; exact size25) ?_
          | refine wpList_alloc_zero rfl 25 rfl _ zero25 ?_
          | refine wpList_store_row rfl 25 _ _ rfl wr.heap.size X rfl (by rw [← Array.toArray_toList (xs := X)]; rfl) 25 (zbyt 64) (heap_alloc_new _ _) (by rw [HX8.out]; exact size25) (by rw [HX8.out, zbyt_size]) (by rw [HX.out]; exact bytV_one _) ?_
          | refine wpList_load_row rfl 24 _ rfl H rfl 24 (numV (foldN L k).list) (0, 0) _ QH.out Try.underlying24 rfl (by rw [numV_size]; exact size24) ?_
          | refine wpList_load_row rfl 25 _ rfl wr.heap.size rfl 25 X (0, 0) _ QX.out Try.underlying25 rfl (by rw [HX8.out]; exact size25) ?_)
        refine (CB.out _).mono ?_
        rintro e w4 ⟨rfl, hb4⟩
        have qh4 : Row w4 H (numV (foldN L k).list) 24 := QH.out.step hb4
        have qx4 : Row w4 wr.heap.size X 25 := QX.out.step hb4
        have hb5 : RowKit.Below H w1 w4 := hbx.trans (hb4.mono (Nat.le_of_lt QH.out.lt))
        have qh5 := qh4.setRow (numV (foldN L (k + 1)).list)
        have qx5 := qx4.setRow_other H (numV (foldN L (k + 1)).list) (by omega)
        have hb6 := below_setRow hb5 (Nat.le_refl _) (numV (foldN L (k + 1)).list)
        rw [HX.out] at qx5
        have hcv := conv_bytes qx5 64 64 HXL.out
        have QH4 := Lib.hid qh4; have QH5 := Lib.hid qh5; have HCV := Lib.hid hcv
        have hsum : ¬ 9223372036854775807 < S.size + (⟨x.toArray⟩ : ByteArray).size := by
          have e := size_mk x
          rw [HXL.out] at e
          omega
        obtain ⟨Xs, hXs⟩ : ∃ Xs : ByteArray, Xs = ⟨x.toArray⟩ := ⟨_, rfl⟩
        rw [← hXs] at HCV hsum
        have HXS := Lib.hid hXs
        clear qh4 qx4 qh5 qx5 hb5 hb4 hcv QH QX hbx hXs
        go_wp2_with (first
          | refine wpList_store_row rfl 24 _ _ rfl H (numV (foldN L (k + 1)).list) rfl rfl 24 (numV (foldN L k).list) QH4.out (by rw [numV_size]; exact size24) (by rw [numV_size, numV_size]; rfl) (numV_one _) ?_
          | refine wpList_convert rfl _ _ _ rfl _ _ _ rfl HCV.out ?_)
        refine ⟨⟨k + 1, by omega, by go_num, ?_, QH5.out, hb6⟩, ?_⟩
        · rw [HS.out, HXS.out, HCT.out, app_str]
        · simp only [intOf]; omega
      · have hkL : k = L.length := by omega
        have hbk : decide ((k : Int) < (L.length : Int)) = false := by rw [hkL]; simp
        have hSL : S = ⟨(catB L).toArray⟩ := by rw [hS, hkL, List.take_length]
        have hSz : S.size = 64 * L.length := by rw [hSs, hkL]
        have hfs := fold_sum h64
        rw [← hkL] at hfs
        obtain ⟨f, hf⟩ : ∃ f, f = foldN L k := ⟨_, rfl⟩
        have hfk : f.ok := by rw [hf]; exact foldN_ok L k
        rw [← hf] at hfs q6
        have hcl : (closing (64 * k)).length = 64 := by rw [closing_len]; unfold zerosN; omega
        have hye := endRow_eq L.length h
        have hk12 : k ≤ 12 := by omega
        obtain ⟨S1, hS1⟩ : ∃ S1 : ByteArray, S1 = ⟨(shaSum (catB L)).toArray⟩ := ⟨_, rfl⟩
        have C1 := Lib.hid (fun w => Sum_any S (by omega) w)
        rw [show S.data.toList = catB L by rw [hSL], ← hS1] at C1
        obtain ⟨f2, hf2⟩ : ∃ f2, f2 = blk f (closing (64 * k)) := ⟨_, rfl⟩
        have hf2k : f2.ok := by rw [hf2]; exact blk_ok _ _
        have C2 := Lib.hid (fun w => Block_any (closing (64 * k)) hcl f hfk w)
        rw [show blkS f (fun i => ((closing (64 * k)).getD i 0).toNat) = f2 from hf2.symm] at C2
        have C3 := Lib.hid (fun w => lawBytes_any f2 hf2k w)
        rw [show (⟨f2.bytes.toArray⟩ : ByteArray) = S1 by rw [hS1, hfs, ← hf2]] at C3
        obtain ⟨Y, hY⟩ : ∃ Y, Y = bytV (closing (64 * k)) := ⟨_, rfl⟩
        have hY8 : Y.size = 64 := by rw [hY, bytV_size, hcl]
        have hYe : Y = endRow ((S.size : Int) * 8 / 256) ((S.size : Int) * 8 % 256) := by rw [hY, hkL, ← hye, hSz]
        rw [← hY] at C2
        have hSb : S.size ≤ 768 := by omega
        have y4 : Row ((wr.alloc (.cells (zbyt 64) 25)).setRow wr.heap.size Y) wr.heap.size Y 25 := Row.setRow (Row.made _ (zbyt 64) _) _
        have h4 : Row ((wr.alloc (.cells (zbyt 64) 25)).setRow wr.heap.size Y) H (numV f.list) 24 := (q6.alloc _).setRow_other _ _ (by omega)
        have b4 : RowKit.Below H w1 ((wr.alloc (.cells (zbyt 64) 25)).setRow wr.heap.size Y) := below_setRow (hbr.alloc (by omega) _) (by omega) _
        have HYE := Lib.hid hYe; have HY8 := Lib.hid hY8; have Y4 := Lib.hid y4; have H4 := Lib.hid h4
        clear hkL hSL hSz hfs hf hye hS1 hf2 hY hY8 hYe y4 h4 hS hSs hsk q6 hbr hcl h64
        go_wp2_with (first
          | refine wpList_alloc_zero rfl 25 rfl _ zero25 ?_
          | refine wpList_store_row rfl 25 (.tmp 8) (.tmp 36) rfl wr.heap.size Y rfl (by rw [HYE.out]; kernel_rfl) 25 (zbyt 64) (heap_alloc_new _ _) (by rw [HY8.out]; exact size25) (by rw [HY8.out, zbyt_size]) (by rw [HYE.out]; exact endRow_one _ _) ?_)
        simp only [Act.put, List.setIfInBounds_toArray, List.set_cons_zero, List.set_cons_succ]
        obtain ⟨D, hD⟩ : ∃ D, D = wr.heap.size := ⟨_, rfl⟩
        obtain ⟨W3, hW3⟩ : ∃ W3, W3 = (wr.alloc (.cells (zbyt 64) 25)).setRow wr.heap.size Y := ⟨_, rfl⟩
        rw [← hW3] at Y4 H4 b4 ⊢
        rw [← hD] at Y4 ⊢
        clear hW3 hD
        refine wp_region_quiet_below (by kernel_rfl) (by kernel_rfl) ?_
        repeat (first
          | refine wpQuiet_load_row (by rfl) 24 _ rfl H rfl (numV f.list) _ H4.out _ Try.underlying24 rfl (by rw [numV_size]; exact size24) ?_
          | refine wpQuiet_load_row (by rfl) 25 _ rfl D rfl Y _ Y4.out _ Try.underlying25 rfl (by rw [HY8.out]; exact size25) ?_
          | go_big_quiet_step ((first | (go_at_call 13; with_reducible exact Calls.regrown_of (C1.out _)) | (go_at_call 10; with_reducible exact Calls.regrown_of (C2.out _)) | (go_at_call 16; with_reducible exact Calls.regrown_of (C3.out _)) | (go_at_call 12; exact Calls.regrown_of (awake_any _))))
          | quiet_step ((first | (go_at_call 13; with_reducible exact Calls.regrown_of (C1.out _)) | (go_at_call 10; with_reducible exact Calls.regrown_of (C2.out _)) | (go_at_call 16; with_reducible exact Calls.regrown_of (C3.out _)) | (go_at_call 12; exact Calls.regrown_of (awake_any _)))))
        refine wpQuiet_nil ?_
        intro wq hwq
        have hbq : RowKit.Below W3.heap.size W3 wq := by obtain ⟨p, rfl⟩ := hwq; exact below_regrown _ _ _
        clear hwq
        go_wp2
        go_ret
        have b5 : RowKit.Below w.heap.size w W3 := hb1.trans (b4.mono (by omega))
        exact ⟨rfl, below_step b5 hbq⟩
  · have hbd : decide ((12 : Int) < (L.length : Int)) = true := by simpa using (show (12 : Int) < (L.length : Int) by omega)
    clear hc h64
    go_enter Try.func7, Try.ntmps7
    go_wp2_with fail
    refine (awake_any _).mono ?_
    rintro e w3 ⟨rfl, hb3⟩
    go_wp2_with fail
    go_ret
    exact ⟨rfl, hb3⟩
end Go.Proofs.Ytmaipdlioehigaa

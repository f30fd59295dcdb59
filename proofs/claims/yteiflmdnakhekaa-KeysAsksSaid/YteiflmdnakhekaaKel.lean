/-
  Contracts over this translation: Unhex, and the document's.
-/
import Derived.Test.YteiflmdnakhekaaKek
set_option linter.unusedVariables false
namespace Go.Proofs.Yteiflmdnakhekaa
open Go.RowKit
attribute [local go_sem] Oper.semAt_some

theorem str_bytes (l : List UInt8) : strOfNums (l.map fun u : UInt8 => (u.toNat : Int)) = ⟨l.toArray⟩ := by
  unfold strOfNums
  rw [List.map_map]
  congr 2
  exact (List.map_congr_left (fun u _ => by simp)).trans (List.map_id l)
theorem bytV_ints (l : List UInt8) : bytV l = ((l.map fun u : UInt8 => (u.toNat : Int)).map (Value.int .u8)).toArray := by simp [bytV]
/-- A row of bytes, from its start, as a string. -/
theorem conv_bytes {W : World} {B : Nat} {l : List UInt8} {T : TypeId} (h : Row W B (bytV l) T) (n cap : Nat) (hn : l.length = n) :
    (convert 40 9 (.slice (some ⟨B, 0, none⟩) n cap)).run Try.prog W = .ok (.string ⟨l.toArray⟩) W := by
  have h' : W.heap[B]? = some (.cells ((l.map fun u : UInt8 => (u.toNat : Int)).map (Value.int .u8)).toArray T (0, 0)) := by rw [← bytV_ints]; exact h
  rw [conv_row 40 5 9 Try.underlying40 Try.underlying5 Try.underlying9 W B T (0, 0) _ h' n cap (by simpa using hn), str_bytes]
theorem zero32 : (Try.prog.info? 39).bind (fun i => i.zero.map (·.cells)) = some (zbyt 32) := by kernel_rfl

def rowTo (l : List UInt8) (k : Nat) : List UInt8 := unTo l k ++ List.replicate (32 - k) 0
theorem rowTo_zero (l : List UInt8) : rowTo l 0 = List.replicate 32 0 := rfl
theorem rowTo_full (l : List UInt8) : rowTo l 32 = unTo l 32 := by simp [rowTo]
theorem rowTo_len (l : List UInt8) {k : Nat} (h : k ≤ 32) : (rowTo l k).length = 32 := by simp [rowTo, unTo_len]; omega
theorem rowTo_set (l : List UInt8) {k : Nat} (h : k < 32) : (rowTo l k).set k (one l k) = rowTo l (k + 1) := by
  unfold rowTo
  rw [List.set_append_right _ _ (by rw [unTo_len]; exact Nat.le_refl _), unTo_len, Nat.sub_self, unTo_succ, show 32 - k = (32 - (k + 1)) + 1 by omega, List.replicate_succ, List.set_cons_zero, List.append_assoc]
  rfl
theorem getD_str {s : ByteArray} {j : Nat} (h : j < s.size) : s.data.toList.getD j 0 = s[j] := by
  have h' : j < s.data.toList.length := by rw [← Lib.size_eq]; exact h
  rw [List.getD_eq_getElem?_getD, List.getElem?_eq_getElem h']
  rfl
theorem or_nibbles {a b : Int} (h1 : 0 ≤ a) (h2 : a < 16) (h3 : 0 ≤ b) (h4 : b < 16) : bits .or .i64 (a * 16) b = 16 * a + b := by
  have h : ∀ a b : Fin 16, bits .or .i64 (((a : Nat) : Int) * 16) ((b : Nat) : Int) = 16 * ((a : Nat) : Int) + ((b : Nat) : Int) := by decide +kernel
  have := h ⟨a.toNat, by omega⟩ ⟨b.toNat, by omega⟩
  simpa [Int.toNat_of_nonneg h1, Int.toNat_of_nonneg h3] using this

def RetUn (s : ByteArray) (w : World) (e : Ending) (w' : World) : Prop := e = .returned (.tuple #[.string ⟨(unhexV s.data.toList).1.toArray⟩, .int .i64 (unhexV s.data.toList).2]) ∧ Below w.heap.size w w'

set_option maxRecDepth 100000 in
set_option maxHeartbeats 2000000 in
theorem Unhex_any (s : ByteArray) (w : World) : Calls Try.prog 23 #[.string s] w (RetUn s w) := by
  by_cases h64 : s.size = 64
  · have hn64 : (((s.size : Nat) : Int) != 64) = false := by rw [h64]; rfl
    have H64 := Lib.hid h64
    clear h64
    go_enter Try.func23, Try.ntmps23
    go_wp2_with (refine wpList_alloc_zero rfl _ rfl _ zero32 ?_)
    go_loopw [11] (fun i wr => ∃ k : Nat, k ≤ 32 ∧ i = .int .i64 k ∧ GoodTo s.data.toList k ∧ Row wr w.heap.size (bytV (rowTo s.data.toList k)) 39 ∧ Below w.heap.size w wr) (fun i _ => 32 - (intOf i).toNat)
    case atStart => exact ⟨0, by omega, rfl, fun j hj => absurd hj (by omega), Row.made w _ _, (Below.refl _ _).alloc (Nat.le_refl _) _⟩
    case round =>
      obtain ⟨k, hk, rfl, hG, hR, hB⟩ := hrel
      have HG := Lib.hid hG
      by_cases hlt : k < 32
      · have hbk : decide ((k : Int) < 32) = true := by simpa using (show (k : Int) < 32 by omega)
        obtain ⟨j, hj⟩ : ∃ j, j = 2 * k := ⟨_, rfl⟩
        have j1 : j < s.size := by rw [H64.out]; omega
        have j2 : j + 1 < s.size := by rw [H64.out]; omega
        have e1 : (2 : Int) * (k : Int) = (j : Int) := by omega
        have w1 : IntKind.i64.wrap ((2 : Int) * (k : Int)) = (j : Int) := by rw [e1]; exact IntWalk.i64_in _ (by omega)
        have w2 : IntKind.i64.wrap ((j : Int) + 1) = (j : Int) + 1 := IntWalk.i64_in _ (by omega)
        have w3 : IntKind.i64.wrap (j : Int) = (j : Int) := IntWalk.i64_in _ (by omega)
        have t2 : ((j : Int) + 1).toNat = j + 1 := by omega
        have b1 : (0 : Int) ≤ (j : Int) ∧ (j : Int) < (s.size : Int) := by omega
        have b2 : (0 : Int) ≤ (j : Int) + 1 ∧ (j : Int) + 1 < (s.size : Int) := by omega
        have hc1 := val_lt s[j]; have hc2 := val_lt s[j + 1]
        have g1 := getD_str j1; have g2 := getD_str j2
        have HJ := Lib.hid hj
        have HR := Lib.hid hR
        have HG1 := Lib.hid g1; have HG2 := Lib.hid g2
        have HH := Lib.hid (fun u W => (half_any u W).mono fun e w' h => (⟨h.1, h.2.symm⟩ : _ ∧ w' = W))
        clear hj hR hG g1 g2
        by_cases n1 : 0 ≤ val s[j]
        · by_cases n2 : 0 ≤ val s[j + 1]
          · have d1 : decide (val s[j] < 0) = false := by simp; omega
            have d2 : decide (val s[j + 1] < 0) = false := by simp; omega
            have hor := or_nibbles n1 hc1 n2 hc2
            have cf := HR.out.free k
            obtain ⟨v, cr⟩ : ∃ v, wr.cell? ⟨w.heap.size, k, none⟩ = some v := ⟨_, by rw [HR.out.cell, bytV_get _ _ (by rw [rowTo_len _ hk]; exact hlt)]⟩
            have HS := Lib.hid (goodTo_step HG.out (by rw [← HJ.out, HG1.out]; exact n1) (by rw [← HJ.out, HG2.out]; exact n2))
            have HO := Lib.hid (one_toNat (s := s.data.toList) (k := k) (by rw [← HJ.out, HG1.out]; exact n1) (by rw [← HJ.out, HG2.out]; exact n2))
            go_wp2_with fail
            go_quiet ((exact Calls.quiet_of_same (HH.out _ _)))
            go_wp2_with fail
            go_roundw
            case rel =>
              have hone : ((one s.data.toList k).toNat : Int) = 16 * val s[j] + val s[j + 1] := by
                have := HO.out
                rw [← HJ.out, HG1.out, HG2.out] at this
                rw [this]
              refine ⟨k + 1, by omega, by go_num, HS.out, ?_, (below_drewN hB _).setCell (Nat.le_refl _) _⟩
              have := (Row.drewN HR.out nq).set k (.int .u8 ((one s.data.toList k).toNat : Nat))
              rw [bytV_set, rowTo_set _ hlt] at this
              rw [← hone]
              exact this
            case measure => simp [intOf]; omega
          · have d1 : decide (val s[j] < 0) = false := by simp; omega
            have d2 : decide (val s[j + 1] < 0) = true := by simp; omega
            have HV := Lib.hid (unhexV_bad (bad_of (j := j + 1) (by rw [← Lib.size_eq]; exact H64.out) (by rw [← H64.out]; exact j2) (by rw [HG2.out]; omega)))
            go_wp2_with fail
            go_quiet ((exact Calls.quiet_of_same (HH.out _ _)))
            go_wp2_with fail
            go_ret2
            exact ⟨by rw [HV.out]; rfl, below_drewN hB _⟩
        · have d1 : decide (val s[j] < 0) = true := by simp; omega
          have HV := Lib.hid (unhexV_bad (bad_of (j := j) (by rw [← Lib.size_eq]; exact H64.out) (by rw [← H64.out]; exact j1) (by rw [HG1.out]; omega)))
          go_wp2_with fail
          go_quiet ((exact Calls.quiet_of_same (HH.out _ _)))
          go_wp2_with fail
          go_ret2
          exact ⟨by rw [HV.out]; rfl, below_drewN hB _⟩
      · obtain rfl : k = 32 := by omega
        have hbk : decide (((32 : Nat) : Int) < 32) = false := rfl
        rw [rowTo_full] at hR
        have HV := Lib.hid (unhexV_good (good_of (by rw [← Lib.size_eq]; exact H64.out) hG))
        have HC := Lib.hid (conv_bytes hR 32 32 (unTo_len _ _))
        clear hR hG
        go_wp2_with (refine wpList_convert rfl _ _ _ rfl _ _ _ rfl HC.out ?_)
        go_ret2
        exact ⟨by rw [HV.out]; rfl, hB⟩
  · have hn64 : (((s.size : Nat) : Int) != 64) = true := by simp; omega
    have HV := Lib.hid (unhexV_bad (s := s.data.toList) (fun g => h64 (by rw [Lib.size_eq]; exact g.1)))
    go_enter Try.func23, Try.ntmps23
    go_wp2
    go_ret2
    exact ⟨by rw [HV.out]; rfl, Below.refl _ _⟩

set_option maxRecDepth 100000 in
set_option maxHeartbeats 2000000 in
theorem refUnhex_any (s : ByteArray) (w : World) : Calls Try.prog 24 #[.string s] w (RetUn s w) := by
  by_cases h64 : s.size = 64
  · have hn64 : (((s.size : Nat) : Int) != 64) = false := by rw [h64]; rfl
    have H64 := Lib.hid h64
    clear h64
    go_enter Try.func24, Try.ntmps24
    go_wp2
    go_loopw [4, 5] (fun v i wr => ∃ k : Nat, k ≤ 32 ∧ i = .int .i64 (2 * k : Nat) ∧ GoodTo s.data.toList k ∧ OwnByt w wr v (unTo s.data.toList k) ∧ Below w.heap.size w wr) (fun _ i _ => 64 - (intOf i).toNat)
    case atStart => exact ⟨0, by omega, rfl, fun j hj => absurd hj (by omega), ownByt_nil _, Below.refl _ _⟩
    case round =>
      obtain ⟨k, hk, rfl, hG, hO, hB⟩ := hrel
      have HG := Lib.hid hG
      have HO := Lib.hid hO
      clear hO
      obtain ⟨j, hj⟩ : ∃ j, j = 2 * k := ⟨_, rfl⟩
      rw [← hj]
      by_cases hlt : k < 32
      · have j1 : j < s.size := by rw [H64.out]; omega
        have j2 : j + 1 < s.size := by rw [H64.out]; omega
        have hbk : decide ((j : Int) < (s.size : Int)) = true := by simpa using (show (j : Int) < (s.size : Int) by omega)
        have hj64 : j < 64 := by omega
        have t2 : ((j : Int) + 1).toNat = j + 1 := by omega
        have b1 : (0 : Int) ≤ (j : Int) ∧ (j : Int) < (s.size : Int) := by omega
        have b2 : (0 : Int) ≤ (j : Int) + 1 ∧ (j : Int) + 1 < (s.size : Int) := by omega
        have hc1 := val_lt s[j]; have hc2 := val_lt s[j + 1]
        have hm1 := val_ge s[j]; have hm2 := val_ge s[j + 1]
        have g1 := getD_str j1; have g2 := getD_str j2
        have HJ := Lib.hid hj
        have HG1 := Lib.hid g1; have HG2 := Lib.hid g2
        have HH := Lib.hid digit_any
        clear hj hG g1 g2
        by_cases n1 : 0 ≤ val s[j]
        · have d1 : decide (val s[j] < 0) = false := by simp; omega
          by_cases n2 : 0 ≤ val s[j + 1]
          · have d2 : decide (val s[j + 1] < 0) = false := by simp; omega
            have HS := Lib.hid (goodTo_step HG.out (by rw [← HJ.out, HG1.out]; exact n1) (by rw [← HJ.out, HG2.out]; exact n2))
            have HN := Lib.hid (one_toNat (s := s.data.toList) (k := k) (by rw [← HJ.out, HG1.out]; exact n1) (by rw [← HJ.out, HG2.out]; exact n2))
            have hone : 16 * val s[j] + val s[j + 1] = ((one s.data.toList k).toNat : Int) := by
              have := HN.out
              rw [← HJ.out, HG1.out, HG2.out] at this
              exact this.symm
            have hm : (((one s.data.toList k).toNat : Nat) : Int) % 256 = ((one s.data.toList k).toNat : Int) := by have := (one s.data.toList k).toNat_lt; omega
            have HONE := Lib.hid hone
            clear hone
            go_wp2_with (first | ((with_reducible refine (HH.out _ _).mono ?_); rintro e w1 ⟨rfl, rfl⟩) | (at_builtin; refine wpList_append_byt rfl _ _ rfl [one s.data.toList k] HO.out hB (by simp [Lib.byteCells, ← HONE.out]) 1 rfl (by rw [unTo_len]; omega) rfl rfl ?_))
            intro v' w2 hown' hb2
            go_wp2
            go_roundw
            case rel => exact ⟨k + 1, by omega, by have := HJ.out; rw [this]; go_num, HS.out, by rw [unTo_succ]; exact hown', hb2⟩
            case measure => simp [intOf]; omega
          · have d2 : decide (val s[j + 1] < 0) = true := by simp; omega
            have HV := Lib.hid (unhexV_bad (bad_of (j := j + 1) (by rw [← Lib.size_eq]; exact H64.out) (by rw [← H64.out]; exact j2) (by rw [HG2.out]; omega)))
            go_wp2_with ((with_reducible refine (HH.out _ _).mono ?_); rintro e w1 ⟨rfl, rfl⟩)
            go_ret2
            exact ⟨by rw [HV.out]; rfl, hB⟩
        · have d1 : decide (val s[j] < 0) = true := by simp; omega
          have HV := Lib.hid (unhexV_bad (bad_of (j := j) (by rw [← Lib.size_eq]; exact H64.out) (by rw [← H64.out]; exact j1) (by rw [HG1.out]; omega)))
          go_wp2_with ((with_reducible refine (HH.out _ _).mono ?_); rintro e w1 ⟨rfl, rfl⟩)
          go_ret2
          exact ⟨by rw [HV.out]; rfl, hB⟩
      · obtain rfl : k = 32 := by omega
        have hge : decide ((j : Int) < (s.size : Int)) = false := by have := H64.out; simp; omega
        have hgn : ¬ j < s.size := by have := H64.out; omega
        have HV := Lib.hid (unhexV_good (good_of (by rw [← Lib.size_eq]; exact H64.out) hG))
        have HC := Lib.hid HO.out.conv
        clear hG hj
        go_wp2_with (refine wpList_convert rfl _ _ _ rfl _ _ _ rfl HC.out ?_)
        go_ret2
        exact ⟨by rw [HV.out]; rfl, hB⟩
  · have hn64 : (((s.size : Nat) : Int) != 64) = true := by simp; omega
    have HV := Lib.hid (unhexV_bad (s := s.data.toList) (fun g => h64 (by rw [Lib.size_eq]; exact g.1)))
    go_enter Try.func24, Try.ntmps24
    go_wp2
    go_ret2
    exact ⟨by rw [HV.out]; rfl, Below.refl _ _⟩
end Go.Proofs.Yteiflmdnakhekaa

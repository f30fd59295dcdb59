/-
  Contracts over this translation: slices' stable, SortStableFunc at objects.
-/
import Derived.Test.YtlccihidedfemaaGreatDoorYbDtf
set_option linter.unusedVariables false
namespace Go.Proofs.YtlccihidedfemaaGreatDoor
open Go.RowKit
attribute [local go_sem] Oper.semAt_some
def seg (M : List Ob) (a k : Nat) : List Ob := (M.drop a).take k
theorem seg_len (M : List Ob) (a k : Nat) : (seg M a k).length = min k (M.length - a) := by unfold seg; rw [List.length_take, List.length_drop]
theorem seg_full {M : List Ob} {a k : Nat} (h : M.length ≤ a + k) : seg M a k = M.drop a := List.take_of_length_le (by rw [List.length_drop]; omega)
theorem seg_split (M : List Ob) (a k : Nat) : M.take a ++ (seg M a k ++ M.drop (a + k)) = M := by
 unfold seg
 rw [← List.drop_drop, List.take_append_drop, List.take_append_drop]
theorem seg_left {P R : List Ob} {a k : Nat} (h : a + k ≤ P.length) : seg (P ++ R) a k = seg P a k := by
 unfold seg
 rw [List.drop_append_of_le_length (by omega), List.take_append_of_le_length (by rw [List.length_drop]; omega)]
theorem seg_right {P R : List Ob} {a k : Nat} (h : P.length ≤ a) : seg (P ++ R) a k = seg R (a - P.length) k := by
 unfold seg
 rw [List.drop_append, List.drop_of_length_le h, List.nil_append]
theorem seg_put {M S : List Ob} {a k : Nat} (ha : a + k ≤ M.length) (hS : S.length = k) :
  (∀ c l, c + l ≤ a → seg (M.take a ++ (S ++ M.drop (a + k))) c l = seg M c l) ∧ (∀ c l, a + k ≤ c → seg (M.take a ++ (S ++ M.drop (a + k))) c l = seg M c l) ∧ seg (M.take a ++ (S ++ M.drop (a + k))) a k = S ∧ (M.take a ++ (S ++ M.drop (a + k))).length = M.length := by
 have hl : (M.take a).length = a := by rw [List.length_take]; omega
 refine ⟨fun c l h => ?_, fun c l h => ?_, ?_, ?_⟩
 ·rw [seg_left (by omega)]
  conv => rhs; rw [← List.take_append_drop a M]
  rw [seg_left (by omega)]
 ·rw [seg_right (by omega), seg_right (by omega), hl, hS]
  unfold seg
  rw [List.drop_drop]
  congr 2; omega
 ·rw [seg_right (by omega), hl, Nat.sub_self]
  unfold seg
  rw [List.drop_zero, List.take_append_of_le_length (by omega), List.take_of_length_le (by omega)]
 ·simp; omega
theorem seg_stab {M S : List Ob} {a k : Nat} (h : Stab (seg M a k) S) : Stab M (M.take a ++ (S ++ M.drop (a + k))) := by
 have := (Stab.refl (M.take a)).app (h.app (Stab.refl (M.drop (a + k))))
 rwa [seg_split] at this
theorem sortO_nil : SortO [] := List.Pairwise.nil
set_option maxRecDepth 100000 in
set_option maxHeartbeats 8000000 in
theorem stable_any (g cap n : Nat) (L : List Ob) (w : World) (hR : RowO w g cap L) (hn : n = L.length) (hL : n ≤ 1000000) :
  Calls Tryz.prog 91 #[.slice (some ⟨g, 0, none⟩) n cap, .int .i64 n, cmpV] w fun e w' =>
   e = .returned (.tuple #[]) ∧ ∃ M, RowO w' g cap M ∧ M.length = n ∧ Stab L M ∧ SortO M ∧ Turned w w' g := by
 have HR := Lib.hid hR; have HN := Lib.hid hn
 clear hR hn
 go_enter Tryz.func91, Tryz.ntmps91
 go_wp2
 go_loopw [7, 8] (fun av bv wr => ∃ (a i : Nat) (M : List Ob), av = .int .i64 a ∧ bv = .int .i64 (a + 20 : Nat) ∧ a = i * 20 ∧ a ≤ n ∧ M.length = n ∧ RowO wr g cap M ∧ Stab L M ∧ (∀ j, (j + 1) * 20 ≤ a → SortO (seg M (j * 20) 20)) ∧ Turned w wr g) (fun a _ _ => n + 20 - (intOf a).toNat)
 case atStart => exact ⟨0, 0, L, rfl, rfl, rfl, Nat.zero_le _, HN.out.symm, HR.out, Stab.refl _, (fun j hj => by omega), turned_refl _ _⟩
 case round =>
  obtain ⟨a, i, M, rfl, rfl, hai, han, hM, hR, hS, hB, hT⟩ := hrel
  have HAI := Lib.hid hai; have HM := Lib.hid hM; have HS := Lib.hid hS; have HB := Lib.hid hB; have HT := Lib.hid hT; have HR1 := Lib.hid hR
  clear hai hM hS hB hT hR
  obtain ⟨b, hb⟩ : ∃ b, b = a + 20 := ⟨_, rfl⟩
  have hbn : b ≤ n + 20 := by omega
  rw [← hb]
  by_cases hlt : b ≤ n
  ·have hlb : decide ((b : Int) ≤ (n : Int)) = true := decide_eq_true (by omega)
   have CI := Lib.hid (insertion_any g cap n a b (M.take a) (seg M a 20) (M.drop (a + 20)) wr (by rw [seg_split]; exact HR1.out) (by rw [seg_split]; exact HM.out.symm) (by rw [List.length_take]; have := HM.out; omega) (by rw [List.length_take, seg_len]; have := HM.out; omega) hL)
   have HB2 := Lib.hid hb
   clear hb
   go_wp2_with fail
   with_reducible refine CI.out.mono ?_
   rintro e w1 ⟨rfl, S, hR1, hl1, hs1, ho1, hT1⟩
   have hl2 : S.length = 20 := by rw [hl1, seg_len]; have := HM.out; have := HB2.out; omega
   obtain ⟨p1, p2, p3, p4⟩ := seg_put (M := M) (S := S) (a := a) (k := 20) (by have := HM.out; have := HB2.out; omega) hl2
   have HR2 := Lib.hid hR1
   have HT2 := Lib.hid (turned_trans HT.out hT1)
   have HS2 := Lib.hid (HS.out.trans (seg_stab hs1))
   have HB3 : Hid (∀ j, (j + 1) * 20 ≤ b → SortO (seg (M.take a ++ (S ++ M.drop (a + 20))) (j * 20) 20)) := Lib.hid (fun j hj => by
    by_cases hjj : (j + 1) * 20 ≤ a
    ·rw [p1 _ _ (by omega)]; exact HB.out j hjj
    ·have : j * 20 = a := by have := HB2.out; have := HAI.out; omega
     rw [this, p3]; exact ho1)
   have HL4 := Lib.hid (p4.trans HM.out)
   clear hR1 hl1 hs1 ho1 hT1 hl2 p1 p2 p3 p4
   go_wp2
   go_roundw
   case rel => exact ⟨b, i + 1, _, rfl, by go_num, by have := HB2.out; have := HAI.out; omega, hlt, HL4.out, HR2.out, HS2.out, HB3.out, HT2.out⟩
   case measure => simp [intOf]; have := HB2.out; omega
  ·have hlb : decide ((b : Int) ≤ (n : Int)) = false := decide_eq_false (by omega)
   have CI := Lib.hid (insertion_any g cap n a n (M.take a) (seg M a (n - a)) (M.drop (a + (n - a))) wr (by rw [seg_split]; exact HR1.out) (by rw [seg_split]; exact HM.out.symm) (by rw [List.length_take]; have := HM.out; omega) (by rw [List.length_take, seg_len]; have := HM.out; omega) hL)
   have HB2 := Lib.hid hb
   clear hb
   go_wp2_with fail
   with_reducible refine CI.out.mono ?_
   rintro e w1 ⟨rfl, S, hR1, hl1, hs1, ho1, hT1⟩
   have hl2 : S.length = n - a := by rw [hl1, seg_len]; have := HM.out; omega
   obtain ⟨p1, p2, p3, p4⟩ := seg_put (M := M) (S := S) (a := a) (k := n - a) (by have := HM.out; omega) hl2
   have HR2 := Lib.hid hR1
   have HT2 := Lib.hid (turned_trans HT.out hT1)
   have HS2 := Lib.hid (HS.out.trans (seg_stab hs1))
   have HB3 : Hid (∀ j, SortO (seg (M.take a ++ (S ++ M.drop (a + (n - a)))) (j * 20) 20)) := Lib.hid (fun j => by
    by_cases hjj : (j + 1) * 20 ≤ a
    ·rw [p1 _ _ (by omega)]; exact HB.out j hjj
    ·by_cases hj2 : j * 20 = a
     ·have e : seg (M.take a ++ (S ++ M.drop (a + (n - a)))) a 20 = seg (M.take a ++ (S ++ M.drop (a + (n - a)))) a (n - a) := by
       rw [seg_full (by rw [p4]; have := HM.out; have := HB2.out; omega), seg_full (by rw [p4]; have := HM.out; omega)]
      rw [hj2, e, p3]; exact ho1
     ·unfold seg
      rw [List.drop_of_length_le (by rw [p4]; have := HM.out; have := HAI.out; have := HB2.out; omega)]
      exact sortO_nil)
   have HL4 := Lib.hid (p4.trans HM.out)
   obtain ⟨M1, hM1⟩ : ∃ M1, M1 = M.take a ++ (S ++ M.drop (a + (n - a))) := ⟨_, rfl⟩
   rw [← hM1] at HR2 HS2 HB3 HL4
   clear hR1 hl1 hs1 ho1 hT1 hl2 p1 p2 p3 p4 hM1
   go_wp2
   go_loopw [6] (fun sv wr => ∃ (bs : Nat) (M : List Ob), sv = .int .i64 bs ∧ 20 ≤ bs ∧ bs ≤ 2 * n + 20 ∧ M.length = n ∧ RowO wr g cap M ∧ Stab L M ∧ (∀ j, SortO (seg M (j * bs) bs)) ∧ Turned w wr g) (fun s _ => 2 * n + 20 - (intOf s).toNat)
   case atStart => exact ⟨20, M1, rfl, Nat.le_refl _, by omega, HL4.out, HR2.out, HS2.out, HB3.out, HT2.out⟩
   case round =>
    clear HM HR1 HS HB HT HR2 HS2 HB3 HL4 HT2 HAI CI
    obtain ⟨bs, M, rfl, hbs, hbs2, hM, hR, hS, hB, hT⟩ := hrel
    have HM := Lib.hid hM; have HS := Lib.hid hS; have HB := Lib.hid hB; have HT := Lib.hid hT; have HR1 := Lib.hid hR
    clear hM hS hB hT hR
    by_cases hlt : bs < n
    ·have hls : decide ((bs : Int) < (n : Int)) = true := decide_eq_true (by omega)
     obtain ⟨d, hd⟩ : ∃ d, d = 2 * bs := ⟨_, rfl⟩
     have hdd : (2 : Int) * (bs : Int) = (d : Int) := by omega
     have hdd2 : (bs : Int) * 2 = (d : Int) := by omega
     have hdn : d ≤ 2 * n := by omega
     have HD := Lib.hid hd
     clear hd
     go_wp2
     go_loopw [7, 8] (fun av bv wr => ∃ (a i : Nat) (M : List Ob), av = .int .i64 a ∧ bv = .int .i64 (a + d : Nat) ∧ a = i * d ∧ a ≤ n ∧ M.length = n ∧ RowO wr g cap M ∧ Stab L M ∧ (∀ j, (j + 1) * d ≤ a → SortO (seg M (j * d) d)) ∧ (∀ j, a ≤ j * bs → SortO (seg M (j * bs) bs)) ∧ Turned w wr g) (fun a _ _ => n + d - (intOf a).toNat)
     case atStart => exact ⟨0, 0, M, rfl, by go_num, by omega, Nat.zero_le _, HM.out, HR1.out, HS.out, (fun j hj => by
       have : 0 < (j + 1) * d := Nat.mul_pos (by omega) (by have := HD.out; omega)
       omega), (fun j _ => HB.out j), HT.out⟩
     case round =>
      clear HM HS HB HT HR1
      obtain ⟨a, i, M, rfl, rfl, hai, han, hM, hR, hS, hB, hC, hT⟩ := hrel
      have HAI := Lib.hid hai; have HM := Lib.hid hM; have HS := Lib.hid hS; have HB := Lib.hid hB; have HC := Lib.hid hC; have HT := Lib.hid hT; have HR1 := Lib.hid hR
      have hai2 : (2 * i) * bs = a := by rw [hai, HD.out, Nat.mul_comm 2 i, Nat.mul_assoc]
      have hai3 : (2 * i + 1) * bs = a + bs := by rw [Nat.add_mul, hai2, Nat.one_mul]
      have HI2 := Lib.hid hai2; have HI3 := Lib.hid hai3
      clear hai hM hS hB hT hR hC hai2 hai3
      obtain ⟨b, hb⟩ : ∃ b, b = a + d := ⟨_, rfl⟩
      have hbn : b ≤ n + d := by omega
      have hab : a + bs ≤ n + bs := by omega
      have hSX : SortO (seg M a bs) := by have := HC.out (2 * i) (by have := HI2.out; omega); rwa [HI2.out] at this
      have hSY : SortO (seg M (a + bs) bs) := by have := HC.out (2 * i + 1) (by have := HI3.out; omega); rwa [HI3.out] at this
      rw [← hb]
      obtain ⟨m, hm⟩ : ∃ m, m = a + bs := ⟨_, rfl⟩
      have hmm : (a : Int) + (bs : Int) = (m : Int) := by omega
      by_cases hlt2 : b ≤ n
      ·have hlb : decide ((b : Int) ≤ (n : Int)) = true := decide_eq_true (by omega)
       have hlen : a + d ≤ M.length := by have := HM.out; omega
       have hrow : M.take a ++ (seg M a bs ++ (seg M (a + bs) bs ++ M.drop (a + d))) = M := by
        have h1 := seg_split M a bs
        have h2 : seg M (a + bs) bs ++ M.drop (a + d) = M.drop (a + bs) := by
         have h3 := List.take_append_drop bs (M.drop (a + bs))
         rw [List.drop_drop] at h3
         rw [show a + d = a + bs + bs by have := HD.out; omega]
         exact h3
        rw [h2]; exact h1
       have CI := Lib.hid (symMerge_all (d + d) g cap n a m b (M.take a) (seg M a bs) (seg M (a + bs) bs) (M.drop (a + d)) wr (by rw [hrow]; exact HR1.out) (by rw [hrow]; exact HM.out.symm) (by rw [List.length_take]; omega) (by rw [List.length_take, seg_len]; have := HD.out; omega) (by rw [List.length_take, seg_len, seg_len]; have := HD.out; omega) (by rw [seg_len]; have := HD.out; omega) (by rw [seg_len]; have := HD.out; omega) (by rw [seg_len, seg_len]; have := HD.out; omega) hSX hSY hL)
       have HB2 := Lib.hid hb; have HLEN := Lib.hid hlen
       have HXY : Hid (seg M a bs ++ seg M (a + bs) bs = seg M a d) := Lib.hid (by
        unfold seg
        rw [show d = bs + bs by have := HD.out; omega, List.take_add, List.drop_drop])
       have HXL : Hid ((seg M a bs).length + (seg M (a + bs) bs).length = d) := Lib.hid (by rw [seg_len, seg_len]; have := HD.out; omega)
       clear hb hm hSX hSY hrow hlen
       go_wp2_with fail
       with_reducible refine CI.out.mono ?_
       rintro e w1 ⟨rfl, S, hR1, hl1, hs1, ho1, hT1⟩
       have hl2 : S.length = d := by rw [hl1, HXL.out]
       rw [HXY.out] at hs1
       obtain ⟨p1, p2, p3, p4⟩ := seg_put (M := M) (S := S) (a := a) (k := d) HLEN.out hl2
       have HR2 := Lib.hid hR1
       have HT2 := Lib.hid (turned_trans HT.out hT1)
       have HS2 := Lib.hid (HS.out.trans (seg_stab hs1))
       have HB3 : Hid (∀ j, (j + 1) * d ≤ b → SortO (seg (M.take a ++ (S ++ M.drop (a + d))) (j * d) d)) := Lib.hid (fun j hj => by
        by_cases hjj : (j + 1) * d ≤ a
        ·rw [p1 _ _ (by rw [← Nat.succ_mul]; exact hjj)]; exact HB.out j hjj
        ·have hji : j = i := by
          have h1 := HB2.out; have h2 := HAI.out
          rw [h1, h2, ← Nat.succ_mul] at hj
          rw [h2] at hjj
          have hd0 : 0 < d := by have := HD.out; omega
          have h3 : j + 1 ≤ i + 1 := Nat.le_of_mul_le_mul_right hj hd0
          have h4 : ¬ j + 1 ≤ i := fun h => hjj (Nat.mul_le_mul_right d h)
          omega
         rw [hji, ← HAI.out, p3]; exact ho1)
       have HC3 : Hid (∀ j, b ≤ j * bs → SortO (seg (M.take a ++ (S ++ M.drop (a + d))) (j * bs) bs)) := Lib.hid (fun j hj => by
        rw [p2 _ _ (by have := HB2.out; omega)]
        exact HC.out j (by have := HB2.out; omega))
       have HL4 := Lib.hid (p4.trans HM.out)
       clear hR1 hl1 hs1 ho1 hT1 hl2 p1 p2 p3 p4
       go_wp2
       go_roundw
       case rel => exact ⟨b, i + 1, _, rfl, by go_num, by rw [HB2.out, HAI.out, Nat.succ_mul], hlt2, HL4.out, HR2.out, HS2.out, HB3.out, HC3.out, HT2.out⟩
       case measure => simp [intOf]; have := HB2.out; have := HD.out; omega
      ·have hlb : decide ((b : Int) ≤ (n : Int)) = false := decide_eq_false (by omega)
       by_cases hmn : m < n
       ·have hlm : decide ((m : Int) < (n : Int)) = true := decide_eq_true (by omega)
        have hYe : seg M (a + bs) bs = M.drop (a + bs) := by
         exact seg_full (by have := HM.out; have := HD.out; omega)
        rw [hYe] at hSY
        have hrow : M.take a ++ (seg M a bs ++ (M.drop (a + bs) ++ [])) = M := by rw [List.append_nil]; exact seg_split M a bs
        have CI := Lib.hid (symMerge_all (d + d) g cap n a m n (M.take a) (seg M a bs) (M.drop (a + bs)) [] wr (by rw [hrow]; exact HR1.out) (by rw [hrow]; exact HM.out.symm) (by rw [List.length_take]; have := HM.out; omega) (by rw [List.length_take, seg_len]; have := HM.out; omega) (by rw [List.length_take, seg_len, List.length_drop]; have := HM.out; omega) (by rw [seg_len]; have := HM.out; omega) (by rw [List.length_drop]; have := HM.out; omega) (by rw [seg_len, List.length_drop]; have := HM.out; have := HD.out; omega) hSX hSY hL)
        have HB2 := Lib.hid hb; have HM2 := Lib.hid hm
        have HXY : Hid (seg M a bs ++ M.drop (a + bs) = seg M a (n - a)) := Lib.hid (by
         have h3 := List.take_append_drop bs (M.drop a)
         rw [List.drop_drop] at h3
         rw [seg_full (k := n - a) (by have := HM.out; omega)]
         exact h3)
        have HXL : Hid ((seg M a bs).length + (M.drop (a + bs)).length = n - a) := Lib.hid (by rw [seg_len, List.length_drop]; have := HM.out; omega)
        clear hb hm hSX hSY hrow hYe
        go_wp2_with fail
        with_reducible refine CI.out.mono ?_
        rintro e w1 ⟨rfl, S, hR1, hl1, hs1, ho1, hT1⟩
        have hl2 : S.length = n - a := by rw [hl1, HXL.out]
        rw [HXY.out] at hs1
        have hdr : M.drop (a + (n - a)) = [] := List.drop_eq_nil_of_le (by have := HM.out; omega)
        obtain ⟨p1, p2, p3, p4⟩ := seg_put (M := M) (S := S) (a := a) (k := n - a) (by have := HM.out; omega) hl2
        have hs2 := seg_stab hs1
        rw [hdr] at p1 p3 p4 hs2
        have HR2 := Lib.hid hR1
        have HT2 := Lib.hid (turned_trans HT.out hT1)
        have HS2 := Lib.hid (HS.out.trans hs2)
        have HB3 : Hid (∀ j, SortO (seg (M.take a ++ (S ++ [])) (j * d) d)) := Lib.hid (fun j => by
         by_cases hjj : (j + 1) * d ≤ a
         ·rw [p1 _ _ (by rw [← Nat.succ_mul]; exact hjj)]; exact HB.out j hjj
         ·by_cases hji : j = i
          ·have e : seg (M.take a ++ (S ++ [])) a d = seg (M.take a ++ (S ++ [])) a (n - a) := by
            rw [seg_full (by rw [p4]; have := HM.out; have := HB2.out; omega), seg_full (by rw [p4]; have := HM.out; omega)]
           rw [hji, ← HAI.out, e, p3]; exact ho1
          ·have h4 : i + 1 ≤ j := by
            rcases Nat.lt_or_ge j i with h | h
            ·exact absurd (by rw [HAI.out]; exact Nat.mul_le_mul_right d h) hjj
            ·omega
           have h5 : (i + 1) * d ≤ j * d := Nat.mul_le_mul_right d h4
           unfold seg
           rw [List.drop_of_length_le (by rw [p4]; have := HM.out; have := HAI.out; have := HB2.out; rw [Nat.succ_mul] at h5; omega), List.take_nil]
           exact sortO_nil)
        have HL4 := Lib.hid (p4.trans HM.out)
        clear hR1 hl1 hs1 ho1 hT1 hl2 p1 p2 p3 p4 hdr hs2
        go_wp2
        go_roundw
        case rel => exact ⟨d, _, by go_num, by have := HD.out; omega, by omega, HL4.out, HR2.out, HS2.out, HB3.out, HT2.out⟩
        case measure => simp [intOf]; have := HD.out; omega
       ·have hlm : decide ((m : Int) < (n : Int)) = false := decide_eq_false (by omega)
        have HB2 := Lib.hid hb; have HM2 := Lib.hid hm
        have HB3 : Hid (∀ j, SortO (seg M (j * d) d)) := Lib.hid (fun j => by
         by_cases hjj : (j + 1) * d ≤ a
         ·exact HB.out j hjj
         ·by_cases hji : j = i
          ·have e : seg M a d = seg M a bs := by
            rw [seg_full (by have := HM.out; have := HD.out; omega), seg_full (by have := HM.out; omega)]
           rw [hji, ← HAI.out, e]; exact hSX
          ·have h4 : i + 1 ≤ j := by
            rcases Nat.lt_or_ge j i with h | h
            ·exact absurd (by rw [HAI.out]; exact Nat.mul_le_mul_right d h) hjj
            ·omega
           have h5 : (i + 1) * d ≤ j * d := Nat.mul_le_mul_right d h4
           unfold seg
           rw [List.drop_of_length_le (by have := HM.out; have := HAI.out; have := HB2.out; rw [Nat.succ_mul] at h5; omega), List.take_nil]
           exact sortO_nil)
        clear hSX hSY hb hm
        go_wp2
        go_roundw
        case rel => exact ⟨d, M, by go_num, by have := HD.out; omega, by omega, HM.out, HR1.out, HS.out, HB3.out, HT.out⟩
        case measure => simp [intOf]; have := HD.out; omega
    ·have hls : decide ((bs : Int) < (n : Int)) = false := decide_eq_false (by omega)
     have HO : Hid (SortO M) := Lib.hid (by
      have := HB.out 0
      unfold seg at this
      rwa [Nat.zero_mul, List.drop_zero, List.take_of_length_le (by have := HM.out; omega)] at this)
     go_wp2
     go_end0
     exact ⟨rfl, M, HR1.out, HM.out, HS.out, HO.out, HT.out⟩
theorem sortStable_any (g cap n : Nat) (L : List Ob) (w : World) (hR : RowO w g cap L) (hn : n = L.length) (hL : n ≤ 1000000) :
  Calls Tryz.prog 55 #[.slice (some ⟨g, 0, none⟩) n cap, cmpV] w fun e w' =>
   e = .returned (.tuple #[]) ∧ ∃ M, RowO w' g cap M ∧ M.length = n ∧ Stab L M ∧ SortO M ∧ Turned w w' g := by
 have C := Lib.hid (stable_any g cap n L w hR hn hL)
 clear hR hn
 go_enter Tryz.func55, Tryz.ntmps55
 go_wp2_with fail
 with_reducible refine C.out.mono ?_
 rintro e w1 ⟨rfl, h⟩
 go_wp2
 go_end0
 exact ⟨rfl, h⟩
end Go.Proofs.YtlccihidedfemaaGreatDoor

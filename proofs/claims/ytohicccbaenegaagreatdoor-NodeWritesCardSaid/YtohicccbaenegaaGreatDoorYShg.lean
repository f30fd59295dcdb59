/-
  Contracts over this translation: what closes a text; sums.
-/
import Derived.WalkKit
import Derived.LoopTactic
import Derived.Outline
import Derived.Laws.BitsAllLaws
import Derived.Lib.Hide
import Derived.Below
import Derived.Laws.Rows
import Derived.Laws.CopyOwn
import Derived.Test.YtohicccbaenegaaGreatDoorProg
import Derived.Test.YtohicccbaenegaaGreatDoorYShm
import Derived.Test.YtohicccbaenegaaGreatDoorYShf
import Derived.Test.YtohicccbaenegaaGreatDoorYRpt
import Derived.Great.BuildSlice
import Derived.BigRegion
import Derived.Deep.QuietTactic
import Derived.BigQuiet
import Derived.StillTailTactics
import Derived.IntWalk
import Derived.WalkSmall
import Derived.RegionTactic
set_option linter.unusedVariables false
set_option pp.maxSteps 200000
namespace Go.Proofs.YtohicccbaenegaaGreatDoor
open Go.RowKit

set_option maxRecDepth 100000 in
set_option maxHeartbeats 1000000 in

theorem be8_take (n k : Nat) (hk : k < 8) : (be8 n).take (k + 1) = (be8 n).take k ++ [UInt8.ofNat (n / 2 ^ (8 * (7 - k)))] := by
  rw [List.take_succ_eq_append_getElem (by rw [be8_len]; exact hk)]
  simp [be8]
set_option maxRecDepth 100000 in
set_option maxHeartbeats 4000000 in
theorem closing_any (n : Nat) (hn : n ≤ 1152921504606846976) (w : World) : Calls Tryz.prog 76 #[.int .u64 n] w fun e w' => e = .returned (.string ⟨(closing n).toArray⟩) ∧ Below w.heap.size w w' := by
  obtain ⟨z, hz⟩ : ∃ z, z = zerosN n := ⟨_, rfl⟩
  have hz64 : z < 64 := by rw [hz]; unfold zerosN; omega
  have e0 : (n : Int) % 64 = ((n % 64 : Nat) : Int) := by omega
  have e1 : (128 - (((n % 64 : Nat) : Int) + 1 + 8)) % 64 = (z : Int) := by rw [hz]; unfold zerosN; omega
  have hr : n % 64 < 64 := Nat.mod_lt _ (by decide)
  obtain ⟨r, hre⟩ : ∃ r, r = n % 64 := ⟨_, rfl⟩
  rw [← hre] at e0 e1 hr
  have HZ := Lib.hid hz
  clear hz hre
  have q0 : Lib.IsBuilderF 77 5 w.heap.size w.heap.size [] (w.alloc (.cells #[.pointer none, .slice none 0 0] 77)) := Lib.IsBuilderF.of (Lib.fresh_isBuilder 77 5 w)
  have b0 : Below w.heap.size w (w.alloc (.cells #[.pointer none, .slice none 0 0] 77)) := (Below.refl _ _).alloc (Nat.le_refl _) _
  have Q0 := Lib.hid q0
  clear q0
  go_enter Tryz.func76, Tryz.ntmps76
  go_wp2_with fail
  refine (WriteByte_k w.heap.size w.heap.size [] 128 _ Q0.out (by decide) b0.size).mono ?_
  rintro e w1 ⟨rfl, h1, hb1, _⟩
  have q1 : Lib.IsBuilderF 77 5 w.heap.size w.heap.size (Lib.byteCells [128]) w1 := .inr h1
  have b1 := b0.trans hb1
  have Q1 := Lib.hid q1
  clear h1 hb1 b0 Q0 q1
  go_wp2_with fail
  refine (Repeat_zero z (by omega) _).mono ?_
  rintro e w2 ⟨rfl, hb2⟩
  have q2 := builder_step Q1.out hb2
  have b2 := b1.trans (hb2.mono b1.size)
  have Q2 := Lib.hid q2
  clear Q1 q2 hb2 b1
  go_wp2_with fail
  refine (WriteString_k w.heap.size w.heap.size _ (zeros z) _ Q2.out (by rw [Lib.byteCells_length, List.length_singleton, zeros, size_mk, List.length_replicate]; omega) b2.size).mono ?_
  rintro e w3 ⟨rfl, h3, hb3, _⟩
  have q3 : Lib.IsBuilderF 77 5 w.heap.size w.heap.size (Lib.byteCells (128 :: (List.replicate z 0 ++ (be8 (n * 8)).take 0))) w3 := .inr (by
    have e : Lib.byteCells [128] ++ Lib.strCells (zeros z) = Lib.byteCells (128 :: (List.replicate z 0 ++ (be8 (n * 8)).take 0)) := by
      rw [Lib.strCells_eq, ← Lib.byteCells_append]; simp [zeros]
    rwa [e] at h3)
  have b3 := b2.trans hb3
  have Q3 := Lib.hid q3
  clear h3 hb3 b2 Q2 q3
  go_wp2_with fail
  go_loopw [19, 6] (fun i _ wr => ∃ k : Nat, k ≤ 8 ∧ i = .int .i64 k ∧ Lib.IsBuilderF 77 5 w.heap.size w.heap.size (Lib.byteCells (128 :: (List.replicate z 0 ++ (be8 (n * 8)).take k))) wr ∧ Below w.heap.size w wr) (fun i _ _ => 8 - (intOf i).toNat)
  case atStart => exact ⟨0, by omega, rfl, Q3.out, b3⟩
  case round =>
    clear Q3 b3
    obtain ⟨k, hk, rfl, hB, hb⟩ := hrel
    have hlen : (Lib.byteCells (128 :: (List.replicate z 0 ++ (be8 (n * 8)).take k))).length ≤ 100 := by
      rw [Lib.byteCells_length]; simp [be8_len]; omega
    by_cases hlt : k < 8
    · have hbk : decide ((k : Int) < 8) = true := by simpa using (show (k : Int) < 8 by omega)
      obtain ⟨c, hc⟩ : ∃ c, c = 8 * (7 - k) := ⟨_, rfl⟩
      have e3 : (8 : Int) * (7 - (k : Int)) = (c : Int) := by omega
      have bc : c ≤ 56 := by omega
      have HB := Lib.hid hB
      have HT := Lib.hid (be8_take (n * 8) k hlt)
      rw [← hc] at HT
      clear hB hc
      have hu : IntKind.u64.wrap ((n : Int) * 8) = (n : Int) * 8 := by show (n : Int) * 8 % 18446744073709551616 = _; omega
      go_wp2_with fail
      have h8 : ((n : Int) * 8 / 2 ^ c % 256) = ((UInt8.ofNat (n * 8 / 2 ^ c)).toNat : Int) := by
        rw [UInt8.toNat_ofNat', Int.natCast_emod, Int.natCast_ediv, Int.natCast_mul, Int.natCast_pow]; rfl
      rw [h8]
      refine (WriteByte_k w.heap.size w.heap.size _ _ _ HB.out (by omega) hb.size).mono ?_
      rintro e w4 ⟨rfl, h4, hb4, _⟩
      go_wp2_with fail
      refine ⟨⟨k + 1, by omega, by go_num, ?_, hb.trans hb4⟩, by simp [intOf]; omega⟩
      have e : Lib.byteCells (128 :: (List.replicate z 0 ++ (be8 (n * 8)).take k)) ++ [Value.int .u8 ((UInt8.ofNat (n * 8 / 2 ^ c)).toNat : Int)] = Lib.byteCells (128 :: (List.replicate z 0 ++ (be8 (n * 8)).take (k + 1))) := by
        rw [HT.out]; simp [Lib.byteCells]
      rw [e] at h4
      exact .inr h4
    · have hk8 : k = 8 := by omega
      have hbk : decide ((k : Int) < 8) = false := by rw [hk8]; rfl
      have hB' : Lib.IsBuilderF 77 5 w.heap.size w.heap.size (Lib.byteCells (closing n)) wr := by
        rw [hk8, List.take_of_length_le (by rw [be8_len]; exact Nat.le_refl _), HZ.out] at hB
        exact hB
      have HB := Lib.hid hB'
      clear hB hB' hk8 hk hlt hlen
      go_wp2_with fail
      refine (String_full_k w.heap.size w.heap.size (closing n) wr HB.out (by simp [closing])).mono ?_
      rintro e w4 ⟨rfl, h4, hb4, _⟩
      go_wp2_with fail
      go_ret
      exact ⟨rfl, hb.trans hb4⟩

theorem closing_size (n : Nat) : (⟨(closing n).toArray⟩ : ByteArray).size ≤ 100 := by
  rw [size_mk, closing_len]; unfold zerosN; omega
set_option maxRecDepth 100000 in
set_option maxHeartbeats 4000000 in
/-- The sum of all that came. -/
theorem sum_any (B : Nat) (l : List UInt8) (n : Nat) (hn : n ≤ 1152921504606846976) (hl : l.length = n) (w : World) (hF : FedTo B w (absorb first l).1 (absorb first l).2 n) :
    Calls Tryz.prog 55 #[.pointer (some ⟨B, 0, none⟩)] w fun e w' => e = .returned (.string ⟨(shaSum l).toArray⟩) ∧ Below B w w' := by
  obtain ⟨rest, hr, hp, hpl, q⟩ := hF
  have c73 : w.cell? ⟨B, 73, none⟩ = some (.int .u64 n) := by rw [q.cell]; simp only [List.getElem?_toArray]; exact rcl_size _ _ _ _ hr
  have hlt := q.lt
  have hF : FedTo B w (absorb first l).1 (absorb first l).2 n := ⟨rest, hr, hp, hpl, q⟩
  have HF := Lib.hid hF
  have HE := Lib.hid (absorb_append l (closing n) first)
  have hfin : (absorb first (l ++ closing n)).2 = [] := by have := closed_rest l first; rwa [hl] at this
  have hok := absorb_ok (l ++ closing n) first_ok
  have hsum : shaSum l = (absorb first (l ++ closing n)).1.bytes := by unfold shaSum; rw [hl]
  obtain ⟨s1, hs1⟩ : ∃ s1, s1 = (absorb first (l ++ closing n)).1 := ⟨_, rfl⟩
  rw [← hs1] at hok hsum
  have HS := Lib.hid hs1; have HFIN := Lib.hid hfin; have HSUM := Lib.hid hsum
  have hok0 := absorb_ok l first_ok
  clear hF q hp hs1 hfin hsum
  go_enter Tryz.func55, Tryz.ntmps55
  go_wp2_with fail
  refine (closing_any n hn _).mono ?_
  rintro e w1 ⟨rfl, hb1⟩
  have hF1 : FedTo B w1 (absorb first l).1 (absorb first l).2 n := by
    obtain ⟨rest, a, b, c, q⟩ := HF.out
    exact ⟨rest, a, b, c, q.step hb1⟩
  have HF1 := Lib.hid hF1
  clear hF1
  go_wp2_with fail
  refine (feed_any B _ hok0 _ n ⟨(closing n).toArray⟩ _ HF1.out (by have := closing_size n; unfold maxLen; omega) (by omega)).mono ?_
  rintro e w2 ⟨rfl, hF2, hb2⟩
  rw [show ((⟨(closing n).toArray⟩ : ByteArray).data.toList) = closing n from rfl, HE.out, ← HS.out, HFIN.out] at hF2
  obtain ⟨rest2, hr2, _, _, q2⟩ := hF2
  have rh : w2.rangeAt B 0 (numV s1.list).toList := Row.rangeA (A := []) (M := numV s1.list) (C := rest2.map (fun n : UInt8 => Value.int .u8 (n.toNat : Int)) ++ [.int .i64 ((0 : Nat) : Int), .int .u64 ((n + (⟨(closing n).toArray⟩ : ByteArray).size : Nat) : Int)]) (by simpa [rcl, numV] using q2) 0 rfl
  have RH := Lib.hid rh
  clear rh q2
  go_wp2_with (refine wpList_load_mid rfl 112 _ rfl B 0 rfl (numV s1.list).toList _ RH.out Tryz.underlying112 rfl (by rw [Array.length_toList, numV_size]; exact size53) ?_)
  rw [Array.toArray_toList]
  refine (bytes_any s1 hok _).mono ?_
  rintro e w3 ⟨rfl, hb3⟩
  go_wp2_with fail
  go_ret
  refine ⟨by rw [HSUM.out]; rfl, ?_⟩
  have h1 : Below B w w1 := hb1.mono (Nat.le_of_lt hlt)
  have h2 := h1.trans hb2
  exact h2.trans (hb3.mono (Nat.le_trans (Nat.le_of_lt hlt) h2.size))

set_option maxRecDepth 100000 in
set_option maxHeartbeats 4000000 in
theorem Sum_any (s : ByteArray) (hs : s.size ≤ 1152921504606846976) (w : World) :
    Calls Tryz.prog 38 #[.string s] w fun e w' => e = .returned (.string ⟨(shaSum s.data.toList).toArray⟩) ∧ Below w.heap.size w w' := by
  have hl := (Lib.size_eq s).symm
  have HL := Lib.hid hl; clear hl
  have hs2 : s.size ≤ maxLen := by unfold maxLen; omega
  go_enter Tryz.func38, Tryz.ntmps38
  go_wp2_with fail
  refine (newReader_any _).mono ?_
  rintro e w1 ⟨B, hB, rfl, hF1, hb1⟩
  have HF1 := Lib.hid hF1
  clear hF1
  go_wp2_with fail
  refine (feed_any B first first_ok [] 0 s _ HF1.out hs2 (by decide)).mono ?_
  rintro e w2 ⟨rfl, hF2, hb2⟩
  rw [List.nil_append, Nat.zero_add] at hF2
  have HF2 := Lib.hid hF2
  clear hF2
  go_wp2_with fail
  refine (sum_any B s.data.toList s.size hs HL.out _ HF2.out).mono ?_
  rintro e w3 ⟨rfl, hb3⟩
  go_wp2_with fail
  go_ret
  exact ⟨rfl, hb1.trans ((hb2.trans hb3).mono hB)⟩
end Go.Proofs.YtohicccbaenegaaGreatDoor

/-
  The statements of layer 6 as walks over this translation: each law answers true, and nothing that was there is written.
-/
import Derived.Test.YtbmoijkppoogfaaGew
import Derived.Test.YtbmoijkppoogfaaLaw
import Derived.BigQuiet
import Derived.Deep.QuietTactic
set_option linter.unusedVariables false
namespace Go.Proofs.Ytbmoijkppoogfaa
open Go.RowKit

theorem hash_none (w : World) : Calls Try.prog 12 #[.string ⟨#[]⟩] w fun e w' => e = .returned (.int .u64 0) ∧ w = w' :=
  (Hash_any ⟨#[]⟩ (by decide) w).mono fun e w' ⟨he, hw⟩ => ⟨he.trans (ret_i rfl), hw⟩
theorem hash_a (x : Nat) (hx : x = tabN 97) (w : World) : Calls Try.prog 12 #[.string ⟨#[97]⟩] w fun e w' => e = .returned (.int .u64 x) ∧ w = w' :=
  (Hash_any ⟨#[97]⟩ (by decide) w).mono fun e w' ⟨he, hw⟩ => ⟨he.trans (ret_i (by rw [hx]; exact congrArg Nat.cast hash_one)), hw⟩
theorem table_a (x : Nat) (hx : x = tabN 97) (w : World) : Calls Try.prog 8 #[.int .u8 97] w fun e w' => e = .returned (.int .u64 x) ∧ w = w' :=
  (Table_any 97 w).mono fun e w' ⟨he, hw⟩ => ⟨he.trans (ret_i (by rw [hx]; rfl)), hw⟩
theorem table_0 (x : Nat) (hx : x = tabN 0) (w : World) : Calls Try.prog 8 #[.int .u8 0] w fun e w' => e = .returned (.int .u64 x) ∧ w = w' :=
  (Table_any 0 w).mono fun e w' ⟨he, hw⟩ => ⟨he.trans (ret_i (by rw [hx]; rfl)), hw⟩

set_option maxRecDepth 100000 in
set_option maxHeartbeats 1000000 in
theorem awake_any (w : World) : Calls Try.prog 7 #[] w fun e w' => e = .returned (.bool true) ∧ w = w' := by
  obtain ⟨x, hx⟩ : ∃ x, x = tabN 97 := ⟨_, rfl⟩
  obtain ⟨y, hy⟩ : ∃ y, y = tabN 0 := ⟨_, rfl⟩
  have hy0 : ((y : Int) != 0) = true := by
    have : y ≠ 0 := by rw [hy]; exact tabN_zero_ne
    simpa using this
  have C1 := Lib.hid hash_none
  have C2 := Lib.hid (fun w => hash_a x hx w)
  have C3 := Lib.hid (fun w => table_a x hx w)
  have C4 := Lib.hid (fun w => table_0 y hy w)
  clear hx hy
  go_enter Try.func7, Try.ntmps7
  go_wp2_with fail
  refine (C1.out _).mono ?_
  rintro e w1 ⟨rfl, rfl⟩
  go_wp2_with fail
  refine (C2.out _).mono ?_
  rintro e w1 ⟨rfl, rfl⟩
  go_wp2_with fail
  refine (C3.out _).mono ?_
  rintro e w1 ⟨rfl, rfl⟩
  go_wp2_with fail
  refine (C4.out _).mono ?_
  rintro e w1 ⟨rfl, rfl⟩
  go_wp2
  go_ret
  exact ⟨rfl, rfl⟩

set_option maxRecDepth 100000 in
set_option maxHeartbeats 1000000 in
theorem GearTells_walk (b : UInt8) (h : Nat) (s : ByteArray) (hs : s.size ≤ maxLen) (w : World) :
    Calls Try.prog 3 #[.int .u8 b.toNat, .int .u64 h, .string s] w fun e w' => e = .returned (.bool true) ∧ Below w.heap.size w w' := by
  have CW := Lib.hid awake_any
  by_cases hl : s.size ≤ 3000
  · have hb : decide ((3000 : Int) < (s.size : Int)) = false := by simpa using (show ¬ (3000 : Int) < (s.size : Int) by omega)
    obtain ⟨t, ht⟩ : ∃ t, t = tabN b.toNat := ⟨_, rfl⟩
    obtain ⟨r, hr⟩ : ∃ r, r = rollN h b.toNat := ⟨_, rfl⟩
    obtain ⟨n, hn⟩ : ∃ n, n = hashF 0 s.data.toList := ⟨_, rfl⟩
    have C1 := Lib.hid (Table_any b)
    have C2 := Lib.hid (refTable_any b)
    have C3 := Lib.hid (Roll_any h b)
    have C4 := Lib.hid (refRoll_any h b)
    have C5 := Lib.hid (Hash_any s hs)
    have C6 := Lib.hid (refHash_any s hs)
    rw [← ht] at C1 C2; rw [← hr] at C3 C4; rw [← hn] at C5 C6
    clear ht hr hn hl
    go_enter Try.func3, Try.ntmps3
    go_wp2_with fail
    refine (C1.out _).mono ?_
    rintro e w1 ⟨rfl, rfl⟩
    go_wp2_with fail
    refine (C2.out _).mono ?_
    rintro e w1 ⟨rfl, rfl⟩
    go_wp2_with fail
    refine (C3.out _).mono ?_
    rintro e w1 ⟨rfl, rfl⟩
    go_wp2_with fail
    refine (C4.out _).mono ?_
    rintro e w1 ⟨rfl, rfl⟩
    go_wp2_with fail
    refine (C5.out _).mono ?_
    rintro e w1 ⟨rfl, rfl⟩
    go_wp2_with fail
    refine (C6.out _).mono ?_
    rintro e w1 ⟨rfl, rfl⟩
    go_wp2_with fail
    refine (CW.out _).mono ?_
    rintro e w1 ⟨rfl, rfl⟩
    go_wp2
    go_ret
    exact ⟨rfl, Below.refl _ _⟩
  · have hb : decide ((3000 : Int) < (s.size : Int)) = true := by simpa using (show (3000 : Int) < (s.size : Int) by omega)
    go_enter Try.func3, Try.ntmps3
    go_wp2_with fail
    refine (CW.out _).mono ?_
    rintro e w1 ⟨rfl, rfl⟩
    go_wp2
    go_ret
    exact ⟨rfl, Below.refl _ _⟩

theorem wrapU_eq (x y : Int) (h : x % ((M64 : Nat) : Int) = y % ((M64 : Nat) : Int)) : IntKind.u64.wrap x = IntKind.u64.wrap y := h
/-- What GearBack looks at, as the walk spells it. -/
theorem back_first (h a : Nat) : IntKind.u64.wrap (((rollN h a : Nat) : Int) - (tabN a : Nat)) = IntKind.u64.wrap ((h : Int) + (h : Int)) := by
  exact wrapU_eq _ _ (back_x a)
set_option maxRecDepth 100000 in
set_option maxHeartbeats 1000000 in
theorem GearBack_walk (h : Nat) (a b : UInt8) (w : World) :
    Calls Try.prog 6 #[.int .u64 h, .int .u8 a.toNat, .int .u8 b.toNat] w fun e w' => e = .returned (.bool true) ∧ Below w.heap.size w w' := by
  have CW := Lib.hid awake_any
  have C1 := Lib.hid (Roll_any h a)
  have C2 := Lib.hid (Table_any a)
  have C3 := Lib.hid (Roll_any (rollN h a.toNat) b)
  have C4 := Lib.hid (Table_any b)
  obtain ⟨t, ht⟩ : ∃ t, t = tabN a.toNat := ⟨_, rfl⟩
  obtain ⟨u, hu⟩ : ∃ t, t = tabN b.toNat := ⟨_, rfl⟩
  obtain ⟨r, hr⟩ : ∃ r, r = rollN h a.toNat := ⟨_, rfl⟩
  obtain ⟨q, hq⟩ : ∃ r, r = rollN (rollN h a.toNat) b.toNat := ⟨_, rfl⟩
  have e1 := back_first h a.toNat
  have e2 : IntKind.u64.wrap (IntKind.u64.wrap (IntKind.u64.wrap (4 * (h : Int)) + IntKind.u64.wrap (2 * (t : Int))) + (u : Int)) = (q : Int) := by
    rw [hq, back_y, ← ht, ← hu]
    have h1 := wrapU_mul 4 h
    have h2 := wrapU_mul 2 t
    rw [show ((4 : Nat) : Int) = 4 from rfl] at h1
    rw [show ((2 : Nat) : Int) = 2 from rfl] at h2
    rw [h1, h2, wrapU_add, wrapU_add]
  rw [← hq] at C3
  rw [← hr] at C1 C3
  rw [← ht] at C2; rw [← hu] at C4
  rw [← ht, ← hr] at e1
  clear ht hu hr hq
  have E1 := Lib.hid e1; have E2 := Lib.hid e2
  clear e1 e2
  go_enter Try.func6, Try.ntmps6
  go_wp2_with fail
  refine (C1.out _).mono ?_
  rintro e w1 ⟨rfl, rfl⟩
  go_wp2_with fail
  refine (C2.out _).mono ?_
  rintro e w1 ⟨rfl, rfl⟩
  go_wp2_with fail
  refine (C1.out _).mono ?_
  rintro e w1 ⟨rfl, rfl⟩
  go_wp2_with fail
  refine (C3.out _).mono ?_
  rintro e w1 ⟨rfl, rfl⟩
  have B1 : (IntKind.u64.wrap ((r : Int) - (t : Int)) == IntKind.u64.wrap ((h : Int) + (h : Int))) = true := by rw [E1.out]; exact beq_self_eq_true _
  have B2 : ((q : Int) == IntKind.u64.wrap (IntKind.u64.wrap (IntKind.u64.wrap (4 * (h : Int)) + IntKind.u64.wrap (2 * (t : Int))) + (u : Int))) = true := by rw [E2.out]; exact beq_self_eq_true _
  go_wp2_with fail
  refine (C2.out _).mono ?_
  rintro e w1 ⟨rfl, rfl⟩
  go_wp2_with fail
  refine (C4.out _).mono ?_
  rintro e w1 ⟨rfl, rfl⟩
  go_wp2_with fail
  refine (CW.out _).mono ?_
  rintro e w1 ⟨rfl, rfl⟩
  go_wp2
  go_ret
  exact ⟨rfl, Below.refl _ _⟩

set_option maxRecDepth 100000 in
set_option maxHeartbeats 1000000 in
theorem GearLast_walk (a b : ByteArray) (c : List UInt8) (hc : c.length = 64) (w : World) :
    Calls Try.prog 4 #[.string a, .string b, .agg (bytV c)] w fun e w' => e = .returned (.bool true) ∧ Below w.heap.size w w' := by
  have CW := Lib.hid awake_any
  obtain ⟨s, hs⟩ : ∃ s : ByteArray, s = ⟨c.toArray⟩ := ⟨_, rfl⟩
  obtain ⟨X, hX⟩ : ∃ X, X = bytV c := ⟨_, rfl⟩
  have hXs : X.size = 64 := by rw [hX, bytV_size, hc]
  have hsd : s.data.toList = c := by rw [hs]
  have hss : s.size = 64 := by rw [Lib.size_eq, hsd, hc]
  have hR := Row.made w X 28
  have hR' := hR
  rw [hX] at hR'
  have V := Lib.hid (conv_of hR' 64 64 hc)
  rw [← hX, ← hs] at V
  have HR := Lib.hid hR
  rw [← hX]
  have hB : Below w.heap.size w (w.alloc (.cells X 28)) := (Below.refl _ _).alloc (Nat.le_refl _) _
  by_cases ha : a.size ≤ 1000
  · have ba : decide ((1000 : Int) < (a.size : Int)) = false := by simpa using (show ¬ (1000 : Int) < (a.size : Int) by omega)
    by_cases hb : b.size ≤ 1000
    · have bb : decide ((1000 : Int) < (b.size : Int)) = false := by simpa using (show ¬ (1000 : Int) < (b.size : Int) by omega)
      have C1 := Hash_any (a ++ s) (by rw [size_of_app]; unfold maxLen; omega)
      have C2 := Hash_any (b ++ s) (by rw [size_of_app]; unfold maxLen; omega)
      have C3 := Hash_any s (by unfold maxLen; omega)
      rw [bytes_app, hsd, hash_last _ _ (by omega)] at C1 C2
      rw [hsd] at C3
      obtain ⟨n, hn⟩ : ∃ n, n = hashF 0 c := ⟨_, rfl⟩
      rw [← hn] at C1 C2 C3
      have D1 := Lib.hid C1; have D2 := Lib.hid C2; have D3 := Lib.hid C3
      have za : ¬ 9223372036854775807 < a.size + s.size := by omega
      have zb : ¬ 9223372036854775807 < b.size + s.size := by omega
      have HXs := Lib.hid hXs
      clear C1 C2 C3 hn hs hX hsd hss hR hR' hXs ha hb
      go_enter Try.func4, Try.ntmps4
      go_wp2_with fail
      rw [V.out]
      simp only [Result.andThen]
      rw [Oper.upon_value]
      go_wp2_with fail
      refine (D1.out _).mono ?_
      rintro e w1 ⟨rfl, rfl⟩
      go_wp2_with fail
      refine (D2.out _).mono ?_
      rintro e w1 ⟨rfl, rfl⟩
      go_wp2_with fail
      refine (D1.out _).mono ?_
      rintro e w1 ⟨rfl, rfl⟩
      go_wp2_with fail
      refine (D3.out _).mono ?_
      rintro e w1 ⟨rfl, rfl⟩
      go_wp2_with fail
      refine (CW.out _).mono ?_
      rintro e w1 ⟨rfl, rfl⟩
      go_wp2
      go_ret
      exact ⟨rfl, hB⟩
    · have bb : decide ((1000 : Int) < (b.size : Int)) = true := by simpa using (show (1000 : Int) < (b.size : Int) by omega)
      clear hs hX hXs hsd hss hR hR' ha hb V HR
      go_enter Try.func4, Try.ntmps4
      go_wp2_with fail
      refine (CW.out _).mono ?_
      rintro e w1 ⟨rfl, rfl⟩
      go_wp2
      go_ret
      exact ⟨rfl, hB⟩
  · have ba : decide ((1000 : Int) < (a.size : Int)) = true := by simpa using (show (1000 : Int) < (a.size : Int) by omega)
    clear hs hX hXs hsd hss hR hR' ha V HR
    go_enter Try.func4, Try.ntmps4
    go_wp2_with fail
    refine (CW.out _).mono ?_
    rintro e w1 ⟨rfl, rfl⟩
    go_wp2
    go_ret
    exact ⟨rfl, hB⟩

set_option maxRecDepth 100000 in
set_option maxHeartbeats 1000000 in
theorem GearParts_walk (x y : UInt8) (a b : ByteArray) (w : World) :
    Calls Try.prog 5 #[.int .u8 x.toNat, .int .u8 y.toNat, .string a, .string b] w fun e w' => e = .returned (.bool true) ∧ Below w.heap.size w w' := by
  have CW := Lib.hid awake_any
  by_cases ha : a.size ≤ 1000
  · have ba : decide ((1000 : Int) < (a.size : Int)) = false := by simpa using (show ¬ (1000 : Int) < (a.size : Int) by omega)
    by_cases hb : b.size ≤ 1000
    · have bb : decide ((1000 : Int) < (b.size : Int)) = false := by simpa using (show ¬ (1000 : Int) < (b.size : Int) by omega)
      have C1 := Hash_any a (by unfold maxLen; omega)
      have C2 := Hash_any (a ++ b) (by rw [size_of_app]; unfold maxLen; omega)
      have C3 := Hash_any b (by unfold maxLen; omega)
      rw [bytes_app, hash_parts] at C2
      have hbl : b.data.toList.length = b.size := (Lib.size_eq b).symm
      rw [hbl] at C2
      have C4 := Table_any x
      have C5 := Table_any y
      have hT : ((((tabN x.toNat : Nat) : Int) == ((tabN y.toNat : Nat) : Int)) == (((x.toNat : Nat) : Int) == ((y.toNat : Nat) : Int))) = true := by
        by_cases e : x.toNat = y.toNat
        · rw [e]; simp
        · have : tabN x.toNat ≠ tabN y.toNat := fun h => e (tabN_inj x.toNat_lt y.toNat_lt h)
          rw [beq_eq_false_iff_ne.2 (show ((tabN x.toNat : Nat) : Int) ≠ _ by omega), beq_eq_false_iff_ne.2 (show ((x.toNat : Nat) : Int) ≠ _ by omega)]; rfl
      have hh0 : hashF 0 a.data.toList < M64 := hashF_lt m64_pos _
      obtain ⟨t, ht⟩ : ∃ t, t = tabN x.toNat := ⟨_, rfl⟩
      obtain ⟨u, hu⟩ : ∃ t, t = tabN y.toNat := ⟨_, rfl⟩
      rw [← ht] at C4 hT; rw [← hu] at C5 hT
      obtain ⟨n, hn⟩ : ∃ n, n = hashF 0 a.data.toList := ⟨_, rfl⟩
      obtain ⟨m, hm⟩ : ∃ n, n = hashF 0 b.data.toList := ⟨_, rfl⟩
      rw [← hn] at C1 C2 hh0; rw [← hm] at C2 C3
      have hz := dbl_zero hh0
      have hd := dbl_succ n
      have hs := wrapU_add (dbl n b.size) m
      obtain ⟨q, hq⟩ : ∃ q, q = (dbl n b.size + m) % M64 := ⟨_, rfl⟩
      rw [← hq] at C2 hs
      have D1 := Lib.hid C1; have D2 := Lib.hid C2; have D3 := Lib.hid C3; have D4 := Lib.hid C4; have D5 := Lib.hid C5
      have HT := Lib.hid hT; have HZ := Lib.hid hz; have HD := Lib.hid hd; have HS := Lib.hid hs
      have zb : ¬ 9223372036854775807 < a.size + b.size := by omega
      have hb2 : b.size ≤ 1000 := hb
      clear C1 C2 C3 C4 C5 hT hz hd hs hbl ht hu hn hm hq ha hb hh0
      go_enter Try.func5, Try.ntmps5
      go_wp2_with fail
      refine (D1.out _).mono ?_
      rintro e w1 ⟨rfl, rfl⟩
      go_wp2_with fail
      go_loop [9, 23] (fun x i => ∃ k : Nat, k ≤ b.size ∧ i = .int .i64 k ∧ x = .int .u64 (dbl n k : Nat)) (fun _ i => b.size - (intOf i).toNat)
      case atStart => exact ⟨0, Nat.zero_le _, rfl, by rw [HZ.out]⟩
      case round =>
        obtain ⟨k, hk, rfl, rfl⟩ := hrel
        by_cases hlt : k < b.size
        · have hbk : decide ((k : Int) < (b.size : Int)) = true := by simpa using hlt
          go_wp2
          go_round
          case rel => exact ⟨k + 1, by omega, by go_num, val_i (by rw [HD.out]; exact wrapU_mul (dbl n k) 2)⟩
          case measure => simp [intOf]; omega
        · obtain rfl : k = b.size := by omega
          have hbk : decide ((b.size : Int) < (b.size : Int)) = false := by simp
          go_wp2_with fail
          refine (D4.out _).mono ?_
          rintro e w1 ⟨rfl, rfl⟩
          have B1 := HT.out
          have B2 : ((q : Int) == IntKind.u64.wrap ((dbl n b.size : Nat) + (m : Int))) = true := by rw [HS.out]; exact beq_self_eq_true _
          go_wp2_with fail
          refine (D5.out _).mono ?_
          rintro e w1 ⟨rfl, rfl⟩
          go_wp2_with fail
          refine (D2.out _).mono ?_
          rintro e w1 ⟨rfl, rfl⟩
          go_wp2_with fail
          refine (D3.out _).mono ?_
          rintro e w1 ⟨rfl, rfl⟩
          go_wp2_with fail
          refine (CW.out _).mono ?_
          rintro e w1 ⟨rfl, rfl⟩
          go_wp2
          go_ret
          exact ⟨rfl, Below.refl _ _⟩
    · have bb : decide ((1000 : Int) < (b.size : Int)) = true := by simpa using (show (1000 : Int) < (b.size : Int) by omega)
      clear ha hb
      go_enter Try.func5, Try.ntmps5
      go_wp2_with fail
      refine (CW.out _).mono ?_
      rintro e w1 ⟨rfl, rfl⟩
      go_wp2
      go_ret
      exact ⟨rfl, Below.refl _ _⟩
  · have ba : decide ((1000 : Int) < (a.size : Int)) = true := by simpa using (show (1000 : Int) < (a.size : Int) by omega)
    clear ha
    go_enter Try.func5, Try.ntmps5
    go_wp2_with fail
    refine (CW.out _).mono ?_
    rintro e w1 ⟨rfl, rfl⟩
    go_wp2
    go_ret
    exact ⟨rfl, Below.refl _ _⟩
end Go.Proofs.Ytbmoijkppoogfaa

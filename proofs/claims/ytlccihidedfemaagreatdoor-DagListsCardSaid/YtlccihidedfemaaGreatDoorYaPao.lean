/-
  Contracts over this translation: strings.IndexAny and strings.ContainsAny of any short text in "/\x00"; path.Name.
-/
import Derived.Test.YtlccihidedfemaaGreatDoorQa1
import Derived.Lib.OthersKept
import Derived.Shelf.Strings.IndexAnyAll
set_option linter.unusedVariables false
namespace Go.Proofs.YtlccihidedfemaaGreatDoor
open Go.RowKit Go.Shelf
attribute [local go_sem] Oper.semAt_some
def dirtyB (l : List UInt8) : Bool := decide ((0 : UInt8) ∈ l ∨ (47 : UInt8) ∈ l)
theorem index_ge (l c : List UInt8) : -1 ≤ Lib.indexAny l c := by
  induction l with
  | nil => simp [Lib.indexAny]
  | cons b l ih =>
    simp only [Lib.indexAny]
    split
    · omega
    · split <;> omega
theorem index_dirty (l : List UInt8) : decide (0 ≤ Lib.indexAny l [47, 0]) = dirtyB l := by
  unfold dirtyB
  refine decide_eq_decide.2 ?_
  induction l with
  | nil => simp [Lib.indexAny]
  | cons b l ih =>
    have hg := index_ge l [47, 0]
    simp only [Lib.indexAny]
    by_cases hb : b = 0 ∨ b = 47
    · have hc : ([47, 0] : List UInt8).contains b = true := by rcases hb with rfl | rfl <;> decide
      rw [if_pos hc]
      constructor
      · intro _; rcases hb with rfl | rfl <;> simp
      · intro _; omega
    · have hc : ([47, 0] : List UInt8).contains b = false := by
        simp only [List.contains_cons, List.contains_nil, Bool.or_false]
        simp only [not_or] at hb
        simp [hb.1, hb.2]
      rw [hc, if_neg (by decide)]
      have e : ((0 : UInt8) ∈ b :: l ∨ (47 : UInt8) ∈ b :: l) ↔ ((0 : UInt8) ∈ l ∨ (47 : UInt8) ∈ l) := by
        simp only [not_or] at hb
        simp [Ne.symm hb.1, Ne.symm hb.2]
      rw [e, ← ih]
      by_cases h1 : Lib.indexAny l [47, 0] = -1
      · rw [h1]; simp
      · have : (Lib.indexAny l [47, 0] == -1) = false := beq_eq_false_iff_ne.2 h1
        rw [this, if_neg (by decide)]; omega
theorem cont_high (b : Nat) (h : (b / 64 == 2) = true) : 128 ≤ b := by
  have : b / 64 = 2 := by simpa using h
  omega
theorem decode_span (s : ByteArray) (pos : Nat) (h : pos < s.size) (ha : 128 ≤ (s[pos]'h).toNat) :
    1 ≤ (Utf8.decode s pos).2 ∧ pos + (Utf8.decode s pos).2 ≤ s.size ∧ ∀ j (hj : j < s.size), pos ≤ j → j < pos + (Utf8.decode s pos).2 → 128 ≤ (s[j]'hj).toNat := by
  have cont : ∀ k, (decide (pos + k < s.size) && (s.get! (pos + k)).toNat / 64 == 2) = true → ∃ hk : pos + k < s.size, 128 ≤ (s[pos + k]'hk).toNat := fun k hk => by
    rw [Bool.and_eq_true] at hk
    have h1 : pos + k < s.size := of_decide_eq_true hk.1
    refine ⟨h1, ?_⟩
    have := cont_high _ hk.2
    rwa [show s.get! (pos + k) = s[pos + k]'h1 by simp [ByteArray.get!, getElem!_pos, h1]; rfl] at this
  have one : ∀ j (hj : j < s.size), pos ≤ j → j < pos + 1 → 128 ≤ (s[j]'hj).toNat := fun j hj h1 h2 => by
    obtain rfl : j = pos := by omega
    exact ha
  have hn : ¬ (s[pos]'h).toNat < 128 := by omega
  simp only [Utf8.decode, get_at s pos h, hn, if_false]
  split
  · rename_i hc
    split
    · rw [Bool.and_eq_true] at hc
      obtain ⟨k1, h1⟩ := cont 1 hc.2
      refine ⟨by omega, by show pos + 2 ≤ _; omega, fun j hj a b => ?_⟩
      change j < pos + 2 at b
      rcases (show j = pos ∨ j = pos + 1 by omega) with rfl | rfl
      · exact ha
      · exact h1
    · exact ⟨Nat.le_refl _, by show pos + 1 ≤ _; omega, one⟩
  · split
    · rename_i hc
      split
      · simp only [Bool.and_eq_true] at hc
        obtain ⟨k1, h1⟩ := cont 1 (by simp only [Bool.and_eq_true]; exact hc.1.2)
        obtain ⟨k2, h2⟩ := cont 2 (by simp only [Bool.and_eq_true]; exact hc.2)
        refine ⟨by show 1 ≤ 3; omega, by show pos + 3 ≤ _; omega, fun j hj a b => ?_⟩
        change j < pos + 3 at b
        rcases (show j = pos ∨ j = pos + 1 ∨ j = pos + 2 by omega) with rfl | rfl | rfl
        · exact ha
        · exact h1
        · exact h2
      · exact ⟨Nat.le_refl _, by show pos + 1 ≤ _; omega, one⟩
    · split
      · rename_i hc
        split
        · simp only [Bool.and_eq_true] at hc
          obtain ⟨k1, h1⟩ := cont 1 (by simp only [Bool.and_eq_true]; exact hc.1.1.2)
          obtain ⟨k2, h2⟩ := cont 2 (by simp only [Bool.and_eq_true]; exact hc.1.2)
          obtain ⟨k3, h3⟩ := cont 3 (by simp only [Bool.and_eq_true]; exact hc.2)
          refine ⟨by show 1 ≤ 4; omega, by show pos + 4 ≤ _; omega, fun j hj a b => ?_⟩
          change j < pos + 4 at b
          rcases (show j = pos ∨ j = pos + 1 ∨ j = pos + 2 ∨ j = pos + 3 by omega) with rfl | rfl | rfl | rfl
          · exact ha
          · exact h1
          · exact h2
          · exact h3
        · exact ⟨Nat.le_refl _, by show pos + 1 ≤ _; omega, one⟩
      · exact ⟨Nat.le_refl _, by show pos + 1 ≤ _; omega, one⟩
theorem clean_more {s : ByteArray} {k : Nat} (h : CleanTo s.data.toList k) : ∀ n, k + n ≤ s.size → (∀ j (hj : j < s.size), k ≤ j → j < k + n → 128 ≤ (s[j]'hj).toNat) → CleanTo s.data.toList (k + n)
  | 0, _, _ => h
  | n + 1, hn, hh => by
    have := clean_more h n (by omega) (fun j hj a b => hh j hj a (by omega))
    have hb := hh (k + n) (by omega) (by omega) (by omega)
    have hlt : k + n < s.size := by omega
    exact clean_step this hlt (fun (e : s[k + n] = 0) => by rw [e] at hb; exact absurd hb (by decide)) (fun (e : s[k + n] = 47) => by rw [e] at hb; exact absurd hb (by decide))
def RetIx (l : List UInt8) (w : World) (e : Ending) (w' : World) : Prop := ∃ r : Int, e = .returned (.int .i64 r) ∧ decide (0 ≤ r) = dirtyB l ∧ Below w.heap.size w w'
theorem dirty_at {s : ByteArray} {k : Nat} (hk : k < s.size) (h : s[k] = 0 ∨ s[k] = 47) : dirtyB s.data.toList = true := decide_eq_true (by
  rcases h with h | h
  · exact .inl (h ▸ mem_at hk)
  · exact .inr (h ▸ mem_at hk))
theorem dirty_not {s : ByteArray} (h : CleanTo s.data.toList s.size) : dirtyB s.data.toList = false := decide_eq_false (fun hh => by
  rcases hh with e | e
  · exact (clean_all h).1 e
  · exact (clean_all h).2 e)
theorem useSet (n : Nat) (w : World) : Calls Tryz.prog 166 #[.int .i64 n] w fun e w' => e = .returned (.bool (decide ((8 : Int) < (n : Int)))) ∧ w = w' := by
  go_enter Tryz.func166, Tryz.ntmps166
  go_wp2
  go_ret
  exact ⟨rfl, rfl⟩
theorem runeAscii (x : UInt8) (h : x.toNat < 128) (w : World) : Calls Tryz.prog 165 #[.string badS, .int .i32 x.toNat] w fun e w' => e = .returned (.int .i64 (Lib.indexByte [47, 0] x)) ∧ w = w' := by
  have C := Any.strings_IndexRune_ascii Tryz.lays152 badS (x.toNat : Int) w (by omega) (by omega)
  change Calls Tryz.prog 165 _ _ _ at C
  refine C.mono ?_
  rintro e w' ⟨rfl, rfl⟩
  exact ⟨by simp, rfl⟩
theorem index_no {u : UInt8} (h0 : ¬ u = 0) (h47 : ¬ u = 47) : Lib.indexByte [47, 0] u = -1 := by
  have a : ((47 : UInt8) == u) = false := beq_eq_false_iff_ne.2 (fun e => h47 e.symm)
  have b : ((0 : UInt8) == u) = false := beq_eq_false_iff_ne.2 (fun e => h0 e.symm)
  simp [Lib.indexByte, a, b]
theorem badS_list : badS.data.toList = [47, 0] := rfl
set_option maxRecDepth 100000 in
set_option maxHeartbeats 4000000 in
theorem IndexAny_short (s : ByteArray) (h8 : s.size ≤ 8) (w : World) : Calls Tryz.prog 151 #[.string s, .string badS] w (RetIx s.data.toList w) := by
  have h8z : decide ((8 : Int) < (s.size : Int)) = false := decide_eq_false (by omega)
  have US := Lib.hid (useSet s.size)
  rw [h8z] at US
  have RA := Lib.hid runeAscii
  have RH := Lib.hid IndexRune_high
  clear h8z
  go_enter Tryz.func151, Tryz.ntmps151
  go_wp2_with fail
  refine (US.out _).mono ?_
  rintro e w1 ⟨rfl, rfl⟩
  go_wp2_with fail
  go_loopg [9, 10] s.size (fun g _ _ wx => ∃ i : Nat, i ≤ s.size ∧ i + g = s.size ∧ wx.heap[w.heap.size]? = some (.stringIter s i) ∧ CleanTo s.data.toList i ∧ Below w.heap.size w wx)
  case atStart => exact ⟨0, Nat.zero_le _, by omega, World.iter_heap _ _ _, clean_zero _, (Below.refl _ _).alloc (Nat.le_refl _) _⟩
  case round =>
    obtain ⟨i, hi0, hig, hk, hc, hb⟩ := hrel
    have HC := Lib.hid hc; have HK := Lib.hid hk
    clear hc
    by_cases hi : i < s.size
    · by_cases hx : (s[i]'hi).toNat < 128
      · have hnx := fun ty => Lib.run_next_ascii_at (P := Tryz.prog) wr w.heap.size s i ty hk hi hx
        have HK2 := Lib.hid (Lib.iterAt_heap wr w.heap.size s i (i + 1) hk)
        have hb2 := Lib.below_iterAt hb (Nat.le_refl _) s (i + 1)
        have R := Lib.hid (RA.out (s[i]'hi) hx)
        clear hk
        by_cases hbad : s[i] = 0 ∨ s[i] = 47
        · have HD := Lib.hid (dirty_at hi hbad)
          have hr : ∃ r : Int, Lib.indexByte [47, 0] (s[i]'hi) = r ∧ 0 ≤ r := by
            rcases hbad with e | e <;> rw [e]
            · exact ⟨1, by decide, by decide⟩
            · exact ⟨0, by decide, by decide⟩
          obtain ⟨r, hr1, hr2⟩ := hr
          rw [hr1] at R
          have hr3 : decide ((0 : Int) ≤ r) = true := decide_eq_true hr2
          obtain ⟨x, hxx⟩ : ∃ x, x = (s[i]'hi) := ⟨_, rfl⟩
          rw [← hxx] at hnx R hx
          clear hxx hbad hr1
          go_wp2_with ((with_reducible refine (R.out _).mono ?_); rintro e w2 ⟨rfl, rfl⟩)
          go_ret
          exact ⟨_, rfl, by rw [HD.out]; exact decide_eq_true (by omega), hb2⟩
        · have hr : Lib.indexByte [47, 0] (s[i]'hi) = -1 := by
            simp only [not_or] at hbad
            exact index_no hbad.1 hbad.2
          rw [hr] at R
          have HS := Lib.hid (clean_step HC.out hi (fun e => hbad (.inl e)) (fun e => hbad (.inr e)))
          obtain ⟨x, hxx⟩ : ∃ x, x = (s[i]'hi) := ⟨_, rfl⟩
          rw [← hxx] at hnx R hx
          clear hxx hbad hr
          go_wp2_with ((with_reducible refine (R.out _).mono ?_); rintro e w2 ⟨rfl, rfl⟩)
          go_roundg (s.size - (i + 1))
          case measure => omega
          case rel => exact ⟨i + 1, by omega, by omega, HK2.out, HS.out, hb2⟩
      · have hnx := fun ty => Lib.run_next_any_at (P := Tryz.prog) wr w.heap.size s i ty hk hi
        obtain ⟨hd1, hd2⟩ := decode_high s i hi (by omega)
        have hd3 := decode_le s i
        obtain ⟨_, hd4, hd5⟩ := decode_span s i hi (by omega)
        have HS := Lib.hid (clean_more HC.out _ hd4 hd5)
        obtain ⟨r, hr⟩ : ∃ r, r = (Utf8.decode s i).1 := ⟨_, rfl⟩
        obtain ⟨n, hn⟩ : ∃ n, n = (Utf8.decode s i).2 := ⟨_, rfl⟩
        rw [← hr] at hnx hd1 hd3
        rw [← hn] at hnx hd2 hd4 HS
        have HK2 := Lib.hid (Lib.iterAt_heap wr w.heap.size s i (i + n) hk)
        have hb2 := Lib.below_iterAt hb (Nat.le_refl _) s (i + n)
        have R := Lib.hid (RH.out (r : Int) (by omega) (by omega))
        clear hk hr hn hd5 hx
        go_wp2_with ((with_reducible refine (R.out _).mono ?_); rintro e w2 ⟨rfl, hb3⟩)
        have hb4 := hb2.trans (hb3.mono hb2.size)
        have HK3 := Lib.hid ((hb3.block w.heap.size (Array.getElem?_eq_some_iff.1 HK2.out).1).trans HK2.out)
        clear hb3
        go_roundg (s.size - (i + n))
        case measure => omega
        case rel => exact ⟨i + n, by omega, by omega, HK3.out, HS.out, hb4⟩
    · obtain rfl : i = s.size := by omega
      have hnx := fun ty => Lib.run_next_end_at (P := Tryz.prog) wr w.heap.size s s.size ty hk (Nat.lt_irrefl _)
      have HD := Lib.hid (dirty_not HC.out)
      clear hk
      go_wp2
      go_ret
      exact ⟨-1, rfl, by rw [HD.out]; decide, hb⟩
theorem zeroSet : (Tryz.prog.info? 186).map (fun i => (i.zero, i.size)) = some (some (.agg (Array.replicate 256 (.bool false))), 256) := by kernel_rfl
set_option maxRecDepth 100000 in
theorem IndexAny_any (s : ByteArray) (hs : s.size ≤ 1000) (w : World) : Calls Tryz.prog 151 #[.string s, .string badS] w (RetIx s.data.toList w) := by
  by_cases h8 : s.size ≤ 8
  · exact IndexAny_short s h8 w
  · have C := Any.strings_IndexAny_long Tryz.lays153 (zero_of_info zeroSet).1 (zero_of_info zeroSet).2 s badS w (by decide) (by omega) (by omega) (by decide) (fun j b hb => by
      rw [badS_list] at hb
      match j, hb with
      | 0, hb => cases hb; decide
      | 1, hb => cases hb; decide)
    change Calls Tryz.prog 151 _ _ _ at C
    refine C.mono ?_
    rintro e w' ⟨rfl, rfl⟩
    exact ⟨_, rfl, index_dirty _, ((Below.refl _ _).alloc (Nat.le_refl _) _).alloc (by simp) _⟩
set_option maxRecDepth 100000 in
theorem ContainsAny_any (s : ByteArray) (hs : s.size ≤ 1000) (w : World) : Calls Tryz.prog 135 #[.string s, .string badS] w fun e w' => e = .returned (.bool (dirtyB s.data.toList)) ∧ Below w.heap.size w w' := by
  have C := Lib.hid (IndexAny_any s hs)
  go_enter Tryz.func135, Tryz.ntmps135
  go_wp2_with fail
  refine (C.out _).mono ?_
  rintro e w1 ⟨r, rfl, hr, hb⟩
  have HR := Lib.hid hr
  clear hr
  go_wp2
  go_ret
  exact ⟨ret_val (congrArg Value.bool HR.out), hb⟩
theorem name_dirty {l : List UInt8} (h : dirtyB l = true) : nameB l = false := nameB_no fun hh => by
  rcases of_decide_eq_true h with e | e
  · exact hh.2.2.2.2.1 e
  · exact hh.2.2.2.2.2 e
theorem name_clean {l : List UInt8} (h : dirtyB l = false) (h1 : 1 ≤ l.length) (h2 : l.length ≤ 31) (h3 : l ≠ [46]) (h4 : l ≠ [46, 46]) : nameB l = true := by
  have := of_decide_eq_false h
  exact nameB_mk ⟨h1, h2, h3, h4, fun e => this (.inl e), fun e => this (.inr e)⟩
set_option maxRecDepth 100000 in
set_option maxHeartbeats 1000000 in
theorem Name_any (s : ByteArray) (w : World) : Calls Tryz.prog 117 #[.string s] w fun e w' => e = .returned (.bool (nameB s.data.toList)) ∧ Below w.heap.size w w' := by
  by_cases hd : s.data.toList = [46]
  · have e2 : (s.toList == [46]) = true := by rw [one_dot]; exact decide_eq_true hd
    have HN : Hid (nameB s.data.toList = false) := nameB_no (fun hh => hh.2.2.1 hd)
    clear hd
    go_enter Tryz.func117, Tryz.ntmps117
    go_wp2
    go_ret
    exact ⟨ret_val (congrArg Value.bool HN.out.symm), Below.refl _ _⟩
  · have e2 : (s.toList == [46]) = false := by rw [one_dot]; exact decide_eq_false hd
    by_cases hd2 : s.data.toList = [46, 46]
    · have e3 : (s.toList == [46, 46]) = true := by rw [two_dots]; exact decide_eq_true hd2
      have HN : Hid (nameB s.data.toList = false) := nameB_no (fun hh => hh.2.2.2.1 hd2)
      clear hd hd2
      go_enter Tryz.func117, Tryz.ntmps117
      go_wp2
      go_ret
      exact ⟨ret_val (congrArg Value.bool HN.out.symm), Below.refl _ _⟩
    · have e3 : (s.toList == [46, 46]) = false := by rw [two_dots]; exact decide_eq_false hd2
      have HD := Lib.hid hd; have HD2 := Lib.hid hd2
      clear hd hd2
      by_cases h0 : 0 < s.size
      · have z0 : decide ((0 : Int) < (s.size : Int)) = true := decide_eq_true (by omega)
        by_cases h31 : s.size ≤ 31
        · have z1 : decide ((s.size : Int) ≤ 31) = true := decide_eq_true (by omega)
          have C := Lib.hid (ContainsAny_any s (by omega))
          rcases hb : dirtyB s.data.toList with _ | _
          · have HN : Hid (nameB s.data.toList = true) := name_clean hb (by rw [← Lib.size_eq]; omega) (by rw [← Lib.size_eq]; omega) HD.out HD2.out
            rw [hb] at C; clear hb
            go_enter Tryz.func117, Tryz.ntmps117
            go_wp2_with fail
            refine (C.out _).mono ?_
            rintro e w1 ⟨rfl, hb1⟩
            go_wp2
            go_ret
            exact ⟨ret_val (congrArg Value.bool HN.out.symm), hb1⟩
          · have HN : Hid (nameB s.data.toList = false) := name_dirty hb
            rw [hb] at C; clear hb
            go_enter Tryz.func117, Tryz.ntmps117
            go_wp2_with fail
            refine (C.out _).mono ?_
            rintro e w1 ⟨rfl, hb1⟩
            go_wp2
            go_ret
            exact ⟨ret_val (congrArg Value.bool HN.out.symm), hb1⟩
        · have z1 : decide ((s.size : Int) ≤ 31) = false := decide_eq_false (by omega)
          have HN : Hid (nameB s.data.toList = false) := nameB_no (fun hh => by rw [← Lib.size_eq] at hh; omega)
          clear h31
          go_enter Tryz.func117, Tryz.ntmps117
          go_wp2
          go_ret
          exact ⟨ret_val (congrArg Value.bool HN.out.symm), Below.refl _ _⟩
      · have z0 : decide ((0 : Int) < (s.size : Int)) = false := decide_eq_false (by omega)
        have HN : Hid (nameB s.data.toList = false) := nameB_no (fun hh => by rw [← Lib.size_eq] at hh; omega)
        have h0' : ¬ 0 < s.size := h0
        go_enter Tryz.func117, Tryz.ntmps117
        go_wp2
        go_ret
        exact ⟨ret_val (congrArg Value.bool HN.out.symm), Below.refl _ _⟩
end Go.Proofs.YtlccihidedfemaaGreatDoor

/-
  Texts put together: contracts and laws that this seat's proofs share.
-/
import Derived.Test.YtalknbadakfppaaGreatQa0
import Derived.Test.YtalknbadakfppaaGreatQa1
import Derived.Laws.RangeAny
import Derived.Deep.LoopGhost
import Derived.WalkMore
import Derived.Lib.OthersKept
import Derived.Shelf.Strings.IndexAnyAll
import Derived.BigQuiet
import Derived.Shelf.Strings.BuilderK
import Derived.RegionTactic
import Derived.ChangeAlike
import Derived.WalkKit
import Derived.Test.YtalknbadakfppaaGreatProg
import Derived.Shelf.Strings.Builder2
import Derived.Deep.QuietTactic
import Derived.WalkSmall
import Derived.Lib.Hide
set_option linter.unusedVariables false
namespace Go.Proofs.YtalknbadakfppaaGreat
open Go.RowKit Go.Shelf
attribute [local go_sem] Oper.semAt_some
abbrev badS : ByteArray := ⟨#[47, 0]⟩
set_option maxRecDepth 100000 in
theorem IndexByte_any (s : ByteArray) (c : UInt8) (w : World) : Calls Tryz.prog 128 #[.string s, .int .u8 c.toNat] w fun e w' => e = .returned (.int .i64 (Lib.indexByte s.data.toList c)) ∧ w = w' := by
  have C := Any.strings_IndexByte Tryz.lays137 s (c.toNat : Int) w
  change Calls Tryz.prog 128 _ _ _ at C
  refine C.mono ?_
  rintro e w' ⟨rfl, rfl⟩
  exact ⟨by simp, rfl⟩
def runeB (c : Int) : Bool := (decide (0 ≤ c) && decide (c < 55296)) || (decide (57343 < c) && decide (c ≤ 1114111))
theorem ValidRune_any (c : Int) (h0 : 128 ≤ c) (w : World) : Calls Tryz.prog 129 #[.int .i32 c] w fun e w' => e = .returned (.bool (runeB c)) ∧ w = w' := by
  have a0 : decide ((0 : Int) ≤ c) = true := decide_eq_true (by omega)
  by_cases h1 : c < 55296
  · have a1 : decide (c < 55296) = true := decide_eq_true h1
    have HN : Hid (runeB c = true) := by show _ = _; simp [runeB, a0, a1]
    go_enter Tryz.func129, Tryz.ntmps129
    go_wp2
    go_ret
    exact ⟨ret_val (congrArg Value.bool HN.out.symm), rfl⟩
  · have a1 : decide (c < 55296) = false := decide_eq_false h1
    by_cases h2 : 57343 < c
    · have a2 : decide (57343 < c) = true := decide_eq_true h2
      by_cases h3 : c ≤ 1114111
      · have a3 : decide (c ≤ 1114111) = true := decide_eq_true h3
        have HN : Hid (runeB c = true) := by show _ = _; simp [runeB, a2, a3]
        go_enter Tryz.func129, Tryz.ntmps129
        go_wp2
        go_ret
        exact ⟨ret_val (congrArg Value.bool HN.out.symm), rfl⟩
      · have a3 : decide (c ≤ 1114111) = false := decide_eq_false h3
        have HN : Hid (runeB c = false) := by show _ = _; simp [runeB, a1, a3]
        go_enter Tryz.func129, Tryz.ntmps129
        go_wp2
        go_ret
        exact ⟨ret_val (congrArg Value.bool HN.out.symm), rfl⟩
    · have a2 : decide (57343 < c) = false := decide_eq_false h2
      have HN : Hid (runeB c = false) := by show _ = _; simp [runeB, a1, a2]
      go_enter Tryz.func129, Tryz.ntmps129
      go_wp2
      go_ret
      exact ⟨ret_val (congrArg Value.bool HN.out.symm), rfl⟩
theorem encode_high {c : Int} (h : 128 ≤ c) : 2 ≤ (Utf8.encode c).size ∧ (Utf8.encode c).size ≤ 4 ∧ ∀ k (hk : k < (Utf8.encode c).size), k + 1 = (Utf8.encode c).size → ((Utf8.encode c)[k].toNat : Int) ≠ 0 := by
  obtain ⟨n, hn⟩ : ∃ n, n = if Utf8.valid c then c.toNat else Utf8.runeError := ⟨_, rfl⟩
  have hn1 : 128 ≤ n := by rw [hn]; split; omega; decide
  have key : ∀ m : Nat, ((UInt8.ofNat (128 + m % 64)).toNat : Int) ≠ 0 := fun m => by
    rw [UInt8.toNat_ofNat']; omega
  have two : ∀ a b : UInt8, (⟨#[a, b]⟩ : ByteArray).size = 2 := fun _ _ => rfl
  have three : ∀ a b c : UInt8, (⟨#[a, b, c]⟩ : ByteArray).size = 3 := fun _ _ _ => rfl
  have four : ∀ a b c d : UInt8, (⟨#[a, b, c, d]⟩ : ByteArray).size = 4 := fun _ _ _ _ => rfl
  unfold Utf8.encode
  rw [← hn]
  simp only
  split
  · omega
  · split
    · refine ⟨by rw [two]; omega, by rw [two]; omega, fun k hk e => ?_⟩
      rw [two] at e; obtain rfl : k = 1 := by omega
      exact key n
    · split
      · refine ⟨by rw [three]; omega, by rw [three]; omega, fun k hk e => ?_⟩
        rw [three] at e; obtain rfl : k = 2 := by omega
        exact key n
      · refine ⟨by rw [four]; omega, by rw [four]; omega, fun k hk e => ?_⟩
        rw [four] at e; obtain rfl : k = 3 := by omega
        exact key n
set_option maxRecDepth 100000 in
set_option maxHeartbeats 4000000 in
theorem IndexRune_high (c : Int) (h : 128 ≤ c) (hc : c ≤ 2147483647) (w : World) : Calls Tryz.prog 121 #[.string badS, .int .i32 c] w fun e w' => e = .returned (.int .i64 (-1)) ∧ Below w.heap.size w w' := by
  have a0 : decide (c < 128) = false := decide_eq_false (by omega)
  have a00 : decide ((0 : Int) ≤ c) = true := decide_eq_true (by omega)
  by_cases he : c = 65533
  · subst he
    go_enter Tryz.func121, Tryz.ntmps121
    go_wp2
    go_loopg [5, 6] 2 (fun g _ _ wx => ∃ i : Nat, i + g = 2 ∧ wx = w.iter badS i)
    case atStart => exact ⟨0, by omega, rfl⟩
    case round =>
      obtain ⟨i, hig, rfl⟩ := hrel
      cases gk with
      | zero =>
        obtain rfl : i = 2 := by omega
        have hnx := run_next_end (P := Tryz.prog) w badS 2
        go_wp2
        go_ret
        exact ⟨rfl, (Below.refl _ _).alloc (Nat.le_refl _) _⟩
      | succ g =>
        have hi : i < badS.size := by show i < 2; omega
        have hx : (badS[i]'hi).toNat < 128 := by
          rcases (show i = 0 ∨ i = 1 by omega) with rfl | rfl
          · exact (by decide : 47 < 128)
          · exact (by decide : 0 < 128)
        have hnx := fun ty => run_next_ascii (P := Tryz.prog) w badS i ty hi hx
        obtain ⟨x, hxx⟩ : ∃ x, x = (badS[i]'hi).toNat := ⟨_, rfl⟩
        rw [← hxx] at hnx hx
        have hne : ((x : Int) == 65533) = false := beq_eq_false_iff_ne.2 (by omega)
        clear hxx
        go_wp2
        go_roundg g
        case measure => omega
        case rel => exact ⟨i + 1, by omega, rfl⟩
  · have a1 : (c == 65533) = false := beq_eq_false_iff_ne.2 he
    have V := Lib.hid (ValidRune_any c h)
    rcases hv : runeB c with _ | _
    · rw [hv] at V
      go_enter Tryz.func121, Tryz.ntmps121
      go_wp2_with fail
      refine (V.out _).mono ?_
      rintro e w1 ⟨rfl, rfl⟩
      go_wp2
      go_ret
      exact ⟨rfl, Below.refl _ _⟩
    · rw [hv] at V
      obtain ⟨hz1, hz2, hlast⟩ := encode_high h
      clear hv
      by_cases hz : (Utf8.encode c).size = 2
      · have hl := hlast 1 (by omega) (by omega)
        have hu0 : (((badS[1]'(by decide)).toNat : Int) != (((Utf8.encode c)[1]'(by omega)).toNat : Int)) = true := bne_iff_ne.2 (fun e => hl e.symm)
        have hw2 : IntKind.i64.wrap 2 = 2 := by rw [IntKind.wrap_i64]; decide
        have hs2 := fun W => run_slice_from (P := Tryz.prog) Tryz.underlying9 badS 2 (by decide) W
        have CI := Lib.hid (fun (x : ByteArray) (hx : x.data.toList = []) (u : UInt8) W => show Calls Tryz.prog 128 #[.string x, .int .u8 u.toNat] W fun e w' => e = .returned (.int .i64 (-1)) ∧ w' = W from (IndexByte_any x u W).mono fun e w' h => ⟨by rw [h.1, hx]; rfl, h.2.symm⟩)
        clear hlast hl
        go_enter Tryz.func121, Tryz.ntmps121
        go_wp2_with fail
        refine (V.out _).mono ?_
        rintro e w1 ⟨rfl, rfl⟩
        go_wp2_with fail
        apply wp_scope_straight
        go_wp2_with fail
        go_loopw [9, 10] (fun i f wx => i = .int .i64 1 ∧ f = .int .i64 0 ∧ wx = w) (fun _ _ _ => 0)
        case atStart => exact ⟨rfl, rfl, rfl⟩
        case round =>
          obtain ⟨rfl, rfl, rfl⟩ := hrel
          go_wp2_with fail
          apply wp_scope_straight
          go_wp2_with fail
          go_quiet (fail)
          go_wp2_with fail
          have hBw := below_drewN (Below.refl wr.heap.size wr) nq
          generalize wr.drewN nq = wq at hBw ⊢
          go_quiet ((go_at_call 128; exact Calls.quiet_of_same (CI.out ByteArray.empty (by rfl) _ _)))
          go_wp2_with fail
          rw [Exit.noGoto_ret]
          go_wp2_with fail
          rw [Exit.noGoto_ret]
          go_wp2
          go_ret
          exact ⟨rfl, below_drewN hBw _⟩
      · have hz3 : 3 ≤ (Utf8.encode c).size := by omega
        obtain ⟨rs, hrs⟩ : ∃ rs, rs = Utf8.encode c := ⟨_, rfl⟩
        have HZ3 := Lib.hid hz3
        clear hlast hz
        go_enter Tryz.func121, Tryz.ntmps121
        go_wp2_with fail
        refine (V.out _).mono ?_
        rintro e w1 ⟨rfl, rfl⟩
        go_wp2_with fail
        apply wp_scope_straight
        go_wp2_with fail
        rw [← hrs] at hz3 hz1 hz2 ⊢
        clear hrs
        have hlt : decide ((rs.size : Int) - 1 < 2) = false := decide_eq_false (by omega)
        go_loopw [9, 10] (fun i f wx => i = .int .i64 ((rs.size : Int) - 1) ∧ f = .int .i64 0 ∧ wx = w) (fun _ _ _ => 0)
        case atStart => exact ⟨rfl, rfl, rfl⟩
        case round =>
          obtain ⟨rfl, rfl, rfl⟩ := hrel
          go_wp2_with fail
          rw [Exit.noGoto_ret]
          go_wp2
          go_ret
          exact ⟨rfl, Below.refl _ _⟩
def dirtyB (l : List UInt8) : Bool := decide ((0 : UInt8) ∈ l ∨ (47 : UInt8) ∈ l)
theorem index_ge (l c : List UInt8) : -1 ≤ Lib.indexAny l c := by
  induction l with
  | nil => simp [Lib.indexAny]
  | cons b l ih =>
    simp only [Lib.indexAny]
    split
    · omega
    · split <;> omega
theorem index_dirty (l : List UInt8) : decide (0 ≤ Lib.indexAny l [47, 0]) = dirtyB l := by
  unfold dirtyB
  refine decide_eq_decide.2 ?_
  induction l with
  | nil => simp [Lib.indexAny]
  | cons b l ih =>
    have hg := index_ge l [47, 0]
    simp only [Lib.indexAny]
    by_cases hb : b = 0 ∨ b = 47
    · have hc : ([47, 0] : List UInt8).contains b = true := by rcases hb with rfl | rfl <;> decide
      rw [if_pos hc]
      constructor
      · intro _; rcases hb with rfl | rfl <;> simp
      · intro _; omega
    · have hc : ([47, 0] : List UInt8).contains b = false := by
        simp only [List.contains_cons, List.contains_nil, Bool.or_false]
        simp only [not_or] at hb
        simp [hb.1, hb.2]
      rw [hc, if_neg (by decide)]
      have e : ((0 : UInt8) ∈ b :: l ∨ (47 : UInt8) ∈ b :: l) ↔ ((0 : UInt8) ∈ l ∨ (47 : UInt8) ∈ l) := by
        simp only [not_or] at hb
        simp [Ne.symm hb.1, Ne.symm hb.2]
      rw [e, ← ih]
      by_cases h1 : Lib.indexAny l [47, 0] = -1
      · rw [h1]; simp
      · have : (Lib.indexAny l [47, 0] == -1) = false := beq_eq_false_iff_ne.2 h1
        rw [this, if_neg (by decide)]; omega
theorem cont_high (b : Nat) (h : (b / 64 == 2) = true) : 128 ≤ b := by
  have : b / 64 = 2 := by simpa using h
  omega
theorem decode_span (s : ByteArray) (pos : Nat) (h : pos < s.size) (ha : 128 ≤ (s[pos]'h).toNat) :
    1 ≤ (Utf8.decode s pos).2 ∧ pos + (Utf8.decode s pos).2 ≤ s.size ∧ ∀ j (hj : j < s.size), pos ≤ j → j < pos + (Utf8.decode s pos).2 → 128 ≤ (s[j]'hj).toNat := by
  have cont : ∀ k, (decide (pos + k < s.size) && (s.get! (pos + k)).toNat / 64 == 2) = true → ∃ hk : pos + k < s.size, 128 ≤ (s[pos + k]'hk).toNat := fun k hk => by
    rw [Bool.and_eq_true] at hk
    have h1 : pos + k < s.size := of_decide_eq_true hk.1
    refine ⟨h1, ?_⟩
    have := cont_high _ hk.2
    rwa [show s.get! (pos + k) = s[pos + k]'h1 by simp [ByteArray.get!, getElem!_pos, h1]; rfl] at this
  have one : ∀ j (hj : j < s.size), pos ≤ j → j < pos + 1 → 128 ≤ (s[j]'hj).toNat := fun j hj h1 h2 => by
    obtain rfl : j = pos := by omega
    exact ha
  have hn : ¬ (s[pos]'h).toNat < 128 := by omega
  simp only [Utf8.decode, get_at s pos h, hn, if_false]
  split
  · rename_i hc
    split
    · rw [Bool.and_eq_true] at hc
      obtain ⟨k1, h1⟩ := cont 1 hc.2
      refine ⟨by omega, by show pos + 2 ≤ _; omega, fun j hj a b => ?_⟩
      change j < pos + 2 at b
      rcases (show j = pos ∨ j = pos + 1 by omega) with rfl | rfl
      · exact ha
      · exact h1
    · exact ⟨Nat.le_refl _, by show pos + 1 ≤ _; omega, one⟩
  · split
    · rename_i hc
      split
      · simp only [Bool.and_eq_true] at hc
        obtain ⟨k1, h1⟩ := cont 1 (by simp only [Bool.and_eq_true]; exact hc.1.2)
        obtain ⟨k2, h2⟩ := cont 2 (by simp only [Bool.and_eq_true]; exact hc.2)
        refine ⟨by show 1 ≤ 3; omega, by show pos + 3 ≤ _; omega, fun j hj a b => ?_⟩
        change j < pos + 3 at b
        rcases (show j = pos ∨ j = pos + 1 ∨ j = pos + 2 by omega) with rfl | rfl | rfl
        · exact ha
        · exact h1
        · exact h2
      · exact ⟨Nat.le_refl _, by show pos + 1 ≤ _; omega, one⟩
    · split
      · rename_i hc
        split
        · simp only [Bool.and_eq_true] at hc
          obtain ⟨k1, h1⟩ := cont 1 (by simp only [Bool.and_eq_true]; exact hc.1.1.2)
          obtain ⟨k2, h2⟩ := cont 2 (by simp only [Bool.and_eq_true]; exact hc.1.2)
          obtain ⟨k3, h3⟩ := cont 3 (by simp only [Bool.and_eq_true]; exact hc.2)
          refine ⟨by show 1 ≤ 4; omega, by show pos + 4 ≤ _; omega, fun j hj a b => ?_⟩
          change j < pos + 4 at b
          rcases (show j = pos ∨ j = pos + 1 ∨ j = pos + 2 ∨ j = pos + 3 by omega) with rfl | rfl | rfl | rfl
          · exact ha
          · exact h1
          · exact h2
          · exact h3
        · exact ⟨Nat.le_refl _, by show pos + 1 ≤ _; omega, one⟩
      · exact ⟨Nat.le_refl _, by show pos + 1 ≤ _; omega, one⟩
theorem clean_more {s : ByteArray} {k : Nat} (h : CleanTo s.data.toList k) : ∀ n, k + n ≤ s.size → (∀ j (hj : j < s.size), k ≤ j → j < k + n → 128 ≤ (s[j]'hj).toNat) → CleanTo s.data.toList (k + n)
  | 0, _, _ => h
  | n + 1, hn, hh => by
    have := clean_more h n (by omega) (fun j hj a b => hh j hj a (by omega))
    have hb := hh (k + n) (by omega) (by omega) (by omega)
    have hlt : k + n < s.size := by omega
    exact clean_step this hlt (fun (e : s[k + n] = 0) => by rw [e] at hb; exact absurd hb (by decide)) (fun (e : s[k + n] = 47) => by rw [e] at hb; exact absurd hb (by decide))
def RetIx (l : List UInt8) (w : World) (e : Ending) (w' : World) : Prop := ∃ r : Int, e = .returned (.int .i64 r) ∧ decide (0 ≤ r) = dirtyB l ∧ Below w.heap.size w w'
theorem dirty_at {s : ByteArray} {k : Nat} (hk : k < s.size) (h : s[k] = 0 ∨ s[k] = 47) : dirtyB s.data.toList = true := decide_eq_true (by
  rcases h with h | h
  · exact .inl (h ▸ mem_at hk)
  · exact .inr (h ▸ mem_at hk))
theorem dirty_not {s : ByteArray} (h : CleanTo s.data.toList s.size) : dirtyB s.data.toList = false := decide_eq_false (fun hh => by
  rcases hh with e | e
  · exact (clean_all h).1 e
  · exact (clean_all h).2 e)
theorem useSet (n : Nat) (w : World) : Calls Tryz.prog 122 #[.int .i64 n] w fun e w' => e = .returned (.bool (decide ((8 : Int) < (n : Int)))) ∧ w = w' := by
  go_enter Tryz.func122, Tryz.ntmps122
  go_wp2
  go_ret
  exact ⟨rfl, rfl⟩
theorem runeAscii (x : UInt8) (h : x.toNat < 128) (w : World) : Calls Tryz.prog 121 #[.string badS, .int .i32 x.toNat] w fun e w' => e = .returned (.int .i64 (Lib.indexByte [47, 0] x)) ∧ w = w' := by
  have C := Any.strings_IndexRune_ascii Tryz.lays152 badS (x.toNat : Int) w (by omega) (by omega)
  change Calls Tryz.prog 121 _ _ _ at C
  refine C.mono ?_
  rintro e w' ⟨rfl, rfl⟩
  exact ⟨by simp, rfl⟩
theorem index_no {u : UInt8} (h0 : ¬ u = 0) (h47 : ¬ u = 47) : Lib.indexByte [47, 0] u = -1 := by
  have a : ((47 : UInt8) == u) = false := beq_eq_false_iff_ne.2 (fun e => h47 e.symm)
  have b : ((0 : UInt8) == u) = false := beq_eq_false_iff_ne.2 (fun e => h0 e.symm)
  simp [Lib.indexByte, a, b]
theorem badS_list : badS.data.toList = [47, 0] := rfl
set_option maxRecDepth 100000 in
set_option maxHeartbeats 4000000 in
theorem IndexAny_short (s : ByteArray) (h8 : s.size ≤ 8) (w : World) : Calls Tryz.prog 115 #[.string s, .string badS] w (RetIx s.data.toList w) := by
  have h8z : decide ((8 : Int) < (s.size : Int)) = false := decide_eq_false (by omega)
  have US := Lib.hid (useSet s.size)
  rw [h8z] at US
  have RA := Lib.hid runeAscii
  have RH := Lib.hid IndexRune_high
  clear h8z
  go_enter Tryz.func115, Tryz.ntmps115
  go_wp2_with fail
  refine (US.out _).mono ?_
  rintro e w1 ⟨rfl, rfl⟩
  go_wp2_with fail
  go_loopg [9, 10] s.size (fun g _ _ wx => ∃ i : Nat, i ≤ s.size ∧ i + g = s.size ∧ wx.heap[w.heap.size]? = some (.stringIter s i) ∧ CleanTo s.data.toList i ∧ Below w.heap.size w wx)
  case atStart => exact ⟨0, Nat.zero_le _, by omega, World.iter_heap _ _ _, clean_zero _, (Below.refl _ _).alloc (Nat.le_refl _) _⟩
  case round =>
    obtain ⟨i, hi0, hig, hk, hc, hb⟩ := hrel
    have HC := Lib.hid hc; have HK := Lib.hid hk
    clear hc
    by_cases hi : i < s.size
    · by_cases hx : (s[i]'hi).toNat < 128
      · have hnx := fun ty => Lib.run_next_ascii_at (P := Tryz.prog) wr w.heap.size s i ty hk hi hx
        have HK2 := Lib.hid (Lib.iterAt_heap wr w.heap.size s i (i + 1) hk)
        have hb2 := Lib.below_iterAt hb (Nat.le_refl _) s (i + 1)
        have R := Lib.hid (RA.out (s[i]'hi) hx)
        clear hk
        by_cases hbad : s[i] = 0 ∨ s[i] = 47
        · have HD := Lib.hid (dirty_at hi hbad)
          have hr : ∃ r : Int, Lib.indexByte [47, 0] (s[i]'hi) = r ∧ 0 ≤ r := by
            rcases hbad with e | e <;> rw [e]
            · exact ⟨1, by decide, by decide⟩
            · exact ⟨0, by decide, by decide⟩
          obtain ⟨r, hr1, hr2⟩ := hr
          rw [hr1] at R
          have hr3 : decide ((0 : Int) ≤ r) = true := decide_eq_true hr2
          obtain ⟨x, hxx⟩ : ∃ x, x = (s[i]'hi) := ⟨_, rfl⟩
          rw [← hxx] at hnx R hx
          clear hxx hbad hr1
          go_wp2_with ((with_reducible refine (R.out _).mono ?_); rintro e w2 ⟨rfl, rfl⟩)
          go_ret
          exact ⟨_, rfl, by rw [HD.out]; exact decide_eq_true (by omega), hb2⟩
        · have hr : Lib.indexByte [47, 0] (s[i]'hi) = -1 := by
            simp only [not_or] at hbad
            exact index_no hbad.1 hbad.2
          rw [hr] at R
          have HS := Lib.hid (clean_step HC.out hi (fun e => hbad (.inl e)) (fun e => hbad (.inr e)))
          obtain ⟨x, hxx⟩ : ∃ x, x = (s[i]'hi) := ⟨_, rfl⟩
          rw [← hxx] at hnx R hx
          clear hxx hbad hr
          go_wp2_with ((with_reducible refine (R.out _).mono ?_); rintro e w2 ⟨rfl, rfl⟩)
          go_roundg (s.size - (i + 1))
          case measure => omega
          case rel => exact ⟨i + 1, by omega, by omega, HK2.out, HS.out, hb2⟩
      · have hnx := fun ty => Lib.run_next_any_at (P := Tryz.prog) wr w.heap.size s i ty hk hi
        obtain ⟨hd1, hd2⟩ := decode_high s i hi (by omega)
        have hd3 := decode_le s i
        obtain ⟨_, hd4, hd5⟩ := decode_span s i hi (by omega)
        have HS := Lib.hid (clean_more HC.out _ hd4 hd5)
        obtain ⟨r, hr⟩ : ∃ r, r = (Utf8.decode s i).1 := ⟨_, rfl⟩
        obtain ⟨n, hn⟩ : ∃ n, n = (Utf8.decode s i).2 := ⟨_, rfl⟩
        rw [← hr] at hnx hd1 hd3
        rw [← hn] at hnx hd2 hd4 HS
        have HK2 := Lib.hid (Lib.iterAt_heap wr w.heap.size s i (i + n) hk)
        have hb2 := Lib.below_iterAt hb (Nat.le_refl _) s (i + n)
        have R := Lib.hid (RH.out (r : Int) (by omega) (by omega))
        clear hk hr hn hd5 hx
        go_wp2_with ((with_reducible refine (R.out _).mono ?_); rintro e w2 ⟨rfl, hb3⟩)
        have hb4 := hb2.trans (hb3.mono hb2.size)
        have HK3 := Lib.hid ((hb3.block w.heap.size (Array.getElem?_eq_some_iff.1 HK2.out).1).trans HK2.out)
        clear hb3
        go_roundg (s.size - (i + n))
        case measure => omega
        case rel => exact ⟨i + n, by omega, by omega, HK3.out, HS.out, hb4⟩
    · obtain rfl : i = s.size := by omega
      have hnx := fun ty => Lib.run_next_end_at (P := Tryz.prog) wr w.heap.size s s.size ty hk (Nat.lt_irrefl _)
      have HD := Lib.hid (dirty_not HC.out)
      clear hk
      go_wp2
      go_ret
      exact ⟨-1, rfl, by rw [HD.out]; decide, hb⟩
theorem zeroSet : (Tryz.prog.info? 169).map (fun i => (i.zero, i.size)) = some (some (.agg (Array.replicate 256 (.bool false))), 256) := by kernel_rfl
set_option maxRecDepth 100000 in
theorem IndexAny_any (s : ByteArray) (hs : s.size ≤ 1000) (w : World) : Calls Tryz.prog 115 #[.string s, .string badS] w (RetIx s.data.toList w) := by
  by_cases h8 : s.size ≤ 8
  · exact IndexAny_short s h8 w
  · have C := Any.strings_IndexAny_long Tryz.lays153 (zero_of_info zeroSet).1 (zero_of_info zeroSet).2 s badS w (by decide) (by omega) (by omega) (by decide) (fun j b hb => by
      rw [badS_list] at hb
      match j, hb with
      | 0, hb => cases hb; decide
      | 1, hb => cases hb; decide)
    change Calls Tryz.prog 115 _ _ _ at C
    refine C.mono ?_
    rintro e w' ⟨rfl, rfl⟩
    exact ⟨_, rfl, index_dirty _, ((Below.refl _ _).alloc (Nat.le_refl _) _).alloc (by simp) _⟩
set_option maxRecDepth 100000 in
theorem ContainsAny_any (s : ByteArray) (hs : s.size ≤ 1000) (w : World) : Calls Tryz.prog 105 #[.string s, .string badS] w fun e w' => e = .returned (.bool (dirtyB s.data.toList)) ∧ Below w.heap.size w w' := by
  have C := Lib.hid (IndexAny_any s hs)
  go_enter Tryz.func105, Tryz.ntmps105
  go_wp2_with fail
  refine (C.out _).mono ?_
  rintro e w1 ⟨r, rfl, hr, hb⟩
  have HR := Lib.hid hr
  clear hr
  go_wp2
  go_ret
  exact ⟨ret_val (congrArg Value.bool HR.out), hb⟩
theorem name_dirty {l : List UInt8} (h : dirtyB l = true) : nameB l = false := nameB_no fun hh => by
  rcases of_decide_eq_true h with e | e
  · exact hh.2.2.2.2.1 e
  · exact hh.2.2.2.2.2 e
theorem name_clean {l : List UInt8} (h : dirtyB l = false) (h1 : 1 ≤ l.length) (h2 : l.length ≤ 31) (h3 : l ≠ [46]) (h4 : l ≠ [46, 46]) : nameB l = true := by
  have := of_decide_eq_false h
  exact nameB_mk ⟨h1, h2, h3, h4, fun e => this (.inl e), fun e => this (.inr e)⟩
set_option maxRecDepth 100000 in
set_option maxHeartbeats 1000000 in
theorem Name_any (s : ByteArray) (w : World) : Calls Tryz.prog 89 #[.string s] w fun e w' => e = .returned (.bool (nameB s.data.toList)) ∧ Below w.heap.size w w' := by
  by_cases hd : s.data.toList = [46]
  · have e2 : (s.toList == [46]) = true := by rw [one_dot]; exact decide_eq_true hd
    have HN : Hid (nameB s.data.toList = false) := nameB_no (fun hh => hh.2.2.1 hd)
    clear hd
    go_enter Tryz.func89, Tryz.ntmps89
    go_wp2
    go_ret
    exact ⟨ret_val (congrArg Value.bool HN.out.symm), Below.refl _ _⟩
  · have e2 : (s.toList == [46]) = false := by rw [one_dot]; exact decide_eq_false hd
    by_cases hd2 : s.data.toList = [46, 46]
    · have e3 : (s.toList == [46, 46]) = true := by rw [two_dots]; exact decide_eq_true hd2
      have HN : Hid (nameB s.data.toList = false) := nameB_no (fun hh => hh.2.2.2.1 hd2)
      clear hd hd2
      go_enter Tryz.func89, Tryz.ntmps89
      go_wp2
      go_ret
      exact ⟨ret_val (congrArg Value.bool HN.out.symm), Below.refl _ _⟩
    · have e3 : (s.toList == [46, 46]) = false := by rw [two_dots]; exact decide_eq_false hd2
      have HD := Lib.hid hd; have HD2 := Lib.hid hd2
      clear hd hd2
      by_cases h0 : 0 < s.size
      · have z0 : decide ((0 : Int) < (s.size : Int)) = true := decide_eq_true (by omega)
        by_cases h31 : s.size ≤ 31
        · have z1 : decide ((s.size : Int) ≤ 31) = true := decide_eq_true (by omega)
          have C := Lib.hid (ContainsAny_any s (by omega))
          rcases hb : dirtyB s.data.toList with _ | _
          · have HN : Hid (nameB s.data.toList = true) := name_clean hb (by rw [← Lib.size_eq]; omega) (by rw [← Lib.size_eq]; omega) HD.out HD2.out
            rw [hb] at C; clear hb
            go_enter Tryz.func89, Tryz.ntmps89
            go_wp2_with fail
            refine (C.out _).mono ?_
            rintro e w1 ⟨rfl, hb1⟩
            go_wp2
            go_ret
            exact ⟨ret_val (congrArg Value.bool HN.out.symm), hb1⟩
          · have HN : Hid (nameB s.data.toList = false) := name_dirty hb
            rw [hb] at C; clear hb
            go_enter Tryz.func89, Tryz.ntmps89
            go_wp2_with fail
            refine (C.out _).mono ?_
            rintro e w1 ⟨rfl, hb1⟩
            go_wp2
            go_ret
            exact ⟨ret_val (congrArg Value.bool HN.out.symm), hb1⟩
        · have z1 : decide ((s.size : Int) ≤ 31) = false := decide_eq_false (by omega)
          have HN : Hid (nameB s.data.toList = false) := nameB_no (fun hh => by rw [← Lib.size_eq] at hh; omega)
          clear h31
          go_enter Tryz.func89, Tryz.ntmps89
          go_wp2
          go_ret
          exact ⟨ret_val (congrArg Value.bool HN.out.symm), Below.refl _ _⟩
      · have z0 : decide ((0 : Int) < (s.size : Int)) = false := decide_eq_false (by omega)
        have HN : Hid (nameB s.data.toList = false) := nameB_no (fun hh => by rw [← Lib.size_eq] at hh; omega)
        have h0' : ¬ 0 < s.size := h0
        go_enter Tryz.func89, Tryz.ntmps89
        go_wp2
        go_ret
        exact ⟨ret_val (congrArg Value.bool HN.out.symm), Below.refl _ _⟩
end Go.Proofs.YtalknbadakfppaaGreat
set_option linter.unusedVariables false
namespace Go.Proofs.YtalknbadakfppaaGreat
open Go.RowKit
attribute [local go_sem] Oper.semAt_some
theorem empty_str {x : ByteArray} : (x.toList == (⟨#[]⟩ : ByteArray).toList) = decide (x.size = 0) := by
  by_cases h : x.size = 0
  · have : x = ⟨#[]⟩ := by
      apply ByteArray.ext
      exact Array.eq_empty_of_size_eq_zero h
    rw [beq_str this, decide_eq_true h]
  · rw [bne_str (fun e => h (by rw [e]; rfl)), decide_eq_false h]
end Go.Proofs.YtalknbadakfppaaGreat
set_option linter.unusedVariables false
namespace Go.Proofs.YtalknbadakfppaaGreat
open Go.RowKit Go.Shelf
attribute [local go_sem] Oper.semAt_some
theorem cloneL_any (s : ByteArray) (hs : s.size ≤ 281474976710656) (w : World) : Calls Tryz.prog 106 #[.string s] w fun e w' => e = .returned (.string s) ∧ Below w.heap.size w w' := by
  have C := AnyPu.stringslite_Clone Tryz.lays_pu25 s w hs
  change Calls Tryz.prog 106 _ _ _ at C
  refine C.mono ?_
  rintro e w' ⟨h1, h2⟩
  exact ⟨h1, h2⟩
theorem Clone_any_Pap (s : ByteArray) (hs : s.size ≤ 281474976710656) (w : World) : Calls Tryz.prog 91 #[.string s] w fun e w' => e = .returned (.string s) ∧ Below w.heap.size w w' := by
  go_enter Tryz.func91, Tryz.ntmps91
  go_wp2_with fail
  refine (cloneL_any s hs _).mono ?_
  rintro e w1 ⟨rfl, hb⟩
  go_wp2
  go_ret
  exact ⟨rfl, hb⟩
end Go.Proofs.YtalknbadakfppaaGreat
set_option linter.unusedVariables false
namespace Go.Proofs.YtalknbadakfppaaGreat
open Go.RowKit Go.Shelf
set_option maxHeartbeats 2000000 in
set_option maxRecDepth 100000 in
theorem WriteString_k_Bus (B b : Nat) (bs : List Value) (s : ByteArray) (w : World) (h : Lib.IsBuilderF 76 5 B b bs w) (hlen : bs.length + s.size ≤ 140737488355328) (hBw : B ≤ w.heap.size) :
    Calls Tryz.prog 40 #[.pointer (some ⟨b, 0, none⟩), .string s] w fun e w' => e = .returned (.tuple #[.int .i64 s.size, .nilIface]) ∧ (Lib.BuilderAtF 76 5 B b (.pointer (some ⟨b, 0, none⟩)) (bs ++ Lib.strCells s) w' ∧ Below B w w' ∧ Lib.OthersKept 5 (some b) w w') := by
  obtain ⟨i0, hi, hz0, hz1, hz2⟩ := info_parts infoByte
  go_enter Tryz.func40, Tryz.ntmps40
  go_wp2_with (go_at_call 60; refine (copyCheck_k B b bs _ h).mono ?_)
  rintro e w1 ⟨rfl, h1, hb1, hk1⟩
  obtain ⟨hB, v, hbk, hown, hne⟩ := h1
  have c0 : w1.cell? ⟨b, 0, none⟩ = some (.pointer (some ⟨b, 0, none⟩)) := by rw [Lib.cell_of_heap hbk]; rfl
  have c1 : w1.cell? ⟨b, 1, none⟩ = some v := by rw [Lib.cell_of_heap hbk]; rfl
  go_wp2_with (at_builtin; refine Lib.wpList_append_own_stringF _ rfl _ _ 74 9 rfl B 5 i0 Tryz.underlying74 Tryz.underlying9 hi hz0 hz1 hz2 _ _ _ rfl hown s rfl ?c3 ?c4 ?c5 ?_)
  case c3 => unfold maxLen; omega
  case c4 => omega
  case c5 => have := hb1.size; omega
  intro v' w2 hown' hgrow _
  have hlt : b < w1.heap.size := (Array.getElem?_eq_some_iff.1 hbk).1
  have hb2 : w2.heap[b]? = some (.cells #[.pointer (some ⟨b, 0, none⟩), v] 76 (0, 0)) := by
    rw [hgrow.block b hlt (fun e => hne e.symm)]
    exact hbk
  have d0 : w2.cell? ⟨b, 0, none⟩ = some (.pointer (some ⟨b, 0, none⟩)) := by rw [Lib.cell_of_heap hb2]; rfl
  have d1 : w2.cell? ⟨b, 1, none⟩ = some v := by rw [Lib.cell_of_heap hb2]; rfl
  have f1 : w2.frozen? ⟨b, 1, none⟩ = false := Lib.frozen_of_heap hb2 1
  obtain ⟨ao, n', cap, rfl⟩ : ∃ ao n' cap, v' = .slice ao n' cap := by
    rcases hown'.2 with ⟨hv, _⟩ | ⟨g, cap, cur, fz, hv, _⟩
    · exact ⟨_, _, _, hv⟩
    · exact ⟨_, _, _, hv⟩
  go_wp2
  go_ret2
  refine ⟨rfl, ?_, ?_, (hk1.grown hgrow (Lib.ownsRowF_kind hown)).setCell ⟨b, 1, none⟩ rfl _⟩
  · exact Lib.BuilderAtF.put (T := 76) (e := 5) hB hb2 (bs' := bs ++ Lib.strCells s) (by simpa [Lib.strCells_length] using hown') (by decide)
  · exact (hb1.grown hgrow (by have := hb1.size; omega) (fun k hk => (hown.lt k hk).1)).setCell (p := ⟨b, 1, none⟩) hB _
theorem builder_step {T e : TypeId} {B b : Nat} {bs : List Value} {w w' : World} (h : Lib.IsBuilderF T e B b bs w) (hb : Below w.heap.size w w') : Lib.IsBuilderF T e B b bs w' := by
  have hg : w.grownBy w' none := ⟨hb.os, hb.tape, hb.output, hb.size, fun k hk _ => hb.block k hk⟩
  have key : ∀ p, Lib.BuilderAtF T e B b p bs w → Lib.BuilderAtF T e B b p bs w' := by
    rintro p ⟨hB, v, hbk, hown, hne⟩
    refine ⟨hB, v, ?_, hown.kept hg ?_, hne⟩
    · rw [hb.block b (Array.getElem?_eq_some_iff.1 hbk).1]; exact hbk
    · cases hv : v.ownBlock with
      | none => exact .inl rfl
      | some g => exact .inr (by simp)
  exact h.imp (key _) (key _)
set_option maxHeartbeats 1000000 in
set_option maxRecDepth 100000 in
theorem Len_k (B b : Nat) (bs : List Value) (w : World) (h : Lib.IsBuilderF 76 5 B b bs w) :
    Calls Tryz.prog 39 #[.pointer (some ⟨b, 0, none⟩)] w fun e w' => e = .returned (.int .i64 bs.length) ∧ w = w' := by
  obtain ⟨p, hB, v, hbk, hown, hne⟩ : ∃ p, Lib.BuilderAtF 76 5 B b p bs w := by
    rcases h with h | h
    · exact ⟨_, h⟩
    · exact ⟨_, h⟩
  obtain ⟨ao, cap, rfl⟩ : ∃ ao cap, v = .slice ao bs.length cap := by
    rcases hown.2 with ⟨hv, h0⟩ | ⟨g, cap, cur, fz, hv, _⟩
    · exact ⟨none, 0, by rw [hv, h0]⟩
    · exact ⟨_, _, hv⟩
  have c1 : w.cell? ⟨b, 1, none⟩ = some (.slice ao bs.length cap) := by rw [Lib.cell_of_heap hbk]; rfl
  go_enter Tryz.func39, Tryz.ntmps39
  go_wp2
  go_ret
  exact ⟨rfl, rfl⟩
end Go.Proofs.YtalknbadakfppaaGreat

/-
  Contracts over this translation: strings.IndexRune of a rune that is no ASCII byte in "/\x00".
-/
import Derived.Test.YtohicccbaenegaaGreatDoorQ0
import Derived.Test.YtohicccbaenegaaGreatDoorShl
import Derived.Laws.RangeAny
import Derived.Deep.LoopGhost
import Derived.WalkMore
set_option linter.unusedVariables false
namespace Go.Proofs.YtohicccbaenegaaGreatDoor
open Go.RowKit Go.Shelf
attribute [local go_sem] Oper.semAt_some

abbrev badS : ByteArray := ⟨#[47, 0]⟩

set_option maxRecDepth 100000 in
theorem IndexByte_any (s : ByteArray) (c : UInt8) (w : World) : Calls Tryz.prog 138 #[.string s, .int .u8 c.toNat] w fun e w' => e = .returned (.int .i64 (Lib.indexByte s.data.toList c)) ∧ w = w' := by
  have C := Any.strings_IndexByte Tryz.lays137 s (c.toNat : Int) w
  change Calls Tryz.prog 138 _ _ _ at C
  refine C.mono ?_
  rintro e w' ⟨rfl, rfl⟩
  exact ⟨by simp, rfl⟩

/-- A rune is valid. -/
def runeB (c : Int) : Bool := (decide (0 ≤ c) && decide (c < 55296)) || (decide (57343 < c) && decide (c ≤ 1114111))
theorem ValidRune_any (c : Int) (h0 : 128 ≤ c) (w : World) : Calls Tryz.prog 139 #[.int .i32 c] w fun e w' => e = .returned (.bool (runeB c)) ∧ w = w' := by
  have a0 : decide ((0 : Int) ≤ c) = true := decide_eq_true (by omega)
  by_cases h1 : c < 55296
  · have a1 : decide (c < 55296) = true := decide_eq_true h1
    have HN : Hid (runeB c = true) := by show _ = _; simp [runeB, a0, a1]
    go_enter Tryz.func139, Tryz.ntmps139
    go_wp2
    go_ret
    exact ⟨ret_val (congrArg Value.bool HN.out.symm), rfl⟩
  · have a1 : decide (c < 55296) = false := decide_eq_false h1
    by_cases h2 : 57343 < c
    · have a2 : decide (57343 < c) = true := decide_eq_true h2
      by_cases h3 : c ≤ 1114111
      · have a3 : decide (c ≤ 1114111) = true := decide_eq_true h3
        have HN : Hid (runeB c = true) := by show _ = _; simp [runeB, a2, a3]
        go_enter Tryz.func139, Tryz.ntmps139
        go_wp2
        go_ret
        exact ⟨ret_val (congrArg Value.bool HN.out.symm), rfl⟩
      · have a3 : decide (c ≤ 1114111) = false := decide_eq_false h3
        have HN : Hid (runeB c = false) := by show _ = _; simp [runeB, a1, a3]
        go_enter Tryz.func139, Tryz.ntmps139
        go_wp2
        go_ret
        exact ⟨ret_val (congrArg Value.bool HN.out.symm), rfl⟩
    · have a2 : decide (57343 < c) = false := decide_eq_false h2
      have HN : Hid (runeB c = false) := by show _ = _; simp [runeB, a1, a2]
      go_enter Tryz.func139, Tryz.ntmps139
      go_wp2
      go_ret
      exact ⟨ret_val (congrArg Value.bool HN.out.symm), rfl⟩

/-- A rune's bytes. -/
theorem encode_high {c : Int} (h : 128 ≤ c) : 2 ≤ (Utf8.encode c).size ∧ (Utf8.encode c).size ≤ 4 ∧ ∀ k (hk : k < (Utf8.encode c).size), k + 1 = (Utf8.encode c).size → ((Utf8.encode c)[k].toNat : Int) ≠ 0 := by
  obtain ⟨n, hn⟩ : ∃ n, n = if Utf8.valid c then c.toNat else Utf8.runeError := ⟨_, rfl⟩
  have hn1 : 128 ≤ n := by rw [hn]; split; omega; decide
  have key : ∀ m : Nat, ((UInt8.ofNat (128 + m % 64)).toNat : Int) ≠ 0 := fun m => by
    rw [UInt8.toNat_ofNat']; omega
  have two : ∀ a b : UInt8, (⟨#[a, b]⟩ : ByteArray).size = 2 := fun _ _ => rfl
  have three : ∀ a b c : UInt8, (⟨#[a, b, c]⟩ : ByteArray).size = 3 := fun _ _ _ => rfl
  have four : ∀ a b c d : UInt8, (⟨#[a, b, c, d]⟩ : ByteArray).size = 4 := fun _ _ _ _ => rfl
  unfold Utf8.encode
  rw [← hn]
  simp only
  split
  · omega
  · split
    · refine ⟨by rw [two]; omega, by rw [two]; omega, fun k hk e => ?_⟩
      rw [two] at e; obtain rfl : k = 1 := by omega
      exact key n
    · split
      · refine ⟨by rw [three]; omega, by rw [three]; omega, fun k hk e => ?_⟩
        rw [three] at e; obtain rfl : k = 2 := by omega
        exact key n
      · refine ⟨by rw [four]; omega, by rw [four]; omega, fun k hk e => ?_⟩
        rw [four] at e; obtain rfl : k = 3 := by omega
        exact key n

set_option maxRecDepth 100000 in
set_option maxHeartbeats 4000000 in
theorem IndexRune_high (c : Int) (h : 128 ≤ c) (hc : c ≤ 2147483647) (w : World) : Calls Tryz.prog 126 #[.string badS, .int .i32 c] w fun e w' => e = .returned (.int .i64 (-1)) ∧ Below w.heap.size w w' := by
  have a0 : decide (c < 128) = false := decide_eq_false (by omega)
  have a00 : decide ((0 : Int) ≤ c) = true := decide_eq_true (by omega)
  by_cases he : c = 65533
  · subst he
    go_enter Tryz.func126, Tryz.ntmps126
    go_wp2
    go_loopg [5, 6] 2 (fun g _ _ wx => ∃ i : Nat, i + g = 2 ∧ wx = w.iter badS i)
    case atStart => exact ⟨0, by omega, rfl⟩
    case round =>
      obtain ⟨i, hig, rfl⟩ := hrel
      cases gk with
      | zero =>
        obtain rfl : i = 2 := by omega
        have hnx := run_next_end (P := Tryz.prog) w badS 2
        go_wp2
        go_ret
        exact ⟨rfl, (Below.refl _ _).alloc (Nat.le_refl _) _⟩
      | succ g =>
        have hi : i < badS.size := by show i < 2; omega
        have hx : (badS[i]'hi).toNat < 128 := by
          rcases (show i = 0 ∨ i = 1 by omega) with rfl | rfl
          · exact (by decide : 47 < 128)
          · exact (by decide : 0 < 128)
        have hnx := fun ty => run_next_ascii (P := Tryz.prog) w badS i ty hi hx
        obtain ⟨x, hxx⟩ : ∃ x, x = (badS[i]'hi).toNat := ⟨_, rfl⟩
        rw [← hxx] at hnx hx
        have hne : ((x : Int) == 65533) = false := beq_eq_false_iff_ne.2 (by omega)
        clear hxx
        go_wp2
        go_roundg g
        case measure => omega
        case rel => exact ⟨i + 1, by omega, rfl⟩
  · have a1 : (c == 65533) = false := beq_eq_false_iff_ne.2 he
    have V := Lib.hid (ValidRune_any c h)
    rcases hv : runeB c with _ | _
    · rw [hv] at V
      go_enter Tryz.func126, Tryz.ntmps126
      go_wp2_with fail
      refine (V.out _).mono ?_
      rintro e w1 ⟨rfl, rfl⟩
      go_wp2
      go_ret
      exact ⟨rfl, Below.refl _ _⟩
    · rw [hv] at V
      obtain ⟨hz1, hz2, hlast⟩ := encode_high h
      clear hv
      by_cases hz : (Utf8.encode c).size = 2
      · have hl := hlast 1 (by omega) (by omega)
        have hu0 : (((badS[1]'(by decide)).toNat : Int) != (((Utf8.encode c)[1]'(by omega)).toNat : Int)) = true := bne_iff_ne.2 (fun e => hl e.symm)
        have hw2 : IntKind.i64.wrap 2 = 2 := by rw [IntKind.wrap_i64]; decide
        have hs2 := fun W => run_slice_from (P := Tryz.prog) Tryz.underlying9 badS 2 (by decide) W
        have CI := Lib.hid (fun (x : ByteArray) (hx : x.data.toList = []) (u : UInt8) W => show Calls Tryz.prog 138 #[.string x, .int .u8 u.toNat] W fun e w' => e = .returned (.int .i64 (-1)) ∧ w' = W from (IndexByte_any x u W).mono fun e w' h => ⟨by rw [h.1, hx]; rfl, h.2.symm⟩)
        clear hlast hl
        go_enter Tryz.func126, Tryz.ntmps126
        go_wp2_with fail
        refine (V.out _).mono ?_
        rintro e w1 ⟨rfl, rfl⟩
        go_wp2_with fail
        apply wp_scope_straight
        go_wp2_with fail
        go_loopw [9, 10] (fun i f wx => i = .int .i64 1 ∧ f = .int .i64 0 ∧ wx = w) (fun _ _ _ => 0)
        case atStart => exact ⟨rfl, rfl, rfl⟩
        case round =>
          obtain ⟨rfl, rfl, rfl⟩ := hrel
          go_wp2_with fail
          apply wp_scope_straight
          go_wp2_with fail
          go_quiet (fail)
          go_wp2_with fail
          have hBw := below_drewN (Below.refl wr.heap.size wr) nq
          generalize wr.drewN nq = wq at hBw ⊢
          go_quiet ((go_at_call 138; exact Calls.quiet_of_same (CI.out ByteArray.empty (by rfl) _ _)))
          go_wp2_with fail
          rw [Exit.noGoto_ret]
          go_wp2_with fail
          rw [Exit.noGoto_ret]
          go_wp2
          go_ret
          exact ⟨rfl, below_drewN hBw _⟩
      · have hz3 : 3 ≤ (Utf8.encode c).size := by omega
        obtain ⟨rs, hrs⟩ : ∃ rs, rs = Utf8.encode c := ⟨_, rfl⟩
        have HZ3 := Lib.hid hz3
        clear hlast hz
        go_enter Tryz.func126, Tryz.ntmps126
        go_wp2_with fail
        refine (V.out _).mono ?_
        rintro e w1 ⟨rfl, rfl⟩
        go_wp2_with fail
        apply wp_scope_straight
        go_wp2_with fail
        rw [← hrs] at hz3 hz1 hz2 ⊢
        clear hrs
        have hlt : decide ((rs.size : Int) - 1 < 2) = false := decide_eq_false (by omega)
        go_loopw [9, 10] (fun i f wx => i = .int .i64 ((rs.size : Int) - 1) ∧ f = .int .i64 0 ∧ wx = w) (fun _ _ _ => 0)
        case atStart => exact ⟨rfl, rfl, rfl⟩
        case round =>
          obtain ⟨rfl, rfl, rfl⟩ := hrel
          go_wp2_with fail
          rw [Exit.noGoto_ret]
          go_wp2
          go_ret
          exact ⟨rfl, Below.refl _ _⟩
end Go.Proofs.YtohicccbaenegaaGreatDoor

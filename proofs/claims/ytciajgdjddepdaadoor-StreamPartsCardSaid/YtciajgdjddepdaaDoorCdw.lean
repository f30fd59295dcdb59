/-
  Contracts over this translation: cdc's small functions, and the document's.
-/
import Derived.WalkKit
import Derived.LoopTactic
import Derived.Outline
import Derived.Laws.BitsAllLaws
import Derived.Laws.ShiftsVarLaws
import Derived.Lib.Hide
import Derived.Below
import Derived.Test.YtciajgdjddepdaaDoorProg
import Derived.Test.YtciajgdjddepdaaDoorCdm
import Derived.Test.YtciajgdjddepdaaDoorBas
import Derived.Test.YtciajgdjddepdaaDoorShl
set_option linter.unusedVariables false
namespace Go.Proofs.YtciajgdjddepdaaDoor
open Go.RowKit

/-! ## power -/
def PowR (n r : Int) : Prop := (∃ k : Nat, k < 30 ∧ n = ((2 ^ k : Nat) : Int) ∧ r = k) ∨ (r = -1 ∧ ∀ k : Nat, k < 30 → n ≠ ((2 ^ k : Nat) : Int))
def RetPow (n : Int) (w : World) (e : Ending) (w' : World) : Prop := ∃ r, e = .returned (.int .i64 r) ∧ PowR n r ∧ w = w'

theorem wrap_pow {k : Nat} (h : k < 30) : wrap64 ((2 : Int) ^ k) = ((2 ^ k : Nat) : Int) := by
  have : ∀ k : Fin 30, wrap64 ((2 : Int) ^ k.val) = ((2 ^ k.val : Nat) : Int) := by decide +kernel
  exact this ⟨k, h⟩
def NoPow (n : Int) (k : Nat) : Prop := ∀ j : Nat, j < k → n ≠ ((2 ^ j : Nat) : Int)

set_option maxRecDepth 100000 in
set_option maxHeartbeats 1000000 in
theorem power_any (n : Int) (w : World) : Calls Tryd.prog 21 #[.int .i64 n] w (RetPow n w) := by
  go_enter Tryd.func21, Tryd.ntmps21
  go_wp2
  go_loop [3] (fun i => ∃ k : Nat, k ≤ 30 ∧ i = .int .i64 k ∧ NoPow n k) (fun i => 30 - (intOf i).toNat)
  case atStart => exact ⟨0, by omega, rfl, fun j hj => absurd hj (by omega)⟩
  case round =>
    obtain ⟨k, hk, rfl, hno⟩ := hrel
    by_cases hlt : k < 30
    · have E := Lib.hid (wrap_pow hlt)
      by_cases hv : (n == wrap64 ((2 : Int) ^ k)) = true
      · have HV := Lib.hid hv
        go_wp2
        go_ret
        exact ⟨_, rfl, .inl ⟨k, hlt, by have := eq_of_beq HV.out; rw [E.out] at this; exact this, rfl⟩, rfl⟩
      · have hv' : (n == wrap64 ((2 : Int) ^ k)) = false := by simpa using hv
        have HV := Lib.hid hv'
        clear hv
        go_wp2
        go_round
        case rel =>
          refine ⟨k + 1, by omega, by go_num, fun j hj => ?_⟩
          by_cases hjk : j = k
          · subst hjk
            intro e
            rw [← E.out] at e
            rw [e] at HV
            have := HV.out
            simp at this
          · exact hno j (by omega)
        case measure => simp [intOf]; omega
    · obtain rfl : k = 30 := by omega
      go_wp2
      go_ret
      exact ⟨_, rfl, .inr ⟨rfl, hno⟩, rfl⟩

/-! ## blank -/
/-- Has a hash 0 in its highest k bits? -/
def blankN (h k : Nat) : Bool := decide (h < 2 ^ (64 - k))
theorem blank_int (h k : Nat) : ((h : Int) / 2 ^ (64 - k) == 0) = blankN h k := by
  have e : ((h : Int) / 2 ^ (64 - k)) = ((h / 2 ^ (64 - k) : Nat) : Int) := by rw [Int.natCast_ediv, Int.natCast_pow]; rfl
  rw [e, Bool.eq_iff_iff, beq_iff_eq, blankN, decide_eq_true_iff]
  have hp : 0 < 2 ^ (64 - k) := Nat.pow_pos (by decide)
  rw [show ((0 : Int)) = ((0 : Nat) : Int) from rfl, Int.natCast_inj, Nat.div_eq_zero_iff]
  omega
set_option maxRecDepth 100000 in
set_option maxHeartbeats 1000000 in
theorem blank_any (h k : Nat) (hh : h < M64) (hk : k ≤ 13) (w : World) : Calls Tryd.prog 27 #[.int .u64 h, .int .i64 k] w fun e w' => e = .returned (.bool (blankN h k)) ∧ w = w' := by
  by_cases h0 : k = 0
  · subst h0
    have hb : blankN h 0 = true := decide_eq_true hh
    have HB := Lib.hid hb; clear hb
    go_enter Tryd.func27, Tryd.ntmps27
    go_wp2
    go_ret
    rw [HB.out]
    exact ⟨rfl, rfl⟩
  · have hk0 : (((k : Nat) : Int) == 0) = false := beq_eq_false_iff_ne.2 (by omega)
    have HH := Lib.hid hh; clear hh
    go_enter Tryd.func27, Tryd.ntmps27
    go_wp2
    go_ret
    rw [blank_int]
    exact ⟨rfl, rfl⟩

/-! ## OnesCount -/
/-- How many bits are 1, as the library reckons it. -/
def o1 (x : Int) : Int := IntKind.u64.wrap (bits BinOp.and IntKind.u64 (x / 2) 6148914691236517205 + bits BinOp.and IntKind.u64 x 6148914691236517205)
def o2 (x : Int) : Int := IntKind.u64.wrap (bits BinOp.and IntKind.u64 (x / 4) 3689348814741910323 + bits BinOp.and IntKind.u64 x 3689348814741910323)
def o3 (x : Int) : Int := bits BinOp.and IntKind.u64 (IntKind.u64.wrap (x / 16 + x)) 1085102592571150095
def o4 (x : Int) : Int := IntKind.u64.wrap (x + x / 256)
def o5 (x : Int) : Int := IntKind.u64.wrap (x + x / 65536)
def o6 (x : Int) : Int := IntKind.u64.wrap (x + x / 4294967296)
def o7 (x : Int) : Int := bits BinOp.and IntKind.i64 (wrap64 x) 127
def onesI (x : Int) : Int := o7 (o6 (o5 (o4 (o3 (o2 (o1 x))))))
def isP (n : Nat) : Bool := (List.range 13).any fun b => n == 2 ^ b
theorem ones_pow' : ∀ (i : Fin 65) (j : Fin 64), (onesI ((64 * i.val + j.val : Nat) : Int) == 1) = isP (64 * i.val + j.val) := by decide +kernel
theorem ones_pow {x : Nat} (h : x ≤ 4096) : (onesI (x : Int) == 1) = isP x := by
  have := ones_pow' ⟨x / 64, by omega⟩ ⟨x % 64, by omega⟩
  simp only at this
  rwa [show 64 * (x / 64) + x % 64 = x by omega] at this
set_option maxRecDepth 100000 in
set_option maxHeartbeats 1000000 in
theorem ones64_any (x : Nat) (w : World) : Calls Tryd.prog 36 #[.int .u64 x] w fun e w' => e = .returned (.int .i64 (onesI x)) ∧ w = w' := by
  go_enter Tryd.func36, Tryd.ntmps36
  go_wp2_with fail
  go_ret
  exact ⟨rfl, rfl⟩
set_option maxRecDepth 100000 in
set_option maxHeartbeats 1000000 in
theorem ones_any (x : Nat) (hx : x ≤ 4096) (w : World) : Calls Tryd.prog 31 #[.int .u64 x] w fun e w' => e = .returned (.int .i64 (onesI x)) ∧ w = w' := by
  go_enter Tryd.func31, Tryd.ntmps31
  go_wp2_with fail
  refine (ones64_any x _).mono ?_
  rintro e w1 ⟨rfl, rfl⟩
  go_wp2
  go_ret
  exact ⟨rfl, rfl⟩

/-! ## Fit -/
abbrev pV (mn av mx : Int) : Value := .agg #[.int .i64 mn, .int .i64 av, .int .i64 mx]
theorem isP_iff {n : Nat} (h : isP n = true) : ∃ b, b < 13 ∧ n = 2 ^ b := by
  simp only [isP, List.any_eq_true, List.mem_range, beq_iff_eq] at h
  exact h
set_option maxRecDepth 100000 in
set_option maxHeartbeats 2000000 in
theorem Fit_any (mn av mx : Int) (w : World) : Calls Tryd.prog 28 #[pV mn av mx] w fun e w' => e = .returned (.bool (fitB mn av mx)) ∧ Below w.heap.size w w' := by
  have key : ∀ v : Bool, fitB mn av mx = v → Calls Tryd.prog 28 #[pV mn av mx] w fun e w' => e = .returned (.bool v) ∧ Below w.heap.size w w' := by
    intro v hv
    have HV := Lib.hid hv
    clear hv
    by_cases h1 : 1 ≤ mn ∧ mn ≤ av ∧ av ≤ mx ∧ mx ≤ 4096 ∧ 2 ≤ av
    · obtain ⟨h1, h2, h3, h4, h5⟩ := h1
      obtain ⟨n, rfl⟩ : ∃ n : Nat, av = n := ⟨av.toNat, by omega⟩
      have hO := Lib.hid (ones_any n (by omega))
      have hP := ones_pow (x := n) (by omega)
      have hwn : IntKind.u64.wrap (n : Int) = n := by rw [IntKind.wrap_u64]; omega
      have hE : v = isP n := by
        rcases hc : isP n with _ | _
        · rcases hc2 : v with _ | _
          · rfl
          · obtain ⟨b, hb⟩ := fitB_true (HV.out.trans hc2)
            have h7 : n = 2 ^ b := by exact_mod_cast hb.h7
            have : isP n = true := by
              simp only [isP, List.any_eq_true, List.mem_range, beq_iff_eq]
              exact ⟨b, by have := hb.h6; omega, h7⟩
            rw [hc] at this; cases this
        · obtain ⟨b, hb, rfl⟩ := isP_iff hc
          have : 1 ≤ b := by
            rcases b with _ | b
            · simp at h5
            · omega
          exact HV.out.symm.trans (fitB_of ⟨h1, h2, h3, h4, this, by omega, rfl⟩)
      have HE := Lib.hid hE; clear hE
      rcases hq : isP n with _ | _
      all_goals
        rw [hq] at hP
        have HQ := Lib.hid hq; clear hq
        go_enter Tryd.func28, Tryd.ntmps28
        go_wp2_with fail
        refine (hO.out _).mono ?_
        rintro e w1 ⟨rfl, rfl⟩
        go_wp2
        go_ret
        exact ⟨by rw [HE.out, HQ.out]; rfl, (Below.refl _ _).alloc (Nat.le_refl _) _⟩
    · obtain rfl : v = false := by
        rcases hc : v with _ | _
        · rfl
        · obtain ⟨b, hb⟩ := fitB_true (HV.out.trans hc)
          refine absurd ⟨hb.h1, hb.h2, hb.h3, hb.h4, ?_⟩ h1
          rw [hb.h7]
          have : 2 ^ 1 ≤ 2 ^ b := Nat.pow_le_pow_right (by decide) hb.h5
          exact_mod_cast this
      by_cases g1 : 1 ≤ mn
      · by_cases g2 : mn ≤ av
        · by_cases g3 : av ≤ mx
          · by_cases g4 : mx ≤ 4096
            · have g5 : ¬ 2 ≤ av := fun h5 => h1 ⟨g1, g2, g3, g4, h5⟩
              clear h1
              go_enter Tryd.func28, Tryd.ntmps28
              go_wp2
              go_ret
              exact ⟨rfl, (Below.refl _ _).alloc (Nat.le_refl _) _⟩
            · clear h1
              go_enter Tryd.func28, Tryd.ntmps28
              go_wp2
              go_ret
              exact ⟨rfl, (Below.refl _ _).alloc (Nat.le_refl _) _⟩
          · clear h1
            go_enter Tryd.func28, Tryd.ntmps28
            go_wp2
            go_ret
            exact ⟨rfl, (Below.refl _ _).alloc (Nat.le_refl _) _⟩
        · clear h1
          go_enter Tryd.func28, Tryd.ntmps28
          go_wp2
          go_ret
          exact ⟨rfl, (Below.refl _ _).alloc (Nat.le_refl _) _⟩
      · clear h1
        go_enter Tryd.func28, Tryd.ntmps28
        go_wp2
        go_ret
        exact ⟨rfl, (Below.refl _ _).alloc (Nat.le_refl _) _⟩
  exact key _ rfl

set_option maxRecDepth 100000 in
set_option maxHeartbeats 2000000 in
theorem refFit_any (mn av mx : Int) (w : World) : Calls Tryd.prog 15 #[pV mn av mx] w fun e w' => e = .returned (.bool (fitB mn av mx)) ∧ Below w.heap.size w w' := by
  have key : ∀ v : Bool, fitB mn av mx = v → Calls Tryd.prog 15 #[pV mn av mx] w fun e w' => e = .returned (.bool v) ∧ Below w.heap.size w w' := by
    intro v hv
    have HV := Lib.hid hv
    clear hv
    by_cases g1 : 1 ≤ mn
    · by_cases g2 : 2 ≤ av
      · have P := Lib.hid (power_any av)
        go_enter Tryd.func15, Tryd.ntmps15
        go_wp2_with fail
        refine (P.out _).mono ?_
        rintro e w1 ⟨r, rfl, hr, rfl⟩
        clear P
        by_cases h1 : 0 < r ∧ mn ≤ av ∧ av ≤ mx ∧ mx ≤ 4096
        · obtain ⟨h1, h2, h3, h4⟩ := h1
          obtain rfl : true = v := by
            rcases hr with ⟨k, hk, e, rfl⟩ | ⟨rfl, _⟩
            · have h13 : k < 13 := by
                apply Nat.lt_of_not_le; intro hle
                have : 2 ^ 13 ≤ 2 ^ k := Nat.pow_le_pow_right (by decide) hle
                have : (2 ^ 13 : Nat) ≤ 4096 := by
                  have e2 : ((2 ^ k : Nat) : Int) ≤ 4096 := by rw [← e]; omega
                  have e3 : (2 ^ k : Nat) ≤ 4096 := by exact_mod_cast e2
                  omega
                exact absurd this (by decide)
              exact (fitB_of ⟨g1, h2, h3, h4, by omega, by omega, e⟩).symm.trans HV.out
            · omega
          clear hr
          go_wp2
          go_ret
          exact ⟨rfl, (Below.refl _ _).alloc (Nat.le_refl _) _⟩
        · obtain rfl : false = v := by
            rcases hc : v with _ | _
            · rfl
            · obtain ⟨b, hb⟩ := fitB_true (HV.out.trans hc)
              refine absurd ⟨?_, hb.h2, hb.h3, hb.h4⟩ h1
              rcases hr with ⟨k, hk, e, rfl⟩ | ⟨rfl, hn⟩
              · rcases k with _ | k
                · rw [e] at g2; simp at g2
                · omega
              · exact absurd hb.h7 (hn b (by have := hb.h6; omega))
          clear hr
          by_cases q1 : 0 < r
          · by_cases q2 : mn ≤ av
            · by_cases q3 : av ≤ mx
              · have q4 : ¬ mx ≤ 4096 := fun q4 => h1 ⟨q1, q2, q3, q4⟩
                have d4 : decide (mx ≤ 4096) = false := decide_eq_false q4
                clear h1
                go_wp2
                go_ret
                exact ⟨rfl, (Below.refl _ _).alloc (Nat.le_refl _) _⟩
              · clear h1
                go_wp2
                go_ret
                exact ⟨rfl, (Below.refl _ _).alloc (Nat.le_refl _) _⟩
            · clear h1
              go_wp2
              go_ret
              exact ⟨rfl, (Below.refl _ _).alloc (Nat.le_refl _) _⟩
          · clear h1
            go_wp2
            go_ret
            exact ⟨rfl, (Below.refl _ _).alloc (Nat.le_refl _) _⟩
      · obtain rfl : false = v := by
          rcases hc : v with _ | _
          · rfl
          · obtain ⟨b, hb⟩ := fitB_true (HV.out.trans hc)
            exact absurd hb.two g2
        go_enter Tryd.func15, Tryd.ntmps15
        go_wp2
        go_ret
        exact ⟨rfl, (Below.refl _ _).alloc (Nat.le_refl _) _⟩
    · obtain rfl : false = v := by
        rcases hc : v with _ | _
        · rfl
        · obtain ⟨b, hb⟩ := fitB_true (HV.out.trans hc)
          exact absurd hb.h1 g1
      go_enter Tryd.func15, Tryd.ntmps15
      go_wp2
      go_ret
      exact ⟨rfl, (Below.refl _ _).alloc (Nat.le_refl _) _⟩
  exact key _ rfl

/-! ## Off the shelf -/
/-- How many of the highest bits are 0. -/
def zerosN (h : Nat) : Nat := 64 - Lib.bitLen h
theorem bits64_le {h : Nat} (hh : h < M64) : Lib.bitLen h ≤ 64 := Lib.bitLen_le h 64 (by decide) (by unfold M64 at hh; omega)
theorem zeros_any (h : Nat) (hh : h < M64) (w : World) : Calls Tryd.prog 34 #[.int .u64 h] w fun e w' => e = .returned (.int .i64 (zerosN h)) ∧ w = w' := by
  have C := Any.bits_LeadingZeros64 Tryd.lays134 (h : Int) w (by omega) (by unfold M64 at hh; omega)
  change Calls Tryd.prog 34 _ _ _ at C
  refine C.mono ?_
  rintro e w' ⟨rfl, rfl⟩
  refine ⟨ret_i ?_, rfl⟩
  have := bits64_le hh
  rw [Int.toNat_natCast]
  unfold zerosN
  omega
theorem bitLenAux_le : ∀ (f x m : Nat), x < 2 ^ f → (Lib.bitLenAux f x ≤ m ↔ x < 2 ^ m)
  | 0, x, m, h => by
    have : x = 0 := by simpa using h
    subst this
    simp [Lib.bitLenAux, Nat.pow_pos]
  | f + 1, x, m, h => by
    by_cases hx : x = 0
    · subst hx; simp [Lib.bitLenAux, Nat.pow_pos]
    · rw [Lib.bitLenAux, if_neg hx]
      cases m with
      | zero => simp; omega
      | succ m =>
        have := bitLenAux_le f (x / 2) m (by rw [Nat.pow_succ] at h; omega)
        rw [Nat.pow_succ]
        constructor
        · intro h1; have := this.1 (by omega); omega
        · intro h1; have := this.2 (by omega); omega
theorem zeros_ge {h k : Nat} (hh : h < M64) (hk : k ≤ 64) : k ≤ zerosN h ↔ h < 2 ^ (64 - k) := by
  have h1 := bits64_le hh
  have h2 := bitLenAux_le 64 h (64 - k) hh
  unfold zerosN
  rw [← h2]
  unfold Lib.bitLen at h1 ⊢
  omega
theorem stop_zeros {b at' h : Nat} (hh : h < M64) (hb : b ≤ 12) (h1 : 1 ≤ b) : stopB b (at', h) = decide ((if at' < 2 ^ b then b + 1 else b - 1) ≤ zerosN h) := by
  rw [stopB, decide_eq_decide, zeros_ge hh (by split <;> omega)]
theorem stop_blank {b at' h : Nat} : stopB b (at', h) = blankN h (if at' < 2 ^ b then b + 1 else b - 1) := rfl
/-- The library's table, where it lies. -/
def Tabs (w : World) : Prop := TabAt 1 Lib.deBruijn64tab w
theorem Tabs.stays {a b : World} (h : Tabs a) (hb : Below a.heap.size a b) : Tabs b := fun j hj => by
  rw [hb.cell (p := ⟨1, j, none⟩) (World.block_lt_of_cell? _ _ (h j hj))]; exact h j hj
theorem ctz_pow {b : Nat} (h : b ≤ 12) : Lib.ctz 64 (2 ^ b) = b := by
  have : ∀ k : Fin 13, Lib.ctz 64 (2 ^ k.val) = k.val := by decide +kernel
  exact this ⟨b, by omega⟩
theorem trail_any (b : Nat) (hb : b ≤ 12) (w : World) (hT : Tabs w) : Calls Tryd.prog 32 #[.int .u64 (2 ^ b : Nat)] w fun e w' => e = .returned (.int .i64 b) ∧ w = w' := by
  have hp := pow_lt13 hb
  have C := Any7.bits_TrailingZeros Tryd.lays_7_27 (2 ^ b) (by omega) w (fun _ => hT)
  change Calls Tryd.prog 32 _ _ _ at C
  refine C.mono ?_
  rintro e w' ⟨rfl, rfl⟩
  exact ⟨by rw [ctz_pow hb], rfl⟩
theorem cloneL_any (s : ByteArray) (hs : s.size ≤ 281474976710656) (w : World) : Calls Tryd.prog 25 #[.string s] w fun e w' => e = .returned (.string s) ∧ Below w.heap.size w w' := by
  have C := AnyPu.stringslite_Clone Tryd.lays_pu25 s w hs
  change Calls Tryd.prog 25 _ _ _ at C
  exact C
set_option maxRecDepth 100000 in
set_option maxHeartbeats 1000000 in
theorem Clone_any (s : ByteArray) (hs : s.size ≤ 281474976710656) (w : World) : Calls Tryd.prog 17 #[.string s] w fun e w' => e = .returned (.string s) ∧ Below w.heap.size w w' := by
  go_enter Tryd.func17, Tryd.ntmps17
  go_wp2_with fail
  refine (cloneL_any s hs _).mono ?_
  rintro e w1 ⟨rfl, hb⟩
  go_wp2
  go_ret
  exact ⟨rfl, hb⟩
end Go.Proofs.YtciajgdjddepdaaDoor

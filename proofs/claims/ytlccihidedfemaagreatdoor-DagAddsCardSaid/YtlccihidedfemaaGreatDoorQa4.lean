/-
  Texts put together: contracts and laws that this seat's proofs share.
-/
import Derived.Test.YtlccihidedfemaaGreatDoorYaCrf
import Derived.WalkKit
import Derived.LoopTactic
import Derived.Outline
import Derived.Laws.BitsAllLaws
import Derived.Laws.ShiftsVarLaws
import Derived.Lib.Hide
import Derived.Below
import Derived.Test.YtlccihidedfemaaGreatDoorProg
import Derived.Test.YtlccihidedfemaaGreatDoorQa0
import Derived.Test.YtlccihidedfemaaGreatDoorRows
import Derived.ProofKit
import Derived.OpenShut
import Derived.LaidLaws
import Derived.Lib.LaidTab
import Derived.Lib.SmallJoins
import Derived.Stop.LaidErr
import Derived.Test.YtlccihidedfemaaGreatDoorQa1
import Derived.Test.YtlccihidedfemaaGreatDoorYaDtd
import Derived.Lib.SliceRun
import Derived.Test.YtlccihidedfemaaGreatDoorYaPao
import Derived.Test.YtlccihidedfemaaGreatDoorQa2
import Derived.RegionTactic
import Derived.BigRegionIn
import Derived.Sort.CutIn
import Derived.ChangeAlike
import Derived.OwnWalkIn
import Derived.RangeFuncCalls
import Derived.RangeFuncLeaves
import Derived.Laws.Rows
import Derived.Laws.CopyOwn
import Derived.Test.YtlccihidedfemaaGreatDoorYaShc
import Derived.Great.BuildSlice
import Derived.BigRegion
import Derived.Deep.QuietTactic
import Derived.BigQuiet
import Derived.StillTailTactics
import Derived.IntWalk
import Derived.WalkSmall
import Derived.Test.YtlccihidedfemaaGreatDoorQa3
import Derived.Test.YtlccihidedfemaaGreatDoorYaNdc
import Derived.RangeFuncFrom
import Derived.RangeFuncBox
set_option linter.unusedVariables false
namespace Go.Proofs.YtlccihidedfemaaGreatDoor
open Go.RowKit
def o1 (x : Int) : Int := IntKind.u64.wrap (bits BinOp.and IntKind.u64 (x / 2) 6148914691236517205 + bits BinOp.and IntKind.u64 x 6148914691236517205)
def o2 (x : Int) : Int := IntKind.u64.wrap (bits BinOp.and IntKind.u64 (x / 4) 3689348814741910323 + bits BinOp.and IntKind.u64 x 3689348814741910323)
def o3 (x : Int) : Int := bits BinOp.and IntKind.u64 (IntKind.u64.wrap (x / 16 + x)) 1085102592571150095
def o4 (x : Int) : Int := IntKind.u64.wrap (x + x / 256)
def o5 (x : Int) : Int := IntKind.u64.wrap (x + x / 65536)
def o6 (x : Int) : Int := IntKind.u64.wrap (x + x / 4294967296)
def o7 (x : Int) : Int := bits BinOp.and IntKind.i64 (wrap64 x) 127
def onesI (x : Int) : Int := o7 (o6 (o5 (o4 (o3 (o2 (o1 x))))))
theorem ones_pow' : ∀ (i : Fin 65) (j : Fin 64), (onesI ((64 * i.val + j.val : Nat) : Int) == 1) = isP (64 * i.val + j.val) := by decide +kernel
theorem ones_pow {x : Nat} (h : x ≤ 4096) : (onesI (x : Int) == 1) = isP x := by
  have := ones_pow' ⟨x / 64, by omega⟩ ⟨x % 64, by omega⟩
  simp only at this
  rwa [show 64 * (x / 64) + x % 64 = x by omega] at this
set_option maxRecDepth 100000 in
set_option maxHeartbeats 1000000 in
theorem ones64_any (x : Nat) (w : World) : Calls Tryz.prog 84 #[.int .u64 x] w fun e w' => e = .returned (.int .i64 (onesI x)) ∧ w = w' := by
  go_enter Tryz.func84, Tryz.ntmps84
  go_wp2_with fail
  go_ret
  exact ⟨rfl, rfl⟩
set_option maxRecDepth 100000 in
set_option maxHeartbeats 1000000 in
theorem ones_any (x : Nat) (hx : x ≤ 4096) (w : World) : Calls Tryz.prog 51 #[.int .u64 x] w fun e w' => e = .returned (.int .i64 (onesI x)) ∧ w = w' := by
  go_enter Tryz.func51, Tryz.ntmps51
  go_wp2_with fail
  refine (ones64_any x _).mono ?_
  rintro e w1 ⟨rfl, rfl⟩
  go_wp2
  go_ret
  exact ⟨rfl, rfl⟩
set_option maxRecDepth 100000 in
set_option maxHeartbeats 2000000 in
theorem Fit_any_Cdw (mn av mx : Int) (w : World) : Calls Tryz.prog 30 #[pV mn av mx] w fun e w' => e = .returned (.bool (fitB_Cdm mn av mx)) ∧ Below w.heap.size w w' := by
  have key : ∀ v : Bool, fitB_Cdm mn av mx = v → Calls Tryz.prog 30 #[pV mn av mx] w fun e w' => e = .returned (.bool v) ∧ Below w.heap.size w w' := by
    intro v hv
    have HV := Lib.hid hv
    clear hv
    by_cases h1 : 1 ≤ mn ∧ mn ≤ av ∧ av ≤ mx ∧ mx ≤ 4096 ∧ 2 ≤ av
    · obtain ⟨h1, h2, h3, h4, h5⟩ := h1
      obtain ⟨n, rfl⟩ : ∃ n : Nat, av = n := ⟨av.toNat, by omega⟩
      have hO := Lib.hid (ones_any n (by omega))
      have hP := ones_pow (x := n) (by omega)
      have hwn : IntKind.u64.wrap (n : Int) = n := by rw [IntKind.wrap_u64]; omega
      have hE : v = isP n := by
        rcases hc : isP n with _ | _
        · rcases hc2 : v with _ | _
          · rfl
          · obtain ⟨b, hb⟩ := fitB_true_Cdm (HV.out.trans hc2)
            have h7 : n = 2 ^ b := by exact_mod_cast hb.h7
            have : isP n = true := by
              simp only [isP, List.any_eq_true, List.mem_range, beq_iff_eq]
              exact ⟨b, by have := hb.h6; omega, h7⟩
            rw [hc] at this; cases this
        · obtain ⟨b, hb, rfl⟩ := isP_iff hc
          have : 1 ≤ b := by
            rcases b with _ | b
            · simp at h5
            · omega
          exact HV.out.symm.trans (fitB_of ⟨h1, h2, h3, h4, this, by omega, rfl⟩)
      have HE := Lib.hid hE; clear hE
      rcases hq : isP n with _ | _
      all_goals
        rw [hq] at hP
        have HQ := Lib.hid hq; clear hq
        go_enter Tryz.func30, Tryz.ntmps30
        go_wp2_with fail
        refine (hO.out _).mono ?_
        rintro e w1 ⟨rfl, rfl⟩
        go_wp2
        go_ret
        exact ⟨by rw [HE.out, HQ.out]; rfl, (Below.refl _ _).alloc (Nat.le_refl _) _⟩
    · obtain rfl : v = false := by
        rcases hc : v with _ | _
        · rfl
        · obtain ⟨b, hb⟩ := fitB_true_Cdm (HV.out.trans hc)
          refine absurd ⟨hb.h1, hb.h2, hb.h3, hb.h4, ?_⟩ h1
          rw [hb.h7]
          have : 2 ^ 1 ≤ 2 ^ b := Nat.pow_le_pow_right (by decide) hb.h5
          exact_mod_cast this
      by_cases g1 : 1 ≤ mn
      · by_cases g2 : mn ≤ av
        · by_cases g3 : av ≤ mx
          · by_cases g4 : mx ≤ 4096
            · have g5 : ¬ 2 ≤ av := fun h5 => h1 ⟨g1, g2, g3, g4, h5⟩
              clear h1
              go_enter Tryz.func30, Tryz.ntmps30
              go_wp2
              go_ret
              exact ⟨rfl, (Below.refl _ _).alloc (Nat.le_refl _) _⟩
            · clear h1
              go_enter Tryz.func30, Tryz.ntmps30
              go_wp2
              go_ret
              exact ⟨rfl, (Below.refl _ _).alloc (Nat.le_refl _) _⟩
          · clear h1
            go_enter Tryz.func30, Tryz.ntmps30
            go_wp2
            go_ret
            exact ⟨rfl, (Below.refl _ _).alloc (Nat.le_refl _) _⟩
        · clear h1
          go_enter Tryz.func30, Tryz.ntmps30
          go_wp2
          go_ret
          exact ⟨rfl, (Below.refl _ _).alloc (Nat.le_refl _) _⟩
      · clear h1
        go_enter Tryz.func30, Tryz.ntmps30
        go_wp2
        go_ret
        exact ⟨rfl, (Below.refl _ _).alloc (Nat.le_refl _) _⟩
  exact key _ rfl
def zerosN (h : Nat) : Nat := 64 - Lib.bitLen h
theorem bits64_le {h : Nat} (hh : h < M64) : Lib.bitLen h ≤ 64 := Lib.bitLen_le h 64 (by decide) (by unfold M64 at hh; omega)
theorem zeros_any (h : Nat) (hh : h < M64) (w : World) : Calls Tryz.prog 139 #[.int .u64 h] w fun e w' => e = .returned (.int .i64 (zerosN h)) ∧ w = w' := by
  have C := Any.bits_LeadingZeros64 Tryz.lays134 (h : Int) w (by omega) (by unfold M64 at hh; omega)
  change Calls Tryz.prog 139 _ _ _ at C
  refine C.mono ?_
  rintro e w' ⟨rfl, rfl⟩
  refine ⟨ret_i ?_, rfl⟩
  have := bits64_le hh
  rw [Int.toNat_natCast]
  unfold zerosN
  omega
theorem bitLenAux_le : ∀ (f x m : Nat), x < 2 ^ f → (Lib.bitLenAux f x ≤ m ↔ x < 2 ^ m)
  | 0, x, m, h => by
    have : x = 0 := by simpa using h
    subst this
    simp [Lib.bitLenAux, Nat.pow_pos]
  | f + 1, x, m, h => by
    by_cases hx : x = 0
    · subst hx; simp [Lib.bitLenAux, Nat.pow_pos]
    · rw [Lib.bitLenAux, if_neg hx]
      cases m with
      | zero => simp; omega
      | succ m =>
        have := bitLenAux_le f (x / 2) m (by rw [Nat.pow_succ] at h; omega)
        rw [Nat.pow_succ]
        constructor
        · intro h1; have := this.1 (by omega); omega
        · intro h1; have := this.2 (by omega); omega
theorem zeros_ge {h k : Nat} (hh : h < M64) (hk : k ≤ 64) : k ≤ zerosN h ↔ h < 2 ^ (64 - k) := by
  have h1 := bits64_le hh
  have h2 := bitLenAux_le 64 h (64 - k) hh
  unfold zerosN
  rw [← h2]
  unfold Lib.bitLen at h1 ⊢
  omega
theorem stop_zeros {b at' h : Nat} (hh : h < M64) (hb : b ≤ 12) (h1 : 1 ≤ b) : stopB b (at', h) = decide ((if at' < 2 ^ b then b + 1 else b - 1) ≤ zerosN h) := by
  rw [stopB, decide_eq_decide, zeros_ge hh (by split <;> omega)]
def Tabs (w : World) : Prop := TabAt 2 Lib.deBruijn64tab w
theorem Tabs.stays {a b : World} (h : Tabs a) (hb : Below a.heap.size a b) : Tabs b := fun j hj => by
  rw [hb.cell (p := ⟨2, j, none⟩) (World.block_lt_of_cell? _ _ (h j hj))]; exact h j hj
theorem ctz_pow {b : Nat} (h : b ≤ 12) : Lib.ctz 64 (2 ^ b) = b := by
  have : ∀ k : Fin 13, Lib.ctz 64 (2 ^ k.val) = k.val := by decide +kernel
  exact this ⟨b, by omega⟩
theorem trail_any (b : Nat) (hb : b ≤ 12) (w : World) (hT : Tabs w) : Calls Tryz.prog 137 #[.int .u64 (2 ^ b : Nat)] w fun e w' => e = .returned (.int .i64 b) ∧ w = w' := by
  have hp := pow_lt13 hb
  have C := Any7.bits_TrailingZeros Tryz.lays_7_27 (2 ^ b) (by omega) w (fun _ => hT)
  change Calls Tryz.prog 137 _ _ _ at C
  refine C.mono ?_
  rintro e w' ⟨rfl, rfl⟩
  exact ⟨by rw [ctz_pow hb], rfl⟩
theorem cloneL_any_Cdw (s : ByteArray) (hs : s.size ≤ 281474976710656) (w : World) : Calls Tryz.prog 134 #[.string s] w fun e w' => e = .returned (.string s) ∧ Below w.heap.size w w' := by
  have C := AnyPu.stringslite_Clone Tryz.lays_pu25 s w hs
  change Calls Tryz.prog 134 _ _ _ at C
  exact C
set_option maxRecDepth 100000 in
set_option maxHeartbeats 1000000 in
theorem Clone_any_Cdw (s : ByteArray) (hs : s.size ≤ 281474976710656) (w : World) : Calls Tryz.prog 116 #[.string s] w fun e w' => e = .returned (.string s) ∧ Below w.heap.size w w' := by
  go_enter Tryz.func116, Tryz.ntmps116
  go_wp2_with fail
  refine (cloneL_any_Cdw s hs _).mono ?_
  rintro e w1 ⟨rfl, hb⟩
  go_wp2
  go_ret
  exact ⟨rfl, hb⟩
end Go.Proofs.YtlccihidedfemaaGreatDoor
set_option linter.unusedVariables false
namespace Go.Proofs.YtlccihidedfemaaGreatDoor
open Go.ChangeShapes Go.WideShapes Go.ChangeAt Go.RowKit Go.Joins
set_option maxRecDepth 100000 in
theorem g64 : Tryz.prog.globalNamed "math/bits.deBruijn64tab" = some 2 := by kernel_rfl
set_option maxRecDepth 100000 in
theorem g64t : (Tryz.prog.globals[2]?).map (·.type) = some 89 := by kernel_rfl
set_option maxRecDepth 100000 in
theorem c64 : Tryz.prog.cellsOf 89 = 64 := by kernel_rfl
theorem c8 : Tryz.prog.cellsOf 5 = 1 := by kernel_rfl
def zs64 : List Int := Lib.deBruijn64tab.map fun n : Nat => (n : Int)
set_option maxRecDepth 100000 in
theorem laid64 : (Rows.laid_math_bits_deBruijn64tab : DataW Unit) = Lib.tabData .u8 zs64 := by kernel_rfl
def theLaid : List (String × DataW Unit) := [("math/bits.deBruijn32tab", Rows.laid_math_bits_deBruijn32tab), ("math/bits.deBruijn64tab", Rows.laid_math_bits_deBruijn64tab), ("unicode/utf8.acceptRanges", Rows.laid_unicode_utf8_acceptRanges), ("unicode/utf8.first", Rows.laid_unicode_utf8_first)]
set_option maxRecDepth 100000 in
theorem tabs_of {W : World} (h : laidMetH Tryz.prog theLaid W) : Tabs W := by
  have h1 : laidMet Tryz.prog theLaid W := h
  have h2 := laidMet.tail h1
  rw [laid64] at h2
  have h3 := Lib.tabIs_of_head g64 g64t Tryz.underlying89 Tryz.underlying5 c8 c64 h2
  intro j hj
  have h4 := h3.cell g64 j (by unfold zs64; rw [List.length_map]; exact hj)
  rw [h4]
  unfold zs64
  rw [List.getD_eq_getElem?_getD, List.getD_eq_getElem?_getD, List.getElem?_map]
  rw [List.getElem?_eq_getElem hj]
  rfl
def putRow (xs : Array Value) : Obj → Obj
  | .cells _ t frozen => .cells xs t frozen
  | o => o
noncomputable def laidWorld (os : Os) : World :=
  { World.holding Tryz.prog os ⟨#[], #[], []⟩ with heap := ((((World.holding Tryz.prog os ⟨#[], #[], []⟩).heap.modify 1 (putRow #[.int .u8 0, .int .u8 1, .int .u8 28, .int .u8 2, .int .u8 29, .int .u8 14, .int .u8 24, .int .u8 3, .int .u8 30, .int .u8 22, .int .u8 20, .int .u8 15, .int .u8 25, .int .u8 17, .int .u8 4, .int .u8 8, .int .u8 31, .int .u8 27, .int .u8 13, .int .u8 23, .int .u8 21, .int .u8 19, .int .u8 16, .int .u8 7, .int .u8 26, .int .u8 12, .int .u8 18, .int .u8 6, .int .u8 11, .int .u8 5, .int .u8 10, .int .u8 9])).modify 2 (putRow #[.int .u8 0, .int .u8 1, .int .u8 56, .int .u8 2, .int .u8 57, .int .u8 49, .int .u8 28, .int .u8 3, .int .u8 61, .int .u8 58, .int .u8 42, .int .u8 50, .int .u8 38, .int .u8 29, .int .u8 17, .int .u8 4, .int .u8 62, .int .u8 47, .int .u8 59, .int .u8 36, .int .u8 45, .int .u8 43, .int .u8 51, .int .u8 22, .int .u8 53, .int .u8 39, .int .u8 33, .int .u8 30, .int .u8 24, .int .u8 18, .int .u8 12, .int .u8 5, .int .u8 63, .int .u8 55, .int .u8 48, .int .u8 27, .int .u8 60, .int .u8 41, .int .u8 37, .int .u8 16, .int .u8 46, .int .u8 35, .int .u8 44, .int .u8 21, .int .u8 52, .int .u8 32, .int .u8 23, .int .u8 11, .int .u8 54, .int .u8 26, .int .u8 40, .int .u8 15, .int .u8 34, .int .u8 20, .int .u8 31, .int .u8 10, .int .u8 25, .int .u8 14, .int .u8 19, .int .u8 9, .int .u8 13, .int .u8 8, .int .u8 7, .int .u8 6])).modify 3 (putRow (Go.Pinned.utf8FirstZ.map fun n : Nat => Value.int .u8 (n : Int)).toArray)).modify 4 (putRow #[.int .u8 128, .int .u8 191, .int .u8 160, .int .u8 191, .int .u8 128, .int .u8 159, .int .u8 144, .int .u8 191, .int .u8 128, .int .u8 143, .int .u8 0, .int .u8 0, .int .u8 0, .int .u8 0, .int .u8 0, .int .u8 0, .int .u8 0, .int .u8 0, .int .u8 0, .int .u8 0, .int .u8 0, .int .u8 0, .int .u8 0, .int .u8 0, .int .u8 0, .int .u8 0, .int .u8 0, .int .u8 0, .int .u8 0, .int .u8 0, .int .u8 0, .int .u8 0]) }
end Go.Proofs.YtlccihidedfemaaGreatDoor
set_option linter.unusedVariables false
namespace Go.Proofs.YtlccihidedfemaaGreatDoor
open Go.RowKit Go.Sort
attribute [local go_sem] Oper.semAt_some
set_option maxRecDepth 100000 in
set_option maxHeartbeats 2000000 in
theorem oEqual_any (v1 v2 : Value) (L M : List Ob) (w : World) (h1 : IsObs w v1 L) (h2 : IsObs w v2 M) :
    Calls Tryz.prog 35 #[v1, v2] w fun e w' => e = .returned (.bool (sameO L M)) ∧ Below w.heap.size w w' := by
  obtain ⟨hm1, a1, cap1, rfl, _, hc1⟩ := h1
  obtain ⟨hm2, a2, cap2, rfl, _, hc2⟩ := h2
  have hmm1 : L.length ≤ 9223372036854775807 := by unfold maxLen at hm1; omega
  have hmm2 : M.length ≤ 9223372036854775807 := by unfold maxLen at hm2; omega
  have H1 := Lib.hid hc1; have H2 := Lib.hid hc2
  clear hc1 hm1 hc2 hm2
  have hne' : ∀ (x y : Ob) (w : World), Sem.run Tryz.prog (binOp .neq 33 (obV x) (obV y)) w = .ok (.bool (!eqO x y)) w := fun x y w => neqO x y w
  have hgd' : ∀ (op : BinOp) (a b : Operand) (x y : Ob) (w : World), Sem.run Tryz.prog (eqGuard op 33 a b (obV x) (obV y)) w = .ok () w := fun op a b x y w => guardO op a b x y w
  by_cases hl : L.length = M.length
  · have hll : ((L.length : Int) == (M.length : Int)) = true := beq_iff_eq.2 (by omega)
    have HL := Lib.hid hl
    clear hl
    go_enter Tryz.func35, Tryz.ntmps35
    go_wp2
    go_loopw [13] (fun i wr => ∃ k m : Nat, k ≤ L.length ∧ i = .int .i64 k ∧ L.take k = M.take k ∧ wr = w.drewN m) (fun i _ => L.length - (intOf i).toNat)
    case atStart => exact ⟨0, 0, Nat.zero_le _, rfl, rfl, rfl⟩
    case round =>
      obtain ⟨k, m, hk, rfl, he, rfl⟩ := hrel
      have HE := Lib.hid he; clear he
      by_cases hlt : k < L.length
      · have hlt2 : k < M.length := by have := HL.out; omega
        obtain ⟨b1, o1, rfl, _, g1⟩ := H1.out (by omega)
        obtain ⟨b2, o2, rfl, _, g2⟩ := H2.out (by omega)
        obtain ⟨c0, c1⟩ := g1 k hlt
        obtain ⟨d0, d1⟩ := g2 k hlt2
        clear g1 g2
        have hbk : decide ((k : Int) < (L.length : Int)) = true := by simpa using (show (k : Int) < L.length by omega)
        have hbk2 : decide ((k : Int) < (M.length : Int)) = true := by simpa using (show (k : Int) < M.length by omega)
        have HT := Lib.hid (takeO_same hlt hlt2 HE.out)
        have HG := Lib.hid (show L[k] ≠ M[k] → L ≠ M from fun h e => h (by subst e; rfl))
        obtain ⟨x, hx⟩ : ∃ x, x = L[k] := ⟨_, rfl⟩
        obtain ⟨y, hy⟩ : ∃ y, y = M[k] := ⟨_, rfl⟩
        rw [← hx] at c0 c1 HT HG
        rw [← hy] at d0 d1 HT HG
        clear hx hy
        by_cases hxy : x = y
        · have q := eqO_yes hxy
          have HT2 := Lib.hid (HT.out hxy)
          clear hxy
          go_wp2_with fail
          go_quiet (fail)
          go_wp2
          go_roundw
          case rel => exact ⟨k + 1, m + nq, by omega, by go_num, HT2.out, by simp [World.drewN]⟩
          case measure => simp [intOf]; omega
        · have q := eqO_no hxy
          have HN := Lib.hid (sameO_no (HG.out hxy))
          clear hxy
          go_wp2_with fail
          go_quiet (fail)
          go_wp2
          go_ret
          exact ⟨by rw [HN.out]; rfl, below_drewN (below_drewN (Below.refl _ _) _) _⟩
      · have hk' : k = L.length := by omega
        have HS : Hid (sameO L M = true) := sameO_yes (by have := HE.out; rwa [hk', List.take_length, HL.out, List.take_length] at this)
        clear hk'
        go_wp2
        go_ret
        exact ⟨by rw [HS.out]; rfl, below_drewN (Below.refl _ _) _⟩
  · have hll : ((L.length : Int) == (M.length : Int)) = false := beq_eq_false_iff_ne.2 (by omega)
    have HN := Lib.hid (sameO_no (show L ≠ M from fun e => hl (by rw [e])))
    clear hl
    go_enter Tryz.func35, Tryz.ntmps35
    go_wp2
    go_ret
    exact ⟨by rw [HN.out]; rfl, Below.refl _ _⟩
theorem cells_of_obs {w : World} {b off : Nat} {L : List Ob} (h : ∀ i (h : i < L.length), ObAt w b (off + i * 2) L[i]) : ∀ j u, (obCells L)[j]? = some u → w.cell? ⟨b, off + j, none⟩ = some u := by
  intro j u hu
  have hj : j < L.length * 2 := by
    have := (List.getElem?_eq_some_iff.1 hu).1
    rwa [obCells_len] at this
  obtain ⟨i, r, rfl, hr⟩ : ∃ i r, j = i * 2 + r ∧ r < 2 := ⟨j / 2, j % 2, by omega, by omega⟩
  have hi : i < L.length := by omega
  rw [obCells_get hi hr] at hu
  obtain ⟨c0, c1⟩ := h i hi
  match r, hr, hu with
  | 0, _, hu => simp at hu; subst hu; exact c0
  | 1, _, hu => simp at hu; subst hu; rw [← Nat.add_assoc]; exact c1
set_option maxRecDepth 100000 in
set_option maxHeartbeats 2000000 in
theorem oClone_any (v : Value) (L : List Ob) (w : World) (h : IsObs w v L) (h3 : L.length ≤ 1000000) :
    Calls Tryz.prog 37 #[v] w fun e w' => ∃ v', e = .returned v' ∧ OwnO w.heap.size w' v' L ∧ Below w.heap.size w w' := by
  obtain ⟨hm, a, cap, rfl, ⟨hn, _⟩, hc⟩ := h
  have q22 : ∀ (w : World) (a : Option Addr) (n c n' c' : Nat), (binOp .eql 27 (.slice a n c) (.slice none n' c')).run Tryz.prog w = .ok (.bool a.isNone) w := fun w a n c n' c' => Lib.run_eql_slice_nil w _ _ a n c n' c' Tryz.underlying27
  cases a with
  | none =>
    obtain ⟨rfl, rfl⟩ := hn rfl
    go_enter Tryz.func37, Tryz.ntmps37
    go_wp2
    go_ret
    exact ⟨_, rfl, obs_own_nil _ _, Below.refl _ _⟩
  | some ad =>
    have A : Hid (∀ j u, (obCells L)[j]? = some u → w.cell? (ad.add j) = some u) := show ∀ j u, _ from fun j u hu => by
      have h0 : 0 < L.length := by
        rcases Nat.eq_zero_or_pos L.length with e | e
        · have := (List.getElem?_eq_some_iff.1 hu).1
          rw [obCells_len, e] at this; omega
        · exact e
      obtain ⟨b, off, e, _, g⟩ := hc h0
      cases e
      rw [add_plain']; exact cells_of_obs g j u hu
    obtain ⟨i0, hi, hz0, hz1, hz2⟩ := info_parts infoObject
    clear hc hn
    have HL := Lib.hid (obCells_len L)
    go_enter Tryz.func37, Tryz.ntmps37
    go_wp2_with (at_builtin; refine wpList_append_own _ rfl _ _ 27 rfl w.heap.size 33 i0 (obV zeroOb) 2 32 Tryz.underlying27 hi hz0 hz1 hz2 rfl (by decide) _ _ _ rfl (World.ownsRow_made w #[] 0 (Nat.le_refl _) (Nat.zero_le _) (by simp)) ad L.length cap (obCells L) rfl ?qc1 ?qc2 ?qc3 ?qc4 ?qc5 ?qc6 ?_)
    case qc1 => exact HL.out
    case qc2 => intro j u hj; exact Lib.cell?_alloc_some _ (A.out j u hj)
    case qc3 => exact fun u hu => obCells_one hu
    case qc4 => rw [Nat.zero_add]; exact hm
    case qc5 => rw [Nat.zero_add]; omega
    case qc6 => simp
    intro v' w1 hown hgrow _
    have HO : Hid (OwnO w.heap.size w1 v' L) := show World.ownsRow _ _ _ _ _ _ _ by simpa using hown
    clear hown
    go_wp2
    go_ret
    exact ⟨_, rfl, HO.out, ((Below.refl _ w).alloc (Nat.le_refl _) _).grown hgrow (by simp) (by intro k hk; simp [Value.ownBlock] at hk; omega)⟩
theorem pSameO_any (v1 v2 : Value) (L M : List Ob) (w : World) (h1 : IsObs w v1 L) (h2 : IsObs w v2 M) :
    Calls Tryz.prog 17 #[v1, v2] w fun e w' => e = .returned (.bool (sameO L M)) ∧ Below w.heap.size w w' := by
  have C := Lib.hid (oEqual_any v1 v2 L M w h1 h2)
  go_enter Tryz.func17, Tryz.ntmps17
  go_wp2_with fail
  refine C.out.mono ?_
  rintro e w1 ⟨rfl, hb⟩
  go_wp2
  go_ret
  exact ⟨rfl, hb⟩
theorem isKeyD_any (s : ByteArray) (w : World) :
    Calls Tryz.prog 34 #[.string s] w fun e w' => e = .returned (.bool ((s.size : Int) == 32)) ∧ w = w' := by
  go_enter Tryz.func34, Tryz.ntmps34
  go_wp2
  go_ret
  exact ⟨rfl, rfl⟩
theorem place1_any (x : Ob) (s : ByteArray) (w : World) :
    Calls Tryz.prog 65 #[obV x, .string s] w fun e w' => e = .returned (.int .i64 (ordB x.t s.data.toList)) ∧ Below w.heap.size w w' := by
  have C := Lib.hid (strCompare_any x.k s)
  rw [show x.k.data.toList = x.t from rfl] at C
  have hb0 := (Below.refl w.heap.size w).alloc (Nat.le_refl _) (.cells #[.string x.k, .string x.r] 33)
  go_enter Tryz.func65, Tryz.ntmps65
  go_wp2_with fail
  refine (C.out _).mono ?_
  rintro e w1 ⟨rfl, rfl⟩
  go_wp2
  go_ret
  exact ⟨rfl, hb0⟩
def cntO (L : List Ob) (t : List UInt8) : Nat := (L.takeWhile fun y => decide (y.t < t)).length
theorem cntO_le (L : List Ob) (t : List UInt8) : cntO L t ≤ L.length := by
  unfold cntO
  exact (List.takeWhile_sublist _).length_le
theorem cntO_cons (x : Ob) (L : List Ob) (t : List UInt8) : cntO (x :: L) t = if x.t < t then cntO L t + 1 else 0 := by
  unfold cntO
  by_cases h : x.t < t
  · simp [h]
  · simp [h]
theorem cntO_at : ∀ {L : List Ob}, RiseO L → ∀ (t : List UInt8) (i : Nat) (h : i < L.length), L[i].t < t ↔ i < cntO L t
  | [], _, _, i, h => absurd h (by simp)
  | x :: L, hr, t, i, h => by
    obtain ⟨h1, h2⟩ := List.pairwise_cons.1 hr
    rw [cntO_cons]
    cases i with
    | zero =>
      by_cases hx : x.t < t
      · simp [hx]
      · simp [hx]
    | succ i =>
      have hi : i < L.length := by simpa using h
      have ih := cntO_at h2 t i hi
      show L[i].t < t ↔ _
      by_cases hx : x.t < t
      · rw [if_pos hx, ih]; omega
      · rw [if_neg hx]
        exact ⟨fun e => absurd (l_trans (h1 _ (List.getElem_mem hi)) e) hx, fun e => absurd e (by omega)⟩
theorem getO_at {L : List Ob} (hr : RiseO L) (t : List UInt8) : (∃ h : cntO L t < L.length, L[cntO L t].t = t ∧ getO L t = some L[cntO L t]) ∨ (getO L t = none ∧ ∀ h : cntO L t < L.length, L[cntO L t].t ≠ t ∧ ¬ L[cntO L t].t < t) := by
  by_cases h : cntO L t < L.length
  · have h1 : ¬ L[cntO L t].t < t := fun e => by have := (cntO_at hr t _ h).1 e; omega
    by_cases h2 : L[cntO L t].t = t
    · exact .inl ⟨h, h2, (getO_some hr).2 ⟨List.getElem_mem h, h2⟩⟩
    · refine .inr ⟨getO_none.2 fun x hx e => ?_, fun _ => ⟨h2, h1⟩⟩
      obtain ⟨i, hi, ex⟩ := List.getElem_of_mem hx
      subst ex
      rcases Nat.lt_trichotomy i (cntO L t) with c | c | c
      · have := (cntO_at hr t i hi).2 c
        rw [e] at this; exact l_irrefl _ this
      · subst c; exact h2 e
      · have := List.pairwise_iff_getElem.1 hr _ _ h hi c
        rw [e] at this; exact h1 this
  · refine .inr ⟨getO_none.2 fun x hx e => ?_, fun h' => absurd h' h⟩
    obtain ⟨i, hi, ex⟩ := List.getElem_of_mem hx
    subst ex
    have := (cntO_at hr t i hi).2 (by omega)
    rw [e] at this; exact l_irrefl _ this
theorem insO_cnt : ∀ {L : List Ob} {x : Ob}, getO L x.t = none → insO L x = L.take (cntO L x.t) ++ x :: L.drop (cntO L x.t)
  | [], x, _ => rfl
  | y :: L, x, h => by
    have h0 : y.t ≠ x.t := getO_none.1 h y (by simp)
    have h1 : getO L x.t = none := getO_none.2 fun z hz => getO_none.1 h z (List.mem_cons_of_mem _ hz)
    rw [insO_cons, cntO_cons]
    by_cases hx : x.t < y.t
    · rw [if_pos hx, if_neg (l_asym hx)]; rfl
    · have hy : y.t < x.t := by
        by_cases hy : y.t < x.t
        · exact hy
        · exact absurd (l_tri _ _ hy hx) h0
      rw [if_neg hx, if_pos hy, insO_cnt h1]; rfl
set_option maxRecDepth 100000 in
set_option maxHeartbeats 4000000 in
theorem oSearch_any (v : Value) (L : List Ob) (s : ByteArray) (w : World) (h : IsObs w v L) (hr : RiseO L) (h70 : L.length ≤ 1000000) :
    Calls Tryz.prog 64 #[v, .string s, .func (.func 65) #[] #[]] w fun e w' => e = .returned (.tuple #[.int .i64 (cntO L s.data.toList), .bool (getO L s.data.toList).isSome]) ∧ Below w.heap.size w w' := by
  have HI := Lib.hid h
  have P := Lib.hid (fun x w => place1_any x s w)
  obtain ⟨hm, a, cap, rfl, _, hc⟩ := h
  clear hc
  obtain ⟨t, ht⟩ : ∃ t, t = s.data.toList := ⟨_, rfl⟩
  rw [← ht] at P ⊢
  clear ht hm
  have HAT := Lib.hid (fun i (hi : i < L.length) => cntO_at hr t i hi)
  have HF := Lib.hid (getO_at hr t)
  have hcl := cntO_le L t
  obtain ⟨n, hn⟩ : ∃ n, n = cntO L t := ⟨_, rfl⟩
  rw [← hn] at hcl HAT ⊢
  have HF2 : Hid ((∃ h : n < L.length, L[n].t = t ∧ getO L t = some L[n]) ∨ (getO L t = none ∧ ∀ h : n < L.length, L[n].t ≠ t ∧ ¬ L[n].t < t)) := Lib.hid (by subst hn; exact HF.out)
  clear hn HF hr
  go_enter Tryz.func64, Tryz.ntmps64
  go_wp2
  go_loopw [9, 10] (fun i j wr => ∃ lo hi : Nat, i = .int .i64 lo ∧ j = .int .i64 hi ∧ lo ≤ n ∧ n ≤ hi ∧ hi ≤ L.length ∧ Below w.heap.size w wr) (fun i j _ => (intOf j).toNat - (intOf i).toNat)
  case atStart => exact ⟨0, L.length, rfl, rfl, Nat.zero_le _, hcl, Nat.le_refl _, Below.refl _ _⟩
  case round =>
    obtain ⟨lo, hi, rfl, rfl, hlo, hhi, hL, hB⟩ := hrel
    by_cases hlt : lo < hi
    · have hmid : (lo + hi) / 2 < L.length := by omega
      obtain ⟨_, _, _, e, _, hc⟩ := HI.out.stays hB
      cases e
      obtain ⟨b, off, rfl, _, g⟩ := hc (by omega)
      obtain ⟨c0, c1⟩ := g ((lo + hi) / 2) hmid
      clear g hc
      have hat := HAT.out _ hmid
      obtain ⟨x, hx⟩ : ∃ x, x = L[(lo + hi) / 2] := ⟨_, rfl⟩
      rw [← hx] at c0 c1 hat
      clear hx
      have P1 := Lib.hid (P.out x)
      by_cases ho : x.t < t
      · have hm := hat.1 ho
        rw [ordB_lt ho] at P1
        clear ho hat
        go_wp2_with fail
        refine (P1.out _).mono ?_
        rintro e w1 ⟨rfl, hb⟩
        have hB1 := below_step hB hb
        clear hb
        go_wp2
        go_roundw
        case rel => exact ⟨(lo + hi) / 2 + 1, hi, by go_num, rfl, by omega, hhi, hL, hB1⟩
        case measure => simp [intOf]; omega
      · have hm : n ≤ (lo + hi) / 2 := by
          rcases Nat.lt_or_ge ((lo + hi) / 2) n with e | e
          · exact absurd (hat.2 e) ho
          · exact e
        obtain ⟨o, hoo⟩ : ∃ o, o = ordB x.t t := ⟨_, rfl⟩
        have h0 : decide (o < 0) = false := by rw [hoo, ordB_neg]; exact decide_eq_false ho
        rw [← hoo] at P1
        clear ho hat hoo
        go_wp2_with fail
        refine (P1.out _).mono ?_
        rintro e w1 ⟨rfl, hb⟩
        have hB1 := below_step hB hb
        clear hb
        go_wp2
        go_roundw
        case rel => exact ⟨lo, (lo + hi) / 2, rfl, by go_num, hlo, hm, by omega, hB1⟩
        case measure => simp [intOf]; omega
    · obtain rfl : lo = n := by omega
      have hnlh : ¬ lo < hi := hlt
      clear hlt hlo hhi
      by_cases hlt : lo < L.length
      · have hbk : decide ((lo : Int) < (L.length : Int)) = true := decide_eq_true (by omega)
        obtain ⟨_, _, _, e, _, hc⟩ := HI.out.stays hB
        cases e
        obtain ⟨b, off, rfl, _, g⟩ := hc (by omega)
        obtain ⟨c0, c1⟩ := g lo hlt
        clear g hc
        have hF := HF2.out
        obtain ⟨x, hx⟩ : ∃ x, x = L[lo] := ⟨_, rfl⟩
        have hF' : (x.t = t ∧ getO L t = some x) ∨ (getO L t = none ∧ x.t ≠ t) := by
          rcases hF with ⟨h, h1, h2⟩ | ⟨h1, h2⟩
          · exact .inl ⟨by rw [hx]; exact h1, by rw [hx]; exact h2⟩
          · exact .inr ⟨h1, by rw [hx]; exact (h2 hlt).1⟩
        rw [← hx] at c0 c1
        clear hx hF
        have P1 := Lib.hid (P.out x)
        rcases hF' with ⟨h1, h2⟩ | ⟨h1, h2⟩
        · have HV : Hid ((getO L t).isSome = true) := Lib.hid (by rw [h2]; rfl)
          rw [show ordB x.t t = 0 by rw [h1]; unfold ordB; simp [l_irrefl]] at P1
          clear h1 h2
          go_wp2_with fail
          refine (P1.out _).mono ?_
          rintro e w1 ⟨rfl, hb⟩
          have hB1 := below_step hB hb
          clear hb
          go_wp2
          go_ret2
          exact ⟨by rw [HV.out]; rfl, hB1⟩
        · have HV : Hid ((getO L t).isSome = false) := Lib.hid (by rw [h1]; rfl)
          obtain ⟨o, hoo⟩ : ∃ o, o = ordB x.t t := ⟨_, rfl⟩
          have ho : (o == 0) = false := beq_eq_false_iff_ne.2 (by
            rw [hoo]; unfold ordB
            by_cases c : x.t < t
            · rw [if_pos c]; decide
            · rw [if_neg c]
              by_cases c2 : t < x.t
              · rw [if_pos c2]; decide
              · exact absurd (l_tri _ _ c c2) h2)
          rw [← hoo] at P1
          clear h1 h2 hoo
          go_wp2_with fail
          refine (P1.out _).mono ?_
          rintro e w1 ⟨rfl, hb⟩
          have hB1 := below_step hB hb
          clear hb
          go_wp2
          go_ret2
          exact ⟨by rw [HV.out]; rfl, hB1⟩
      · have hbk : decide ((lo : Int) < (L.length : Int)) = false := decide_eq_false (by omega)
        have HV : Hid ((getO L t).isSome = false) := Lib.hid (by
          rcases HF2.out with ⟨h, _⟩ | ⟨h1, _⟩
          · exact absurd h hlt
          · rw [h1]; rfl)
        go_wp2
        go_ret2
        exact ⟨by rw [HV.out]; rfl, hB⟩
theorem oPlace_any (v : Value) (L : List Ob) (s : ByteArray) (w : World) (h : IsObs w v L) (hr : RiseO L) (h70 : L.length ≤ 1000000) :
    Calls Tryz.prog 36 #[v, .string s] w fun e w' => e = .returned (.tuple #[.int .i64 (cntO L s.data.toList), .bool (getO L s.data.toList).isSome]) ∧ Below w.heap.size w w' := by
  have C := Lib.hid (oSearch_any v L s w h hr h70)
  go_enter Tryz.func36, Tryz.ntmps36
  go_wp2_with fail
  refine C.out.mono ?_
  rintro e w1 ⟨rfl, hb⟩
  go_wp2
  go_ret2
  exact ⟨rfl, hb⟩
set_option maxRecDepth 100000 in
set_option maxHeartbeats 2000000 in
theorem pGet_any (v : Value) (L : List Ob) (s : ByteArray) (w : World) (h : IsObs w v L) (hr : RiseO L) (h70 : L.length ≤ 1000000) :
    Calls Tryz.prog 18 #[v, .string s] w fun e w' => e = .returned (.tuple #[.string (gotO L s.data.toList), .bool (getO L s.data.toList).isSome]) ∧ Below w.heap.size w w' := by
  have C := Lib.hid (oPlace_any v L s w h hr h70)
  have HI := Lib.hid h
  have hF := getO_at hr s.data.toList
  obtain ⟨hm, a, cap, rfl, _, hc⟩ := h
  have hmm : L.length ≤ 9223372036854775807 := by unfold maxLen at hm; omega
  clear hc hr hm
  obtain ⟨t, ht⟩ : ∃ t, t = s.data.toList := ⟨_, rfl⟩
  rw [← ht] at C hF ⊢
  clear ht
  rcases hF with ⟨hlt, h1, h2⟩ | ⟨h1, h2⟩
  · have HV : Hid ((getO L t).isSome = true) := Lib.hid (by rw [h2]; rfl)
    have HG := Lib.hid (gotO_some h2)
    rw [HV.out] at C
    obtain ⟨n, hn⟩ : ∃ n, n = cntO L t := ⟨_, rfl⟩
    obtain ⟨x, hx⟩ : ∃ x, x = L[cntO L t] := ⟨_, rfl⟩
    have HXX : Hid (∀ h : n < L.length, L[n] = x) := Lib.hid (fun h => by rw [hx]; congr 1)
    rw [← hx] at HG
    rw [← hn] at C hlt
    clear hn hx h1 h2
    go_enter Tryz.func18, Tryz.ntmps18
    go_wp2_with fail
    refine C.out.mono ?_
    rintro e w1 ⟨rfl, hb⟩
    obtain ⟨_, _, _, e, _, hc⟩ := HI.out.stays hb
    cases e
    obtain ⟨b, off, rfl, _, g⟩ := hc (by omega)
    obtain ⟨c0, c1⟩ := g n hlt
    rw [HXX.out hlt] at c0 c1
    clear g hc
    have hnl : (n : Int) < (L.length : Int) := by omega
    go_wp2
    go_ret2
    exact ⟨by rw [HG.out, HV.out]; rfl, hb⟩
  · have HV : Hid ((getO L t).isSome = false) := Lib.hid (by rw [h1]; rfl)
    have HG := Lib.hid (gotO_none h1)
    rw [HV.out] at C
    obtain ⟨n, hn⟩ : ∃ n, n = cntO L t := ⟨_, rfl⟩
    rw [← hn] at C
    clear hn h1 h2
    go_enter Tryz.func18, Tryz.ntmps18
    go_wp2_with fail
    refine C.out.mono ?_
    rintro e w1 ⟨rfl, hb⟩
    go_wp2
    go_ret2
    exact ⟨by rw [HG.out, HV.out]; rfl, hb⟩
end Go.Proofs.YtlccihidedfemaaGreatDoor
set_option linter.unusedVariables false
namespace Go.Proofs.YtlccihidedfemaaGreatDoor
open Go.RowKit Go.Shelf
attribute [local go_sem] Oper.semAt_some
theorem cloneL_any (s : ByteArray) (hs : s.size ≤ 281474976710656) (w : World) : Calls Tryz.prog 134 #[.string s] w fun e w' => e = .returned (.string s) ∧ Below w.heap.size w w' := by
  have C := AnyPu.stringslite_Clone Tryz.lays_pu25 s w hs
  change Calls Tryz.prog 134 _ _ _ at C
  refine C.mono ?_
  rintro e w' ⟨h1, h2⟩
  exact ⟨h1, h2⟩
theorem Clone_any_Pap (s : ByteArray) (hs : s.size ≤ 281474976710656) (w : World) : Calls Tryz.prog 116 #[.string s] w fun e w' => e = .returned (.string s) ∧ Below w.heap.size w w' := by
  go_enter Tryz.func116, Tryz.ntmps116
  go_wp2_with fail
  refine (cloneL_any s hs _).mono ?_
  rintro e w1 ⟨rfl, hb⟩
  go_wp2
  go_ret
  exact ⟨rfl, hb⟩
theorem joinS_small : ∀ {L : List (List UInt8)}, (∀ p ∈ L, p.length ≤ 31) → (joinS L).length ≤ 32 * L.length
  | [], _ => Nat.zero_le _
  | [a], h => by have := h a (List.mem_cons_self ..); show a.length ≤ _; simp; omega
  | a :: b :: r, h => by
    have := joinS_small (L := b :: r) (fun p hp => h p (List.mem_cons_of_mem _ hp))
    have h1 := h a (List.mem_cons_self ..)
    show (a ++ 47 :: joinS (b :: r)).length ≤ _
    rw [List.length_append, List.length_cons]
    simp only [List.length_cons] at this ⊢
    omega
set_option maxRecDepth 100000 in
set_option maxHeartbeats 2000000 in
theorem Join_any (v : Value) (L : List ByteArray) (w : World) (hv : IsStrs w v L) :
    Calls Tryz.prog 100 #[v] w fun e w' => e = .returned (.string ⟨(joinN (txts L)).toArray⟩) ∧ Below w.heap.size w w' := by
  have HV := Lib.hid hv
  obtain ⟨hm, a, cap, rfl, _, hc⟩ := hv
  have hmm : L.length ≤ 9223372036854775807 := by unfold maxLen at hm; omega
  have HC := Lib.hid hc
  have HLEN := Lib.hid (txts_len L)
  clear hm hc
  by_cases h8 : 8 < L.length
  · have e1 : decide ((8 : Int) < (L.length : Int)) = true := decide_eq_true (by omega)
    have HN : Hid (joinN (txts L) = []) := joinN_long (by rw [HLEN.out]; exact h8)
    go_enter Tryz.func100, Tryz.ntmps100
    go_wp2
    go_ret
    exact ⟨by rw [HN.out]; rfl, Below.refl _ _⟩
  · have e1 : decide ((8 : Int) < (L.length : Int)) = false := decide_eq_false (by omega)
    have NA := Lib.hid Name_any
    go_enter Tryz.func100, Tryz.ntmps100
    go_wp2_with fail
    go_loopw [10] (fun i wr => ∃ (k : Nat), k ≤ L.length ∧ i = .int .i64 k ∧ NamesTo (txts L) k ∧ Below w.heap.size w wr) (fun i _ => L.length - (intOf i).toNat)
    case atStart => exact ⟨0, Nat.zero_le _, rfl, names_zero _, Below.refl _ _⟩
    case round =>
      obtain ⟨k, hk, rfl, hn, hb⟩ := hrel
      have HN := Lib.hid hn; clear hn
      by_cases hlt : k < L.length
      · obtain ⟨b1, o1, rfl, hbl, g1⟩ := HC.out (by omega)
        have q1 := (hb.cell (p := ⟨b1, o1 + k, none⟩) hbl).trans (g1 k hlt)
        clear g1
        have hlt2 : k < (txts L).length := by rw [HLEN.out]; exact hlt
        have hin : (txts L)[k] = L[k].data.toList := txts_get hlt
        obtain ⟨y, hy⟩ : ∃ y, y = L[k] := ⟨_, rfl⟩
        rw [← hy] at q1 hin
        have HY := Lib.hid hin; clear hin hy
        have hbk : decide ((k : Int) < (L.length : Int)) = true := by simpa using (show (k : Int) < L.length by omega)
        have R := Lib.hid (NA.out y)
        rcases hnb : nameB y.data.toList with _ | _
        · have HS : Hid (joinN (txts L) = []) := joinN_bad (List.getElem_mem hlt2) (by rw [HY.out]; exact hnb)
          rw [hnb] at R
          clear hnb
          go_wp2_with ((with_reducible refine (R.out _).mono ?_); rintro e w2 ⟨rfl, hb2⟩)
          go_ret
          exact ⟨by rw [HS.out]; rfl, hb.trans (hb2.mono hb.size)⟩
        · have HS := Lib.hid (names_step HN.out hlt2 (by rw [HY.out]; exact hnb))
          rw [hnb] at R
          clear hnb
          go_wp2_with ((with_reducible refine (R.out _).mono ?_); rintro e w2 ⟨rfl, hb2⟩)
          go_roundw
          case rel => exact ⟨k + 1, by omega, by go_num, HS.out, hb.trans (hb2.mono hb.size)⟩
          case measure => simp [intOf]; omega
      · obtain rfl : k = L.length := by omega
        have hall : (txts L).all nameB = true := names_all (by rw [HLEN.out]; exact HN.out)
        have HS : Hid (joinN (txts L) = joinS (txts L)) := joinN_small (by rw [HLEN.out]; omega) hall
        have hev : ∀ x ∈ L, 1 ≤ x.size ∧ x.size ≤ 31 := fun x hx => by
          have := nameB_iff.1 (List.all_eq_true.1 hall x.data.toList (List.mem_map.2 ⟨x, hx, rfl⟩))
          rw [← Lib.size_eq] at this; exact ⟨this.1, this.2.1⟩
        have hsz : (⟨(joinS (txts L)).toArray⟩ : ByteArray).size ≤ 281474976710656 := by
          have := joinS_small (L := txts L) (fun p hp => (nameB_iff.1 (List.all_eq_true.1 hall p hp)).2.1)
          rw [HLEN.out] at this
          show (joinS (txts L)).toArray.size ≤ _
          rw [List.size_toArray]; omega
        have J := Lib.hid (slJoin_any _ L wr (HV.out.stays hb) (by omega) hev)
        have CL := Lib.hid (Clone_any_Pap _ hsz)
        clear hall hev hsz
        go_wp2_with fail
        refine J.out.mono ?_
        rintro e w2 ⟨rfl, hb2⟩
        go_wp2_with fail
        refine (CL.out _).mono ?_
        rintro e w3 ⟨rfl, hb3⟩
        have hB := (hb.trans (hb2.mono hb.size)).trans (hb3.mono (Nat.le_trans hb.size hb2.size))
        go_wp2
        go_ret
        exact ⟨by rw [HS.out]; rfl, hB⟩
abbrev encP (x : ByteArray) : Array Value := #[.string x]
abbrev sep1 : ByteArray := ⟨#[47]⟩
theorem Index_any (x : ByteArray) (w : World) : Calls Tryz.prog 164 #[.string x, .string sep1] w fun e w' => e = .returned (.int .i64 (Lib.indexByte x.data.toList 47)) ∧ w = w' := by
  have C := Any.strings_Index_one Tryz.lays143 x 47 w
  change Calls Tryz.prog 164 _ _ _ at C
  exact C.mono fun e w' ⟨h1, h2⟩ => ⟨h1, h2.symm⟩
theorem index_parts (l : List UInt8) : (Lib.indexByte l 47 = -1 ∧ pts l = [l]) ∨ ∃ k : Nat, Lib.indexByte l 47 = k ∧ k < l.length ∧ pts l = l.take k :: pts (l.drop (k + 1)) := by
  induction l with
  | nil => exact .inl ⟨rfl, rfl⟩
  | cons c r ih =>
    by_cases hc : c = 47
    · subst hc
      exact .inr ⟨0, by simp [Lib.indexByte], by simp, by rw [pts_slash]; rfl⟩
    · have hb : (c == 47) = false := beq_eq_false_iff_ne.2 hc
      obtain ⟨h, t, e⟩ := List.exists_cons_of_ne_nil (pts_ne r)
      rcases ih with ⟨h1, h2⟩ | ⟨k, h1, h2, h3⟩
      · refine .inl ⟨?_, pts_other hc h2⟩
        simp only [Lib.indexByte, hb]
        rw [if_neg (by decide), h1]; rfl
      · refine .inr ⟨k + 1, ?_, by simp; omega, ?_⟩
        · simp only [Lib.indexByte, hb]
          rw [if_neg (by decide), h1, if_neg (by simp)]
          simp
        · rw [pts_other hc h3]; rfl
theorem pts_len (l : List UInt8) : (pts l).length ≤ l.length + 1 ∧ 1 ≤ (pts l).length := by
  refine ⟨?_, List.length_pos_iff.2 (pts_ne l)⟩
  induction l with
  | nil => simp [pts]
  | cons c r ih =>
    by_cases hc : c = 47
    · subst hc; rw [pts_slash]; simp; exact ih
    · obtain ⟨h, t, e⟩ := List.exists_cons_of_ne_nil (pts_ne r)
      rw [pts_other hc e]; rw [e] at ih; simp at ih ⊢; omega
def seqW (s : ByteArray) (w : World) : World := ((w.alloc (.cells #[.string s] 9)).alloc (.cells #[.string sep1] 9)).alloc (.cells #[.int .i64 0] 3)
abbrev seqV (n : Nat) : Value := .func (.func 162) #[] #[.pointer (some ⟨n + 1, 0, none⟩), .pointer (some ⟨n, 0, none⟩), .pointer (some ⟨n + 2, 0, none⟩)]
set_option maxRecDepth 100000 in
theorem splitSeq_any (s : ByteArray) (w : World) : Calls Tryz.prog 150 #[.string s, .string sep1, .int .i64 0] w fun e w' => e = .returned (seqV w.heap.size) ∧ seqW s w = w' := by
  go_enter Tryz.func150, Tryz.ntmps150
  go_wp2
  go_ret
  exact ⟨rfl, rfl⟩
set_option maxRecDepth 100000 in
theorem SplitSeq_any (s : ByteArray) (w : World) : Calls Tryz.prog 133 #[.string s, .string sep1] w fun e w' => e = .returned (seqV w.heap.size) ∧ seqW s w = w' := by
  have C := Lib.hid (splitSeq_any s)
  go_enter Tryz.func133, Tryz.ntmps133
  go_wp2_with fail
  refine (C.out _).mono ?_
  rintro e w1 ⟨rfl, rfl⟩
  go_wp2
  go_ret
  exact ⟨rfl, rfl⟩
theorem seqW_rows (s : ByteArray) (w : World) : Row (seqW s w) w.heap.size #[.string s] 9 ∧ Row (seqW s w) (w.heap.size + 1) #[.string sep1] 9 ∧ Row (seqW s w) (w.heap.size + 2) #[.int .i64 0] 3 ∧ Below w.heap.size w (seqW s w) ∧ (seqW s w).heap.size = w.heap.size + 3 := by
  unfold seqW
  refine ⟨?_, ?_, ?_, ?_, by simp⟩
  · exact ((Row.made w #[.string s] 9).alloc _).alloc _
  · have := (Row.made (w.alloc (.cells #[.string s] 9)) #[.string sep1] 9).alloc (.cells #[.int .i64 0] 3)
    simpa using this
  · have := Row.made ((w.alloc (.cells #[.string s] 9)).alloc (.cells #[.string sep1] 9)) #[.int .i64 0] 3
    simpa using this
  · exact ((((Below.refl _ _).alloc (Nat.le_refl _) _).alloc (by simp) _).alloc (by simp; omega) _)
def leftN (W : World) (B : Nat) : Nat := match W.cell? ⟨B, 0, none⟩ with
  | some (.string x) => x.size
  | _ => 0
theorem leftN_row {W : World} {B : Nat} {x : ByteArray} {T : TypeId} (h : Row W B #[.string x] T) : leftN W B = x.size := by
  unfold leftN; rw [h.cell 0]; rfl
def sepA (B : Nat) (_ b : Nat) : Prop := b = B ∨ b = B + 1 ∨ b = B + 2
theorem keeps_row {A : Nat → Prop} {X Y : World} (h : KeepsAt A X Y) {k : Nat} {xs : Array Value} {t : TypeId} (hR : Row X k xs t) (hk : A k) : Row Y k xs t := (h k hk).trans hR
def Began (l : List UInt8) (pre : List ByteArray) (x : ByteArray) : Prop := txts pre ++ pts x.data.toList = pts l ∧ x.size ≤ l.length
theorem began_len {l : List UInt8} {pre : List ByteArray} {x : ByteArray} (h : Began l pre x) : pre.length < l.length + 1 := by
  have h1 := congrArg List.length h.1
  rw [List.length_append, txts_len] at h1
  have := pts_len l; have := pts_len x.data.toList; omega
set_option maxHeartbeats 4000000 in
set_option maxRecDepth 100000 in
theorem seq_own (n : Nat) (hn : 1 ≤ n) (stops : Prop) (B : Nat) (s : ByteArray) (hs : s.size ≤ 1000000) (w : World)
    (h1 : Row w B #[.string s] 9) (h2 : Row w (B + 1) #[.string sep1] 9) (h3 : Row w (B + 2) #[.int .i64 0] 3) :
    SeqOwn Fence.wide n Tryz.prog 162 #[.pointer (some ⟨B + 1, 0, none⟩), .pointer (some ⟨B, 0, none⟩), .pointer (some ⟨B + 2, 0, none⟩)] encP (sepA B) 0 stops
      (fun xs => txts xs = pts s.data.toList) (fun pre => ∃ rest, txts pre ++ rest = pts s.data.toList) (s.data.toList.length + 1) w := fun l J Jx W hW hst hJ hJx hY h0 => by
  have hro : Fence.wide.round = none := rfl
  have IX := Lib.hid Index_any
  refine callsIn_of_wp Tryz.func162 rfl trivial ?_ hro
  simp only [Tryz.ntmps162, List.size_toArray, List.length_cons, List.length_nil, Nat.reduceAdd, Nat.reduceSub, Array.replicate_succ, Array.replicate_zero, List.push_toArray, List.append_toArray, List.nil_append, List.cons_append]
  have r1 := h1.step hW; have r2 := h2.step hW; have r3 := h3.step hW
  have c2 := r2.cell 0
  simp only [List.getElem?_toArray, List.getElem?_cons_zero] at c2
  gi_wp2
  gi_loopw [7, 8] (fun _ _ wr => ∃ (pre : List ByteArray) (x : ByteArray), Began s.data.toList pre x ∧ J pre wr ∧ Row wr B #[.string x] 9 ∧ Row wr (B + 1) #[.string sep1] 9 ∧ Row wr (B + 2) #[.int .i64 0] 3)
    (fun _ _ wr => leftN wr B)
  case atStart => exact ⟨[], s, ⟨rfl, by rw [Lib.size_eq]; exact Nat.le_refl _⟩, h0, r1, r2, r3⟩
  case round =>
    obtain ⟨pre, x, hC, hj, g1, g2, g3⟩ := hrel
    clear r1 r2 r3 c2 h1 h2 h3
    have hless := began_len hC
    have hxs := hC.2
    rw [← Lib.size_eq] at hxs
    have HC := Lib.hid hC
    have p1 := g1.cell 0; have p2 := g2.cell 0; have p3 := g3.cell 0; have f1 := g1.free 0
    simp only [List.getElem?_toArray, List.getElem?_cons_zero] at p1 p2 p3
    have G1 := Lib.hid g1; have G2 := Lib.hid g2; have G3 := Lib.hid g3
    clear hC g1 g2 g3
    rcases index_parts x.data.toList with ⟨hi, hp⟩ | ⟨k, hi, hk, hp⟩
    · have I1 := Lib.hid (IX.out x)
      rw [hi] at I1
      obtain ⟨fn, tmps, assign, body, hy, hRd⟩ := hY pre x _ hj hless (fun h => absurd h (by decide))
      simp only [encP] at hy
      have HFIN : Hid (txts (pre ++ [x]) = pts s.data.toList) := by
        show _ = _
        rw [← HC.out.1, hp]; simp [txts]
      clear hY hi hp
      gi_wp2_with (refine ⟨trivial, ?_⟩; gi_at_call 164; refine (callsIn_wide.2 (I1.out _)).mono ?_; rintro e w1 ⟨rfl, rfl⟩)
      refine hRd.mono ?_
      rintro e W3 (⟨rfl, hJ3, _⟩ | ⟨rfl, hJ3⟩)
      · gi_wp2
        go_end0
        exact ⟨⟨_, rfl⟩, .inl ⟨_, HFIN.out, hJ3⟩⟩
      · gi_wp2
        go_end0
        exact ⟨⟨_, rfl⟩, .inr ⟨_, ⟨[], by rw [List.append_nil]; exact HFIN.out⟩, hJ3⟩⟩
    · have I1 := Lib.hid (IX.out x)
      rw [hi] at I1
      rw [← Lib.size_eq] at hk
      have hd1 := fun W => run_slice_to (P := Tryz.prog) Tryz.underlying9 x k (by omega) W
      have hx1 := Lib.extract_data x 0 k
      have hx2 := Lib.extract_to_end x (k + 1)
      have hys : (x.extract (k + 1) x.size).size = x.size - (k + 1) := by rw [ByteArray.size_extract]; omega
      obtain ⟨t, ht⟩ : ∃ t, t = x.extract 0 k := ⟨_, rfl⟩
      obtain ⟨y, hyy⟩ : ∃ y, y = x.extract (k + 1) x.size := ⟨_, rfl⟩
      rw [← ht] at hd1 hx1
      rw [← hyy] at hx2 hys
      have HYY := Lib.hid hyy
      have HB : Hid (Began s.data.toList (pre ++ [t]) y) := by
        refine ⟨?_, by rw [← Lib.size_eq]; omega⟩
        rw [← HC.out.1, hp, hx2]; simp [txts, hx1]
      have HLT : Hid (y.size < x.size) := by show _ < _; omega
      have hneg : ¬ (k : Int) < 0 := by omega
      obtain ⟨fn, tmps, assign, body, hy, hRd⟩ := hY pre t _ hj hless (fun h => absurd h (by decide))
      simp only [encP] at hy
      clear hY hi hp ht hyy hx1 hx2 hys
      gi_wp2_with (refine ⟨trivial, ?_⟩; gi_at_call 164; refine (callsIn_wide.2 (I1.out _)).mono ?_; rintro e w1 ⟨rfl, rfl⟩)
      refine hRd.mono ?_
      rintro e W3 (⟨rfl, hJ3, hk3⟩ | ⟨rfl, hJ3⟩)
      · have r1 := keeps_row hk3 G1.out (.inl rfl); have r2 := keeps_row hk3 G2.out (.inr (.inl rfl)); have r3 := keeps_row hk3 G3.out (.inr (.inr rfl))
        have p1 := r1.cell 0; have p2 := r2.cell 0; have p3 := r3.cell 0; have f1 := r1.free 0
        simp only [List.getElem?_toArray, List.getElem?_cons_zero] at p1 p2 p3
        have R1 := Lib.hid r1; have R2 := Lib.hid r2; have R3 := Lib.hid r3
        clear r1 r2 r3 hk3
        gi_wp2
        rw [← HYY.out]
        have q1 : Row (W3.setCell ⟨B, 0, none⟩ (.string y)) B #[.string y] 9 := R1.out.set 0 _
        go_roundw
        case rel => exact ⟨_, y, HB.out, hJ _ B _ _ (.inl rfl) hJ3 (grownBy_setCell' _ _ _), q1, R2.out.other _ _ (by show B + 1 ≠ B; omega), R3.out.other _ _ (by show B + 2 ≠ B; omega)⟩
        case measure => rw [leftN_row q1, leftN_row G1.out]; exact HLT.out
      · gi_wp2
        refine bodyPost_ret (results_none rfl _ _ _) rfl ?_
        have HB1 := HB.out.1
        exact ⟨⟨_, rfl⟩, .inr ⟨_, ⟨_, HB1⟩, hJ3⟩⟩
theorem room_of_none {F : Fence} (hd : F.depth = none) (k : Nat) : F.room k := fun d h => by rw [hd] at h; cases h
theorem RoundIn.anyDepth {F : Fence} (hd : F.depth = none) {m m' : Nat} {P : Program} {l : Nat} {f : FuncId} {tmps : Array Value} {assign body : Code} {w : World} {R : Ending → World → Prop}
    (h : RoundIn F m P l f tmps assign body w R) : RoundIn F m' P l f tmps assign body w R := ⟨h.1, fun c cs _ => h.2 c cs (room_of_none hd _)⟩
theorem RoundIn.inRound {F : Fence} {m : Nat} {P : Program} {l : Nat} {f : FuncId} {tmps : Array Value} {assign body : Code} {w : World} {R : Ending → World → Prop} (l' : Nat)
    (h : RoundIn F m P l f tmps assign body w R) : RoundIn (F.inRound l') m P l f tmps assign body w R := h
theorem grown_some {W W' : World} {B : Nat} (h : Below W.heap.size W W') : W.grownBy W' (some B) := ⟨h.os, h.tape, h.output, h.size, fun k hk _ => h.block k hk⟩
def winA (n b : Nat) : Prop := n ≤ b ∧ b < n + 6
def AllN (L : List ByteArray) : Prop := ∀ p ∈ L, nameB p.data.toList = true
theorem takeWhile_app {p : List UInt8 → Bool} {A : List (List UInt8)} {x : List UInt8} {R : List (List UInt8)} (hA : ∀ a ∈ A, p a = true) (hx : p x = false) : (A ++ x :: R).takeWhile p = A := by
  induction A with
  | nil => rw [List.nil_append, List.takeWhile_cons, hx]; rfl
  | cons a A ih =>
    rw [List.cons_append, List.takeWhile_cons, hA a (List.mem_cons_self ..), if_pos rfl, ih (fun b hb => hA b (List.mem_cons_of_mem _ hb))]
theorem first_all {l : List UInt8} {L : List ByteArray} (h : AllN L) (e : txts L = pts l) : txts L = firstN l := by
  unfold firstN; rw [← e, takeWhile_all]
  exact List.all_eq_true.2 fun p hp => by obtain ⟨q, hq, rfl⟩ := List.mem_map.1 hp; exact h q hq
theorem first_some {l : List UInt8} {L : List ByteArray} {x : ByteArray} {R : List (List UInt8)} (h : AllN L) (hx : nameB x.data.toList = false) (e : txts (L ++ [x]) ++ R = pts l) : txts L = firstN l := by
  unfold firstN; rw [← e]
  rw [show txts (L ++ [x]) ++ R = txts L ++ x.data.toList :: R by simp [txts]]
  rw [takeWhile_app (fun a ha => by obtain ⟨q, hq, rfl⟩ := List.mem_map.1 ha; exact h q hq) hx]
set_option maxRecDepth 100000 in
theorem names_any (s : ByteArray) (w : World) : Calls Tryz.prog 115 #[.string s] w fun e w' => e = .returned (.func (.func 132) #[] #[.pointer (some ⟨w.heap.size, 0, none⟩)]) ∧ w.alloc (.cells #[.string s] 9) = w' := by
  go_enter Tryz.func115, Tryz.ntmps115
  go_wp2
  go_ret
  exact ⟨rfl, rfl⟩
abbrev NameS := { x : ByteArray // nameB x.data.toList = true }
abbrev encN (x : NameS) : Array Value := #[.string x.1]
def vals (M : List NameS) : List ByteArray := M.map (·.1)
theorem vals_all (M : List NameS) : AllN (vals M) := fun p hp => by obtain ⟨q, _, rfl⟩ := List.mem_map.1 hp; exact q.2
theorem vals_len (M : List NameS) : (vals M).length = M.length := List.length_map ..
theorem vals_snoc (M : List NameS) (x : NameS) : vals (M ++ [x]) = vals M ++ [x.1] := by simp [vals]
def nameI (J : List NameS → World → Prop) (n l : Nat) (pre : List ByteArray) (W : World) : Prop :=
  ∃ M : List NameS, pre = vals M ∧ J M W ∧ Row W n #[.func (.yield l) #[] #[]] 65 ∧ n + 6 ≤ W.heap.size
def nameX (J : List NameS → World → Prop) (c : Code) (pre : List ByteArray) (W : World) : Prop :=
  c = .ret ∧ ∃ (M : List NameS) (x : ByteArray), pre = vals M ++ [x] ∧ nameB x.data.toList = false ∧ J M W
set_option maxHeartbeats 4000000 in
set_option maxRecDepth 100000 in
theorem names_own (n : Nat) (hn : 6 ≤ n) (Bs : Nat) (s : ByteArray) (hs : s.size ≤ 1000000) (w : World) (h1 : Row w Bs #[.string s] 9) :
    SeqOwn Fence.wide n Tryz.prog 132 #[.pointer (some ⟨Bs, 0, none⟩)] encN winA 6 False
      (fun xs => txts (vals xs) = firstN s.data.toList) (fun _ => False) (s.data.toList.length + 1) w := fun l J Jx W hW hst hJ hJx hY h0 => by
  have hro : Fence.wide.round = none := rfl
  have hn1 : 1 ≤ n := by omega
  have NA := Lib.hid Name_any
  refine callsIn_of_wp_marks Tryz.func132 rfl trivial ?_ hro
  simp only [Tryz.ntmps132, List.size_toArray, List.length_cons, List.length_nil, Nat.reduceAdd, Nat.reduceSub, Array.replicate_succ, Array.replicate_zero, List.push_toArray, List.append_toArray, List.nil_append, List.cons_append]
  have hBs := (h1.step hW).lt
  have r1 := (h1.step hW).alloc (.cells #[.func (.yield l) #[] #[]] 65)
  have c1 := r1.cell 0
  simp only [List.getElem?_toArray, List.getElem?_cons_zero] at c1
  gi_wp2_with (refine ⟨trivial, ?_⟩; gi_at_call 133; refine (callsIn_wide.2 (SplitSeq_any _ _)).mono ?_; rintro e w1 ⟨rfl, rfl⟩)
  obtain ⟨q1, q2, q3, hbV, hVs⟩ := seqW_rows s (W.alloc (.cells #[.func (.yield l) #[] #[]] 65))
  have hy0 : Row (seqW s (W.alloc (.cells #[.func (.yield l) #[] #[]] 65))) W.heap.size #[.func (.yield l) #[] #[]] 65 := (Row.made W _ _).step hbV
  have hBW : Below W.heap.size W (seqW s (W.alloc (.cells #[.func (.yield l) #[] #[]] 65))) := ((Below.refl _ W).alloc (Nat.le_refl _) _).trans (hbV.mono (by simp))
  rw [World.size_alloc] at q1 q2 q3 hVs
  obtain ⟨V, hV⟩ : ∃ V, V = seqW s (W.alloc (.cells #[.func (.yield l) #[] #[]] 65)) := ⟨_, rfl⟩
  rw [← hV] at q1 q2 q3 hVs hy0 hBW ⊢
  clear hV hbV r1 c1
  have hVs4 : V.heap.size = W.heap.size + 4 := hVs
  have inA : ∀ b, (sepA (W.heap.size + 1) (V.heap.size + 2) b ∨ b = V.heap.size ∨ b = V.heap.size + 1) → winA W.heap.size b := fun b hb => by
    rcases hb with (h | h | h) | h | h <;> (unfold winA; omega)
  have inB : ∀ b, (sepA (W.heap.size + 1) (V.heap.size + 2) b ∨ b = V.heap.size ∨ b = V.heap.size + 1) → b ≠ W.heap.size := fun b hb => by
    rcases hb with (h | h | h) | h | h <;> omega
  have HA := Lib.hid inA; have HB := Lib.hid inB; have HVS := Lib.hid hVs4
  clear inA inB hVs
  refine wpIn_rangeFunc_win hro hn1 (gf := 162) (lb := #[.pointer (some ⟨W.heap.size + 1 + 1, 0, none⟩), .pointer (some ⟨W.heap.size + 1, 0, none⟩), .pointer (some ⟨W.heap.size + 1 + 2, 0, none⟩)]) rfl trivial (enters_of Tryz.func162 (by kernel_rfl) rfl)
    (seq_own (n - 1) (by omega) True (W.heap.size + 1) s hs V q1 q2 q3) (Below.refl _ _) (fun _ => rfl)
    (fun b hb => by rcases hb with h | h | h <;> omega)
    (nameI J W.heap.size l) (nameX J)
    (fun L b X Y hb hI hg => by
      obtain ⟨M, e, hj, hr, hz⟩ := hI
      exact ⟨M, e, hJ _ b _ _ (HA.out b hb) hj hg, (hg.block _ hr.lt (fun e => HB.out b hb (by cases e; rfl))).trans hr, Nat.le_trans hz hg.size⟩)
    (fun c L b X Y hb hI hg => by
      obtain ⟨hc, M, x, e, hx, hj⟩ := hI
      exact ⟨hc, M, x, e, hx, hJ _ b _ _ (HA.out b hb) hj hg⟩)
    (fun _ _ _ _ => trivial)
    (fun o => by
      have hB2 : Below W.heap.size W ((V.alloc (.deferred (some []))).alloc (.loop o)) := (hBW.alloc (by omega) _).alloc (by simp; omega) _
      refine ⟨[], rfl, hJ _ W.heap.size _ _ ⟨Nat.le_refl _, by omega⟩ h0 (grown_some hB2), (hy0.alloc _).alloc _, by simp; omega⟩)
    (fun x => { tmps := #[.func (.yield l) #[] #[], .pointer (some ⟨Bs, 0, none⟩), .pointer (some ⟨W.heap.size, 0, none⟩), .string x, .string s, seqV (W.heap.size + 1), .string x, undef, undef, undef, undef, undef, undef, undef, undef, undef], defers := [] })
    ?assign ?body ?done ?stop
  all_goals clear hVs4
  case assign =>
    intro l' x W' K hK
    gi_wp2
    exact hK
  case body =>
    rintro l' pre x W' ⟨M, rfl, hj, hbox, hsz⟩ hlen _
    rw [vals_len] at hlen
    have hn2 : 1 ≤ n - 1 - 1 := by omega
    have R := Lib.hid (NA.out x W')
    clear h0 q1 q2 q3 hy0
    rcases hb : nameB x.data.toList with _ | _
    · rw [hb] at R
      have HX := Lib.hid hb
      clear hb hY
      gi_wp2_with fail
      refine ⟨trivial, ?_⟩
      refine (CallsIn.inRound l' (callsIn_wide.2 R.out)).mono ?_
      rintro e W2 ⟨rfl, hb2⟩
      gi_wp2_with fail
      refine ⟨fun _ h => (by cases h), ?_⟩
      gi_wp2
      exact ⟨KeepsAt.below hb2 (fun k hk => by have := HVS.out; omega), rfl, M, x, rfl, HX.out, hJ _ W.heap.size _ _ ⟨Nat.le_refl _, by omega⟩ hj (grown_some hb2)⟩
    · rw [hb] at R
      have HX := Lib.hid hb
      clear hb
      gi_wp2_with fail
      refine ⟨trivial, ?_⟩
      refine (CallsIn.inRound l' (callsIn_wide.2 R.out)).mono ?_
      rintro e W2 ⟨rfl, hb2⟩
      have hj2 := hJ _ W.heap.size _ _ ⟨Nat.le_refl _, by omega⟩ hj (grown_some hb2)
      have hbx2 := hbox.step hb2
      have hsz2 : W.heap.size + 6 ≤ W2.heap.size := Nat.le_trans hsz hb2.size
      have cb := hbx2.cell 0
      simp only [List.getElem?_toArray, List.getElem?_cons_zero] at cb
      obtain ⟨fn, tmps, assign, body, hy, hRd⟩ := hY M ⟨x, HX.out⟩ _ hj2 hlen (fun _ => hsz2)
      simp only [encN] at hy
      have HRD := Lib.hid (RoundIn.inRound l' hRd)
      clear hY hRd hj hbox
      gi_wp2_with fail
      refine (RoundIn.anyDepth rfl HRD.out).mono ?_
      rintro e W3 (⟨rfl, hJ3, hk3⟩ | ⟨rfl, hJ3⟩)
      · gi_wp2
        have hsz3 : W.heap.size + 6 ≤ W3.heap.size := by
          have h1 := hk3 (W.heap.size + 5) ⟨by omega, by omega⟩
          rw [Array.getElem?_eq_getElem (show W.heap.size + 5 < W2.heap.size by omega)] at h1
          have := (Array.getElem?_eq_some_iff.1 h1).1
          omega
        refine ⟨(KeepsAt.below hb2 (fun k hk => ?_)).trans (hk3.mono (fun k hk => HA.out k hk)), ⟨_, (vals_snoc M ⟨x, HX.out⟩).symm, hJ3, keeps_row hk3 hbx2 ⟨Nat.le_refl _, by omega⟩, hsz3⟩⟩
        have := (HA.out k hk).2
        omega
      · exact (hst _ _ hJ3).elim
  case done =>
    rintro xs W' hxs ⟨M, rfl, hj, hbox, hsz⟩ hK
    gi_wp2
    refine ⟨by simp, .inl ⟨_, _, rfl, run_takeDeferred hK, ?_⟩⟩
    exact ⟨_, results_none rfl _ _ _, ⟨_, rfl⟩, .inl ⟨M, first_all (vals_all M) hxs, hJ _ V.heap.size _ _ (HA.out _ (.inr (.inl rfl))) hj (grownBy_putObj' _ _ _)⟩⟩
  case stop =>
    rintro c pre W' ⟨rest, hr⟩ ⟨rfl, M, x, rfl, hx, hj⟩ hK
    gi_wp2
    refine ⟨by simp, .inl ⟨_, _, rfl, run_takeDeferred hK, ?_⟩⟩
    exact ⟨_, results_none rfl _ _ _, ⟨_, rfl⟩, .inl ⟨M, first_some (vals_all M) hx hr, hJ _ V.heap.size _ _ (HA.out _ (.inr (.inl rfl))) hj (grownBy_putObj' _ _ _)⟩⟩
end Go.Proofs.YtlccihidedfemaaGreatDoor
set_option linter.unusedVariables false
set_option pp.maxSteps 200000
namespace Go.Proofs.YtlccihidedfemaaGreatDoor
open Go.RowKit
set_option maxRecDepth 100000 in
set_option maxHeartbeats 1000000 in
theorem str_bytes (l : List UInt8) : strOfNums (l.map fun u : UInt8 => (u.toNat : Int)) = ⟨l.toArray⟩ := by
  unfold strOfNums
  rw [List.map_map]
  congr 2
  exact (List.map_congr_left (fun u _ => by simp)).trans (List.map_id l)
theorem bytV_ints (l : List UInt8) : bytV l = ((l.map fun u : UInt8 => (u.toNat : Int)).map (Value.int .u8)).toArray := by simp [bytV]
theorem conv_bytes {W : World} {B : Nat} {l : List UInt8} {T : TypeId} (h : Row W B (bytV l) T) (n cap : Nat) (hn : l.length = n) :
    (convert 83 9 (.slice (some ⟨B, 0, none⟩) n cap)).run Tryz.prog W = .ok (.string ⟨l.toArray⟩) W := by
  have h' : W.heap[B]? = some (.cells ((l.map fun u : UInt8 => (u.toNat : Int)).map (Value.int .u8)).toArray T (0, 0)) := by rw [← bytV_ints]; exact h
  rw [conv_row 83 5 9 Tryz.underlying83 Tryz.underlying5 Tryz.underlying9 W B T (0, 0) _ h' n cap (by simpa using hn), str_bytes]
theorem zero67 : (Tryz.prog.info? 179).bind (fun i => i.zero.map (·.cells)) = some (zbyt 32) := by kernel_rfl
def browL (s : St) (k : Nat) : List UInt8 := (List.range 32).map fun j => if j < k then byteAt s j else 0
theorem browL_zero (s : St) : browL s 0 = List.replicate 32 0 := by simp [browL, List.map_const']
theorem browL_full (s : St) : browL s 32 = s.bytes := by
  rw [← bytes_row]
  unfold browL
  apply List.map_congr_left
  intro j hj
  rw [if_pos (List.mem_range.1 hj)]
theorem browL_len (s : St) (k : Nat) : (browL s k).length = 32 := by simp [browL]
theorem browL_set (s : St) (k : Nat) (h : k < 32) : (browL s k).set k (byteAt s k) = browL s (k + 1) := by
  apply List.ext_getElem?
  intro i
  unfold browL
  rw [List.getElem?_set]
  by_cases hi : i < 32
  · by_cases e : k = i
    · subst e; simp [h]
    · simp only [e, if_false, List.getElem?_map, List.getElem?_range hi, Option.map_some]
      by_cases h2 : i < k
      · rw [if_pos h2, if_pos (by omega)]
      · rw [if_neg h2, if_neg (by omega)]
  · simp [hi]
    omega
set_option maxRecDepth 100000 in
set_option maxHeartbeats 2000000 in
theorem bytes_any (s : St) (hs : s.ok) (w : World) : Calls Tryz.prog 143 #[.agg (numV s.list)] w fun e w' => e = .returned (.string ⟨s.bytes.toArray⟩) ∧ Below w.heap.size w w' := by
  go_enter Tryz.func143, Tryz.ntmps143
  go_wp2_with (refine wpList_alloc_zero rfl _ rfl _ zero67 ?_)
  go_loopw [6, 4, 5] (fun i _ _ wr => ∃ k : Nat, k ≤ 32 ∧ i = .int .i64 k ∧ Row wr w.heap.size (numV s.list) 166 ∧ Row wr (w.heap.size + 1) (bytV (browL s k)) 179 ∧ Below w.heap.size w wr) (fun i _ _ _ => 32 - (intOf i).toNat)
  case atStart =>
    refine ⟨0, by omega, rfl, (Row.made _ _ _).alloc _, ?_, ((Below.refl _ _).alloc (Nat.le_refl _) _).alloc (by simp) _⟩
    rw [browL_zero]
    have := Row.made (w.alloc (.cells (numV s.list) 166)) (zbyt 32) 179
    simpa [zbyt] using this
  case round =>
    obtain ⟨k, hk, rfl, r1, r2, hb⟩ := hrel
    by_cases hlt : k < 32
    · have hbk : decide ((k : Int) < 32) = true := by simpa using (show (k : Int) < 32 by omega)
      obtain ⟨q, hq⟩ : ∃ q, q = k / 4 := ⟨_, rfl⟩
      obtain ⟨r, hr⟩ : ∃ r, r = k % 4 := ⟨_, rfl⟩
      obtain ⟨c, hc⟩ : ∃ c, c = 8 * (3 - r) := ⟨_, rfl⟩
      have e1 : (k : Int) % 4 = (r : Int) := by omega
      have e2 : (k : Int) / 4 = (q : Int) := by omega
      have e3 : (8 : Int) * (4 - ((r : Int) + 1)) = (c : Int) := by omega
      have bq : (0 : Int) ≤ (q : Int) ∧ (q : Int) < 8 := by omega
      have br : (0 : Int) ≤ (r : Int) ∧ (r : Int) < 4 := by omega
      have bc : c ≤ 24 := by omega
      have bk : (0 : Int) ≤ (k : Int) ∧ (k : Int) < 32 := by omega
      obtain ⟨x, hx⟩ : ∃ x, x = s.list.getD q 0 := ⟨_, rfl⟩
      have cx : wr.cell? ⟨w.heap.size, q, none⟩ = some (.int .u32 x) := by rw [r1.cell, numV_get _ _ (by rw [list_len]; omega), hx]
      have cf := r2.free k
      have cr : ∃ v, wr.cell? ⟨w.heap.size + 1, k, none⟩ = some v := ⟨_, by rw [r2.cell, bytV_get _ _ (by rw [browL_len]; exact hlt)]⟩
      obtain ⟨v, cr⟩ := cr
      have lx : x < 4294967296 := by
        obtain ⟨h0, h1, h2, h3, h4, h5, h6, h7⟩ := hs
        rw [hx]
        exact getD_lt (l := s.list) (by intro y hy; simp only [St.list, List.mem_cons, List.not_mem_nil, or_false] at hy; rcases hy with rfl | rfl | rfl | rfl | rfl | rfl | rfl | rfl <;> assumption) q
      have HB := Lib.hid (show byteAt s k = UInt8.ofNat (x / 2 ^ c) by unfold byteAt; rw [← hq, ← hr, ← hc, hx])
      have R1 := Lib.hid r1; have R2 := Lib.hid r2
      clear hq hr hc hx r1 r2
      go_wp2_with fail
      go_roundw
      case rel =>
        have h8 : (x : Int) / 2 ^ c % 256 = ((UInt8.ofNat (x / 2 ^ c)).toNat : Int) := by
          rw [UInt8.toNat_ofNat', Int.natCast_emod, Int.natCast_ediv, Int.natCast_pow]; rfl
        rw [h8, ← HB.out]
        refine ⟨k + 1, by omega, by go_num, R1.out.other _ _ (by show w.heap.size ≠ w.heap.size + 1; omega), ?_, hb.setCell (by show w.heap.size ≤ w.heap.size + 1; omega) _⟩
        have := R2.out.set k (.int .u8 ((byteAt s k).toNat : Nat))
        rw [bytV_set, browL_set s k hlt] at this
        exact this
      case measure => simp [intOf]; omega
    · obtain rfl : k = 32 := by omega
      have hbk : decide (((32 : Nat) : Int) < 32) = false := rfl
      rw [browL_full] at r2
      have R2 := Lib.hid r2
      clear r1 r2
      go_wp2_with (refine wpList_convert rfl _ _ _ rfl _ _ _ rfl (conv_bytes R2.out 32 32 (bytes_len s)) ?_)
      go_ret
      exact ⟨rfl, hb⟩
theorem size53 : (Tryz.prog.info? 166).map (·.size) = some 8 := by kernel_rfl
theorem zero53 : (Tryz.prog.info? 166).bind (fun i => i.zero.map (·.cells)) = some (zrow 8) := by kernel_rfl
theorem size25 : (Tryz.prog.info? 89).map (·.size) = some 64 := by kernel_rfl
set_option maxRecDepth 100000 in
set_option maxHeartbeats 2000000 in
theorem behind_any_She (l : List UInt8) (hl : l.length = 64) (s : St) (hs : s.ok) (w : World) : Calls Tryz.prog 141 #[.agg (numV s.list), .agg (bytV l)] w fun e w' => e = .returned (.agg (numV (blk s l).list)) ∧ Below w.heap.size w w' := by
  have CB := Lib.hid (fun w => Block_any l hl s hs w)
  obtain ⟨f, hf⟩ : ∃ f, f = blk s l := ⟨_, rfl⟩
  rw [← byt_eq, show blkS s (byt l) = f from hf.symm] at CB
  have HF := Lib.hid hf; clear hf
  have hV8 : (numV s.list).size = 8 := by rw [numV_size]; rfl
  have hX8 : (bytV l).size = 64 := by rw [bytV_size, hl]
  obtain ⟨V, hV⟩ : ∃ V, V = numV s.list := ⟨_, rfl⟩
  obtain ⟨X, hX⟩ : ∃ X, X = bytV l := ⟨_, rfl⟩
  rw [← hX] at CB hX8 ⊢
  rw [← hV] at CB hV8 ⊢
  have HV := Lib.hid hV; have HX := Lib.hid hX; have HV8 := Lib.hid hV8; have HX8 := Lib.hid hX8
  clear hV hX hV8 hX8
  obtain ⟨q1, q2, q3, qb, qz⟩ := alloc3 w V X (zrow 8) 166 89 166
  have Q1 := Lib.hid q1; have Q2 := Lib.hid q2; have Q3 := Lib.hid q3; have QZ := Lib.hid qz
  clear q1 q2 q3 qz
  go_enter Tryz.func141, Tryz.ntmps141
  go_wp2_with (first
    | refine wpList_alloc_zero rfl _ rfl _ zero53 ?_
    | refine wpList_load_row rfl 166 _ rfl w.heap.size rfl 166 V (0, 0) _ Q1.out Tryz.underlying166 rfl (by rw [HV8.out]; exact size53) ?_
    | refine wpList_load_row rfl 89 _ rfl (w.heap.size + 1) rfl 89 X (0, 0) _ Q2.out Tryz.underlying89 rfl (by rw [HX8.out]; exact size25) ?_)
  refine (CB.out _).mono ?_
  rintro e w1 ⟨rfl, hb1⟩
  have r3 := Q3.out.step hb1
  have hb1' := below_step qb (hb1.mono (by simp))
  have R3 := Lib.hid r3
  clear Q1 Q2 Q3 QZ r3 hb1 qb
  go_wp2_with (refine wpList_store_row rfl 166 _ _ rfl (w.heap.size + 1 + 1) (numV f.list) rfl rfl 166 (zrow 8) R3.out (by rw [numV_size]; exact size53) (by rw [numV_size, zrow_size]; rfl) (numV_one _) ?_)
  refine bodyPost_ret (v := .agg (numV f.list)) (results_cell_row rfl _ _ (w.heap.size + 1 + 1) 166 (numV f.list) (0, 0) _ rfl (setRow_heap _ _ _ _ _ _ R3.out) Tryz.underlying166 rfl (by rw [numV_size]; exact size53)) rfl ?_
  exact ⟨by rw [HF.out], below_setRow hb1' (by omega) _⟩
end Go.Proofs.YtlccihidedfemaaGreatDoor
set_option linter.unusedVariables false
namespace Go.Proofs.YtlccihidedfemaaGreatDoor
open Go.RowKit
attribute [local go_sem] Oper.semAt_some
theorem OwnP.setBelow {B : Nat} {w : World} {v : Value} {L : List Pt} (h : OwnP B w v L) {a : Addr} (ha : a.block < B) (u : Value) : OwnP B (w.setCell a u) v L := ownsRow_setCell_below h ha u
theorem OwnE.setBelow {B : Nat} {w : World} {v : Value} {L : List En} (h : OwnE B w v L) {a : Addr} (ha : a.block < B) (u : Value) : OwnE B (w.setCell a u) v L := ownsRow_setCell_below h ha u
theorem ownsRow_mono {w : World} {base base' : Nat} {e : TypeId} {size : Nat} {v : Value} {n : Nat} {xs : List Value} (h : w.ownsRow base e size v n xs) (hb : base' ≤ base) : w.ownsRow base' e size v n xs := by
  obtain ⟨h1, h2⟩ := h
  refine ⟨h1, ?_⟩
  rcases h2 with h2 | ⟨g, cap, cur, hv, hg, r⟩
  · exact Or.inl h2
  · exact Or.inr ⟨g, cap, cur, hv, Nat.le_trans hb hg, r⟩
theorem OwnP.mono {B B' : Nat} {w : World} {v : Value} {L : List Pt} (h : OwnP B w v L) (hb : B' ≤ B) : OwnP B' w v L := ownsRow_mono h hb
theorem OwnE.mono {B B' : Nat} {w : World} {v : Value} {L : List En} (h : OwnE B w v L) (hb : B' ≤ B) : OwnE B' w v L := ownsRow_mono h hb
end Go.Proofs.YtlccihidedfemaaGreatDoor
set_option linter.unusedVariables false
namespace Go.Proofs.YtlccihidedfemaaGreatDoor
open Go.RowKit Go.Shelf
attribute [local go_sem] Oper.semAt_some
theorem hashes_any (s : ByteArray) (p : Int) (w : World) :
    Calls Tryz.prog 138 #[.string s, .int .i64 p] w fun e w' => e = .returned (.func (.func 155) #[] #[.pointer (some ⟨w.heap.size + 1, 0, none⟩), .pointer (some ⟨w.heap.size, 0, none⟩)]) ∧ w' = (w.alloc (.cells #[.string s] 9)).alloc (.cells #[.int .i64 p] 3) := by
  go_enter Tryz.func138, Tryz.ntmps138
  go_wp2
  go_ret
  exact ⟨by simp, rfl⟩
abbrev At : Type := { x : Nat × Nat // x.1 < maxLen ∧ x.2 < M64 }
abbrev encH (x : At) : Array Value := #[.int .i64 (x.1.1 : Nat), .int .u64 (x.1.2 : Nat)]
def atsOf (l : List At) : List (Nat × Nat) := l.map (·.1)
theorem atsOf_snoc (l : List At) (x : At) : atsOf (l ++ [x]) = atsOf l ++ [x.1] := by simp [atsOf]
theorem atsOf_len (l : List At) : (atsOf l).length = l.length := List.length_map ..
def KeepsBox_Cdi (B : Nat) (t : TypeId) (v : Value) (W W' : World) : Prop := Boxed W B t v → Boxed W' B t v
set_option maxHeartbeats 1000000 in
set_option maxRecDepth 100000 in
theorem hashes1_stops (n : Nat) (hn : 1 ≤ n) (Bs Bf : Nat) (s : ByteArray) (p : Nat) (hsz : s.size ≤ maxLen) (hp : p ≤ maxLen) (w : World) (hB : Boxed w Bs 9 (.string s)) (hF : Boxed w Bf 3 (.int .i64 p)) :
    SeqStopsK Fence.wide n Tryz.prog 155 #[.pointer (some ⟨Bf, 0, none⟩), .pointer (some ⟨Bs, 0, none⟩)] encH (KeepsBox_Cdi Bs 9 (.string s)) (fun xs => atsOf xs = hs p (s.data.toList.drop p)) (fun pre => atsOf pre <+: hs p (s.data.toList.drop p)) (hs p (s.data.toList.drop p)).length w := fun l J Jx W hW hJ hJx hY h0 => by
  unfold maxLen at hsz hp
  have hb1 : Boxed W Bs 9 (.string s) := (hW.block Bs hB.lt).trans hB
  have hf1 : Boxed W Bf 3 (.int .i64 p) := (hW.block Bf hF.lt).trans hF
  have hc1 := hb1.cell
  have hc2 := hf1.cell
  have HS := Lib.hid (Lib.size_eq s)
  have hro : Fence.wide.round = none := rfl
  refine callsIn_of_wp Tryz.func155 rfl trivial ?_ hro
  simp only [Tryz.ntmps155, List.size_toArray, List.length_cons, List.length_nil, Nat.reduceAdd, Nat.reduceSub, Array.replicate_succ, Array.replicate_zero, List.push_toArray, List.append_toArray, List.nil_append, List.cons_append]
  gi_wp2
  gi_loopw [4, 5] (fun h i wr => ∃ j : Nat, p ≤ j ∧ (j = p ∨ j ≤ s.size) ∧ i = .int .i64 j ∧ h = .int .u64 (hashF 0 ((s.data.toList.drop p).take (j - p)) : Nat) ∧ (∃ pre, atsOf pre = (hs p (s.data.toList.drop p)).take (j - p) ∧ J pre wr) ∧ Boxed wr Bs 9 (.string s))
    (fun _ i _ => s.size - (intOf i).toNat)
  case atStart =>
    exact ⟨p, Nat.le_refl _, .inl rfl, rfl, by simp [hashF], ⟨[], by simp [atsOf], h0⟩, hb1⟩
  case round =>
    obtain ⟨j, hk1, hk2, rfl, rfl, ⟨pre, hpre, hJs⟩, hbx⟩ := hrel
    have HPRE := Lib.hid hpre
    clear hpre
    have hcx := hbx.cell
    by_cases hlt : j < s.size
    · obtain ⟨hup, hv⟩ := upTo_on s p j hk1 hlt
      have hY1 := hY _ (⟨(j, rollN (hashF 0 ((s.data.toList.drop p).take (j - p))) (s[j]'hlt).toNat), by unfold maxLen; show j < _; omega, rollN_lt _ _⟩ : At) wr hJs (by rw [← atsOf_len, HPRE.out, List.length_take, hs_len, List.length_drop, ← HS.out]; omega)
      have HUP : Hid (atsOf (pre ++ [(⟨(j, rollN (hashF 0 ((s.data.toList.drop p).take (j - p))) (s[j]'hlt).toNat), by unfold maxLen; show j < _; omega, rollN_lt _ _⟩ : At)]) = (hs p (s.data.toList.drop p)).take (j + 1 - p)) := by rw [atsOf_snoc, HPRE.out, hup]; exact rfl
      obtain ⟨pre2, hpre2⟩ : ∃ pre2, pre2 = pre ++ [(⟨(j, rollN (hashF 0 ((s.data.toList.drop p).take (j - p))) (s[j]'hlt).toNat), by unfold maxLen; show j < _; omega, rollN_lt _ _⟩ : At)] := ⟨_, rfl⟩
      rw [← hpre2] at hY1 HUP
      have HV := Lib.hid hv
      clear hpre2
      clear hup hv hY
      obtain ⟨fn, tmps, assign, body, hy, hR⟩ := hY1
      simp only [encH] at hy
      have RO := fun W => Roll_any (hashF 0 ((s.data.toList.drop p).take (j - p))) (s[j]'hlt) W
      obtain ⟨hn, hhn⟩ : ∃ hn, hn = hashF 0 ((s.data.toList.drop p).take (j - p)) := ⟨_, rfl⟩
      rw [← hhn] at HV RO hy ⊢
      obtain ⟨hm, hhm⟩ : ∃ hm, hm = rollN hn (s[j]'hlt).toNat := ⟨_, rfl⟩
      rw [← hhm] at HV RO hy
      have R := Lib.hid RO
      have HM := Lib.hid hhm; have HN := Lib.hid hhn
      clear hhm hhn RO hk2
      gi_wp2_with (refine ⟨trivial, ?_⟩; gi_at_call 156; refine (callsIn_wide.2 (R.out _)).mono ?_; rintro e w1 ⟨rfl, rfl⟩)
      refine hR.mono ?_
      rintro e W3 (⟨rfl, hJ3, hk3⟩ | ⟨rfl, hJx3⟩)
      · gi_wp2
        go_roundw
        case rel => exact ⟨j + 1, by omega, .inr (by omega), by go_num, by rw [HV.out], ⟨_, HUP.out, hJ3⟩, hk3 hbx⟩
        case measure => simp [intOf]; omega
      · gi_wp2
        refine bodyPost_ret (results_none rfl _ _ _) rfl ?_
        exact ⟨⟨_, rfl⟩, .inr ⟨_, by rw [HUP.out]; exact List.take_prefix _ _, hJx3⟩⟩
    · have hall : (hs p (s.data.toList.drop p)).take (j - p) = hs p (s.data.toList.drop p) := List.take_of_length_le (by rw [hs_len, List.length_drop, ← HS.out]; omega)
      have HALL := Lib.hid hall; clear hall hY
      gi_wp2
      go_end0
      exact ⟨⟨_, rfl⟩, .inl ⟨_, HPRE.out.trans HALL.out, hJs⟩⟩
end Go.Proofs.YtlccihidedfemaaGreatDoor

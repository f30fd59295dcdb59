/-
  Contracts over this translation: strings.Compare, how objects are compared; slices' insertion sort at objects.
-/
import Derived.Test.YtlccihidedfemaaGreatDoorQb1
import Derived.Test.YtlccihidedfemaaGreatDoorQb0
import Derived.RegionTactic
import Derived.BigRegion
import Derived.IntWalk
import Derived.Deep.QuietTactic
import Derived.BigQuiet
import Derived.Lib.QuietBelow
import Derived.Lib.Bytealg
set_option linter.unusedVariables false
namespace Go.Proofs.YtlccihidedfemaaGreatDoor
open Go.RowKit Go.Sort
attribute [local go_sem] Oper.semAt_some
def ordB (x y : List UInt8) : Int := if x < y then -1 else if y < x then 1 else 0
theorem compare_ordB : ∀ a b : List UInt8, Lib.compareBytes a b = ordB a b
 | [], [] => rfl
 | [], _ :: _ => by unfold ordB Lib.compareBytes; rw [if_pos (List.nil_lt_cons _ _)]
 | _ :: _, [] => by unfold ordB Lib.compareBytes; rw [if_neg (List.not_lt_nil _), if_pos (List.nil_lt_cons _ _)]
 | a :: l, b :: m => by
  have ih := compare_ordB l m
  unfold Lib.compareBytes
  rw [ih]
  unfold ordB
  simp only [List.cons_lt_cons_iff]
  by_cases h : a < b
  ·rw [if_pos h, if_pos (.inl h)]
  ·by_cases h2 : b < a
   ·have hne : a ≠ b := fun e => by subst e; exact h h2
    rw [if_neg h, if_pos h2, if_neg (by rintro (x | x); exact h x; exact hne x.1), if_pos (.inl h2)]
   ·obtain rfl : a = b := by
     have h3 := UInt8.not_lt.1 h; have h4 := UInt8.not_lt.1 h2
     exact UInt8.le_antisymm h4 h3
    rw [if_neg h, if_neg h2]
    simp [h]
theorem ordB_lt {x y : List UInt8} (h : x < y) : ordB x y = -1 := if_pos h
theorem ordB_neg (x y : List UInt8) : decide (ordB x y < 0) = decide (x < y) := by
 unfold ordB
 by_cases h : x < y
 ·simp [h]
 ·rw [if_neg h]
  by_cases h2 : y < x
  ·simp [h, h2]
  ·simp [h, h2]
set_option maxRecDepth 100000 in
theorem CompareString_any (a b : ByteArray) (w : World) :
  Calls Tryz.prog 92 #[.string a, .string b] w fun e w' => e = .returned (.int .i64 (ordB a.data.toList b.data.toList)) ∧ w = w' := by
 rw [← compare_ordB]
 go_enter Tryz.func92, Tryz.ntmps92
 go_wp2
 rw [run_callFunc_extern Tryz.func111 (by kernel_rfl) (by kernel_rfl) (by kernel_rfl) (e := Extern.BytealgCompare.compare) (by kernel_rfl), Lib.run_compareString]
 simp only [Result.andThen]
 rw [Oper.upon_value]
 go_wp2
 go_ret
 exact ⟨rfl, rfl⟩
set_option maxRecDepth 100000 in
theorem strCompare_any (a b : ByteArray) (w : World) :
  Calls Tryz.prog 57 #[.string a, .string b] w fun e w' => e = .returned (.int .i64 (ordB a.data.toList b.data.toList)) ∧ w = w' := by
 have C := Lib.hid (CompareString_any a b)
 go_enter Tryz.func57, Tryz.ntmps57
 go_wp2_with fail
 with_reducible refine (C.out _).mono ?_
 rintro e w1 ⟨rfl, rfl⟩
 go_wp2
 go_ret
 exact ⟨rfl, rfl⟩
set_option maxRecDepth 100000 in
theorem byKey1_any (x y : Ob) (w : World) :
  Calls Tryz.prog 56 #[obV x, obV y] w fun e w' => e = .returned (.int .i64 (ordB x.t y.t)) ∧ Below w.heap.size w w' := by
 have C := Lib.hid (strCompare_any x.k y.k)
 rw [show x.k.data.toList = x.t from rfl, show y.k.data.toList = y.t from rfl] at C
 go_enter Tryz.func56, Tryz.ntmps56
 go_wp2_with fail
 have hb0 := ((Below.refl w.heap.size w).alloc (Nat.le_refl _) (.cells #[.string x.k, .string x.r] 33)).alloc (by simp) (.cells #[.string y.k, .string y.r] 33)
 with_reducible refine (C.out _).mono ?_
 rintro e w1 ⟨rfl, rfl⟩
 go_wp2
 go_ret
 exact ⟨rfl, hb0⟩
set_option maxRecDepth 100000 in
theorem byKey2_any (x y : Ob) (w : World) :
  Calls Tryz.prog 59 #[obV x, obV y] w fun e w' => e = .returned (.bool (decide (x.t = y.t))) ∧ Below w.heap.size w w' := by
 have hb0 := ((Below.refl w.heap.size w).alloc (Nat.le_refl _) (.cells #[.string x.k, .string x.r] 33)).alloc (by simp) (.cells #[.string y.k, .string y.r] 33)
 by_cases h : x.t = y.t
 ·rw [decide_eq_true h]
  have e := beq_true (ob_bytes h)
  clear h
  go_enter Tryz.func59, Tryz.ntmps59
  go_wp2
  go_ret
  exact ⟨rfl, hb0⟩
 ·rw [decide_eq_false h]
  have e : (x.k.toList == y.k.toList) = false := beq_false (fun e => h (by unfold Ob.t; rw [e]))
  clear h
  go_enter Tryz.func59, Tryz.ntmps59
  go_wp2
  go_ret
  exact ⟨rfl, hb0⟩
theorem swp_next (A R : List Ob) (x y : Ob) : swpO (A ++ y :: x :: R) (A.length + 1) A.length = A ++ x :: y :: R := by
 apply List.ext_getElem?
 intro i
 rw [swpO_get (by simp) (by simp)]
 rcases Nat.lt_or_ge i A.length with h | h
 ·rw [if_neg (by omega), if_neg (by omega), List.getElem?_append_left h, List.getElem?_append_left h]
 ·obtain ⟨r, rfl⟩ : ∃ r, i = A.length + r := ⟨i - A.length, by omega⟩
  match r with
  | 0 => simp
  | 1 => simp
  | r + 2 =>
   rw [if_neg (by omega), if_neg (by omega), List.getElem?_append_right (by omega), List.getElem?_append_right (by omega), show A.length + (r + 2) - A.length = r + 2 by omega]
   rfl
theorem sortO_take1 (S : List Ob) : SortO (S.take 1) := by
 cases S with
 | nil => exact List.Pairwise.nil
 | cons x S => exact List.pairwise_singleton _ _
set_option maxRecDepth 100000 in
set_option maxHeartbeats 4000000 in
theorem insertion_any (g cap n a b : Nat) (P S Q : List Ob) (w : World) (hR : RowO w g cap (P ++ (S ++ Q))) (hn : n = (P ++ (S ++ Q)).length) (ha : a = P.length) (hb : b = P.length + S.length) (hL : n ≤ 1000000) :
  Calls Tryz.prog 109 #[.slice (some ⟨g, 0, none⟩) n cap, .int .i64 a, .int .i64 b, .func (.func 56) #[] #[]] w fun e w' =>
   e = .returned (.tuple #[]) ∧ ∃ S', RowO w' g cap (P ++ (S' ++ Q)) ∧ S'.length = S.length ∧ Stab S S' ∧ SortO S' ∧ Turned w w' g := by
 have HR := Lib.hid hR
 have C := Lib.hid (fun x y w => byKey1_any x y w)
 have HN := Lib.hid (hn.trans (show _ = P.length + S.length + Q.length by simp; omega))
 have HA := Lib.hid ha; have HB := Lib.hid hb
 have hbn : b ≤ n := by have := HN.out; omega
 have hab : a ≤ b := by omega
 clear hR hn ha hb
 go_enter Tryz.func109, Tryz.ntmps109
 go_wp2
 go_loopw [8] (fun iv wr => ∃ (i : Nat) (T U : List Ob), iv = .int .i64 i ∧ a < i ∧ i ≤ b + 1 ∧ T.length + U.length = S.length ∧ (b ≤ i → U = []) ∧ (i ≤ b → T.length = i - a) ∧ RowO wr g cap (P ++ (T ++ (U ++ Q))) ∧ Stab S (T ++ U) ∧ SortO T ∧ Turned w wr g) (fun i _ => b + 1 - (intOf i).toNat)
 case atStart =>
  refine ⟨a + 1, S.take 1, S.drop 1, by go_num, by omega, by omega, by simp; omega, fun h => ?_, fun h => ?_, ?_, ?_, sortO_take1 S, turned_refl _ _⟩
  ·exact List.drop_eq_nil_iff.2 (by have := HA.out; have := HB.out; omega)
  ·rw [List.length_take]; have := HA.out; have := HB.out; omega
  ·rw [← List.append_assoc (S.take 1), List.take_append_drop]; exact HR.out
  ·rw [List.take_append_drop]; exact Stab.refl _
 case round =>
  obtain ⟨i, T, U, rfl, hai, hib, hTU, hU, hTl, hR, hS, hO, hT⟩ := hrel
  by_cases hlt : i < b
  ·have hTl := hTl (by omega)
   obtain ⟨x, V, rfl⟩ : ∃ x V, U = x :: V := by
    cases U with
    | nil => exfalso; have := HA.out; have := HB.out; simp at hTU; omega
    | cons x V => exact ⟨x, V, rfl⟩
   have hbk : decide ((i : Int) < (b : Int)) = true := decide_eq_true (by omega)
   have HS := Lib.hid hS; have HO := Lib.hid hO; have HT := Lib.hid hT; have HTL := Lib.hid hTl; have HTU := Lib.hid hTU; have HR1 := Lib.hid hR
   clear hS hO hT hR hTl hTU hU
   obtain ⟨W1, hW1⟩ : ∃ W1, W1 = wr := ⟨_, rfl⟩
   rw [← hW1] at HT HR1 ⊢
   clear hW1
   go_wp2
   go_loopw [9] (fun jv wr => ∃ (j : Nat) (T1 T2 : List Ob), jv = .int .i64 j ∧ j = a + T1.length ∧ T1 ++ T2 = T ∧ RowO wr g cap (P ++ (T1 ++ (x :: (T2 ++ (V ++ Q))))) ∧ (∀ y ∈ T2.head?, x.t < y.t) ∧ Turned w wr g) (fun j _ => (intOf j).toNat)
   case atStart => exact ⟨i, T, [], rfl, by have := HTL.out; omega, List.append_nil _, by simpa using HR1.out, (fun y hy => by cases hy), HT.out⟩
   case round =>
    obtain ⟨j, T1, T2, rfl, hj, hTT, hR, hhd, hT2⟩ := hrel
    have hjn : j < n := by have := HN.out; have := HTU.out; have := HA.out; have := congrArg List.length hTT; simp at this ⊢; simp at *; omega
    have HJ := Lib.hid hj; have HTT := Lib.hid hTT; have HHD := Lib.hid hhd; have HT3 := Lib.hid hT2
    have hja : a ≤ j := by omega
    clear hj hTT hhd hT2
    have FIN : Hid (∀ X : World, (∀ y ∈ T1.getLast?, ¬ x.t < y.t) → RowO X g cap (P ++ (T1 ++ (x :: (T2 ++ (V ++ Q))))) → Turned w X g → ∃ (i' : Nat) (T' U' : List Ob), Value.int .i64 ((i : Int) + 1) = .int .i64 i' ∧ a < i' ∧ i' ≤ b + 1 ∧ T'.length + U'.length = S.length ∧ (b ≤ i' → U' = []) ∧ (i' ≤ b → T'.length = i' - a) ∧ RowO X g cap (P ++ (T' ++ (U' ++ Q))) ∧ Stab S (T' ++ U') ∧ SortO T' ∧ Turned w X g) := Lib.hid (by
     intro X hl hRX hTX
     have hso := HO.out
     rw [← HTT.out] at hso
     obtain ⟨s1, s2⟩ := stab_right hso hl HHD.out
     have hlen := congrArg List.length HTT.out
     have h1 := HTU.out; have h2 := HTL.out; have h3 := HA.out; have h4 := HB.out
     simp only [List.length_append, List.length_cons] at hlen h1
     refine ⟨i + 1, T1 ++ x :: T2, V, by go_num, by omega, by omega, by simp; omega, fun hh => List.length_eq_zero_iff.1 (by omega), fun hh => by simp; omega, by simpa using hRX, ?_, s2, hTX⟩
     have h5 := HS.out
     rw [show T ++ x :: V = (T1 ++ T2 ++ [x]) ++ V by rw [HTT.out]; simp] at h5
     exact h5.trans (s1.app (Stab.refl V)))
    by_cases hlj : a < j
    ·obtain ⟨T0, y, rfl⟩ : ∃ T0 y, T1 = T0 ++ [y] := by
      rcases List.eq_nil_or_concat T1 with e | ⟨T0, y, e⟩
      ·exfalso; have := HJ.out; rw [e] at this; simp at this; omega
      ·exact ⟨T0, y, by rw [e, List.concat_eq_append]⟩
     obtain ⟨A, hA⟩ : ∃ A, A = P ++ T0 := ⟨_, rfl⟩
     obtain ⟨R', hR'⟩ : ∃ R', R' = T2 ++ (V ++ Q) := ⟨_, rfl⟩
     have hrow : P ++ (T0 ++ [y] ++ (x :: (T2 ++ (V ++ Q)))) = A ++ y :: x :: R' := by rw [hA, hR']; simp
     have hAl : A.length + 1 = j := by rw [hA, HJ.out, HA.out]; simp; omega
     have hRR := hR
     rw [hrow] at hRR
     have hi1 : j < (A ++ y :: x :: R').length := by simp; omega
     have hi0 : j - 1 < (A ++ y :: x :: R').length := by simp; omega
     have g1 : (A ++ y :: x :: R')[j] = x := by subst hAl; simp
     have g0 : (A ++ y :: x :: R')[j - 1] = y := by subst hAl; simp
     obtain ⟨c0, c1⟩ := hRR.at' hi1
     obtain ⟨d0, d1⟩ := hRR.at' hi0
     rw [g1] at c0 c1
     rw [g0] at d0 d1
     have hgt : decide ((j : Int) > (a : Int)) = true := decide_eq_true (by omega)
     have hjn2 : (j : Int) - 1 < (n : Int) := by omega
     have hj1 : (0 : Int) ≤ (j : Int) - 1 := by omega
     have hjt : ((j : Int) - 1).toNat = j - 1 := by omega
     have HRR := Lib.hid hRR; have HROW := Lib.hid hrow; have HAL := Lib.hid hAl; have HR := Lib.hid hR
     have HSW : Hid (∀ X, RowO X g cap (A ++ y :: x :: R') → RowO (set2W (set2W X g (j * 2) y) g ((j - 1) * 2) x) g cap (P ++ (T0 ++ (x :: ((y :: T2) ++ (V ++ Q))))) ∧ Turned X (set2W (set2W X g (j * 2) y) g ((j - 1) * 2) x) g) := Lib.hid (by
      intro X hX
      have := hX.swp hi1 hi0
      rw [g1, g0] at this
      refine ⟨?_, this.2⟩
      have e : swpO (A ++ y :: x :: R') j (j - 1) = P ++ (T0 ++ (x :: ((y :: T2) ++ (V ++ Q)))) := by
       subst hAl
       rw [show A.length + 1 - 1 = A.length by omega, swp_next, hA, hR']; simp
      rw [← e]; exact this.1)
     clear hR hRR hi0 hi1 g0 g1 hrow hA hR' hAl
     obtain ⟨W2, hW2⟩ : ∃ W2, W2 = wr := ⟨_, rfl⟩
     rw [← hW2] at c0 c1 d0 d1 HRR HR HT3 ⊢
     clear hW2
     by_cases hxy : x.t < y.t
     ·have HC : Hid (∀ W, Calls Tryz.prog 56 #[obV x, obV y] W fun e w' => e = .returned (.int .i64 (-1)) ∧ Below W.heap.size W w') := Lib.hid (fun W => by
       have := C.out x y W; rwa [ordB_lt hxy] at this)
      have HXY := Lib.hid hxy
      clear hxy
      have k0 := fun d os => cell_regrown c0 d os
      have k1 := fun d os => cell_regrown c1 d os
      have k2 := fun d os => cell_regrown d0 d os
      have k3 := fun d os => cell_regrown d1 d os
      go_wp2_with fail
      refine wp_region_quiet_below (by kernel_rfl) (by kernel_rfl) ?_
      repeat (first | go_big_quiet_step (exact Calls.regrown_of (HC.out _)) | quiet_step (exact Calls.regrown_of (HC.out _)))
      refine wpQuiet_nil ?_
      intro wq hwq
      have hbq : Below W2.heap.size W2 wq := by obtain ⟨p, rfl⟩ := hwq; exact below_regrown _ _ _
      clear hwq k0 k1 k2 k3 c0 c1 d0 d1
      have HR3 := Lib.hid (HRR.out.stays hbq)
      have HT4 := Lib.hid (turned_step HT3.out hbq)
      clear hbq
      have hjA := HAL.out
      have hi1 : j < (A ++ y :: x :: R').length := by simp; omega
      have hi0 : j - 1 < (A ++ y :: x :: R').length := by simp; omega
      obtain ⟨c0, c1⟩ := HR3.out.at' hi1
      obtain ⟨d0, d1⟩ := HR3.out.at' hi0
      rw [show (A ++ y :: x :: R')[j] = x by subst hjA; simp] at c0 c1
      rw [show (A ++ y :: x :: R')[j - 1] = y by subst hjA; simp] at d0 d1
      have hf := HR3.out.free
      have HSW3 := Lib.hid (HSW.out _ HR3.out)
      clear hi0 hi1 hjA
      go_wp2_with fail
      go_region
      go_wp2
      have hdw : ∀ X : World, Below X.heap.size X X.drew := fun X => (Below.refl _ _).drew
      go_roundw
      case rel => exact ⟨j - 1, T0, y :: T2, by go_num, by have := HJ.out; simp at this; omega, by rw [← HTT.out]; simp, HSW3.out.1.stays (hdw _), (fun z hz => by simp at hz; subst hz; exact HXY.out), turned_step (turned_trans HT4.out HSW3.out.2) (hdw _)⟩
      case measure => simp [intOf]; omega
     ·obtain ⟨o, ho⟩ : ∃ o, o = ordB x.t y.t := ⟨_, rfl⟩
      have ho2 : decide (o < 0) = false := by rw [ho, ordB_neg]; exact decide_eq_false hxy
      have HC : Hid (∀ W, Calls Tryz.prog 56 #[obV x, obV y] W fun e w' => e = .returned (.int .i64 o) ∧ Below W.heap.size W w') := Lib.hid (fun W => by
       have := C.out x y W; rwa [← ho] at this)
      have HXY := Lib.hid hxy
      clear hxy ho
      have k0 := fun d os => cell_regrown c0 d os
      have k1 := fun d os => cell_regrown c1 d os
      have k2 := fun d os => cell_regrown d0 d os
      have k3 := fun d os => cell_regrown d1 d os
      go_wp2_with fail
      refine wp_region_quiet_below (by kernel_rfl) (by kernel_rfl) ?_
      repeat (first | go_big_quiet_step (exact Calls.regrown_of (HC.out _)) | quiet_step (exact Calls.regrown_of (HC.out _)))
      refine wpQuiet_nil ?_
      intro wq hwq
      have hbq : Below W2.heap.size W2 wq := by obtain ⟨p, rfl⟩ := hwq; exact below_regrown _ _ _
      clear hwq k0 k1 k2 k3 c0 c1 d0 d1
      have HR3 := Lib.hid (HR.out.stays hbq)
      have HT4 := Lib.hid (turned_step HT3.out hbq)
      clear hbq
      go_wp2
      go_roundw
      case rel => exact FIN.out _ (fun z hz => by simp at hz; subst hz; exact HXY.out) HR3.out HT4.out
      case measure => simp [intOf]; omega
    ·have hgt : decide ((j : Int) > (a : Int)) = false := decide_eq_false (by omega)
     have hgt2 : ¬ (a : Int) < (j : Int) := by omega
     have HR := Lib.hid hR
     have hT1 : T1 = [] := List.length_eq_zero_iff.1 (by have := HJ.out; omega)
     have HT1 := Lib.hid hT1
     clear hR hT1
     go_wp2_with fail
     refine wp_region_quiet_below (by kernel_rfl) (by kernel_rfl) ?_
     repeat (first | go_big_quiet_step (fail) | quiet_step (fail))
     refine wpQuiet_nil ?_
     intro wq hwq
     have hbq : Below wr.heap.size wr wq := by obtain ⟨p, rfl⟩ := hwq; exact below_regrown _ _ _
     clear hwq
     have HR3 := Lib.hid (HR.out.stays hbq)
     have HT4 := Lib.hid (turned_step HT3.out hbq)
     clear hbq
     go_wp2
     go_roundw
     case rel => exact FIN.out _ (fun z hz => by rw [HT1.out] at hz; cases hz) HR3.out HT4.out
     case measure => simp [intOf]; omega
  ·have hbk : decide ((i : Int) < (b : Int)) = false := decide_eq_false (by omega)
   have hU' := hU (by omega)
   subst hU'
   have HR1 : Hid _ := Lib.hid hR; have HS := Lib.hid hS; have HO := Lib.hid hO; have HT := Lib.hid hT
   have HTU := Lib.hid hTU
   clear hR hS hO hT hTU hU hTl
   go_wp2
   go_end0
   exact ⟨rfl, T, HR1.out, by simpa using HTU.out, by simpa using HS.out, HO.out, HT.out⟩
end Go.Proofs.YtlccihidedfemaaGreatDoor

/-
  Texts put together: contracts and laws that this seat's proofs share.
-/
import Derived.Test.YtlccihidedfemaaGreatDoorQb1
import Derived.Test.YtlccihidedfemaaGreatDoorQb0
import Derived.RangeFuncFrom
import Derived.RangeFuncBox
import Derived.Laws.RangeAny
import Derived.Deep.LoopGhost
import Derived.WalkMore
import Derived.Shelf.Strings.BuilderK
import Derived.RegionTactic
import Derived.ChangeAlike
import Derived.WalkKit
import Derived.Test.YtlccihidedfemaaGreatDoorProg
import Derived.Shelf.Strings.Builder2
import Derived.Deep.QuietTactic
import Derived.BigQuiet
import Derived.WalkSmall
import Derived.Lib.Hide
import Derived.Orders
import Derived.Still
import Derived.Handy
import Derived.Shelf.Abstract
set_option linter.unusedVariables false
namespace Go.Proofs.YtlccihidedfemaaGreatDoor
open Go.RowKit
attribute [local go_sem] Oper.semAt_some
def eqO (x y : Ob) : Bool := x.k.toList == y.k.toList && x.r.toList == y.r.toList
theorem eqO_iff {x y : Ob} : eqO x y = true ↔ x = y := by
 unfold eqO
 constructor
 ·intro h
  simp only [Bool.and_eq_true, beq_iff_eq] at h
  obtain ⟨h1, h2⟩ := h
  rw [Lib.toList_data, Lib.toList_data] at h1 h2
  exact ob_ext (str_eq' h1) (str_eq' h2)
 ·rintro rfl; simp
theorem eqO_yes {x y : Ob} (h : x = y) : eqO x y = true := eqO_iff.2 h
theorem eqO_no {x y : Ob} (h : x ≠ y) : eqO x y = false := by
 rcases hb : eqO x y with _ | _
 ·rfl
 ·exact absurd (eqO_iff.1 hb) h
theorem neqO (x y : Ob) (w : World) : (binOp .neq 33 (obV x) (obV y)).run Tryz.prog w = .ok (.bool (!eqO x y)) w := by
 have hS : Tryz.prog.underlying 33 = some (.struct (Tryz.prog.fieldsOf 33)) := by kernel_rfl
 have hp : Tryz.prog.stoodInHeld 33 = false := by kernel_rfl
 have gas := Tryz.isAgg9; have gzs := Tryz.sizeOf9
 rw [run_neq_struct, show (10000 : Nat) = 9999 + 1 from rfl, run_equalIn_agg w 9999 33 _ _ hS hp]
 simp only [Program.fieldsOf, Tryz.underlying33]
 go_simp
 unfold eqO
 by_cases h0 : x.k.toList = y.k.toList <;> by_cases h1 : x.r.toList = y.r.toList <;> simp [h0, h1]
theorem guardO (op : BinOp) (a b : Operand) (x y : Ob) (w : World) : Sem.run Tryz.prog (eqGuard op 33 a b (obV x) (obV y)) w = .ok () w :=
 run_eqGuard_agg w op _ a b _ _ (by kernel_rfl)
theorem takeO_same {L M : List Ob} {k : Nat} (hk : k < L.length) (hm : k < M.length) (h : L.take k = M.take k) (h2 : L[k] = M[k]) : L.take (k + 1) = M.take (k + 1) := by
 rw [List.take_succ_eq_append_getElem hk, List.take_succ_eq_append_getElem hm, h, h2]
set_option maxRecDepth 100000 in
set_option maxHeartbeats 2000000 in
theorem rSameO_any (v1 v2 : Value) (L M : List Ob) (w : World) (h1 : IsObs w v1 L) (h2 : IsObs w v2 M) :
  Calls Tryz.prog 13 #[v1, v2] w fun e w' => e = .returned (.bool (sameO L M)) ∧ Below w.heap.size w w' := by
 obtain ⟨hm1, a1, cap1, rfl, _, hc1⟩ := h1
 obtain ⟨hm2, a2, cap2, rfl, _, hc2⟩ := h2
 have hmm1 : L.length ≤ 9223372036854775807 := by unfold maxLen at hm1; omega
 have hmm2 : M.length ≤ 9223372036854775807 := by unfold maxLen at hm2; omega
 have H1 := Lib.hid hc1; have H2 := Lib.hid hc2
 clear hc1 hm1 hc2 hm2
 have hne' : ∀ (x y : Ob) (w : World), Sem.run Tryz.prog (binOp .neq 33 (obV x) (obV y)) w = .ok (.bool (!eqO x y)) w := fun x y w => neqO x y w
 have hgd' : ∀ (op : BinOp) (a b : Operand) (x y : Ob) (w : World), Sem.run Tryz.prog (eqGuard op 33 a b (obV x) (obV y)) w = .ok () w := fun op a b x y w => guardO op a b x y w
 by_cases hl : L.length = M.length
 ·have hll : ((L.length : Int) == (M.length : Int)) = true := beq_iff_eq.2 (by omega)
  have HL := Lib.hid hl
  clear hl
  go_enter Tryz.func13, Tryz.ntmps13
  go_wp2
  go_loopw [5] (fun i wr => ∃ k m : Nat, k ≤ L.length ∧ i = .int .i64 k ∧ L.take k = M.take k ∧ wr = w.drewN m) (fun i _ => L.length - (intOf i).toNat)
  case atStart => exact ⟨0, 0, Nat.zero_le _, rfl, rfl, rfl⟩
  case round =>
   obtain ⟨k, m, hk, rfl, he, rfl⟩ := hrel
   have HE := Lib.hid he; clear he
   by_cases hlt : k < L.length
   ·have hlt2 : k < M.length := by have := HL.out; omega
    obtain ⟨b1, o1, rfl, _, g1⟩ := H1.out (by omega)
    obtain ⟨b2, o2, rfl, _, g2⟩ := H2.out (by omega)
    obtain ⟨c0, c1⟩ := g1 k hlt
    obtain ⟨d0, d1⟩ := g2 k hlt2
    clear g1 g2
    have hbk : decide ((k : Int) < (L.length : Int)) = true := by simpa using (show (k : Int) < L.length by omega)
    have hbk2 : decide ((k : Int) < (M.length : Int)) = true := by simpa using (show (k : Int) < M.length by omega)
    have HT := Lib.hid (takeO_same hlt hlt2 HE.out)
    have HG := Lib.hid (show L[k] ≠ M[k] → L ≠ M from fun h e => h (by subst e; rfl))
    obtain ⟨x, hx⟩ : ∃ x, x = L[k] := ⟨_, rfl⟩
    obtain ⟨y, hy⟩ : ∃ y, y = M[k] := ⟨_, rfl⟩
    rw [← hx] at c0 c1 HT HG
    rw [← hy] at d0 d1 HT HG
    clear hx hy
    by_cases hxy : x = y
    ·have q := eqO_yes hxy
     have HT2 := Lib.hid (HT.out hxy)
     clear hxy
     go_wp2_with fail
     go_quiet (fail)
     go_wp2
     go_roundw
     case rel => exact ⟨k + 1, m + nq, by omega, by go_num, HT2.out, by simp [World.drewN]⟩
     case measure => simp [intOf]; omega
    ·have q := eqO_no hxy
     have HN := Lib.hid (sameO_no (HG.out hxy))
     clear hxy
     go_wp2_with fail
     go_quiet (fail)
     go_wp2
     go_ret
     exact ⟨by rw [HN.out]; rfl, below_drewN (below_drewN (Below.refl _ _) _) _⟩
   ·have hk' : k = L.length := by omega
    have HS : Hid (sameO L M = true) := sameO_yes (by have := HE.out; rwa [hk', List.take_length, HL.out, List.take_length] at this)
    clear hk'
    go_wp2
    go_ret
    exact ⟨by rw [HS.out]; rfl, below_drewN (Below.refl _ _) _⟩
 ·have hll : ((L.length : Int) == (M.length : Int)) = false := beq_eq_false_iff_ne.2 (by omega)
  have HN := Lib.hid (sameO_no (show L ≠ M from fun e => hl (by rw [e])))
  clear hl
  go_enter Tryz.func13, Tryz.ntmps13
  go_wp2
  go_ret
  exact ⟨by rw [HN.out]; rfl, Below.refl _ _⟩
def gotO (L : List Ob) (t : List UInt8) : ByteArray := ((getO L t).map (·.r)).getD ⟨#[]⟩
theorem gotO_some {L : List Ob} {t : List UInt8} {x : Ob} (h : getO L t = some x) : gotO L t = x.r := by unfold gotO; rw [h]; rfl
theorem gotO_none {L : List Ob} {t : List UInt8} (h : getO L t = none) : gotO L t = ⟨#[]⟩ := by unfold gotO; rw [h]; rfl
theorem getO_app_none {A B : List Ob} {t : List UInt8} (h : getO A t = none) : getO (A ++ B) t = getO B t := by
 unfold getO at h ⊢; rw [List.find?_append, h]; rfl
theorem getO_cons (x : Ob) (L : List Ob) (t : List UInt8) : getO (x :: L) t = if x.t = t then some x else getO L t := by
 unfold getO
 rw [List.find?_cons]
 by_cases h : x.t = t
 ·simp [h]
 ·simp [h]
theorem getO_none_step {L : List Ob} {t : List UInt8} {k : Nat} (hk : k < L.length) (h : getO (L.take k) t = none) (hne : L[k].t ≠ t) : getO (L.take (k + 1)) t = none := by
 rw [List.take_succ_eq_append_getElem hk, getO_app_none h, getO_cons, if_neg hne]; rfl
theorem getO_some_step {L : List Ob} {t : List UInt8} {k : Nat} (hk : k < L.length) (h : getO (L.take k) t = none) (he : L[k].t = t) : getO L t = some L[k] := by
 conv => lhs; rw [← List.take_append_drop k L]
 rw [getO_app_none h, List.drop_eq_getElem_cons hk, getO_cons, if_pos he]
set_option maxRecDepth 100000 in
set_option maxHeartbeats 2000000 in
theorem rGet_any (v : Value) (L : List Ob) (s : ByteArray) (w : World) (h : IsObs w v L) :
  Calls Tryz.prog 19 #[v, .string s] w fun e w' => e = .returned (.tuple #[.string (gotO L s.data.toList), .bool (getO L s.data.toList).isSome]) ∧ Below w.heap.size w w' := by
 have HI := Lib.hid h
 obtain ⟨hm, a, cap, rfl, _, hc⟩ := h
 have hmm : L.length ≤ 9223372036854775807 := by unfold maxLen at hm; omega
 clear hc hm
 go_enter Tryz.func19, Tryz.ntmps19
 go_wp2
 go_loop [6] (fun i => ∃ k : Nat, k ≤ L.length ∧ i = .int .i64 k ∧ getO (L.take k) s.data.toList = none) (fun i => L.length - (intOf i).toNat)
 case atStart => exact ⟨0, Nat.zero_le _, rfl, rfl⟩
 case round =>
  obtain ⟨k, hk, rfl, hn⟩ := hrel
  have HN := Lib.hid hn; clear hn
  by_cases hlt : k < L.length
  ·have hI := HI.out
   obtain ⟨_, _, _, e, _, hc⟩ := hI
   cases e
   obtain ⟨b, off, rfl, _, g⟩ := hc (by omega)
   obtain ⟨c0, c1⟩ := g k hlt
   clear g hc
   have hbk : decide ((k : Int) < (L.length : Int)) = true := by simpa using (show (k : Int) < L.length by omega)
   by_cases he : L[k].k = s
   ·have HS := Lib.hid (getO_some_step hlt HN.out (by rw [Ob.t, he]))
    have hb1 := beq_true he
    have HE := Lib.hid he; clear he
    go_wp2
    exact bodyPost_ret (v := .tuple #[.string L[k].r, .bool true]) (by simp [results, Tryz.results19, go_sem]) rfl ⟨by rw [gotO_some HS.out, HS.out]; rfl, Below.refl _ _⟩
   ·have HS := Lib.hid (getO_none_step hlt HN.out (fun e => he (str_eq' e)))
    have hb1 := beq_false he
    clear he
    go_wp2
    go_round
    case rel => exact ⟨k + 1, by omega, by go_num, HS.out⟩
    case measure => simp [intOf]; omega
  ·have HS : Hid (getO L s.data.toList = none) := by
    have := HN.out; rwa [List.take_of_length_le (by omega)] at this
   go_wp2
   exact bodyPost_ret (v := .tuple #[.string ⟨#[]⟩, .bool false]) (by simp [results, Tryz.results19, go_sem]) rfl ⟨by rw [gotO_none HS.out, HS.out]; rfl, Below.refl _ _⟩
theorem keyAt {L : List Ob} {i : Nat} (h : i < L.length) : (L.map Ob.t)[i]'(by rw [List.length_map]; exact h) = L[i].k.data.toList := List.getElem_map ..
theorem fitO_keys (L : List Ob) : FitO L ↔ FitP (L.map Ob.t) := by
 constructor
 ·intro h
  refine fit_of ?_ (fun t ht => ?_)
  ·exact List.pairwise_map.2 h.1
  ·obtain ⟨x, hx, rfl⟩ := List.mem_map.1 ht; exact h.2 x hx
 ·intro h
  refine ⟨List.pairwise_map.1 (fit_rises h), fun x hx => ?_⟩
  obtain ⟨i, hi, e⟩ := List.mem_iff_getElem.1 (List.mem_map.2 ⟨x, hx, rfl⟩ : x.t ∈ L.map Ob.t)
  rw [← e]; exact (h i hi).1
theorem fitO_eq (L : List Ob) : fitO L = fitB (L.map Ob.t) := by
 by_cases h : FitP (L.map Ob.t)
 ·rw [fitB_true h, fitO_yes ((fitO_keys L).2 h)]
 ·rw [fitB_false h, fitO_no (fun g => h ((fitO_keys L).1 g))]
theorem fitO_norise {L : List Ob} {k : Nat} (hk : k < (L.map Ob.t).length) (h0 : 0 < k) (hr : ¬ (L.map Ob.t)[k - 1]'(by omega) < (L.map Ob.t)[k]) : fitO L = false := by rw [fitO_eq]; exact fitB_norise hk h0 hr
theorem fitO_no32 {L : List Ob} {k : Nat} (hk : k < (L.map Ob.t).length) (h : (L.map Ob.t)[k].length ≠ 32) : fitO L = false := by rw [fitO_eq]; exact fitB_no32 hk h
theorem fitO_all {L : List Ob} {k : Nat} (h : FitTo (L.map Ob.t) k) (hk : (L.map Ob.t).length ≤ k) : fitO L = true := by rw [fitO_eq]; exact fitB_all h hk
set_option maxRecDepth 100000 in
set_option maxHeartbeats 2000000 in
theorem rFitO_any (v : Value) (L : List Ob) (w : World) (hv : IsObs w v L) :
  Calls Tryz.prog 14 #[v] w fun e w' => e = .returned (.bool (fitO L)) ∧ Below w.heap.size w w' := by
 obtain ⟨hm, a, cap, rfl, _, hc⟩ := hv
 have hmm : L.length ≤ 9223372036854775807 := by unfold maxLen at hm; omega
 have HC := Lib.hid hc
 clear hc hm
 go_enter Tryz.func14, Tryz.ntmps14
 go_wp2
 go_loopw [3] (fun i wr => ∃ k m : Nat, k ≤ L.length ∧ i = .int .i64 k ∧ FitTo (L.map Ob.t) k ∧ wr = w.drewN m) (fun i _ => L.length - (intOf i).toNat)
 case atStart => exact ⟨0, 0, Nat.zero_le _, rfl, fitTo_zero _, rfl⟩
 case round =>
  obtain ⟨k, m, hk, rfl, hF, rfl⟩ := hrel
  have HF := Lib.hid hF; clear hF
  by_cases hlt : k < L.length
  ·obtain ⟨b1, o1, rfl, _, g1⟩ := HC.out (by omega)
   have q1 := (g1 k hlt).1
   have hkl : k < (L.map Ob.t).length := by rw [List.length_map]; exact hlt
   have hty := keyAt hlt
   obtain ⟨y, hy⟩ : ∃ y, y = L[k].k := ⟨_, rfl⟩
   rw [← hy] at q1 hty
   clear hy
   have HT := Lib.hid hty; clear hty
   have hbk : decide ((k : Int) < (L.length : Int)) = true := by simpa using (show (k : Int) < L.length by omega)
   by_cases h32 : y.size = 32
   ·have h32b : (((y.size : Nat) : Int) != 32) = false := by rw [h32]; rfl
    have h32l : (L.map Ob.t)[k].length = 32 := by rw [HT.out, ← Lib.size_eq]; exact h32
    have H32 := Lib.hid h32l
    clear h32 h32l
    by_cases h0 : k = 0
    ·subst h0
     have HS := Lib.hid (fitTo_step HF.out hkl H32.out (fun h => absurd h (by omega)))
     simp only [Nat.zero_mul, Nat.add_zero] at q1
     clear g1
     go_wp2_with fail
     go_quiet (fail)
     go_wp2
     go_roundw
     case rel => exact ⟨1, m + nq, by omega, by go_num, HS.out, by simp [World.drewN]⟩
     case measure => simp [intOf]; omega
    ·have q0 := (g1 (k - 1) (by omega)).1
     have htz := keyAt (L := L) (i := k - 1) (by omega)
     obtain ⟨z, hz⟩ : ∃ z, z = L[k - 1].k := ⟨_, rfl⟩
     rw [← hz] at q0 htz
     clear hz g1
     obtain ⟨j, hj⟩ : ∃ j, j = k - 1 := ⟨_, rfl⟩
     obtain rfl : k = j + 1 := by omega
     simp only [Nat.add_sub_cancel] at q0 htz
     clear hj
     have hk0 : decide ((0 : Int) < ((j + 1 : Nat) : Int)) = true := by simp
     by_cases hr : z.data.toList < y.data.toList
     ·have hrb : Op.bytesLess z.toList y.toList = true := by rw [less_eq]; exact decide_eq_true hr
      have HS := Lib.hid (fitTo_step HF.out hkl H32.out (fun h => by rw [HT.out]; simp only [Nat.add_sub_cancel]; rw [htz]; exact hr))
      clear hr htz
      go_wp2_with fail
      go_quiet (fail)
      go_wp2
      go_roundw
      case rel => exact ⟨j + 2, m + nq, by omega, by go_num, HS.out, by simp [World.drewN]⟩
      case measure => simp [intOf]; omega
     ·have hrb : Op.bytesLess z.toList y.toList = false := by rw [less_eq]; exact decide_eq_false hr
      have HS := Lib.hid (fitO_norise hkl (by omega) (by rw [HT.out]; simp only [Nat.add_sub_cancel]; rw [htz]; exact hr))
      clear hr htz
      go_wp2_with fail
      go_quiet (fail)
      go_wp2
      go_ret
      exact ⟨ret_val (congrArg Value.bool HS.out.symm), below_drewN (below_drewN (Below.refl _ _) _) _⟩
   ·have h32b : (((y.size : Nat) : Int) != 32) = true := by simp; omega
    have HS := Lib.hid (fitO_no32 hkl (by rw [HT.out, ← Lib.size_eq]; exact h32))
    clear h32 g1
    go_wp2_with fail
    go_quiet (fail)
    go_wp2
    go_ret
    exact ⟨ret_val (congrArg Value.bool HS.out.symm), below_drewN (below_drewN (Below.refl _ _) _) _⟩
  ·have HS := Lib.hid (fitO_all HF.out (by rw [List.length_map]; omega))
   have hge : decide ((k : Int) < (L.length : Int)) = false := by simp; omega
   go_wp2
   go_ret
   exact ⟨ret_val (congrArg Value.bool HS.out.symm), below_drewN (Below.refl _ _) _⟩
end Go.Proofs.YtlccihidedfemaaGreatDoor
namespace Go.Proofs.YtlccihidedfemaaGreatDoor
def cs (t : List UInt8) : List (List UInt8) := if t = [] then [] else pts t
theorem cs_nil : cs [] = [] := rfl
theorem cs_inj {a b : List UInt8} (h : cs a = cs b) : a = b := by
 unfold cs at h
 by_cases ha : a = [] <;> by_cases hb : b = []
 ·rw [ha, hb]
 ·rw [if_pos ha, if_neg hb] at h; exact absurd h.symm (pts_ne b)
 ·rw [if_neg ha, if_pos hb] at h; exact absurd h (pts_ne a)
 ·rw [if_neg ha, if_neg hb] at h; exact pts_inj h
structure PathOk (t : List UInt8) : Prop where
 ne : t ≠ []
 pts : cs t = pts t
 split : splitS t = cs t
 len : (cs t).length ≤ 8
 nil : cs t ≠ []
 names : ∀ n ∈ cs t, nameB n = true
theorem path_ok {t : List UInt8} (h : pathB t = true) : PathOk t := by
 have h0 : 0 < (splitS t).length := of_decide_eq_true h
 have h1 := (path_iff t).1 h0
 have hne : t ≠ [] := by
  intro e; subst e
  have := List.all_eq_true.1 h1.2 [] (by decide)
  rw [nameB_nil] at this; cases this
 have hc : cs t = pts t := if_neg hne
 have hs := (splitS_ne (l := t) (by intro e; rw [e] at h0; cases h0)).1
 exact ⟨hne, hc, by rw [hs, hc], by rw [hc]; exact h1.1, by rw [hc]; exact pts_ne t, fun n hn => List.all_eq_true.1 h1.2 n (by rwa [← hc])⟩
theorem cs_dir {t : List UInt8} (h : pathB t = true) : cs (dirS t) = (cs t).dropLast := by
 have P := path_ok h
 unfold dirS
 rw [P.split]
 have ha : (cs t).dropLast.all nameB = true := List.all_eq_true.2 fun n hn => P.names n ((List.dropLast_sublist _).subset hn)
 rw [joinN_small (by rw [List.length_dropLast]; have := P.len; omega) ha]
 cases hd : (cs t).dropLast with
 | nil => rfl
 | cons a r =>
  rw [hd] at ha
  have hf : ∀ p ∈ a :: r, (47 : UInt8) ∉ p := fun p hp => (nameB_iff.1 (List.all_eq_true.1 ha p hp)).2.2.2.2.2
  have hj := pts_joinS (L := a :: r) (by simp) hf
  have hn : joinS (a :: r) ≠ [] := by
   intro e
   rw [e] at hj
   have h1 : a = [] := by injection hj with h1 _; exact h1.symm
   have := List.all_eq_true.1 ha a (by simp)
   rw [h1, nameB_nil] at this; cases this
  unfold cs
  rw [if_neg hn, hj]
theorem cs_last {t : List UInt8} (h : pathB t = true) : cs t = (cs t).dropLast ++ [lastN t] := by
 have P := path_ok h
 unfold lastN
 rw [P.split]
 have hn := P.nil
 rw [List.getLastD_eq_getLast?, List.getLast?_eq_some_getLast hn]
 exact (List.dropLast_concat_getLast hn).symm
theorem dir_iff {t d : List UInt8} (h : pathB t = true) : dirS t = d ↔ cs t = cs d ++ [lastN t] := by
 constructor
 ·rintro rfl; rw [cs_dir h]; exact cs_last h
 ·intro e
  refine cs_inj ?_
  rw [cs_dir h, e]
  simp
theorem dir_of {t d n : List UInt8} (h : pathB t = true) (e : cs t = cs d ++ [n]) : dirS t = d ∧ lastN t = n := by
 have hl := cs_last h
 rw [e] at hl
 simp at hl
 have : lastN t = n := hl.symm
 exact ⟨(dir_iff h).2 (by rw [e, this]), this⟩
theorem cmp_app (x y : List (List UInt8)) : ∀ D : List (List UInt8), cmpP (D ++ x) (D ++ y) = cmpP x y
 | [] => rfl
 | a :: D => by rw [List.cons_append, List.cons_append, cmp_same]; exact cmp_app x y D
theorem cmp_names {a b : List UInt8} (h : cmpP [a] [b] = -1) : a < b := by
 rw [cmp_cons] at h
 by_cases hl : a < b
 ·exact hl
 ·rw [if_neg hl] at h
  by_cases hg : b < a
  ·rw [if_pos hg] at h; cases h
  ·rw [if_neg hg] at h; exact absurd h (by decide)
def pieceN (t : List UInt8) : Nd := ⟨1, ⟨t.toArray⟩, [], []⟩
def partP (t : List UInt8) : Pt := ⟨⟨(keyN (pieceN t)).toArray⟩, t.length⟩
def fileN (c : List UInt8 → Nat) (l : List UInt8) : Nd := ⟨2, ⟨#[]⟩, (pcs c l).map partP, []⟩
def seqF (c : List UInt8 → Nat) (l : List UInt8) : List Nd := (pcs c l).map pieceN ++ [fileN c l]
def It.b (x : It) : List UInt8 := x.c.data.toList
def inD (L : List It) (d : List UInt8) : List It := L.filter fun x => decide (dirS x.t = d)
def entE (x : It) (key : List UInt8) : En := ⟨⟨(lastN x.t).toArray⟩, if x.d then 3 else 2, x.e, ⟨key.toArray⟩⟩
def dirN (c : List UInt8 → Nat) (L : List It) : Nat → List UInt8 → Nd
 | 0, _ => ⟨3, ⟨#[]⟩, [], []⟩
 | k + 1, d => ⟨3, ⟨#[]⟩, [], (inD L d).map fun x => entE x (keyN (if x.d then dirN c L k x.t else fileN c x.b))⟩
def seqD (c : List UInt8 → Nat) (L : List It) : Nat → List UInt8 → List Nd
 | 0, d => [dirN c L 0 d]
 | k + 1, d => ((inD L d).flatMap fun x => if x.d then seqD c L k x.t else seqF c x.b) ++ [dirN c L (k + 1) d]
def subN (c : List UInt8 → Nat) (L : List It) (k : Nat) (x : It) : Nd := if x.d then dirN c L k x.t else fileN c x.b
theorem dirN_kd (c : List UInt8 → Nat) (L : List It) (k : Nat) (d : List UInt8) : (dirN c L k d).kd = 3 := by cases k <;> rfl
theorem dirN_es (c : List UInt8 → Nat) (L : List It) (k : Nat) (d : List UInt8) : (dirN c L (k + 1) d).es = (inD L d).map fun x => entE x (keyN (subN c L k x)) := rfl
theorem dirN_zero (c : List UInt8 → Nat) (L : List It) (d : List UInt8) : (dirN c L 0 d).es = [] := rfl
theorem mem_inD {L : List It} {d : List UInt8} {x : It} : x ∈ inD L d ↔ x ∈ L ∧ dirS x.t = d := by unfold inD; simp
theorem top_mem (c : List UInt8 → Nat) (L : List It) (k : Nat) (d : List UInt8) : dirN c L k d ∈ seqD c L k d := by
 cases k with
 | zero => exact List.mem_singleton.2 rfl
 | succ k => exact List.mem_append_right _ (List.mem_singleton.2 rfl)
theorem file_mem (c : List UInt8 → Nat) (l : List UInt8) : fileN c l ∈ seqF c l := List.mem_append_right _ (List.mem_singleton.2 rfl)
theorem piece_mem {c : List UInt8 → Nat} {l t : List UInt8} (h : t ∈ pcs c l) : pieceN t ∈ seqF c l := List.mem_append_left _ (List.mem_map.2 ⟨t, h, rfl⟩)
theorem sub_dir {c : List UInt8 → Nat} {L : List It} {k : Nat} {d : List UInt8} {x : It} (hx : x ∈ inD L d) (hd : x.d = true) {n : Nd} (hn : n ∈ seqD c L k x.t) : n ∈ seqD c L (k + 1) d :=
 List.mem_append_left _ (List.mem_flatMap.2 ⟨x, hx, by rw [if_pos hd]; exact hn⟩)
theorem sub_file {c : List UInt8 → Nat} {L : List It} {k : Nat} {d : List UInt8} {x : It} (hx : x ∈ inD L d) (hd : x.d = false) {n : Nd} (hn : n ∈ seqF c x.b) : n ∈ seqD c L (k + 1) d :=
 List.mem_append_left _ (List.mem_flatMap.2 ⟨x, hx, by rw [if_neg (by rw [hd]; decide)]; exact hn⟩)
structure ReadyT (c : List UInt8 → Nat) (L : List It) : Prop where
 fit : TFit L
 cut : ∃ mn mx, CutOk mn mx c ∧ mx ≤ 4096
 few : ∀ x ∈ L, (pcs c x.b).length ≤ 1024
theorem piece_fit {t : List UInt8} (h1 : 1 ≤ t.length) (h2 : t.length ≤ 4096) : fitN (pieceN t) = true := by
 have hs : (pieceN t).d.size = t.length := by unfold pieceN; rw [Lib.size_eq]
 rw [fit_piece rfl, hs]
 simp only [pieceN, List.length_nil, decide_true, Bool.and_true, Bool.and_eq_true, decide_eq_true_eq]
 exact ⟨h1, h2⟩
theorem pcs_sizes {c : List UInt8 → Nat} {L : List It} (R : ReadyT c L) (l : List UInt8) : ∀ t ∈ pcs c l, 1 ≤ t.length ∧ t.length ≤ 4096 := by
 intro t ht
 obtain ⟨mn, mx, H, h4⟩ := R.cut
 obtain ⟨i, hi, e⟩ := List.getElem_of_mem ht
 have := pcs_each H l.length l (Nat.le_refl _) i t (by rw [← e]; exact List.getElem?_eq_getElem hi)
 exact ⟨this.1, Nat.le_trans this.2.1 h4⟩
theorem sum_parts : ∀ P : List (List UInt8), sumPt (P.map partP) = (P.flatten.length : Int)
 | [] => rfl
 | t :: P => by
  rw [List.map_cons, List.flatten_cons, List.length_append]
  show (t.length : Int) + sumPt (P.map partP) = _
  rw [sum_parts P]; omega
theorem file_fit {c : List UInt8 → Nat} {L : List It} (R : ReadyT c L) {x : It} (hx : x ∈ L) : fitN (fileN c x.b) = true := by
 obtain ⟨mn, mx, H, _⟩ := R.cut
 rw [fit_file rfl]
 have h1 := R.few x hx
 have h2 := R.fit.data x hx
 have h3 := pcs_flat H.pos x.b.length x.b (Nat.le_refl _)
 have h4 : x.b.length = x.c.size := by unfold It.b; rw [Lib.size_eq]
 simp only [fileN, List.length_map, List.length_nil, decide_true, Bool.and_true, Bool.and_eq_true, decide_eq_true_eq]
 refine ⟨⟨rfl, h1⟩, fitFile_iff.2 ⟨fun p hp => ?_, ?_⟩⟩
 ·obtain ⟨t, ht, rfl⟩ := List.mem_map.1 hp
  have hs := pcs_sizes R x.b t ht
  refine okPt_iff.2 ⟨?_, ?_, ?_⟩
  ·unfold partP; rw [Lib.size_eq]; exact keyN_len (piece_fit hs.1 hs.2)
  ·unfold partP; simp only; omega
  ·unfold partP; simp only; omega
 ·rw [sum_parts, h3]; omega
theorem dir_fit {c : List UInt8 → Nat} {L : List It} (R : ReadyT c L) : ∀ (k : Nat) (d : List UInt8), fitN (dirN c L k d) = true
 | 0, _ => by show fitN ⟨3, ⟨#[]⟩, [], []⟩ = true; decide
 | k + 1, d => by
  have hsub : ∀ x ∈ inD L d, (keyN (subN c L k x)).length = 32 := fun x hx => by
   unfold subN
   cases hd : x.d
   ·exact keyN_len (file_fit R (mem_inD.1 hx).1)
   ·exact keyN_len (dir_fit R k x.t)
  rw [fit_dir rfl, dirN_es]
  have hl : (inD L d).length ≤ 60 := Nat.le_trans (List.length_filter_le _ _) R.fit.len
  have hz : (dirN c L (k + 1) d).d.size = 0 ∧ (dirN c L (k + 1) d).ps.length = 0 := ⟨rfl, rfl⟩
  rw [hz.1, hz.2, List.length_map]
  simp only [decide_true, Bool.true_and, Bool.and_eq_true, decide_eq_true_eq]
  refine ⟨hl, fitDir_iff.2 ⟨fun e he => ?_, fun i hi h0 => ?_⟩⟩
  ·obtain ⟨x, hx, rfl⟩ := List.mem_map.1 he
   have hL := (mem_inD.1 hx).1
   have hp := R.fit.path x hL
   refine okEn_iff.2 ⟨?_, ?_, ?_⟩
   ·exact (path_ok hp).names _ (by rw [cs_last hp]; simp [entE])
   ·unfold entE; rw [Lib.size_eq]; exact hsub x hx
   ·have hb := R.fit.form x hL
    unfold entE
    cases hd : x.d
    ·exact .inl rfl
    ·refine .inr ⟨rfl, ?_⟩
     unfold badI at hb
     rw [hd] at hb
     simp at hb
     exact hb.2
  ·rw [List.length_map] at hi
   rw [List.getElem_map, List.getElem_map]
   have hr := rise_filter R.fit.rise fun x => decide (dirS x.t = d)
   have ho := List.pairwise_iff_getElem.1 hr (i - 1) i (by show i - 1 < (inD L d).length; omega) hi (by omega)
   have ho : orderS ((inD L d)[i - 1]'(by omega)).t ((inD L d)[i]).t = -1 := ho
   have m1 := mem_inD.1 (List.getElem_mem (l := inD L d) (n := i - 1) (by omega))
   have m2 := mem_inD.1 (List.getElem_mem (l := inD L d) (n := i) hi)
   have p1 := R.fit.path _ m1.1; have p2 := R.fit.path _ m2.1
   have e1 := (dir_iff p1).1 m1.2; have e2 := (dir_iff p2).1 m2.2
   unfold orderS at ho
   rw [← (path_ok p1).pts, ← (path_ok p2).pts, e1, e2, cmp_app] at ho
   have := cmp_names ho
   unfold entE
   simpa using this
theorem seqF_fit {c : List UInt8 → Nat} {L : List It} (R : ReadyT c L) {x : It} (hx : x ∈ L) : ∀ n ∈ seqF c x.b, fitN n = true := by
 intro n hn
 rcases List.mem_append.1 hn with h | h
 ·obtain ⟨t, ht, rfl⟩ := List.mem_map.1 h
  have := pcs_sizes R x.b t ht
  exact piece_fit this.1 this.2
 ·rw [List.mem_singleton.1 h]; exact file_fit R hx
theorem seqD_fit {c : List UInt8 → Nat} {L : List It} (R : ReadyT c L) : ∀ (k : Nat) (d : List UInt8), ∀ n ∈ seqD c L k d, fitN n = true
 | 0, d, n, hn => by rw [List.mem_singleton.1 hn]; exact dir_fit R 0 d
 | k + 1, d, n, hn => by
  rcases List.mem_append.1 hn with h | h
  ·obtain ⟨x, hx, h⟩ := List.mem_flatMap.1 h
   cases hd : x.d
   ·rw [if_neg (by rw [hd]; decide)] at h; exact seqF_fit R (mem_inD.1 hx).1 n h
   ·rw [if_pos hd] at h; exact seqD_fit R k x.t n h
  ·rw [List.mem_singleton.1 h]; exact dir_fit R _ d
end Go.Proofs.YtlccihidedfemaaGreatDoor
set_option linter.unusedVariables false
namespace Go.Proofs.YtlccihidedfemaaGreatDoor
open Go Go.RowKit
def KeepsAt (A : Nat → Prop) (X Y : World) : Prop := ∀ k, A k → Y.heap[k]? = X.heap[k]?
theorem KeepsAt.trans {A : Nat → Prop} {X Y Z : World} (h : KeepsAt A X Y) (h' : KeepsAt A Y Z) : KeepsAt A X Z := fun k hk => (h' k hk).trans (h k hk)
theorem KeepsAt.mono {A A' : Nat → Prop} {X Y : World} (h : KeepsAt A X Y) (hA : ∀ k, A' k → A k) : KeepsAt A' X Y := fun k hk => h k (hA k hk)
theorem KeepsAt.put {A : Nat → Prop} {W : World} {l : Nat} {o : Obj} (h : ¬ A l) : KeepsAt A W (W.putObj l o) := fun k hk => World.putObj_heap_other (fun e => h (e ▸ hk))
theorem KeepsAt.below {A : Nat → Prop} {X Y : World} (h : Below X.heap.size X Y) (hA : ∀ k, A k → k < X.heap.size) : KeepsAt A X Y := fun k hk => h.block k (hA k hk)
theorem KeepsAt.refl {A : Nat → Prop} (X : World) : KeepsAt A X X := fun _ _ => rfl
def winPost {α : Type} (A : Nat → Prop) (D : Nat) (I : List α → World → Prop) (Ix : Code → List α → World → Prop) (pre : List α) (W : World) : Exit → Act → World → Prop
 | .normal, _, Y => KeepsAt (fun k => A k ∨ k = D ∨ k = D + 1) W Y ∧ I pre Y
 | .ret, _, Y => KeepsAt (fun k => k = D ∨ k = D + 1) W Y ∧ Ix .ret pre Y
 | .exit id, _, Y => KeepsAt (fun k => k = D ∨ k = D + 1) W Y ∧ Ix (.exit id) pre Y
 | .goto t, _, Y => KeepsAt (fun k => k = D ∨ k = D + 1) W Y ∧ Ix (.goto t) pre Y
 | _, _, _ => False
def SeqOwn {α : Type} (F : Fence) (n : Nat) (P : Program) (g : Nat) (lb : Array Value) (encs : α → Array Value) (A : Nat → Nat → Prop) (K : Nat) (stops : Prop) (S Sp : List α → Prop) (N : Nat) (w : World) : Prop :=
 ∀ (l : Nat) (J Jx : List α → World → Prop) (W : World), Below w.heap.size w W → (∀ s X, Jx s X → stops) →
  (∀ s b X Y, A W.heap.size b → J s X → X.grownBy Y (some b) → J s Y) → (∀ s b X Y, A W.heap.size b → Jx s X → X.grownBy Y (some b) → Jx s Y) →
  (∀ pre x X, J pre X → pre.length < N → (0 < K → W.heap.size + K ≤ X.heap.size) → YieldAt F (n - 1) P l (encs x) X fun e Y =>
   (e = .returned (.bool true) ∧ J (pre ++ [x]) Y ∧ KeepsAt (A W.heap.size) X Y) ∨ (e = .returned (.bool false) ∧ Jx (pre ++ [x]) Y)) → J [] W →
   CallsIn F n P g (#[.func (.yield l) #[] #[]] ++ lb) W fun e Y => (∃ v, e = .returned v) ∧ ((∃ xs, S xs ∧ J xs Y) ∨ (∃ pre, Sp pre ∧ Jx pre Y))
variable {F : Fence} {n : Nat} {P : Program}
theorem wpIn_rangeFunc_win {α : Type} {g : Operand} {ps : Array Tmp} {assign body : Code} {Q : Exit → Act → World → Prop} {a : Act} {w : World}
  (hro : F.round = none) (h1 : 1 ≤ n) {gf : Nat} {lb : Array Value} (hg : a.eval g = .func (.func gf) #[] lb) (hF : F.fn gf) (eg : ∀ args w, (callFunc gf args).run P w = .ok (.enter gf args) w)
  {encs : α → Array Value} {A : Nat → Nat → Prop} {K : Nat} {stops : Prop} {S Sp : List α → Prop} {N : Nat} {w0 : World} (hseq : SeqOwn F (n - 1) P gf lb encs A K stops S Sp N w0)
  (hb0 : Below w0.heap.size w0 w) (hps : ∀ x, (encs x).size = ps.size)
  (hA : ∀ b, A (w.heap.size + 2) b → b ≠ w.heap.size ∧ b ≠ w.heap.size + 1)
  (I : List α → World → Prop) (Ix : Code → List α → World → Prop)
  (hI : ∀ s b X Y, (A (w.heap.size + 2) b ∨ b = w.heap.size ∨ b = w.heap.size + 1) → I s X → X.grownBy Y (some b) → I s Y)
  (hIx : ∀ c s b X Y, (A (w.heap.size + 2) b ∨ b = w.heap.size ∨ b = w.heap.size + 1) → Ix c s X → X.grownBy Y (some b) → Ix c s Y)
  (hst : ∀ c s X, Ix c s X → stops)
  (hI0 : ∀ o, I [] ((w.alloc (.deferred (some []))).alloc (.loop o)))
  (a₁ : α → Act)
  (hassign : ∀ (l : Nat) (x : α) (W : World) (K : Act → World → Prop), K (a₁ x) W →
   assign.wpIn (F.inRound l) (n - 1 - 1) P (Exit.then K (fun _ _ _ => False)) { tmps := (ps.zip (encs x)).foldl (fun t (p, v) => t.setIfInBounds p v) a.tmps, defers := [] } W)
  (hbody : ∀ (l : Nat) (pre : List α) (x : α) (W : World), I pre W → pre.length < N → (0 < K → w.heap.size + 2 + K ≤ W.heap.size) → body.wpIn (F.inRound l) (n - 1 - 1) P (winPost (A (w.heap.size + 2)) w.heap.size I Ix (pre ++ [x]) W) (a₁ x) W)
  (hdone : ∀ (xs : List α) (W : World), S xs → I xs W → W.heap[w.heap.size]? = some (.deferred (some [])) → Q .normal { a with defers := { target := .collected w.heap.size, args := #[] } :: a.defers } W)
  (hstop : ∀ (c : Code) (pre : List α) (W : World), Sp pre → Ix c pre W → W.heap[w.heap.size]? = some (.deferred (some [])) → c.wpIn F n P Q { a with defers := { target := .collected w.heap.size, args := #[] } :: a.defers } W) :
  (Code.rangeFunc g ps assign body).wpIn F n P Q a w := by
 refine wpIn_rangeFunc fun fn hfn => ?_
 rw [hro]
 obtain ⟨rec, hrec⟩ : ∃ rec : LoopState → Option Code → Loop, rec = fun st pe => { state := st, pending := pe, fn, tmps := a.tmps, params := ps, assign, body, defers := w.heap.size } := ⟨_, rfl⟩
 obtain ⟨W1, hW1⟩ : ∃ W1, (w.alloc (.deferred (some []))).alloc (.loop (rec .ready none)) = W1 := ⟨_, rfl⟩
 have hL1 : W1.heap[w.heap.size + 1]? = some (.loop (rec .ready none)) := by
  rw [← hW1]; have := World.alloc_heap_new (w.alloc (.deferred (some []))) (.loop (rec .ready none)); rwa [World.size_alloc] at this
 have hK1 : W1.heap[w.heap.size]? = some (.deferred (some [])) := by
  rw [← hW1]; exact (Below.heap_alloc _ _ _ (by simp)).trans (World.alloc_heap_new w _)
 have hs1 : W1.heap.size = w.heap.size + 2 := by rw [← hW1]; simp
 have hI1 : I [] W1 := by rw [← hW1]; exact hI0 _
 have hb1 : Below w0.heap.size w0 W1 := by
  rw [← hW1]; exact hb0.trans ((((Below.refl _ w).alloc (Nat.le_refl _) _).alloc (by simp) _).mono hb0.size)
 refine ⟨w.heap.size + 1, [{ target := .collected w.heap.size, args := #[] }], W1, { target := .fn (.func gf) lb, args := #[.func (.yield (w.heap.size + 1)) #[] #[]] }, W1, gf,
  #[.func (.yield (w.heap.size + 1)) #[] #[]] ++ lb, W1, ?_, ?_, ?_, ?_, fun _ => h1, ?_⟩
 ·rw [← hW1, hrec]; exact run_enterLoop_outer _ _ _ _ _
 ·simp only [resolve, hg]
  simp [go_sem]
 ·intro f' hf'; simp [Target.leads] at hf'; subst hf'; exact hF
 ·simp [invoke, go_sem, eg]
 ·have keep : ∀ {X Y : World} {b k : Nat} {o : Obj}, X.heap[k]? = some o → X.grownBy Y (some b) → b ≠ k → Y.heap[k]? = some o :=
   fun hx hg hne => (hg.block _ (Array.getElem?_eq_some_iff.1 hx).1 (fun e => hne (by cases e; rfl))).trans hx
  refine (hseq (w.heap.size + 1)
   (fun pre W => I pre W ∧ W.heap[w.heap.size + 1]? = some (.loop (rec .ready none)) ∧ W.heap[w.heap.size]? = some (.deferred (some [])))
   (fun pre W => ∃ c, Ix c pre W ∧ W.heap[w.heap.size + 1]? = some (.loop (rec .done (some c))) ∧ W.heap[w.heap.size]? = some (.deferred (some [])))
   W1 hb1 (fun s X h => by obtain ⟨c, hc, _⟩ := h; exact hst c s X hc)
   (fun s b X Y hb hs hg' => by
    rw [hs1] at hb
    exact ⟨hI s b X Y (.inl hb) hs.1 hg', keep hs.2.1 hg' (hA b hb).2, keep hs.2.2 hg' (hA b hb).1⟩)
   (fun s b X Y hb hs hg' => by
    rw [hs1] at hb
    obtain ⟨c, hc, hl, hk⟩ := hs
    exact ⟨c, hIx c s b X Y (.inl hb) hc hg', keep hl hg' (hA b hb).2, keep hk hg' (hA b hb).1⟩)
   ?_ ⟨hI1, hL1, hK1⟩).mono ?_
  ·rintro pre x W ⟨hi, hl, hk⟩ hlen hsz
   rw [hs1] at hsz ⊢
   have hlt : w.heap.size + 1 < W.heap.size := (Array.getElem?_eq_some_iff.1 hl).1
   have hy := run_yield (P := P) (args := encs x) hl (by rw [hrec]; exact hps x)
   rw [hrec] at hy
   refine ⟨fn, _, assign, body, hy, roundIn_of_wpIn hfn (hassign _ x W _ ⟨_, run_beginRound hl (by rw [hrec]), ?_⟩)⟩
   have hl2 : (W.putObj (w.heap.size + 1) (.loop { rec .ready none with state := .busy })).heap[w.heap.size + 1]? = some (.loop { rec .ready none with state := .busy }) := World.putObj_heap_same hlt
   have hk2 : (W.putObj (w.heap.size + 1) (.loop { rec .ready none with state := .busy })).heap[w.heap.size]? = some (.deferred (some [])) := (World.putObj_heap_other (by omega)).trans hk
   have hkA : ∀ (W : World) (o : Obj), KeepsAt (A (w.heap.size + 2)) W (W.putObj (w.heap.size + 1) o) := fun W o => KeepsAt.put (fun h => (hA _ h).2 rfl)
   refine wpIn_mono (hbody _ pre x _ (hI _ _ _ _ (.inr (.inr rfl)) hi (grownBy_putObj' _ _ _)) hlen (fun hK => Nat.le_trans (hsz hK) (grownBy_putObj' W _ _).size)) ?_
   have fin : ∀ (jump : Option Code) (W3 : World), W3.heap[w.heap.size + 1]? = some (.loop { rec .ready none with state := .busy }) → W3.heap[w.heap.size]? = some (.deferred (some [])) →
     (Instr.endRound (w.heap.size + 1) jump).run P W3 = .ok (.bool jump.isNone) (W3.putObj (w.heap.size + 1) (.loop (rec (if jump.isNone then .ready else .done) jump))) ∧
     (W3.putObj (w.heap.size + 1) (.loop (rec (if jump.isNone then .ready else .done) jump))).heap[w.heap.size + 1]? = some (.loop (rec (if jump.isNone then .ready else .done) jump)) ∧
     (W3.putObj (w.heap.size + 1) (.loop (rec (if jump.isNone then .ready else .done) jump))).heap[w.heap.size]? = some (.deferred (some [])) := fun jump W3 hl3 hk3 => by
    have := run_endRound (P := P) jump hl3
    rw [hrec] at this ⊢
    exact ⟨this, World.putObj_heap_same (Array.getElem?_eq_some_iff.1 hl3).1, (World.putObj_heap_other (by omega)).trans hk3⟩
   rintro e a3 W3 hp
   have hL3 : ∀ {B : Nat → Prop}, KeepsAt B (W.putObj (w.heap.size + 1) (.loop { rec .ready none with state := .busy })) W3 → B (w.heap.size + 1) → W3.heap[w.heap.size + 1]? = some (.loop { rec .ready none with state := .busy }) := fun h hB => (h _ hB).trans hl2
   have hD3 : ∀ {B : Nat → Prop}, KeepsAt B (W.putObj (w.heap.size + 1) (.loop { rec .ready none with state := .busy })) W3 → B w.heap.size → W3.heap[w.heap.size]? = some (.deferred (some [])) := fun h hB => (h _ hB).trans hk2
   cases e with
   | normal =>
    obtain ⟨hk3, hi3⟩ := hp
    obtain ⟨hr, hl4, hk4⟩ := fin none W3 (hL3 hk3 (.inr (.inr rfl))) (hD3 hk3 (.inr (.inl rfl)))
    exact ⟨_, _, hr, .inl ⟨rfl, ⟨hI _ _ _ _ (.inr (.inr rfl)) hi3 (grownBy_putObj' _ _ _), hl4, hk4⟩, ((hkA W _).trans (hk3.mono (fun k h => .inl h))).trans (hkA W3 _)⟩⟩
   | ret =>
    obtain ⟨hk3, hi3⟩ := hp
    obtain ⟨hr, hl4, hk4⟩ := fin (some .ret) W3 (hL3 hk3 (.inr rfl)) (hD3 hk3 (.inl rfl))
    exact ⟨_, _, hr, .inr ⟨rfl, .ret, hIx _ _ _ _ _ (.inr (.inr rfl)) hi3 (grownBy_putObj' _ _ _), hl4, hk4⟩⟩
   | exit id =>
    obtain ⟨hk3, hi3⟩ := hp
    obtain ⟨hr, hl4, hk4⟩ := fin (some (.exit id)) W3 (hL3 hk3 (.inr rfl)) (hD3 hk3 (.inl rfl))
    exact ⟨_, _, hr, .inr ⟨rfl, .exit id, hIx _ _ _ _ _ (.inr (.inr rfl)) hi3 (grownBy_putObj' _ _ _), hl4, hk4⟩⟩
   | goto t =>
    obtain ⟨hk3, hi3⟩ := hp
    obtain ⟨hr, hl4, hk4⟩ := fin (some (.goto t)) W3 (hL3 hk3 (.inr rfl)) (hD3 hk3 (.inl rfl))
    exact ⟨_, _, hr, .inr ⟨rfl, .goto t, hIx _ _ _ _ _ (.inr (.inr rfl)) hi3 (grownBy_putObj' _ _ _), hl4, hk4⟩⟩
   | panic ch => exact hp.elim
   | outgrown => exact hp.elim
  ·rintro e W2 ⟨⟨v, rfl⟩, (⟨xs, hS, hi, hl, hk⟩ | ⟨pre, hSp, c, hi, hl, hk⟩)⟩
   ·exact ⟨none, _, by have := run_endLoop (P := P) hl (by rw [hrec]; simp); rw [hrec] at this; exact this, hdone xs _ hS (hI _ _ _ _ (.inr (.inr rfl)) hi (grownBy_putObj' _ _ _)) ((World.putObj_heap_other (by omega)).trans hk)⟩
   ·exact ⟨some c, _, by have := run_endLoop (P := P) hl (by rw [hrec]; simp); rw [hrec] at this; exact this, hstop c pre _ hSp (hIx _ _ _ _ _ (.inr (.inr rfl)) hi (grownBy_putObj' _ _ _)) ((World.putObj_heap_other (by omega)).trans hk)⟩
end Go.Proofs.YtlccihidedfemaaGreatDoor
set_option linter.unusedVariables false
namespace Go.Proofs.YtlccihidedfemaaGreatDoor
open Go.RowKit Go.Shelf
attribute [local go_sem] Oper.semAt_some
abbrev badS : ByteArray := ⟨#[47, 0]⟩
set_option maxRecDepth 100000 in
theorem IndexByte_any (s : ByteArray) (c : UInt8) (w : World) : Calls Tryz.prog 178 #[.string s, .int .u8 c.toNat] w fun e w' => e = .returned (.int .i64 (Lib.indexByte s.data.toList c)) ∧ w = w' := by
 have C := Any.strings_IndexByte Tryz.lays137 s (c.toNat : Int) w
 change Calls Tryz.prog 178 _ _ _ at C
 refine C.mono ?_
 rintro e w' ⟨rfl, rfl⟩
 exact ⟨by simp, rfl⟩
def runeB (c : Int) : Bool := (decide (0 ≤ c) && decide (c < 55296)) || (decide (57343 < c) && decide (c ≤ 1114111))
theorem ValidRune_any (c : Int) (h0 : 128 ≤ c) (w : World) : Calls Tryz.prog 179 #[.int .i32 c] w fun e w' => e = .returned (.bool (runeB c)) ∧ w = w' := by
 have a0 : decide ((0 : Int) ≤ c) = true := decide_eq_true (by omega)
 by_cases h1 : c < 55296
 ·have a1 : decide (c < 55296) = true := decide_eq_true h1
  have HN : Hid (runeB c = true) := by show _ = _; simp [runeB, a0, a1]
  go_enter Tryz.func179, Tryz.ntmps179
  go_wp2
  go_ret
  exact ⟨ret_val (congrArg Value.bool HN.out.symm), rfl⟩
 ·have a1 : decide (c < 55296) = false := decide_eq_false h1
  by_cases h2 : 57343 < c
  ·have a2 : decide (57343 < c) = true := decide_eq_true h2
   by_cases h3 : c ≤ 1114111
   ·have a3 : decide (c ≤ 1114111) = true := decide_eq_true h3
    have HN : Hid (runeB c = true) := by show _ = _; simp [runeB, a2, a3]
    go_enter Tryz.func179, Tryz.ntmps179
    go_wp2
    go_ret
    exact ⟨ret_val (congrArg Value.bool HN.out.symm), rfl⟩
   ·have a3 : decide (c ≤ 1114111) = false := decide_eq_false h3
    have HN : Hid (runeB c = false) := by show _ = _; simp [runeB, a1, a3]
    go_enter Tryz.func179, Tryz.ntmps179
    go_wp2
    go_ret
    exact ⟨ret_val (congrArg Value.bool HN.out.symm), rfl⟩
  ·have a2 : decide (57343 < c) = false := decide_eq_false h2
   have HN : Hid (runeB c = false) := by show _ = _; simp [runeB, a1, a2]
   go_enter Tryz.func179, Tryz.ntmps179
   go_wp2
   go_ret
   exact ⟨ret_val (congrArg Value.bool HN.out.symm), rfl⟩
theorem encode_high {c : Int} (h : 128 ≤ c) : 2 ≤ (Utf8.encode c).size ∧ (Utf8.encode c).size ≤ 4 ∧ ∀ k (hk : k < (Utf8.encode c).size), k + 1 = (Utf8.encode c).size → ((Utf8.encode c)[k].toNat : Int) ≠ 0 := by
 obtain ⟨n, hn⟩ : ∃ n, n = if Utf8.valid c then c.toNat else Utf8.runeError := ⟨_, rfl⟩
 have hn1 : 128 ≤ n := by rw [hn]; split; omega; decide
 have key : ∀ m : Nat, ((UInt8.ofNat (128 + m % 64)).toNat : Int) ≠ 0 := fun m => by
  rw [UInt8.toNat_ofNat']; omega
 have two : ∀ a b : UInt8, (⟨#[a, b]⟩ : ByteArray).size = 2 := fun _ _ => rfl
 have three : ∀ a b c : UInt8, (⟨#[a, b, c]⟩ : ByteArray).size = 3 := fun _ _ _ => rfl
 have four : ∀ a b c d : UInt8, (⟨#[a, b, c, d]⟩ : ByteArray).size = 4 := fun _ _ _ _ => rfl
 unfold Utf8.encode
 rw [← hn]
 simp only
 split
 ·omega
 ·split
  ·refine ⟨by rw [two]; omega, by rw [two]; omega, fun k hk e => ?_⟩
   rw [two] at e; obtain rfl : k = 1 := by omega
   exact key n
  ·split
   ·refine ⟨by rw [three]; omega, by rw [three]; omega, fun k hk e => ?_⟩
    rw [three] at e; obtain rfl : k = 2 := by omega
    exact key n
   ·refine ⟨by rw [four]; omega, by rw [four]; omega, fun k hk e => ?_⟩
    rw [four] at e; obtain rfl : k = 3 := by omega
    exact key n
set_option maxRecDepth 100000 in
set_option maxHeartbeats 4000000 in
theorem IndexRune_high (c : Int) (h : 128 ≤ c) (hc : c ≤ 2147483647) (w : World) : Calls Tryz.prog 165 #[.string badS, .int .i32 c] w fun e w' => e = .returned (.int .i64 (-1)) ∧ Below w.heap.size w w' := by
 have a0 : decide (c < 128) = false := decide_eq_false (by omega)
 have a00 : decide ((0 : Int) ≤ c) = true := decide_eq_true (by omega)
 by_cases he : c = 65533
 ·subst he
  go_enter Tryz.func165, Tryz.ntmps165
  go_wp2
  go_loopg [5, 6] 2 (fun g _ _ wx => ∃ i : Nat, i + g = 2 ∧ wx = w.iter badS i)
  case atStart => exact ⟨0, by omega, rfl⟩
  case round =>
   obtain ⟨i, hig, rfl⟩ := hrel
   cases gk with
   | zero =>
    obtain rfl : i = 2 := by omega
    have hnx := run_next_end (P := Tryz.prog) w badS 2
    go_wp2
    go_ret
    exact ⟨rfl, (Below.refl _ _).alloc (Nat.le_refl _) _⟩
   | succ g =>
    have hi : i < badS.size := by show i < 2; omega
    have hx : (badS[i]'hi).toNat < 128 := by
     rcases (show i = 0 ∨ i = 1 by omega) with rfl | rfl
     ·exact (by decide : 47 < 128)
     ·exact (by decide : 0 < 128)
    have hnx := fun ty => run_next_ascii (P := Tryz.prog) w badS i ty hi hx
    obtain ⟨x, hxx⟩ : ∃ x, x = (badS[i]'hi).toNat := ⟨_, rfl⟩
    rw [← hxx] at hnx hx
    have hne : ((x : Int) == 65533) = false := beq_eq_false_iff_ne.2 (by omega)
    clear hxx
    go_wp2
    go_roundg g
    case measure => omega
    case rel => exact ⟨i + 1, by omega, rfl⟩
 ·have a1 : (c == 65533) = false := beq_eq_false_iff_ne.2 he
  have V := Lib.hid (ValidRune_any c h)
  rcases hv : runeB c with _ | _
  ·rw [hv] at V
   go_enter Tryz.func165, Tryz.ntmps165
   go_wp2_with fail
   refine (V.out _).mono ?_
   rintro e w1 ⟨rfl, rfl⟩
   go_wp2
   go_ret
   exact ⟨rfl, Below.refl _ _⟩
  ·rw [hv] at V
   obtain ⟨hz1, hz2, hlast⟩ := encode_high h
   clear hv
   by_cases hz : (Utf8.encode c).size = 2
   ·have hl := hlast 1 (by omega) (by omega)
    have hu0 : (((badS[1]'(by decide)).toNat : Int) != (((Utf8.encode c)[1]'(by omega)).toNat : Int)) = true := bne_iff_ne.2 (fun e => hl e.symm)
    have hw2 : IntKind.i64.wrap 2 = 2 := by rw [IntKind.wrap_i64]; decide
    have hs2 := fun W => run_slice_from (P := Tryz.prog) Tryz.underlying9 badS 2 (by decide) W
    have CI := Lib.hid (fun (x : ByteArray) (hx : x.data.toList = []) (u : UInt8) W => show Calls Tryz.prog 178 #[.string x, .int .u8 u.toNat] W fun e w' => e = .returned (.int .i64 (-1)) ∧ w' = W from (IndexByte_any x u W).mono fun e w' h => ⟨by rw [h.1, hx]; rfl, h.2.symm⟩)
    clear hlast hl
    go_enter Tryz.func165, Tryz.ntmps165
    go_wp2_with fail
    refine (V.out _).mono ?_
    rintro e w1 ⟨rfl, rfl⟩
    go_wp2_with fail
    apply wp_scope_straight
    go_wp2_with fail
    go_loopw [9, 10] (fun i f wx => i = .int .i64 1 ∧ f = .int .i64 0 ∧ wx = w) (fun _ _ _ => 0)
    case atStart => exact ⟨rfl, rfl, rfl⟩
    case round =>
     obtain ⟨rfl, rfl, rfl⟩ := hrel
     go_wp2_with fail
     apply wp_scope_straight
     go_wp2_with fail
     go_quiet (fail)
     go_wp2_with fail
     have hBw := below_drewN (Below.refl wr.heap.size wr) nq
     generalize wr.drewN nq = wq at hBw ⊢
     go_quiet ((go_at_call 178; exact Calls.quiet_of_same (CI.out ByteArray.empty (by rfl) _ _)))
     go_wp2_with fail
     rw [Exit.noGoto_ret]
     go_wp2_with fail
     rw [Exit.noGoto_ret]
     go_wp2
     go_ret
     exact ⟨rfl, below_drewN hBw _⟩
   ·have hz3 : 3 ≤ (Utf8.encode c).size := by omega
    obtain ⟨rs, hrs⟩ : ∃ rs, rs = Utf8.encode c := ⟨_, rfl⟩
    have HZ3 := Lib.hid hz3
    clear hlast hz
    go_enter Tryz.func165, Tryz.ntmps165
    go_wp2_with fail
    refine (V.out _).mono ?_
    rintro e w1 ⟨rfl, rfl⟩
    go_wp2_with fail
    apply wp_scope_straight
    go_wp2_with fail
    rw [← hrs] at hz3 hz1 hz2 ⊢
    clear hrs
    have hlt : decide ((rs.size : Int) - 1 < 2) = false := decide_eq_false (by omega)
    go_loopw [9, 10] (fun i f wx => i = .int .i64 ((rs.size : Int) - 1) ∧ f = .int .i64 0 ∧ wx = w) (fun _ _ _ => 0)
    case atStart => exact ⟨rfl, rfl, rfl⟩
    case round =>
     obtain ⟨rfl, rfl, rfl⟩ := hrel
     go_wp2_with fail
     rw [Exit.noGoto_ret]
     go_wp2
     go_ret
     exact ⟨rfl, Below.refl _ _⟩
end Go.Proofs.YtlccihidedfemaaGreatDoor
set_option linter.unusedVariables false
namespace Go.Proofs.YtlccihidedfemaaGreatDoor
open Go.RowKit Go.Shelf
theorem sizeBuilder_Bup : (Tryz.prog.info? 154).map (fun i => i.size) = some 2 := by kernel_rfl
theorem infoByte_Bup : (Tryz.prog.info? 5).map (fun i => (i.zero, i.size, i.bytes)) = some (some (.int .u8 0), 1, 1) := by kernel_rfl
theorem liesBuilder_Bup : liesAt Tryz.prog Tryz.prog.depth 154 (2 / Tryz.prog.cellsOf 154) 0 154 1 = true := by kernel_rfl
set_option maxHeartbeats 1000000 in
set_option maxRecDepth 100000 in
theorem copyCheck_used_Bup (b : Nat) (w : World) (h0 : w.cell? ⟨b, 0, none⟩ = some (.pointer (some ⟨b, 0, none⟩))) :
  Calls Tryz.prog 146 #[.pointer (some ⟨b, 0, none⟩)] w fun e w' => e = .returned (.tuple #[]) ∧ w' = w := by
 obtain ⟨j, hj, _⟩ := Option.map_eq_some_iff.1 sizeBuilder_Bup
 go_enter Tryz.func146, Tryz.ntmps146
 go_wp2
 rw [Lib.run_neq_ptr_same w _ Tryz.underlying152 hj]
 go_wp2
 go_end0
 exact ⟨rfl, rfl⟩
set_option maxHeartbeats 1000000 in
set_option maxRecDepth 100000 in
theorem copyCheck_fresh_Bup (b : Nat) (w : World) (h0 : w.cell? ⟨b, 0, none⟩ = some (.pointer none)) (hsh : w.shape? b = some (154, 2)) (hfz : w.frozen? ⟨b, 0, none⟩ = false) :
  Calls Tryz.prog 146 #[.pointer (some ⟨b, 0, none⟩)] w fun e w' => e = .returned (.tuple #[]) ∧ w' = w.setCell ⟨b, 0, none⟩ (.pointer (some ⟨b, 0, none⟩)) := by
 obtain ⟨j, hj, hjs⟩ := Option.map_eq_some_iff.1 sizeBuilder_Bup
 have hl := liesBuilder_Bup
 go_enter Tryz.func146, Tryz.ntmps146
 go_wp2
 rw [Lib.run_to_unsafe w ⟨b, 0, none⟩ Tryz.underlying152 Tryz.underlying180 hj (by rw [hjs]; decide) hsh (Nat.zero_lt_succ 1)]
 simp only [Result.andThen]
 rw [Oper.upon_value]
 go_wp2
 rw [run_callFunc_extern Tryz.func160 (by kernel_rfl) (by kernel_rfl) (by kernel_rfl) (e := Extern.AbiNoEscape.same) (by kernel_rfl)]
 rw [Lib.run_noEscape]
 simp only [Result.andThen]
 rw [Oper.upon_value]
 go_wp2
 rw [Lib.run_from_unsafe w ⟨b, 0, none⟩ Tryz.underlying180 Tryz.underlying152 hj hsh hl]
 simp only [Result.andThen]
 rw [Oper.upon_value]
 go_wp2
 go_end0
 exact ⟨rfl, rfl⟩
theorem copyCheck_k_Bup (B b : Nat) (bs : List Value) (w : World) (h : Lib.IsBuilderF 154 5 B b bs w) :
  Calls Tryz.prog 146 #[.pointer (some ⟨b, 0, none⟩)] w fun e w' => e = .returned (.tuple #[]) ∧ (Lib.BuilderAtF 154 5 B b (.pointer (some ⟨b, 0, none⟩)) bs w' ∧ Below B w w' ∧ Lib.OthersKept 5 (some b) w w') := by
 rcases h with h | h
 ·refine (copyCheck_fresh_Bup b w h.cell0 h.shape h.frozen0).mono ?_
  rintro e w' ⟨rfl, rfl⟩
  exact ⟨rfl, h.used _, (Below.refl B w).setCell (p := ⟨b, 0, none⟩) h.1 _, (Lib.OthersKept.refl _ _ w).setCell ⟨b, 0, none⟩ rfl _⟩
 ·refine (copyCheck_used_Bup b w h.cell0).mono ?_
  rintro e w' ⟨rfl, rfl⟩
  exact ⟨rfl, h, Below.refl B _, Lib.OthersKept.refl _ _ _⟩
theorem cellsByte_Bup : Tryz.prog.cellsOf 5 = 1 := by kernel_rfl
set_option maxHeartbeats 2000000 in
set_option maxRecDepth 100000 in
theorem String_full_k_Bup (B b : Nat) (l : List UInt8) (w : World) (h : Lib.IsBuilderF 154 5 B b (Lib.byteCells l) w) (h0 : l ≠ []) :
  Calls Tryz.prog 128 #[.pointer (some ⟨b, 0, none⟩)] w fun e w' => e = .returned (.string ⟨l.toArray⟩) ∧ (Lib.IsBuilderF 154 5 B b (Lib.byteCells l) w' ∧ Below B w w' ∧ Lib.OthersKept 5 (some b) w w') := by
 obtain ⟨p, hp, hAt⟩ : ∃ p, (p = .pointer none ∨ p = .pointer (some ⟨b, 0, none⟩)) ∧ Lib.BuilderAtF 154 5 B b p (Lib.byteCells l) w := by
  rcases h with h | h
  ·exact ⟨_, .inl rfl, h⟩
  ·exact ⟨_, .inr rfl, h⟩
 obtain ⟨hB, v, hbk, hown, hne⟩ := hAt
 have hl0 : l.length ≠ 0 := by simpa using h0
 rw [Lib.byteCells_length] at hown
 obtain ⟨g, cap, cur, fz, rfl, hbg, hg, hfz, hnc, hcm, hcs, htake⟩ : ∃ g cap cur fz, v = .slice (some ⟨g, 0, none⟩) l.length cap ∧ B ≤ g ∧ w.heap[g]? = some (.cells cur 5 fz) ∧ fz.2 ≤ l.length * 1 ∧ l.length ≤ cap ∧ cap ≤ maxLen ∧ cur.size = cap * 1 ∧ cur.toList.take (l.length * 1) = Lib.byteCells l := by
  rcases hown.2 with ⟨_, hz⟩ | ⟨g, cap, cur, fz, hv, r⟩
  ·exact absurd hz hl0
  ·exact ⟨g, cap, cur, fz, hv, r⟩
 have c1 : w.drew.cell? ⟨b, 1, none⟩ = some (.slice (some ⟨g, 0, none⟩) l.length cap) := by
  have : w.drew.heap[b]? = some (.cells #[p, .slice (some ⟨g, 0, none⟩) l.length cap] 154 (0, 0)) := hbk
  rw [Lib.cell_of_heap this]; rfl
 have hSD : (Builtin.unsafeSliceData_ #[83] 175 #[.slice (some ⟨g, 0, none⟩) l.length cap]).run Tryz.prog w.drew = .ok (.pointer (some ⟨g, 0, none⟩)) w.drew :=
  Lib.run_unsafeSliceData_row _ _ _ _ _ _ (by omega)
 have hUS : (Builtin.unsafeString_ #[175, 3] 9 #[.pointer (some ⟨g, 0, none⟩), .int .i64 l.length]).run Tryz.prog w.drew = .ok (.string ⟨l.toArray⟩) (w.drew.freeze ⟨g, 0, none⟩ l.length) := by
  refine Lib.run_unsafeString_row w.drew 175 3 9 5 Tryz.underlying175 cellsByte_Bup g cur.size (by have hg' : w.drew.heap[g]? = some (.cells cur 5 fz) := hg; simp [World.shape?, hg']) l h0 (by omega) (by unfold maxLen at hcm; omega) ?_
  intro j x hx
  have := hown.cells (g := g) rfl j (.int .u8 x.toNat) (by simp [Lib.byteCells, hx])
  exact this
 have hkeep : Lib.IsBuilderF 154 5 B b (Lib.byteCells l) (w.drew.freeze ⟨g, 0, none⟩ l.length) := by
  have hA : Lib.BuilderAtF 154 5 B b p (Lib.byteCells l) w.drew := ⟨hB, _, hbk, by rw [Lib.byteCells_length]; exact hown, hne⟩
  have hF := hA.froze (g := g) (cap := cap) (by rw [Lib.byteCells_length]; exact c1)
  rw [Lib.byteCells_length] at hF
  rcases hp with rfl | rfl
  ·exact .inl hF
  ·exact .inr hF
 go_enter Tryz.func128, Tryz.ntmps128
 go_wp2
 go_region
 all_goals (go_wp2; go_ret; exact ⟨rfl, hkeep, Lib.below_freeze (Below.drew (Below.refl B w)) (p := ⟨g, 0, none⟩) hbg _, ((Lib.OthersKept.refl _ _ w).drew).freeze ⟨g, 0, none⟩ _ ⟨cur, fz, hg⟩⟩)
set_option maxHeartbeats 2000000 in
set_option maxRecDepth 100000 in
theorem WriteString_k (B b : Nat) (bs : List Value) (s : ByteArray) (w : World) (h : Lib.IsBuilderF 154 5 B b bs w) (hlen : bs.length + s.size ≤ 140737488355328) (hBw : B ≤ w.heap.size) :
  Calls Tryz.prog 126 #[.pointer (some ⟨b, 0, none⟩), .string s] w fun e w' => e = .returned (.tuple #[.int .i64 s.size, .nilIface]) ∧ (Lib.BuilderAtF 154 5 B b (.pointer (some ⟨b, 0, none⟩)) (bs ++ Lib.strCells s) w' ∧ Below B w w' ∧ Lib.OthersKept 5 (some b) w w') := by
 obtain ⟨i0, hi, hz0, hz1, hz2⟩ := info_parts infoByte_Bup
 go_enter Tryz.func126, Tryz.ntmps126
 go_wp2_with (go_at_call 146; refine (copyCheck_k_Bup B b bs _ h).mono ?_)
 rintro e w1 ⟨rfl, h1, hb1, hk1⟩
 obtain ⟨hB, v, hbk, hown, hne⟩ := h1
 have c0 : w1.cell? ⟨b, 0, none⟩ = some (.pointer (some ⟨b, 0, none⟩)) := by rw [Lib.cell_of_heap hbk]; rfl
 have c1 : w1.cell? ⟨b, 1, none⟩ = some v := by rw [Lib.cell_of_heap hbk]; rfl
 go_wp2_with (at_builtin; refine Lib.wpList_append_own_stringF _ rfl _ _ 83 9 rfl B 5 i0 Tryz.underlying83 Tryz.underlying9 hi hz0 hz1 hz2 _ _ _ rfl hown s rfl ?c3 ?c4 ?c5 ?_)
 case c3 => unfold maxLen; omega
 case c4 => omega
 case c5 => have := hb1.size; omega
 intro v' w2 hown' hgrow _
 have hlt : b < w1.heap.size := (Array.getElem?_eq_some_iff.1 hbk).1
 have hb2 : w2.heap[b]? = some (.cells #[.pointer (some ⟨b, 0, none⟩), v] 154 (0, 0)) := by
  rw [hgrow.block b hlt (fun e => hne e.symm)]
  exact hbk
 have d0 : w2.cell? ⟨b, 0, none⟩ = some (.pointer (some ⟨b, 0, none⟩)) := by rw [Lib.cell_of_heap hb2]; rfl
 have d1 : w2.cell? ⟨b, 1, none⟩ = some v := by rw [Lib.cell_of_heap hb2]; rfl
 have f1 : w2.frozen? ⟨b, 1, none⟩ = false := Lib.frozen_of_heap hb2 1
 obtain ⟨ao, n', cap, rfl⟩ : ∃ ao n' cap, v' = .slice ao n' cap := by
  rcases hown'.2 with ⟨hv, _⟩ | ⟨g, cap, cur, fz, hv, _⟩
  ·exact ⟨_, _, _, hv⟩
  ·exact ⟨_, _, _, hv⟩
 go_wp2
 go_ret2
 refine ⟨rfl, ?_, ?_, (hk1.grown hgrow (Lib.ownsRowF_kind hown)).setCell ⟨b, 1, none⟩ rfl _⟩
 ·exact Lib.BuilderAtF.put (T := 154) (e := 5) hB hb2 (bs' := bs ++ Lib.strCells s) (by simpa [Lib.strCells_length] using hown') (by decide)
 ·exact (hb1.grown hgrow (by have := hb1.size; omega) (fun k hk => (hown.lt k hk).1)).setCell (p := ⟨b, 1, none⟩) hB _
theorem sizeByte : (Tryz.prog.info? 5).map (fun i => i.size) = some 1 := by kernel_rfl
set_option maxHeartbeats 2000000 in
set_option maxRecDepth 1000000 in
theorem grow_fresh (B b n : Nat) (w : World) (hB : B ≤ b) (hbk : w.heap[b]? = some (.cells #[.pointer (some ⟨b, 0, none⟩), .slice none 0 0] 154 (0, 0))) (hBw : B ≤ w.heap.size) (hn : n ≤ 281474976710656) :
  Calls Tryz.prog 152 #[.pointer (some ⟨b, 0, none⟩), .int .i64 n] w fun e w' => e = .returned (.tuple #[]) ∧ (Lib.BuilderAt 154 5 B b (.pointer (some ⟨b, 0, none⟩)) [] w' ∧ Below B w w') := by
 obtain ⟨cs, hrun, hle, hmax⟩ := Lib.run_makeNoZero (P := Tryz.prog) w.drew #[3] 83 5 Tryz.underlying83 n hn
 have hw : IntKind.i64.wrap (IntKind.i64.wrap 0 + (n : Int)) = n := by
  rw [IntKind.wrap_i64, IntKind.wrap_i64]
  omega
 have hcall : (callFunc 169 #[.int .i64 (n : Int)]).run Tryz.prog w.drew = .ok (.value (.slice (some ⟨w.drew.heap.size, 0, none⟩) n cs.size)) (w.drew.drew.drew.alloc (.cells cs 5)) := by
  rw [run_callFunc_extern Tryz.func169 (by kernel_rfl) (by kernel_rfl) (by kernel_rfl) (e := Extern.BytealgMakeNoZero.makeNoZero #[3] #[83]) (by kernel_rfl), hrun]
  rfl
 have hlt : b < w.heap.size := (Array.getElem?_eq_some_iff.1 hbk).1
 have c1 : w.drew.cell? ⟨b, 1, none⟩ = some (.slice none 0 0) := by
  have : w.drew.heap[b]? = _ := hbk
  rw [Lib.cell_of_heap this]; rfl
 have c2 : (w.alloc (.cells cs 5)).cell? ⟨b, 1, none⟩ = some (.slice none 0 0) := by
  have : (w.alloc (.cells cs 5)).heap[b]? = _ := (Lib.alloc_old w _ b hlt).trans hbk
  rw [Lib.cell_of_heap this]; rfl
 have f2 : (w.alloc (.cells cs 5)).frozen? ⟨b, 1, none⟩ = false := Lib.frozen_of_heap ((Lib.alloc_old w _ b hlt).trans hbk) 1
 have hcopy : ∀ W : World, (Builtin.copy_ #[83, 83] 3 #[.slice (some ⟨w.heap.size, 0, none⟩) 0 cs.size, .slice none 0 0]).run Tryz.prog W = .ok (goInt 0) W :=
  fun W => run_copy_none W 83 83 3 5 _ _ 0 cs.size 0 0 Tryz.underlying83 sizeByte rfl
 go_enter Tryz.func152, Tryz.ntmps152
 go_wp2
 have hfin := Lib.grown_fresh (T := 154) (e := 5) (cs := cs) hB hbk hBw (hmax (by unfold maxLen; omega)) (by decide)
 go_region
 all_goals (go_wp2; go_end0; exact ⟨rfl, by first | exact hfin | (rw [World.setCell_alloc_past _ b 1 _ hlt] at hfin; exact hfin)⟩)
set_option maxHeartbeats 2000000 in
set_option maxRecDepth 1000000 in
theorem Grow_fresh (B b n : Nat) (w : World) (hB : B ≤ b) (hbk : w.heap[b]? = some (.cells #[.pointer none, .slice none 0 0] 154 (0, 0))) (hBw : B ≤ w.heap.size) (hn1 : 1 ≤ n) (hn : n ≤ 281474976710656) :
  Calls Tryz.prog 136 #[.pointer (some ⟨b, 0, none⟩), .int .i64 n] w fun e w' => e = .returned (.tuple #[]) ∧ (Lib.BuilderAt 154 5 B b (.pointer (some ⟨b, 0, none⟩)) [] w' ∧ Below B w w') := by
 have h0 : w.cell? ⟨b, 0, none⟩ = some (.pointer none) := by rw [Lib.cell_of_heap hbk]; rfl
 have hsh : w.shape? b = some (154, 2) := by unfold World.shape?; rw [hbk]; rfl
 have hfz : w.frozen? ⟨b, 0, none⟩ = false := Lib.frozen_of_heap hbk 0
 have hbk1 : (w.setCell ⟨b, 0, none⟩ (.pointer (some ⟨b, 0, none⟩))).heap[b]? = some (.cells #[.pointer (some ⟨b, 0, none⟩), .slice none 0 0] 154 (0, 0)) := by
  simp [World.setCell, Array.getElem?_modify, hbk]
 have c1 : (w.setCell ⟨b, 0, none⟩ (.pointer (some ⟨b, 0, none⟩))).cell? ⟨b, 1, none⟩ = some (.slice none 0 0) := by rw [Lib.cell_of_heap hbk1]; rfl
 have hb1 : Below B w (w.setCell ⟨b, 0, none⟩ (.pointer (some ⟨b, 0, none⟩))) := (Below.refl B w).setCell (p := ⟨b, 0, none⟩) hB _
 obtain ⟨W1, hW1⟩ : ∃ W1, W1 = w.setCell ⟨b, 0, none⟩ (.pointer (some ⟨b, 0, none⟩)) := ⟨_, rfl⟩
 have CC := Lib.hid (copyCheck_fresh_Bup b w h0 hsh hfz)
 rw [← hW1] at hbk1 c1 hb1 CC
 have HB := Lib.hid hbk1
 have hp : (0 : Int) < (n : Int) := by omega
 clear hW1 hbk1 h0 hsh hfz
 go_enter Tryz.func136, Tryz.ntmps136
 go_wp2_with fail
 refine CC.out.mono ?_
 rintro e w1 ⟨rfl, rfl⟩
 go_wp2_with fail
 go_quiet (fail)
 go_wp2_with fail
 have hbk2 : (w1.drewN nq).heap[b]? = some (.cells #[.pointer (some ⟨b, 0, none⟩), .slice none 0 0] 154 (0, 0)) := HB.out
 refine (grow_fresh B b n _ hB hbk2 (Nat.le_trans hBw hb1.size) hn).mono ?_
 rintro e w2 ⟨rfl, hA, hb2⟩
 go_wp2_with fail
 go_end0
 exact ⟨rfl, hA, (below_drewN hb1 nq).trans hb2⟩
end Go.Proofs.YtlccihidedfemaaGreatDoor
set_option linter.unusedVariables false
namespace Go.Proofs.YtlccihidedfemaaGreatDoor
open Go.RowKit Go.Shelf
attribute [local go_sem] Oper.semAt_some
theorem quo_few (n : Nat) (h2 : 2 ≤ n) (h8 : n ≤ 8) : ¬ (9223372036854775807 : Int) / ((n : Int) - 1) ≤ 1 := by
 rcases (show n = 2 ∨ n = 3 ∨ n = 4 ∨ n = 5 ∨ n = 6 ∨ n = 7 ∨ n = 8 by omega) with rfl | rfl | rfl | rfl | rfl | rfl | rfl <;> decide
set_option maxRecDepth 100000 in
set_option maxHeartbeats 4000000 in
theorem slJoin_any (v : Value) (L : List ByteArray) (w : World) (hv : IsStrs w v L) (h8 : L.length ≤ 8) (h31 : ∀ x ∈ L, 1 ≤ x.size ∧ x.size ≤ 31) :
  Calls Tryz.prog 118 #[v, .string ⟨#[47]⟩] w fun e w' => e = .returned (.string ⟨(joinS (txts L)).toArray⟩) ∧ Below w.heap.size w w' := by
 match L, hv, h8, h31 with
 | [], hv, _, _ =>
  obtain ⟨hm, a, cap, rfl, _, hc⟩ := hv
  clear hc
  go_enter Tryz.func118, Tryz.ntmps118
  go_wp2
  go_ret
  exact ⟨rfl, Below.refl _ _⟩
 | [x], hv, _, _ =>
  obtain ⟨hm, a, cap, rfl, _, hc⟩ := hv
  obtain ⟨b, o, rfl, hlt, g⟩ := hc (Nat.zero_lt_one)
  have q := g 0 (Nat.zero_lt_one)
  simp only [Nat.add_zero, List.getElem_cons_zero] at q
  have HX : Hid (x = ⟨(joinS (txts [x])).toArray⟩) := str_of (by simp [txts, joinS])
  clear hc g
  go_enter Tryz.func118, Tryz.ntmps118
  go_wp2
  go_ret
  exact ⟨by rw [← HX.out]; rfl, Below.refl _ _⟩
 | x :: y :: T, hv, h8, h31 =>
  obtain ⟨tv, htail, htv⟩ := strs_tail hv
  have HTV := Lib.hid htv; have HTA := Lib.hid htail; have H31 := Lib.hid h31
  have H0 := Lib.hid hv
  clear htv htail hv h31
  have HLT : Hid ((x :: y :: T).length = (y :: T).length + 1) := rfl
  have h2 : 2 ≤ (x :: y :: T).length := by simp
  obtain ⟨L, hL⟩ : ∃ L, L = x :: y :: T := ⟨_, rfl⟩
  obtain ⟨U, hU⟩ : ∃ U, U = y :: T := ⟨_, rfl⟩
  rw [← hL] at H31 H0 HLT h2 h8 ⊢
  rw [← hU] at HLT HTV
  have HLU : Hid (L = x :: U) := by show _ = _; rw [hL, hU]
  clear hL hU
  obtain ⟨hm, a, cap, hve, _, hc⟩ := H0.out
  subst hve
  obtain ⟨b, o, rfl, hblt, g⟩ := hc (by omega)
  have HG := Lib.hid g
  have hqf := quo_few L.length h2 h8
  have q0 := g 0 (by omega)
  have hx0 : L[0]'(by omega) = x := by simp [HLU.out]
  rw [hx0, Nat.add_zero] at q0
  have hx1 : 1 ≤ x.size ∧ x.size ≤ 31 := H31.out x (by rw [HLU.out]; exact List.mem_cons_self ..)
  obtain ⟨hx1, hx2⟩ := hx1
  clear hc g hm hx0 H0
  go_enter Tryz.func118, Tryz.ntmps118
  go_wp2_with fail
  go_loop [5, 41] (fun n i => ∃ (q k : Nat), k ≤ L.length ∧ 1 ≤ q ∧ q ≤ 7 + 31 * k ∧ n = .int .i64 q ∧ i = .int .i64 k) (fun _ i => L.length - (intOf i).toNat)
  case atStart => exact ⟨L.length - 1, 0, Nat.zero_le _, by omega, by omega, val_i (by omega), rfl⟩
  case round =>
   obtain ⟨q, k, hk, hq1, hq2, rfl, rfl⟩ := hrel
   by_cases hlt : k < L.length
   ·have q1 := HG.out k hlt
    have hy := H31.out L[k] (List.getElem_mem hlt)
    obtain ⟨z, hz⟩ : ∃ z, z = L[k] := ⟨_, rfl⟩
    rw [← hz] at q1 hy
    clear hz q0 hqf
    have hbk : decide ((k : Int) < (L.length : Int)) = true := by simpa using (show (k : Int) < L.length by omega)
    have hng : ¬ (9223372036854775807 : Int) - (q : Int) < (z.size : Int) := by omega
    go_wp2_with fail
    go_round
    case rel => exact ⟨q + z.size, k + 1, by omega, by omega, by omega, val_i (by omega), by go_num⟩
    case measure => simp [intOf]; omega
   ·obtain rfl : k = L.length := by omega
    clear hqf
    go_wp2_with fail
    have b0 : Below w.heap.size w (w.alloc (.cells #[.pointer none, .slice none 0 0] 154)) := (Below.refl _ w).alloc (Nat.le_refl _) _
    refine (Grow_fresh w.heap.size w.heap.size q _ (Nat.le_refl _) (heap_alloc_new _ _) b0.size (by omega) (by omega)).mono ?_
    rintro e W1 ⟨rfl, hA, hbg⟩
    have b1 := b0.trans hbg
    have HA := Lib.hid hA
    have q2 := (b1.cell (p := ⟨b, o, none⟩) hblt).trans q0
    clear hA b0 hbg q0
    go_wp2_with fail
    refine (WriteString_k w.heap.size w.heap.size [] x _ (Lib.IsBuilderF.of (Or.inr HA.out)) (by simp only [List.length_nil]; omega) b1.size).mono ?_
    rintro e W2 ⟨rfl, h2', hb2', _⟩
    have b2 := b1.trans hb2'
    have HB2 : Hid (Lib.IsBuilderF 154 5 w.heap.size w.heap.size (Lib.byteCells (joinS ((txts L).take 1))) W2) := by
     have e1 : (txts L).take 1 = [x.data.toList] := by rw [HLU.out]; rfl
     rw [e1]
     rw [List.nil_append, Lib.strCells_eq] at h2'
     exact Or.inr h2'
    clear HA b1 hb2' h2' q2
    have htv := HTV.out
    obtain ⟨hum, a', cap', rfl, _, huc⟩ := htv
    have htail := HTA.out
    have HUC := Lib.hid huc
    have HLU2 := Lib.hid (txts_len L)
    have hul : U.length ≤ 7 := by have := HLT.out; omega
    clear hum huc
    go_wp2_with fail
    go_loopw [65] (fun i wx => ∃ j : Nat, j ≤ U.length ∧ i = .int .i64 j ∧ Lib.IsBuilderF 154 5 w.heap.size w.heap.size (Lib.byteCells (joinS ((txts L).take (j + 1)))) wx ∧ (joinS ((txts L).take (j + 1))).length ≤ 32 * (j + 1) ∧ joinS ((txts L).take (j + 1)) ≠ [] ∧ Below w.heap.size w wx) (fun i _ => U.length - (intOf i).toNat)
    case atStart =>
     refine ⟨0, Nat.zero_le _, rfl, HB2.out, ?_, ?_, b2⟩
     ·rw [HLU.out]; show x.data.toList.length ≤ _; rw [← Lib.size_eq]; omega
     ·rw [HLU.out]; show x.data.toList ≠ []; intro e; have := hx1; rw [Lib.size_eq, e] at this; simp at this
    case round =>
     obtain ⟨j, hj, rfl, hB, hjl, hjn, hbx⟩ := hrel
     have HB := Lib.hid hB; have HJN := Lib.hid hjn
     clear hB hjn htail HB2 b2
     have hLU := HLT.out
     by_cases hlt2 : j < U.length
     ·obtain ⟨b', o', rfl, hblt', g'⟩ := HUC.out (by omega)
      have q3 := (hbx.cell (p := ⟨b', o' + j, none⟩) hblt').trans (g' j hlt2)
      have hy : 1 ≤ U[j].size ∧ U[j].size ≤ 31 := H31.out _ (by rw [HLU.out]; exact List.mem_cons_of_mem _ (List.getElem_mem hlt2))
      have hin : (txts L)[j + 1]'(by rw [HLU2.out]; omega) = U[j].data.toList := by rw [txts_get (by omega)]; simp [HLU.out]
      obtain ⟨z, hz⟩ : ∃ z, z = U[j] := ⟨_, rfl⟩
      rw [← hz] at q3 hy hin
      have hstep := joinS_take (L := txts L) (k := j + 1) (by rw [HLU2.out]; omega) (by omega)
      rw [hin] at hstep
      have HST := Lib.hid hstep
      have hbk : decide ((j : Int) < (U.length : Int)) = true := by simpa using (show (j : Int) < U.length by omega)
      clear hz g' hin hstep hLU
      go_wp2_with fail
      refine (WriteString_k w.heap.size w.heap.size _ ⟨#[47]⟩ _ HB.out (by rw [Lib.byteCells_length]; show _ + 1 ≤ _; omega) hbx.size).mono ?_
      rintro e W3 ⟨rfl, h3, hb3, _⟩
      have hbx3 := hbx.trans hb3
      have H3 := Lib.hid (Or.inr h3 : Lib.IsBuilderF _ _ _ _ _ W3)
      clear q3 h3
      go_wp2_with fail
      refine (WriteString_k w.heap.size w.heap.size _ z _ H3.out (by rw [List.length_append, Lib.byteCells_length, Lib.strCells_eq, Lib.byteCells_length]; show _ + 1 + _ ≤ _; omega) hbx3.size).mono ?_
      rintro e W4 ⟨rfl, h4, hb4, _⟩
      have hbx4 := hbx3.trans hb4
      have e4 : Lib.byteCells (joinS ((txts L).take (j + 1))) ++ Lib.strCells ⟨#[47]⟩ ++ Lib.strCells z = Lib.byteCells (joinS ((txts L).take (j + 1 + 1))) := by
       rw [HST.out, Lib.strCells_eq, Lib.strCells_eq, ← Lib.byteCells_append, ← Lib.byteCells_append]
       congr 1
       simp
      rw [e4] at h4
      have H4 := Lib.hid (Or.inr h4 : Lib.IsBuilderF _ _ _ _ _ W4)
      clear h4 e4 hbx3 hb3 hb4 H3
      go_wp2_with fail
      go_roundw
      case rel =>
       refine ⟨j + 1, by omega, by go_num, H4.out, ?_, ?_, hbx4⟩
       ·rw [HST.out, List.length_append, List.length_cons, ← Lib.size_eq]; omega
       ·rw [HST.out]; simp
      case measure => simp [intOf]; omega
     ·obtain rfl : j = U.length := by omega
      have hall : (txts L).take (U.length + 1) = txts L := List.take_of_length_le (by rw [HLU2.out]; omega)
      rw [hall] at HB HJN
      have CS := Lib.hid (String_full_k_Bup w.heap.size w.heap.size _ wr HB.out HJN.out)
      have hbk : decide ((U.length : Int) < (U.length : Int)) = false := by simp
      clear hall hLU
      go_wp2_with fail
      refine CS.out.mono ?_
      rintro e W5 ⟨rfl, h5, hb5, _⟩
      go_wp2_with fail
      go_ret
      exact ⟨rfl, hbx.trans hb5⟩
end Go.Proofs.YtlccihidedfemaaGreatDoor
namespace Go.Proofs.YtlccihidedfemaaGreatDoor
open Go
section
variable {P : Program} {ops : Array Oper} {Q : Exit → Act → World → Prop}
def predsOf (ops : Array Oper) (i : Nat) : List Nat := ((ops[i]?).map fun o => (o.after.toList.filter (Region.binds .any)).map (·.on)).getD []
def ancOf (ops : Array Oper) : Nat → Nat → List Nat
 | 0, _ => []
 | f + 1, i => predsOf ops i ++ (predsOf ops i).flatMap (ancOf ops f)
theorem anc_listed {listed : Array Bool} (hc : ∀ k, listed.getD k false = true → ∀ j ∈ predsOf ops k, listed.getD j false = true) : ∀ (f i : Nat), (∀ j ∈ predsOf ops i, listed.getD j false = true) → ∀ k ∈ ancOf ops f i, listed.getD k false = true
 | 0, _, _, k, hk => by cases hk
 | f + 1, i, hp, k, hk => by
  rw [ancOf, List.mem_append, List.mem_flatMap] at hk
  rcases hk with hk | ⟨j, hj, hk⟩
  ·exact hp k hk
  ·exact anc_listed hc f j (hc j (hp j hj)) k hk
def relyB (ops : Array Oper) (n : Nat) : Bool :=
 (List.range ops.size).all fun i => (predsOf ops i).all (· < i) && ((ops[i]?).map (·.guard.isNone)).getD false &&
  (((ops[i]?).bind (·.dst)).map fun t => decide (t < n) && (List.range ops.size).all fun k => k == i || !(((ops[k]?).bind (·.dst)) == some t)).getD true
def slot (a : Act) (t : Tmp) : Value := a.tmps.getD t undef
theorem slot_put_same (a : Act) (t : Tmp) (v : Value) (h : t < a.tmps.size) : slot (a.put (some t) v) t = v := by
 simp [slot, Act.put, h]
theorem slot_put_other (a : Act) (d : Option Tmp) (t : Tmp) (v : Value) (h : d ≠ some t) : slot (a.put d v) t = slot a t := by
 cases d with
 | none => rfl
 | some d =>
  have h' : d ≠ t := fun e => h (by rw [e])
  simp [slot, Act.put, h']
theorem size_put (a : Act) (d : Option Tmp) (v : Value) : (a.put d v).tmps.size = a.tmps.size := by
 cases d <;> simp [Act.put]
theorem defers_put (a : Act) (d : Option Tmp) (v : Value) : (a.put d v).defers = a.defers := by
 cases d <;> simp [Act.put]
def keptB (n : Nat) (needs : Nat → List Nat) (last : List Nat) (i k : Nat) : Bool := last.contains k || (List.range n).any fun j => j != i && (needs j).contains k
def dstOf (ops : Array Oper) (i : Nat) : Option Tmp := (ops[i]?).bind (·.dst)
def leanB (ops : Array Oper) (m : Nat) (needs : Nat → List Nat) (last : List Nat) (dep : Nat → List Tmp) : Bool :=
 (List.range ops.size).all fun i => ((needs i).all fun k => decide (ops.size ≤ k) || (ancOf ops 3 i).contains k) &&
  (List.range m).all fun k => k == i || (ancOf ops 3 k).contains i || !keptB ops.size needs last i k || ((dstOf ops i).map fun t => !(dep k).contains t).getD true
def keptA (ops : Array Oper) (needs : Nat → List Nat) (last : List Nat) (i k : Nat) : Bool := last.contains k || (List.range ops.size).any fun j => j != i && !(ancOf ops 3 i).contains j && (needs j).contains k
def leanA (ops : Array Oper) (m : Nat) (needs : Nat → List Nat) (last : List Nat) (dep : Nat → List Tmp) : Bool :=
 (List.range ops.size).all fun i => ((needs i).all fun k => decide (ops.size ≤ k) || (ancOf ops 3 i).contains k) &&
  (List.range m).all fun k => k == i || (ancOf ops 3 k).contains i || !keptA ops needs last i k || ((dstOf ops i).map fun t => !(dep k).contains t).getD true
theorem kept_of_A {ops : Array Oper} {needs : Nat → List Nat} {last : List Nat} {i k : Nat} (h : keptA ops needs last i k = true) : keptB ops.size needs last i k = true := by
 unfold keptA at h
 unfold keptB
 rw [Bool.or_eq_true] at h ⊢
 refine h.imp (fun h => h) fun h => ?_
 rw [List.any_eq_true] at h ⊢
 obtain ⟨j, h1, h2⟩ := h
 simp only [Bool.and_eq_true] at h2 ⊢
 exact ⟨j, h1, h2.1.1, h2.2⟩
theorem lean_A {ops : Array Oper} {m : Nat} {needs : Nat → List Nat} {last : List Nat} {dep : Nat → List Tmp} (h : leanB ops m needs last dep = true) : leanA ops m needs last dep = true := by
 unfold leanB at h
 unfold leanA
 rw [List.all_eq_true] at h ⊢
 intro i hi
 have h1 := h i hi
 rw [Bool.and_eq_true] at h1 ⊢
 refine ⟨h1.1, ?_⟩
 have h2 := h1.2
 rw [List.all_eq_true] at h2 ⊢
 intro k hk
 have h3 := h2 k hk
 cases ha : keptA ops needs last i k with
 | false => simp
 | true => rw [kept_of_A ha] at h3; exact h3
structure RelyInv (ops : Array Oper) (m : Nat) (a0 : Act) (G : World → Prop) (V : Nat → Act → World → Prop) (needs : Nat → List Nat) (last : List Nat) (listed : Array Bool) (a : Act) (w : World) : Prop where
 g : G w
 defers : a.defers = a0.defers
 size : a.tmps.size = a0.tmps.size
 len : listed.size = ops.size
 val : ∀ k, k < m → (ops.size ≤ k ∨ listed.getD k false = true) → (k ∈ last ∨ ∃ j, j < ops.size ∧ listed.getD j false = false ∧ k ∈ needs j) → V k a w
 old : ∀ t, (∀ k, dstOf ops k = some t → listed.getD k false = false) → slot a t = slot a0 t
 closed : ∀ k, listed.getD k false = true → ∀ j ∈ predsOf ops k, listed.getD j false = true
theorem ready_spec {listed : Array Bool} {i : Nat} (h : i ∈ Region.ready .any ops listed) (hl : listed.size = ops.size) : i < ops.size ∧ listed.getD i false = false ∧ ∀ j ∈ predsOf ops i, listed.getD j false = true := by
 unfold Region.ready at h
 rw [List.mem_filter, List.mem_range] at h
 obtain ⟨hi, h2⟩ := h
 simp only [Bool.and_eq_true, Bool.not_eq_true'] at h2
 obtain ⟨h2, h3⟩ := h2
 refine ⟨hi, ?_, ?_⟩
 ·have hil : i < listed.size := by omega
  simpa [Array.getD, hil] using h2
 ·intro j hj
  unfold predsOf at hj
  rw [Array.getElem?_eq_getElem hi] at hj h3
  simp only [Option.map_some, Option.getD_some, List.mem_map, List.mem_filter] at hj h3
  obtain ⟨e, ⟨he, hb⟩, rfl⟩ := hj
  rw [Array.all_eq_true_iff_forall_mem] at h3
  have := h3 e (by simpa using he)
  simpa [hb] using this
theorem ready_of {listed : Array Bool} {i : Nat} (hi : i < ops.size) (hl : listed.size = ops.size) (h0 : listed.getD i false = false) (hp : ∀ j ∈ predsOf ops i, listed.getD j false = true) : i ∈ Region.ready .any ops listed := by
 unfold Region.ready
 rw [List.mem_filter, List.mem_range]
 refine ⟨hi, ?_⟩
 simp only [Bool.and_eq_true, Bool.not_eq_true']
 refine ⟨?_, ?_⟩
 ·have hil : i < listed.size := by omega
  simpa [Array.getD, hil] using h0
 ·rw [Array.getElem?_eq_getElem hi]
  simp only [Option.map_some, Option.getD_some]
  rw [Array.all_eq_true_iff_forall_mem]
  intro e he
  by_cases hb : Region.binds .any e = true
  ·have := hp e.on (by unfold predsOf; rw [Array.getElem?_eq_getElem hi]; simp only [Option.map_some, Option.getD_some, List.mem_map, List.mem_filter]; exact ⟨e, ⟨by simpa using he, hb⟩, rfl⟩)
   simp [hb, this]
  ·simp [hb]
def unl (n : Nat) (listed : Array Bool) : Nat := (List.range n).countP fun i => !listed.getD i false
theorem unl_zero {n : Nat} {listed : Array Bool} (h : unl n listed = 0) (i : Nat) (hi : i < n) : listed.getD i false = true := by
 unfold unl at h
 rw [List.countP_eq_zero] at h
 have := h i (List.mem_range.2 hi)
 simpa using this
theorem getD_set (listed : Array Bool) (i j : Nat) (hi : i < listed.size) : (listed.setIfInBounds i true).getD j false = if j = i then true else listed.getD j false := by
 by_cases h : j = i
 ·subst h; simp [hi]
 ·have h' : i ≠ j := fun e => h e.symm
  simp [h, h']
theorem countP_flip {l : List Nat} (hn : l.Nodup) {p q : Nat → Bool} {i : Nat} (hi : i ∈ l) (hp : p i = true) (hq : q i = false) (he : ∀ j, j ≠ i → q j = p j) : l.countP p = l.countP q + 1 := by
 induction l with
 | nil => cases hi
 | cons x l ih =>
  rw [List.nodup_cons] at hn
  rw [List.countP_cons, List.countP_cons]
  by_cases hx : x = i
  ·subst hx
   have : l.countP p = l.countP q := List.countP_congr fun j hj => by rw [he j (fun e => hn.1 (e ▸ hj))]
   simp [hp, hq, this]
  ·rcases List.mem_cons.1 hi with h | h
   ·exact absurd h.symm hx
   ·have := ih hn.2 h
    rw [he x hx]; omega
theorem unl_set {n : Nat} {listed : Array Bool} {i : Nat} (hi : i < n) (hs : i < listed.size) (h0 : listed.getD i false = false) : unl n listed = unl n (listed.setIfInBounds i true) + 1 := by
 unfold unl
 refine countP_flip List.nodup_range (List.mem_range.2 hi) (by simpa using h0) (by rw [getD_set _ _ _ hs]; simp) fun j hj => ?_
 rw [getD_set _ _ _ hs, if_neg hj]
theorem all_listed {listed : Array Bool} (hl : listed.size = ops.size) (hord : ∀ i, i < ops.size → ∀ j ∈ predsOf ops i, j < i) (hr : Region.ready .any ops listed = []) : ∀ i, i < ops.size → listed.getD i false = true := by
 intro i
 induction i using Nat.strongRecOn with
 | ind i ih =>
  intro hi
  by_cases h : listed.getD i false = true
  ·exact h
  ·exfalso
   have := ready_of hi hl (by simpa using h) (fun j hj => ih j (hord i hi j hj) (Nat.lt_trans (hord i hi j hj) hi))
   rw [hr] at this
   cases this
def AllFrom (S : Nat → Oper → Prop) : Nat → List Oper → Prop
 | _, [] => True
 | n, o :: l => S n o ∧ AllFrom S (n + 1) l
theorem allFrom_get {S : Nat → Oper → Prop} : ∀ {l : List Oper} {n : Nat}, AllFrom S n l → ∀ i (hi : i < l.length), S (n + i) l[i]
 | _ :: _, _, h, 0, _ => h.1
 | _ :: l, n, h, i + 1, hi => by
  have := allFrom_get h.2 i (by simpa using hi)
  rw [Nat.add_assoc, Nat.add_comm 1 i] at this
  exact this
theorem forall_ops {S : Nat → Oper → Prop} {l : List Oper} (h : AllFrom S 0 l) : ∀ i (hi : i < l.toArray.size), S i (l.toArray[i]) := fun i hi => by
 have := allFrom_get h i (by simpa using hi)
 rw [Nat.zero_add] at this
 simpa using this
def oldB (ops : Array Oper) (i : Nat) (t : Tmp) : Bool := (List.range ops.size).all fun k => !(dstOf ops k == some t) || (predsOf ops k).contains i
theorem old_of {i : Nat} {t : Tmp} (h : oldB ops i t = true) : ∀ k, dstOf ops k = some t → i ∈ predsOf ops k := fun k hk => by
 have hkl : k < ops.size := by
  rcases Nat.lt_or_ge k ops.size with h | h
  ·exact h
  ·unfold dstOf at hk; rw [Array.getElem?_eq_none h] at hk; cases hk
 have := (List.all_eq_true.1 h) k (List.mem_range.2 hkl)
 rw [hk] at this
 simpa using this
theorem wp_value {o : Oper} {a : Act} {w w' : World} {v : Value} {K : Act → World → Prop} (h : (execOp a.eval o).run P w = .ok (.value v) w') (hk : K (a.put o.dst v) w') : o.wp P a w K Q := by
 unfold Oper.wp; rw [h]; exact hk
theorem wp_skip {o : Oper} {a : Act} {w w' : World} {K : Act → World → Prop} (h : (execOp a.eval o).run P w = .ok .skip w') (hk : K (a.put o.dst undef) w') : o.wp P a w K Q := by
 unfold Oper.wp; rw [h]; exact hk
def patchL (ds : List Tmp) (s : Tmp → Value) : Nat → List Value → List Value
 | _, [] => []
 | t, v :: l => (if ds.contains t then s t else v) :: patchL ds s (t + 1) l
theorem patchL_get (ds : List Tmp) (s : Tmp → Value) : ∀ (l : List Value) (n i : Nat), (patchL ds s n l)[i]? = (l[i]?).map fun v => if ds.contains (n + i) then s (n + i) else v
 | [], _, _ => by simp [patchL]
 | v :: l, n, 0 => by simp [patchL]
 | v :: l, n, i + 1 => by
  rw [patchL, List.getElem?_cons_succ, patchL_get ds s l (n + 1) i, List.getElem?_cons_succ, Nat.add_assoc, Nat.add_comm 1 i]
theorem act_patch {a a0 : Act} (ds : List Tmp) (hS : a.tmps.size = a0.tmps.size) (hD : a.defers = a0.defers) (h : ∀ t, t ∉ ds → slot a t = slot a0 t) : a = ⟨(patchL ds (slot a) 0 a0.tmps.toList).toArray, a0.defers⟩ := by
 obtain ⟨tm, df⟩ := a
 obtain ⟨tm0, df0⟩ := a0
 simp only at hS hD
 subst hD
 congr 1
 apply Array.ext_getElem?
 intro i
 simp only [List.getElem?_toArray, patchL_get, Nat.zero_add, Array.getElem?_toList]
 by_cases hi : i < tm.size
 ·have hi0 : i < tm0.size := by omega
  rw [Array.getElem?_eq_getElem hi, Array.getElem?_eq_getElem hi0]
  simp only [Option.map_some, Option.some.injEq]
  split
  ·simp [slot, hi]
  ·rename_i hc
   have := h i (by simpa using hc)
   simpa [slot, hi, hi0] using this
 ·rw [Array.getElem?_eq_none (by omega), Array.getElem?_eq_none (by omega)]; rfl
def dstsOf (ops : Array Oper) : List Tmp := (List.range ops.size).filterMap (dstOf ops)
theorem free_of {t : Tmp} (h : t ∉ dstsOf ops) : ∀ k : Nat, dstOf ops k ≠ some t := fun k hk => by
 refine h (List.mem_filterMap.2 ⟨k, ?_, hk⟩)
 rw [List.mem_range]
 rcases Nat.lt_or_ge k ops.size with h | h
 ·exact h
 ·unfold dstOf at hk; rw [Array.getElem?_eq_none h] at hk; cases hk
theorem eval_slot (a : Act) (t : Tmp) : a.eval (.tmp t) = slot a t := rfl
theorem wp_region_relyA {id : Nat} {a0 : Act} {w0 : World} (hm : P.follows .mixedOrders = true) (hB : relyB ops a0.tmps.size = true) (T : Nat → World → World → Prop) (G : World → Prop) (V : Nat → Act → World → Prop)
  (m : Nat) (needs : Nat → List Nat) (last : List Nat) (dep : Nat → List Tmp) (hL : leanA ops m needs last dep = true) (hneeds : ∀ i k, k ∈ needs i → k < m)
  (hdep : ∀ k a a' w, k < m → (∀ t ∈ dep k, slot a' t = slot a t) → V k a w → V k a' w)
  (hT : ∀ i k a w w', i < ops.size → k < m → k ≠ i → keptA ops needs last i k = true → V k a w → T i w w' → V k a w')
  (hG : G { w0 with drawn := w0.drawn + 1 }) (hV0 : ∀ k, k < m → ops.size ≤ k → V k a0 { w0 with drawn := w0.drawn + 1 })
  (step : ∀ i (hi : i < ops.size) a w, G w → (∀ k ∈ needs i, V k a w) → (∀ t, (∀ k, dstOf ops k = some t → i ∈ predsOf ops k) → slot a t = slot a0 t) → a.tmps.size = a0.tmps.size →
   (ops[i]).wp P a w (fun a' w' => ∃ v, a' = a.put (ops[i]).dst v ∧ T i w w' ∧ G w' ∧ V i a' w') Q)
  (done : ∀ a w, G w → (∀ k ∈ last, k < m → V k a w) → (∀ t, (∀ k : Nat, dstOf ops k ≠ some t) → slot a t = slot a0 t) → a.tmps.size = a0.tmps.size → a.defers = a0.defers → Q .normal a w) :
  (Code.region id ops true).wp P Q a0 w0 := by
 have hB' : ∀ i, i < ops.size → ((∀ j ∈ predsOf ops i, j < i) ∧ ((ops[i]?).map (·.guard.isNone)).getD false = true) ∧
   (((ops[i]?).bind (·.dst)).map fun t => decide (t < a0.tmps.size) && (List.range ops.size).all fun k => k == i || !(((ops[k]?).bind (·.dst)) == some t)).getD true = true := by
  intro i hi
  have := (List.all_eq_true.1 hB) i (List.mem_range.2 hi)
  simp only [Bool.and_eq_true] at this
  obtain ⟨⟨h1, h2⟩, h3⟩ := this
  exact ⟨⟨fun j hj => by simpa using (List.all_eq_true.1 h1) j hj, h2⟩, h3⟩
 have hL' : ∀ i, i < ops.size → (∀ k ∈ needs i, ops.size ≤ k ∨ k ∈ ancOf ops 3 i) ∧ ∀ k, k < m → k ≠ i → i ∉ ancOf ops 3 k → keptA ops needs last i k = true → ∀ t, dstOf ops i = some t → t ∉ dep k := by
  intro i hi
  have := (List.all_eq_true.1 hL) i (List.mem_range.2 hi)
  rw [Bool.and_eq_true] at this
  obtain ⟨h1, h2⟩ := this
  refine ⟨fun k hk => by simpa using (List.all_eq_true.1 h1) k hk, fun k hk hki hip hke t ht => ?_⟩
  have h3 := (List.all_eq_true.1 h2) k (List.mem_range.2 hk)
  have hip' : (ancOf ops 3 k).contains i = false := by simpa using hip
  have hki' : (k == i) = false := by simpa using hki
  rw [hke, hip', hki', ht] at h3
  simpa using h3
 have key : ∀ fuel listed a w, unl ops.size listed ≤ fuel → RelyInv ops m a0 G V needs last listed a w → wpAny P .any ops Q fuel listed a w := by
  intro fuel
  have fin : ∀ listed a w, RelyInv ops m a0 G V needs last listed a w → (∀ i, i < ops.size → listed.getD i false = true) → Q .normal a w := fun listed a w I hall =>
   done a w I.g (fun k hk hkm => I.val k hkm (by
    rcases Nat.lt_or_ge k ops.size with h | h
    ·exact .inr (hall k h)
    ·exact .inl h) (.inl hk)) (fun t ht => I.old t fun k hk => absurd hk (ht k)) I.size I.defers
  induction fuel with
  | zero =>
   intro listed a w hu I
   have hall := fun i hi => unl_zero (Nat.le_zero.1 hu) i hi
   refine ⟨?_, fin listed a w I hall⟩
   apply List.eq_nil_iff_forall_not_mem.2
   intro i hi
   obtain ⟨h1, h2, _⟩ := ready_spec hi I.len
   rw [hall i h1] at h2; cases h2
  | succ fuel ih =>
   intro listed a w hu I
   refine ⟨fun hr => fin listed a w I (all_listed I.len (fun i hi => (hB' i hi).1.1) hr), fun i hi => ?_⟩
   obtain ⟨h1, h2, h3⟩ := ready_spec hi I.len
   have hil : i < listed.size := by rw [I.len]; exact h1
   have hst := step i h1 a w I.g (fun k hk => I.val k (hneeds i k hk) (((hL' i h1).1 k hk).imp (fun h => h) (anc_listed I.closed 3 i h3 k)) (.inr ⟨i, h1, h2, hk⟩)) (fun t ht => I.old t fun k hk => by
    by_cases hc : listed.getD k false = true
    ·have := I.closed k hc i (ht k hk)
     rw [h2] at this; cases this
    ·simpa using hc) I.size
   unfold wpOp
   rw [Array.getElem?_eq_getElem h1]
   have hg := (hB' i h1).1.2
   rw [Array.getElem?_eq_getElem h1] at hg
   simp only [Option.map_some, Option.getD_some, Option.isNone_iff_eq_none] at hg
   have hw : Region.wanted ops[i] (yielded ops a.tmps) = true := by unfold Region.wanted; rw [hg]
   simp only [hw, if_true]
   refine .inl (Oper.wp_mono ?_ hst)
   rintro a' w' ⟨v, rfl, hTi, hG', hv⟩
   refine ih _ _ _ (by have := unl_set h1 hil h2; omega) ⟨hG', by rw [defers_put]; exact I.defers, by rw [size_put]; exact I.size, by simp [I.len], ?_, ?_, ?_⟩
   ·intro k hkm hkl hkn
    by_cases e : k = i
    ·subst e; exact hv
    ·have hkl' : ops.size ≤ k ∨ listed.getD k false = true := hkl.imp (fun h => h) fun h => by rwa [getD_set _ _ _ hil, if_neg e] at h
     have hip : i ∉ ancOf ops 3 k := fun hip => by
      rcases hkl' with h | h
      ·have e0 : predsOf ops k = [] := by unfold predsOf; rw [Array.getElem?_eq_none h]; rfl
       simp [ancOf, e0] at hip
      ·have := anc_listed I.closed 3 k (I.closed k h) i hip
       rw [h2] at this; cases this
     have hkn' : (k ∈ last ∨ ∃ j, j < ops.size ∧ listed.getD j false = false ∧ k ∈ needs j) ∧ keptA ops needs last i k = true := by
      rcases hkn with h | ⟨j, hj, hjl, hjk⟩
      ·exact ⟨.inl h, by simp [keptA, h]⟩
      ·rw [getD_set _ _ _ hil] at hjl
       split at hjl
       ·cases hjl
       ·rename_i hji
        refine ⟨.inr ⟨j, hj, hjl, hjk⟩, ?_⟩
        unfold keptA
        rw [Bool.or_eq_true]
        right
        rw [List.any_eq_true]
        have hja : j ∉ ancOf ops 3 i := fun h => by
         have := anc_listed I.closed 3 i h3 j h
         rw [hjl] at this; cases this
        exact ⟨j, List.mem_range.2 hj, by simp [hji, hjk, hja]⟩
     refine hdep k a _ w' hkm (fun t ht => slot_put_other _ _ _ _ fun hd => (hL' i h1).2 k hkm e hip hkn'.2 t (by unfold dstOf; rw [Array.getElem?_eq_getElem h1]; exact hd) ht) ?_
     exact hT i k a w w' h1 hkm e hkn'.2 (I.val k hkm hkl' hkn'.1) hTi
   ·intro t ht
    rw [slot_put_other _ _ _ _ (fun hd => by
     have := ht i (by unfold dstOf; rw [Array.getElem?_eq_getElem h1]; exact hd)
     rw [getD_set _ _ _ hil, if_pos rfl] at this; cases this)]
    exact I.old t fun k hk => by
     have := ht k hk
     rw [getD_set _ _ _ hil] at this
     split at this
     ·cases this
     ·exact this
   ·intro k hkl j hj
    rw [getD_set _ _ _ hil]
    split
    ·rfl
    ·rename_i hji
     rw [getD_set _ _ _ hil] at hkl
     split at hkl
     ·rename_i hki; subst hki; exact h3 j hj
     ·exact I.closed k hkl j hj
 refine wp_region_any hm (key _ _ _ _ ?_ ⟨hG, rfl, rfl, by simp, ?_, fun t _ => rfl, ?_⟩)
 ·unfold unl
  exact Nat.le_trans (List.countP_le_length) (by simp)
 ·intro k hkm h _
  rcases h with h | h
  ·exact hV0 k hkm h
  ·simp [Array.getElem?_replicate] at h
   split at h <;> simp at h
 ·intro k h
  simp [Array.getElem?_replicate] at h
  split at h <;> simp at h
theorem wp_region_rely {id : Nat} {a0 : Act} {w0 : World} (hm : P.follows .mixedOrders = true) (hB : relyB ops a0.tmps.size = true) (T : Nat → World → World → Prop) (G : World → Prop) (V : Nat → Act → World → Prop)
  (m : Nat) (needs : Nat → List Nat) (last : List Nat) (dep : Nat → List Tmp) (hL : leanB ops m needs last dep = true) (hneeds : ∀ i k, k ∈ needs i → k < m)
  (hdep : ∀ k a a' w, k < m → (∀ t ∈ dep k, slot a' t = slot a t) → V k a w → V k a' w)
  (hT : ∀ i k a w w', i < ops.size → k < m → k ≠ i → keptB ops.size needs last i k = true → V k a w → T i w w' → V k a w')
  (hG : G { w0 with drawn := w0.drawn + 1 }) (hV0 : ∀ k, k < m → ops.size ≤ k → V k a0 { w0 with drawn := w0.drawn + 1 })
  (step : ∀ i (hi : i < ops.size) a w, G w → (∀ k ∈ needs i, V k a w) → (∀ t, (∀ k, dstOf ops k = some t → i ∈ predsOf ops k) → slot a t = slot a0 t) → a.tmps.size = a0.tmps.size →
   (ops[i]).wp P a w (fun a' w' => ∃ v, a' = a.put (ops[i]).dst v ∧ T i w w' ∧ G w' ∧ V i a' w') Q)
  (done : ∀ a w, G w → (∀ k ∈ last, k < m → V k a w) → (∀ t, (∀ k : Nat, dstOf ops k ≠ some t) → slot a t = slot a0 t) → a.tmps.size = a0.tmps.size → a.defers = a0.defers → Q .normal a w) :
  (Code.region id ops true).wp P Q a0 w0 :=
 wp_region_relyA hm hB T G V m needs last dep (lean_A hL) hneeds hdep (fun i k a w w' h1 h2 h3 h4 => hT i k a w w' h1 h2 h3 (kept_of_A h4)) hG hV0 step done
end
end Go.Proofs.YtlccihidedfemaaGreatDoor
set_option linter.unusedVariables false
namespace Go.Proofs.YtlccihidedfemaaGreatDoor
open Go.RowKit
theorem wp_callf {P : Program} {o : Oper} {a : Act} {w : World} {K : Act → World → Prop} {Q : Exit → Act → World → Prop} (f : FuncId) (args : Array Operand) (tys : Array TypeId) (ho : o.op = .call { callee := .value (.func f), args := args, argTypes := tys })
  (hen : ∀ xs w, (callFunc f xs).run P w = .ok (.enter f xs) w) (xs : Array Value) (hxs : args.map a.eval = xs) (v : Value) {R : World → Prop} (h : Calls P f xs w fun e w' => e = .returned v ∧ R w') (hk : ∀ w', R w' → K (a.put o.dst v) w') : o.wp P a w K Q := by
 unfold Oper.wp execOp
 simp only [ho]
 simp [hxs, go_sem, hen]
 refine h.mono ?_
 rintro e w' ⟨rfl, hr⟩
 exact hk w' hr
theorem wp_alloc_zero {P : Program} {o : Oper} {a : Act} {w : World} {K : Act → World → Prop} {Q : Exit → Act → World → Prop} (t : TypeId) (ho : o.op = .alloc t)
  (cells : Array Value) (hz : (P.info? t).bind (fun i => i.zero.map (·.cells)) = some cells)
  (h : K (a.put o.dst (.pointer (some ⟨w.heap.size, 0, none⟩))) (w.alloc (.cells cells t))) : o.wp P a w K Q := by
 cases hi : P.info? t with
 | none => simp [hi] at hz
 | some i =>
  cases hz0 : i.zero with
  | none => simp [hi, hz0] at hz
  | some z =>
   simp only [hi, hz0, Option.bind_some, Option.map_some, Option.some.injEq] at hz
   subst hz
   unfold Oper.wp execOp
   simp [ho, Instr.alloc, zeroValue, typeInfo, hi, hz0, newVar, newRow, go_sem]
   exact h
theorem alloc3 (w : World) (A B C : Array Value) (ta tb tc : TypeId) :
  Row (((w.alloc (.cells A ta)).alloc (.cells B tb)).alloc (.cells C tc)) w.heap.size A ta ∧ Row (((w.alloc (.cells A ta)).alloc (.cells B tb)).alloc (.cells C tc)) (w.heap.size + 1) B tb ∧
   Row (((w.alloc (.cells A ta)).alloc (.cells B tb)).alloc (.cells C tc)) (w.heap.size + 1 + 1) C tc ∧ Below w.heap.size w (((w.alloc (.cells A ta)).alloc (.cells B tb)).alloc (.cells C tc)) ∧
   (((w.alloc (.cells A ta)).alloc (.cells B tb)).alloc (.cells C tc)).heap.size = w.heap.size + 3 := by
 refine ⟨((Row.made _ _ _).alloc _).alloc _, ?_, ?_, (((Below.refl _ _).alloc (Nat.le_refl _) _).alloc (by simp) _).alloc (by simp; omega) _, by simp⟩
 ·have := (Row.made (w.alloc (.cells A ta)) B tb).alloc (.cells C tc)
  simpa using this
 ·have := Row.made ((w.alloc (.cells A ta)).alloc (.cells B tb)) C tc
  simpa using this
theorem slotE {a : Act} {t : Tmp} {v : Value} (h : slot a t = v) : a.eval (.tmp t) = v := h
def wordV (ops : Array Oper) (U : Nat → Value → World → Prop) (k : Nat) (a : Act) (w : World) : Prop := U k (((dstOf ops k).map (slot a)).getD undef) w
def needL (l : List (List Nat)) (i : Nat) : List Nat := l.getD i []
def depL (ops : Array Oper) (k : Nat) : List Tmp := (dstOf ops k).toList
def boundL (l : List (List Nat)) (m : Nat) : Bool := l.all fun x => x.all (· < m)
theorem needL_bound {l : List (List Nat)} {m : Nat} (h : boundL l m = true) (i k : Nat) (hk : k ∈ needL l i) : k < m := by
 unfold needL at hk
 rw [List.getD_eq_getElem?_getD] at hk
 cases hi : l[i]? with
 | none => rw [hi] at hk; cases hk
 | some x =>
  rw [hi] at hk
  have h1 := (List.all_eq_true.1 h) x (List.mem_of_getElem? hi)
  simpa using (List.all_eq_true.1 h1) k hk
def StepW (P : Program) (ops : Array Oper) (Q : Exit → Act → World → Prop) (a0 : Act) (T : Nat → World → World → Prop) (G : World → Prop) (U : Nat → Value → World → Prop) (nl : List (List Nat)) (i : Nat) (o : Oper) : Prop :=
 ∀ a w, G w → (∀ k ∈ needL nl i, wordV ops U k a w) → (∀ t, oldB ops i t = true → slot a t = slot a0 t) → o.wp P a w (fun a' w' => ∃ v, a' = a.put o.dst v ∧ T i w w' ∧ G w' ∧ U i (if o.dst.isSome then v else undef) w') Q
theorem wp_region_words {P : Program} {ops : Array Oper} {Q : Exit → Act → World → Prop} {id : Nat} {a0 : Act} {w0 : World} (hm : P.follows .mixedOrders = true) (hB : relyB ops a0.tmps.size = true)
  (T : Nat → World → World → Prop) (G : World → Prop) (U : Nat → Value → World → Prop) (m : Nat) (nl : List (List Nat)) (last : List Nat) (hb : boundL nl m = true) (hL : leanA ops m (needL nl) last (depL ops) = true)
  (bad : List (Nat × Nat)) (hbad : (bad.all fun x => !keptA ops (needL nl) last x.1 x.2) = true) (hT : ∀ i k v w w', i < ops.size → k < m → k ≠ i → (i, k) ∉ bad → U k v w → T i w w' → U k v w')
  (hG : G { w0 with drawn := w0.drawn + 1 }) (hV0 : ∀ k, k < m → ops.size ≤ k → U k undef { w0 with drawn := w0.drawn + 1 })
  (ds : List Tmp) (hds : dstsOf ops = ds) (step : ∀ i (hi : i < ops.size), StepW P ops Q a0 T G U nl i ops[i])
  (done : ∀ a w, G w → (∀ k ∈ last, k < m → wordV ops U k a w) → a.tmps.size = a0.tmps.size → a = ⟨(patchL ds (slot a) 0 a0.tmps.toList).toArray, a0.defers⟩ → Q .normal a w) :
  (Code.region id ops true).wp P Q a0 w0 := by
 subst hds
 refine wp_region_relyA hm hB T G (wordV ops U) m (needL nl) last (depL ops) hL (needL_bound hb) ?_ (fun i k a w w' hi hk hne hke h hTi => hT i k _ w w' hi hk hne (fun hx => by have := (List.all_eq_true.1 hbad) _ hx; simp [hke] at this) h hTi) hG ?_ ?_ ?_
 ·intro k a a' w hk h hv
  unfold wordV at hv ⊢
  unfold depL at h
  cases hd : dstOf ops k with
  | none => rw [hd] at hv; exact hv
  | some t =>
   rw [hd] at hv h
   simp only [Option.toList_some, List.mem_singleton, forall_eq] at h
   simp only [Option.map_some, Option.getD_some] at hv ⊢
   rw [h]; exact hv
 ·intro k hk hge
  unfold wordV
  have : dstOf ops k = none := by unfold dstOf; rw [Array.getElem?_eq_none hge]; rfl
  rw [this]; exact hV0 k hk hge
 ·intro i hi a w hGw hN hO hS
  refine Oper.wp_mono ?_ (step i hi a w hGw hN (fun t ht => hO t (old_of ht)))
  rintro a' w' ⟨v, rfl, h1, h2, h3⟩
  refine ⟨v, rfl, h1, h2, ?_⟩
  unfold wordV
  have hd : dstOf ops i = ops[i].dst := by unfold dstOf; rw [Array.getElem?_eq_getElem hi]; rfl
  rw [hd]
  cases ht : ops[i].dst with
  | none => rw [ht] at h3; exact h3
  | some t =>
   rw [ht] at h3
   have hlt : t < a0.tmps.size := by
    have := (List.all_eq_true.1 hB) i (List.mem_range.2 hi)
    simp only [Bool.and_eq_true] at this
    have h4 := this.2
    have hd' : (ops[i]?).bind (·.dst) = some t := by rw [Array.getElem?_eq_getElem hi]; exact ht
    rw [hd'] at h4
    simp only [Option.map_some, Option.getD_some, Bool.and_eq_true, decide_eq_true_eq] at h4
    exact h4.1
   simp only [Option.map_some, Option.getD_some]
   rw [slot_put_same _ _ _ (by rw [hS]; exact hlt)]
   exact h3
 ·intro a w hGw hV hO hS hD
  exact done a w hGw hV hS (act_patch _ hS hD (fun t ht => hO t (free_of ht)))
theorem stepW_value {P : Program} {ops : Array Oper} {Q : Exit → Act → World → Prop} {a0 : Act} {T : Nat → World → World → Prop} {G : World → Prop} {U : Nat → Value → World → Prop} {nl : List (List Nat)} {i : Nat} {o : Oper} {t : Tmp} (v : Value)
  (hd : o.dst = some t) (hTr : ∀ w, T i w w)
  (hrun : ∀ a w, G w → (∀ k ∈ needL nl i, wordV ops U k a w) → (∀ t, oldB ops i t = true → slot a t = slot a0 t) → (execOp a.eval o).run P w = .ok (.value v) w)
  (hU : ∀ w, G w → U i v w) : StepW P ops Q a0 T G U nl i o := by
 intro a w hG hN hO
 exact wp_value (hrun a w hG hN hO) ⟨v, rfl, hTr w, hG, by rw [hd]; exact hU w hG⟩
theorem run_move_slot {P : Program} {a : Act} {w : World} {o : Oper} {s : Tmp} {v : Value} (ho : o.op = .move (.tmp s) ∨ o.op = .assign (.tmp s)) (h : slot a s = v) : (execOp a.eval o).run P w = .ok (.value v) w := by
 have e : a.eval (.tmp s) = v := h
 rcases ho with ho | ho <;> simp [execOp, ho, e]
theorem slot_at {a : Act} {t : Tmp} {v : Value} (h : slot a t = v) : a.tmps[t]?.getD undef = v := by rw [← h]; simp [slot]
end Go.Proofs.YtlccihidedfemaaGreatDoor

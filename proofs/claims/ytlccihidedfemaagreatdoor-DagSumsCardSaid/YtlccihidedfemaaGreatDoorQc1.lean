/-
  Texts put together: contracts and laws that this seat's proofs share.
-/
import Derived.Test.YtlccihidedfemaaGreatDoorQc0
import Derived.RangeFuncFrom
import Derived.RangeFuncBox
import Derived.Laws.RangeAny
import Derived.Deep.LoopGhost
import Derived.WalkMore
import Derived.Shelf.Strings.BuilderK
import Derived.RegionTactic
import Derived.ChangeAlike
import Derived.WalkKit
import Derived.Test.YtlccihidedfemaaGreatDoorProg
import Derived.Shelf.Strings.Builder2
import Derived.Deep.QuietTactic
import Derived.BigQuiet
import Derived.WalkSmall
import Derived.Lib.Hide
import Derived.Orders
import Derived.Still
import Derived.Handy
import Derived.Shelf.Abstract
import Derived.OrdersIn
import Derived.TacticsIn
import Derived.RangeFuncCalls
import Derived.RangeFuncNested
import Derived.RangeFuncBound
import Derived.RangeFuncLeaves
import Derived.Lib.OthersKept
import Derived.Shelf.Strconv.Clone
import Derived.LoopTactic
import Derived.OwnWalk
import Derived.Laws.AppendOwn
import Derived.Laws.IdiomStrings
import Derived.Outline
import Derived.Shelf.RegionOpen
import Derived.OwnWalkIn
import Derived.TacticsInMore
import Derived.LoopNIn
import Derived.LoopIn
import Derived.BigRegionIn
import Derived.Sort.CutIn
import Derived.Laws.BitsAllLaws
import Derived.Below
import Derived.Laws.Rows
import Derived.Laws.CopyOwn
import Derived.Great.BuildSlice
import Derived.BigRegion
import Derived.StillTailTactics
import Derived.IntWalk
import Derived.Deep.MidRow
import Derived.Laws.CopyRow
import Derived.Lib.BufferWrite
import Derived.Lib.SlBuf
set_option linter.unusedVariables false
namespace Go.Proofs.YtlccihidedfemaaGreatDoor
open Go.RowKit
attribute [local go_sem] Oper.semAt_some
theorem find_none_step {L : List It} {t : List UInt8} {k : Nat} (hk : k < L.length) (h : findT (L.take k) t = none) (hne : L[k].t ≠ t) : findT (L.take (k + 1)) t = none := by
 rw [List.take_succ_eq_append_getElem hk, findT_app_none h, findT_cons, if_neg hne]; rfl
theorem find_some_step {L : List It} {t : List UInt8} {k : Nat} (hk : k < L.length) (h : findT (L.take k) t = none) (he : L[k].t = t) : findT L t = some L[k] := by
 conv => lhs; rw [← List.take_append_drop k L]
 rw [findT_app_none h, List.drop_eq_getElem_cons hk, findT_cons, if_pos he]
set_option maxRecDepth 100000 in
set_option maxHeartbeats 2000000 in
theorem rFind_any (v : Value) (L : List It) (s : ByteArray) (w : World) (h : IsItems w v L) :
  Calls Tryz.prog 98 #[v, .string s] w fun e w' => e = .returned (.tuple #[itV (foundI L s.data.toList), .bool (findT L s.data.toList).isSome]) ∧ Below w.heap.size w w' := by
 have HI := Lib.hid h
 obtain ⟨hm, a, cap, rfl, _, hc⟩ := h
 have hmm : L.length ≤ 9223372036854775807 := by unfold maxLen at hm; omega
 clear hc hm
 go_enter Tryz.func98, Tryz.ntmps98
 go_wp2
 go_loop [6] (fun i => ∃ k : Nat, k ≤ L.length ∧ i = .int .i64 k ∧ findT (L.take k) s.data.toList = none) (fun i => L.length - (intOf i).toNat)
 case atStart => exact ⟨0, Nat.zero_le _, rfl, rfl⟩
 case round =>
  obtain ⟨k, hk, rfl, hn⟩ := hrel
  have HN := Lib.hid hn; clear hn
  by_cases hlt : k < L.length
  ·have hI := HI.out.stays ((Below.refl _ w).alloc (Nat.le_refl _) (.cells #[.string ⟨#[]⟩, .bool false, .bool false, .string ⟨#[]⟩] 51))
   obtain ⟨_, _, _, e, _, hc⟩ := hI
   cases e
   obtain ⟨b, off, rfl, _, g⟩ := hc (by omega)
   obtain ⟨c0, c1, c2, c3⟩ := g k hlt
   clear g hc
   have hbk : decide ((k : Int) < (L.length : Int)) = true := by simpa using (show (k : Int) < L.length by omega)
   by_cases he : L[k].p = s
   ·have HS := Lib.hid (find_some_step hlt HN.out (by rw [It.t, he]))
    have hb1 := beq_true he
    have HE := Lib.hid he; clear he
    go_wp2
    exact bodyPost_ret (v := .tuple #[itV L[k], .bool true]) (by simp [results, Tryz.results98, go_sem]) rfl ⟨by rw [foundI_some HS.out, HS.out]; rfl, (Below.refl _ _).alloc (Nat.le_refl _) _⟩
   ·have HS := Lib.hid (find_none_step hlt HN.out (fun e => he (str_eq' e)))
    have hb1 := beq_false he
    clear he
    go_wp2
    go_round
    case rel => exact ⟨k + 1, by omega, by go_num, HS.out⟩
    case measure => simp [intOf]; omega
  ·have HS : Hid (findT L s.data.toList = none) := by
    have := HN.out; rwa [List.take_of_length_le (by omega)] at this
   go_wp2
   exact bodyPost_ret (v := .tuple #[itV zeroIt, .bool false]) (by simp [results, Tryz.results98, go_sem, zeroIt]) rfl ⟨by rw [foundI_none HS.out, HS.out]; rfl, (Below.refl _ _).alloc (Nat.le_refl _) _⟩
set_option maxRecDepth 100000 in
set_option maxHeartbeats 2000000 in
theorem rUnder_any (v : Value) (L : List It) (s : ByteArray) (w : World) (h : IsItems w v L) (hs : s.size ≤ 100000) :
  Calls Tryz.prog 82 #[v, .string s] w fun e w' => e = .returned (.bool (underT L s.data.toList)) ∧ Below w.heap.size w w' := by
 have HI := Lib.hid h
 have C := Lib.hid (refDir_any s hs)
 have F := Lib.hid rFind_any
 clear h hs
 obtain ⟨t, ht⟩ : ∃ t, t = s.data.toList := ⟨_, rfl⟩
 rw [← ht] at C ⊢
 clear ht
 by_cases hd : dirS t = []
 ·have HU : Hid (underT L t = true) := show _ = _ by unfold underT; rw [hd]; rfl
  have hd2 : (dirS t).isEmpty = true := by rw [hd]; rfl
  have HD := Lib.hid hd
  clear hd
  go_enter Tryz.func82, Tryz.ntmps82
  go_wp2_with fail
  refine (C.out _).mono ?_
  rintro e w1 ⟨rfl, hb1⟩
  go_wp2
  go_ret
  exact ⟨by rw [HU.out]; rfl, hb1⟩
 ·have HU : Hid (underT L t = (foundI L (dirS t)).d) := show _ = _ by unfold underT; rw [decide_eq_false hd]; rfl
  have hd2 : (dirS t).isEmpty = false := by simpa using hd
  clear hd
  go_enter Tryz.func82, Tryz.ntmps82
  go_wp2_with fail
  refine (C.out _).mono ?_
  rintro e w1 ⟨rfl, hb1⟩
  have F1 := Lib.hid (F.out v L ⟨(dirS t).toArray⟩ w1 (HI.out.stays hb1))
  go_wp2_with fail
  refine F1.out.mono ?_
  rintro e w2 ⟨rfl, hb2⟩
  have hB := below_step hb1 hb2
  clear hb1 hb2 F1 F
  have hsz := hB.size
  have HN : Hid (¬ (findT L (dirS t)).isSome = true → (foundI L (dirS t)).d = false) := show _ → _ from fun h => by rw [foundI_none (Option.not_isSome_iff_eq_none.1 h)]; rfl
  go_wp2
  ·go_ret
   exact ⟨by rw [HU.out]; rfl, hB.alloc hsz _⟩
  ·rename_i hh
   go_ret
   exact ⟨by rw [HU.out, HN.out hh]; rfl, hB.alloc hsz _⟩
def smallI (x : It) : Bool := decide (x.p.size ≤ 400) && decide (x.c.size ≤ 40000)
def fewB (L : List It) : Bool := decide (L.length ≤ 70) && L.all smallI
theorem few_len {L : List It} (h : fewB L = true) : L.length ≤ 70 := by
 unfold fewB at h; rw [Bool.and_eq_true] at h; exact of_decide_eq_true h.1
theorem few_mem {L : List It} (h : fewB L = true) : ∀ x ∈ L, x.p.size ≤ 400 ∧ x.c.size ≤ 40000 := by
 unfold fewB at h; rw [Bool.and_eq_true] at h
 intro x hx
 have := List.all_eq_true.1 h.2 x hx
 unfold smallI at this; rw [Bool.and_eq_true] at this
 exact ⟨of_decide_eq_true this.1, of_decide_eq_true this.2⟩
theorem few_mk {L : List It} (h1 : L.length ≤ 70) (h2 : ∀ x ∈ L, x.p.size ≤ 400 ∧ x.c.size ≤ 40000) : fewB L = true := by
 unfold fewB; rw [decide_eq_true h1, Bool.true_and, List.all_eq_true]
 intro x hx
 unfold smallI; rw [decide_eq_true (h2 x hx).1, decide_eq_true (h2 x hx).2]; rfl
def gotO (L : List Ob) (t : List UInt8) : ByteArray := ((getO L t).map (·.r)).getD ⟨#[]⟩
theorem gotO_some {L : List Ob} {t : List UInt8} {x : Ob} (h : getO L t = some x) : gotO L t = x.r := by unfold gotO; rw [h]; rfl
theorem gotO_none {L : List Ob} {t : List UInt8} (h : getO L t = none) : gotO L t = ⟨#[]⟩ := by unfold gotO; rw [h]; rfl
theorem getO_app_none {A B : List Ob} {t : List UInt8} (h : getO A t = none) : getO (A ++ B) t = getO B t := by
 unfold getO at h ⊢; rw [List.find?_append, h]; rfl
theorem getO_cons (x : Ob) (L : List Ob) (t : List UInt8) : getO (x :: L) t = if x.t = t then some x else getO L t := by
 unfold getO
 rw [List.find?_cons]
 by_cases h : x.t = t
 ·simp [h]
 ·simp [h]
theorem getO_none_step {L : List Ob} {t : List UInt8} {k : Nat} (hk : k < L.length) (h : getO (L.take k) t = none) (hne : L[k].t ≠ t) : getO (L.take (k + 1)) t = none := by
 rw [List.take_succ_eq_append_getElem hk, getO_app_none h, getO_cons, if_neg hne]; rfl
theorem getO_some_step {L : List Ob} {t : List UInt8} {k : Nat} (hk : k < L.length) (h : getO (L.take k) t = none) (he : L[k].t = t) : getO L t = some L[k] := by
 conv => lhs; rw [← List.take_append_drop k L]
 rw [getO_app_none h, List.drop_eq_getElem_cons hk, getO_cons, if_pos he]
set_option maxRecDepth 100000 in
set_option maxHeartbeats 2000000 in
theorem rGet_any (v : Value) (L : List Ob) (s : ByteArray) (w : World) (h : IsObs w v L) :
  Calls Tryz.prog 19 #[v, .string s] w fun e w' => e = .returned (.tuple #[.string (gotO L s.data.toList), .bool (getO L s.data.toList).isSome]) ∧ Below w.heap.size w w' := by
 have HI := Lib.hid h
 obtain ⟨hm, a, cap, rfl, _, hc⟩ := h
 have hmm : L.length ≤ 9223372036854775807 := by unfold maxLen at hm; omega
 clear hc hm
 go_enter Tryz.func19, Tryz.ntmps19
 go_wp2
 go_loop [6] (fun i => ∃ k : Nat, k ≤ L.length ∧ i = .int .i64 k ∧ getO (L.take k) s.data.toList = none) (fun i => L.length - (intOf i).toNat)
 case atStart => exact ⟨0, Nat.zero_le _, rfl, rfl⟩
 case round =>
  obtain ⟨k, hk, rfl, hn⟩ := hrel
  have HN := Lib.hid hn; clear hn
  by_cases hlt : k < L.length
  ·have hI := HI.out
   obtain ⟨_, _, _, e, _, hc⟩ := hI
   cases e
   obtain ⟨b, off, rfl, _, g⟩ := hc (by omega)
   obtain ⟨c0, c1⟩ := g k hlt
   clear g hc
   have hbk : decide ((k : Int) < (L.length : Int)) = true := by simpa using (show (k : Int) < L.length by omega)
   by_cases he : L[k].k = s
   ·have HS := Lib.hid (getO_some_step hlt HN.out (by rw [Ob.t, he]))
    have hb1 := beq_true he
    have HE := Lib.hid he; clear he
    go_wp2
    exact bodyPost_ret (v := .tuple #[.string L[k].r, .bool true]) (by simp [results, Tryz.results19, go_sem]) rfl ⟨by rw [gotO_some HS.out, HS.out]; rfl, Below.refl _ _⟩
   ·have HS := Lib.hid (getO_none_step hlt HN.out (fun e => he (str_eq' e)))
    have hb1 := beq_false he
    clear he
    go_wp2
    go_round
    case rel => exact ⟨k + 1, by omega, by go_num, HS.out⟩
    case measure => simp [intOf]; omega
  ·have HS : Hid (getO L s.data.toList = none) := by
    have := HN.out; rwa [List.take_of_length_le (by omega)] at this
   go_wp2
   exact bodyPost_ret (v := .tuple #[.string ⟨#[]⟩, .bool false]) (by simp [results, Tryz.results19, go_sem]) rfl ⟨by rw [gotO_none HS.out, HS.out]; rfl, Below.refl _ _⟩
end Go.Proofs.YtlccihidedfemaaGreatDoor
namespace Go.Proofs.YtlccihidedfemaaGreatDoor
def cs (t : List UInt8) : List (List UInt8) := if t = [] then [] else pts t
theorem cs_nil : cs [] = [] := rfl
theorem cs_inj {a b : List UInt8} (h : cs a = cs b) : a = b := by
 unfold cs at h
 by_cases ha : a = [] <;> by_cases hb : b = []
 ·rw [ha, hb]
 ·rw [if_pos ha, if_neg hb] at h; exact absurd h.symm (pts_ne b)
 ·rw [if_neg ha, if_pos hb] at h; exact absurd h (pts_ne a)
 ·rw [if_neg ha, if_neg hb] at h; exact pts_inj h
structure PathOk (t : List UInt8) : Prop where
 ne : t ≠ []
 pts : cs t = pts t
 split : splitS t = cs t
 len : (cs t).length ≤ 8
 nil : cs t ≠ []
 names : ∀ n ∈ cs t, nameB n = true
theorem path_ok {t : List UInt8} (h : pathB t = true) : PathOk t := by
 have h0 : 0 < (splitS t).length := of_decide_eq_true h
 have h1 := (path_iff t).1 h0
 have hne : t ≠ [] := by
  intro e; subst e
  have := List.all_eq_true.1 h1.2 [] (by decide)
  rw [nameB_nil] at this; cases this
 have hc : cs t = pts t := if_neg hne
 have hs := (splitS_ne (l := t) (by intro e; rw [e] at h0; cases h0)).1
 exact ⟨hne, hc, by rw [hs, hc], by rw [hc]; exact h1.1, by rw [hc]; exact pts_ne t, fun n hn => List.all_eq_true.1 h1.2 n (by rwa [← hc])⟩
theorem cs_dir {t : List UInt8} (h : pathB t = true) : cs (dirS t) = (cs t).dropLast := by
 have P := path_ok h
 unfold dirS
 rw [P.split]
 have ha : (cs t).dropLast.all nameB = true := List.all_eq_true.2 fun n hn => P.names n ((List.dropLast_sublist _).subset hn)
 rw [joinN_small (by rw [List.length_dropLast]; have := P.len; omega) ha]
 cases hd : (cs t).dropLast with
 | nil => rfl
 | cons a r =>
  rw [hd] at ha
  have hf : ∀ p ∈ a :: r, (47 : UInt8) ∉ p := fun p hp => (nameB_iff.1 (List.all_eq_true.1 ha p hp)).2.2.2.2.2
  have hj := pts_joinS (L := a :: r) (by simp) hf
  have hn : joinS (a :: r) ≠ [] := by
   intro e
   rw [e] at hj
   have h1 : a = [] := by injection hj with h1 _; exact h1.symm
   have := List.all_eq_true.1 ha a (by simp)
   rw [h1, nameB_nil] at this; cases this
  unfold cs
  rw [if_neg hn, hj]
theorem cs_last {t : List UInt8} (h : pathB t = true) : cs t = (cs t).dropLast ++ [lastN t] := by
 have P := path_ok h
 unfold lastN
 rw [P.split]
 have hn := P.nil
 rw [List.getLastD_eq_getLast?, List.getLast?_eq_some_getLast hn]
 exact (List.dropLast_concat_getLast hn).symm
theorem dir_iff {t d : List UInt8} (h : pathB t = true) : dirS t = d ↔ cs t = cs d ++ [lastN t] := by
 constructor
 ·rintro rfl; rw [cs_dir h]; exact cs_last h
 ·intro e
  refine cs_inj ?_
  rw [cs_dir h, e]
  simp
theorem dir_of {t d n : List UInt8} (h : pathB t = true) (e : cs t = cs d ++ [n]) : dirS t = d ∧ lastN t = n := by
 have hl := cs_last h
 rw [e] at hl
 simp at hl
 have : lastN t = n := hl.symm
 exact ⟨(dir_iff h).2 (by rw [e, this]), this⟩
theorem cmp_app (x y : List (List UInt8)) : ∀ D : List (List UInt8), cmpP (D ++ x) (D ++ y) = cmpP x y
 | [] => rfl
 | a :: D => by rw [List.cons_append, List.cons_append, cmp_same]; exact cmp_app x y D
theorem cmp_names {a b : List UInt8} (h : cmpP [a] [b] = -1) : a < b := by
 rw [cmp_cons] at h
 by_cases hl : a < b
 ·exact hl
 ·rw [if_neg hl] at h
  by_cases hg : b < a
  ·rw [if_pos hg] at h; cases h
  ·rw [if_neg hg] at h; exact absurd h (by decide)
def pieceN (t : List UInt8) : Nd := ⟨1, ⟨t.toArray⟩, [], []⟩
def partP (t : List UInt8) : Pt := ⟨⟨(keyN (pieceN t)).toArray⟩, t.length⟩
def fileN (c : List UInt8 → Nat) (l : List UInt8) : Nd := ⟨2, ⟨#[]⟩, (pcs c l).map partP, []⟩
def seqF (c : List UInt8 → Nat) (l : List UInt8) : List Nd := (pcs c l).map pieceN ++ [fileN c l]
def It.b (x : It) : List UInt8 := x.c.data.toList
def inD (L : List It) (d : List UInt8) : List It := L.filter fun x => decide (dirS x.t = d)
def entE (x : It) (key : List UInt8) : En := ⟨⟨(lastN x.t).toArray⟩, if x.d then 3 else 2, x.e, ⟨key.toArray⟩⟩
def dirN (c : List UInt8 → Nat) (L : List It) : Nat → List UInt8 → Nd
 | 0, _ => ⟨3, ⟨#[]⟩, [], []⟩
 | k + 1, d => ⟨3, ⟨#[]⟩, [], (inD L d).map fun x => entE x (keyN (if x.d then dirN c L k x.t else fileN c x.b))⟩
def seqD (c : List UInt8 → Nat) (L : List It) : Nat → List UInt8 → List Nd
 | 0, d => [dirN c L 0 d]
 | k + 1, d => ((inD L d).flatMap fun x => if x.d then seqD c L k x.t else seqF c x.b) ++ [dirN c L (k + 1) d]
def subN (c : List UInt8 → Nat) (L : List It) (k : Nat) (x : It) : Nd := if x.d then dirN c L k x.t else fileN c x.b
theorem dirN_kd (c : List UInt8 → Nat) (L : List It) (k : Nat) (d : List UInt8) : (dirN c L k d).kd = 3 := by cases k <;> rfl
theorem dirN_es (c : List UInt8 → Nat) (L : List It) (k : Nat) (d : List UInt8) : (dirN c L (k + 1) d).es = (inD L d).map fun x => entE x (keyN (subN c L k x)) := rfl
theorem mem_inD {L : List It} {d : List UInt8} {x : It} : x ∈ inD L d ↔ x ∈ L ∧ dirS x.t = d := by unfold inD; simp
theorem top_mem (c : List UInt8 → Nat) (L : List It) (k : Nat) (d : List UInt8) : dirN c L k d ∈ seqD c L k d := by
 cases k with
 | zero => exact List.mem_singleton.2 rfl
 | succ k => exact List.mem_append_right _ (List.mem_singleton.2 rfl)
theorem file_mem (c : List UInt8 → Nat) (l : List UInt8) : fileN c l ∈ seqF c l := List.mem_append_right _ (List.mem_singleton.2 rfl)
theorem piece_mem {c : List UInt8 → Nat} {l t : List UInt8} (h : t ∈ pcs c l) : pieceN t ∈ seqF c l := List.mem_append_left _ (List.mem_map.2 ⟨t, h, rfl⟩)
theorem sub_dir {c : List UInt8 → Nat} {L : List It} {k : Nat} {d : List UInt8} {x : It} (hx : x ∈ inD L d) (hd : x.d = true) {n : Nd} (hn : n ∈ seqD c L k x.t) : n ∈ seqD c L (k + 1) d :=
 List.mem_append_left _ (List.mem_flatMap.2 ⟨x, hx, by rw [if_pos hd]; exact hn⟩)
theorem sub_file {c : List UInt8 → Nat} {L : List It} {k : Nat} {d : List UInt8} {x : It} (hx : x ∈ inD L d) (hd : x.d = false) {n : Nd} (hn : n ∈ seqF c x.b) : n ∈ seqD c L (k + 1) d :=
 List.mem_append_left _ (List.mem_flatMap.2 ⟨x, hx, by rw [if_neg (by rw [hd]; decide)]; exact hn⟩)
theorem sub_mem {c : List UInt8 → Nat} {L : List It} {k : Nat} {d : List UInt8} {x : It} (hx : x ∈ inD L d) : subN c L k x ∈ seqD c L (k + 1) d := by
 unfold subN
 cases hd : x.d
 ·exact sub_file hx hd (file_mem _ _)
 ·exact sub_dir hx hd (top_mem _ _ _ _)
structure ReadyT (c : List UInt8 → Nat) (L : List It) : Prop where
 fit : TFit L
 cut : ∃ mn mx, CutOk mn mx c ∧ mx ≤ 4096
 few : ∀ x ∈ L, (pcs c x.b).length ≤ 1024
theorem piece_fit {t : List UInt8} (h1 : 1 ≤ t.length) (h2 : t.length ≤ 4096) : fitN (pieceN t) = true := by
 have hs : (pieceN t).d.size = t.length := by unfold pieceN; rw [Lib.size_eq]
 rw [fit_piece rfl, hs]
 simp only [pieceN, List.length_nil, decide_true, Bool.and_true, Bool.and_eq_true, decide_eq_true_eq]
 exact ⟨h1, h2⟩
theorem pcs_sizes {c : List UInt8 → Nat} {L : List It} (R : ReadyT c L) (l : List UInt8) : ∀ t ∈ pcs c l, 1 ≤ t.length ∧ t.length ≤ 4096 := by
 intro t ht
 obtain ⟨mn, mx, H, h4⟩ := R.cut
 obtain ⟨i, hi, e⟩ := List.getElem_of_mem ht
 have := pcs_each H l.length l (Nat.le_refl _) i t (by rw [← e]; exact List.getElem?_eq_getElem hi)
 exact ⟨this.1, Nat.le_trans this.2.1 h4⟩
theorem sum_parts : ∀ P : List (List UInt8), sumPt (P.map partP) = (P.flatten.length : Int)
 | [] => rfl
 | t :: P => by
  rw [List.map_cons, List.flatten_cons, List.length_append]
  show (t.length : Int) + sumPt (P.map partP) = _
  rw [sum_parts P]; omega
theorem file_fit {c : List UInt8 → Nat} {L : List It} (R : ReadyT c L) {x : It} (hx : x ∈ L) : fitN (fileN c x.b) = true := by
 obtain ⟨mn, mx, H, _⟩ := R.cut
 rw [fit_file rfl]
 have h1 := R.few x hx
 have h2 := R.fit.data x hx
 have h3 := pcs_flat H.pos x.b.length x.b (Nat.le_refl _)
 have h4 : x.b.length = x.c.size := by unfold It.b; rw [Lib.size_eq]
 simp only [fileN, List.length_map, List.length_nil, decide_true, Bool.and_true, Bool.and_eq_true, decide_eq_true_eq]
 refine ⟨⟨rfl, h1⟩, fitFile_iff.2 ⟨fun p hp => ?_, ?_⟩⟩
 ·obtain ⟨t, ht, rfl⟩ := List.mem_map.1 hp
  have hs := pcs_sizes R x.b t ht
  refine okPt_iff.2 ⟨?_, ?_, ?_⟩
  ·unfold partP; rw [Lib.size_eq]; exact keyN_len (piece_fit hs.1 hs.2)
  ·unfold partP; simp only; omega
  ·unfold partP; simp only; omega
 ·rw [sum_parts, h3]; omega
theorem dir_fit {c : List UInt8 → Nat} {L : List It} (R : ReadyT c L) : ∀ (k : Nat) (d : List UInt8), fitN (dirN c L k d) = true
 | 0, _ => by show fitN ⟨3, ⟨#[]⟩, [], []⟩ = true; decide
 | k + 1, d => by
  have hsub : ∀ x ∈ inD L d, (keyN (subN c L k x)).length = 32 := fun x hx => by
   unfold subN
   cases hd : x.d
   ·exact keyN_len (file_fit R (mem_inD.1 hx).1)
   ·exact keyN_len (dir_fit R k x.t)
  rw [fit_dir rfl, dirN_es]
  have hl : (inD L d).length ≤ 60 := Nat.le_trans (List.length_filter_le _ _) R.fit.len
  have hz : (dirN c L (k + 1) d).d.size = 0 ∧ (dirN c L (k + 1) d).ps.length = 0 := ⟨rfl, rfl⟩
  rw [hz.1, hz.2, List.length_map]
  simp only [decide_true, Bool.true_and, Bool.and_eq_true, decide_eq_true_eq]
  refine ⟨hl, fitDir_iff.2 ⟨fun e he => ?_, fun i hi h0 => ?_⟩⟩
  ·obtain ⟨x, hx, rfl⟩ := List.mem_map.1 he
   have hL := (mem_inD.1 hx).1
   have hp := R.fit.path x hL
   refine okEn_iff.2 ⟨?_, ?_, ?_⟩
   ·exact (path_ok hp).names _ (by rw [cs_last hp]; simp [entE])
   ·unfold entE; rw [Lib.size_eq]; exact hsub x hx
   ·have hb := R.fit.form x hL
    unfold entE
    cases hd : x.d
    ·exact .inl rfl
    ·refine .inr ⟨rfl, ?_⟩
     unfold badI at hb
     rw [hd] at hb
     simp at hb
     exact hb.2
  ·rw [List.length_map] at hi
   rw [List.getElem_map, List.getElem_map]
   have hr := rise_filter R.fit.rise fun x => decide (dirS x.t = d)
   have ho := List.pairwise_iff_getElem.1 hr (i - 1) i (by show i - 1 < (inD L d).length; omega) hi (by omega)
   have ho : orderS ((inD L d)[i - 1]'(by omega)).t ((inD L d)[i]).t = -1 := ho
   have m1 := mem_inD.1 (List.getElem_mem (l := inD L d) (n := i - 1) (by omega))
   have m2 := mem_inD.1 (List.getElem_mem (l := inD L d) (n := i) hi)
   have p1 := R.fit.path _ m1.1; have p2 := R.fit.path _ m2.1
   have e1 := (dir_iff p1).1 m1.2; have e2 := (dir_iff p2).1 m2.2
   unfold orderS at ho
   rw [← (path_ok p1).pts, ← (path_ok p2).pts, e1, e2, cmp_app] at ho
   have := cmp_names ho
   unfold entE
   simpa using this
theorem seqF_fit {c : List UInt8 → Nat} {L : List It} (R : ReadyT c L) {x : It} (hx : x ∈ L) : ∀ n ∈ seqF c x.b, fitN n = true := by
 intro n hn
 rcases List.mem_append.1 hn with h | h
 ·obtain ⟨t, ht, rfl⟩ := List.mem_map.1 h
  have := pcs_sizes R x.b t ht
  exact piece_fit this.1 this.2
 ·rw [List.mem_singleton.1 h]; exact file_fit R hx
theorem seqD_fit {c : List UInt8 → Nat} {L : List It} (R : ReadyT c L) : ∀ (k : Nat) (d : List UInt8), ∀ n ∈ seqD c L k d, fitN n = true
 | 0, d, n, hn => by rw [List.mem_singleton.1 hn]; exact dir_fit R 0 d
 | k + 1, d, n, hn => by
  rcases List.mem_append.1 hn with h | h
  ·obtain ⟨x, hx, h⟩ := List.mem_flatMap.1 h
   cases hd : x.d
   ·rw [if_neg (by rw [hd]; decide)] at h; exact seqF_fit R (mem_inD.1 hx).1 n h
   ·rw [if_pos hd] at h; exact seqD_fit R k x.t n h
  ·rw [List.mem_singleton.1 h]; exact dir_fit R _ d
end Go.Proofs.YtlccihidedfemaaGreatDoor
set_option linter.unusedVariables false
namespace Go.Proofs.YtlccihidedfemaaGreatDoor
open Go Go.RowKit
def KeepsAt (A : Nat → Prop) (X Y : World) : Prop := ∀ k, A k → Y.heap[k]? = X.heap[k]?
theorem KeepsAt.trans {A : Nat → Prop} {X Y Z : World} (h : KeepsAt A X Y) (h' : KeepsAt A Y Z) : KeepsAt A X Z := fun k hk => (h' k hk).trans (h k hk)
theorem KeepsAt.mono {A A' : Nat → Prop} {X Y : World} (h : KeepsAt A X Y) (hA : ∀ k, A' k → A k) : KeepsAt A' X Y := fun k hk => h k (hA k hk)
theorem KeepsAt.put {A : Nat → Prop} {W : World} {l : Nat} {o : Obj} (h : ¬ A l) : KeepsAt A W (W.putObj l o) := fun k hk => World.putObj_heap_other (fun e => h (e ▸ hk))
theorem KeepsAt.below {A : Nat → Prop} {X Y : World} (h : Below X.heap.size X Y) (hA : ∀ k, A k → k < X.heap.size) : KeepsAt A X Y := fun k hk => h.block k (hA k hk)
theorem KeepsAt.refl {A : Nat → Prop} (X : World) : KeepsAt A X X := fun _ _ => rfl
def winPost {α : Type} (A : Nat → Prop) (D : Nat) (I : List α → World → Prop) (Ix : Code → List α → World → Prop) (pre : List α) (W : World) : Exit → Act → World → Prop
 | .normal, _, Y => KeepsAt (fun k => A k ∨ k = D ∨ k = D + 1) W Y ∧ I pre Y
 | .ret, _, Y => KeepsAt (fun k => k = D ∨ k = D + 1) W Y ∧ Ix .ret pre Y
 | .exit id, _, Y => KeepsAt (fun k => k = D ∨ k = D + 1) W Y ∧ Ix (.exit id) pre Y
 | .goto t, _, Y => KeepsAt (fun k => k = D ∨ k = D + 1) W Y ∧ Ix (.goto t) pre Y
 | _, _, _ => False
def SeqOwn {α : Type} (F : Fence) (n : Nat) (P : Program) (g : Nat) (lb : Array Value) (encs : α → Array Value) (A : Nat → Nat → Prop) (K : Nat) (stops : Prop) (S Sp : List α → Prop) (N : Nat) (w : World) : Prop :=
 ∀ (l : Nat) (J Jx : List α → World → Prop) (W : World), Below w.heap.size w W → (∀ s X, Jx s X → stops) →
  (∀ s b X Y, A W.heap.size b → J s X → X.grownBy Y (some b) → J s Y) → (∀ s b X Y, A W.heap.size b → Jx s X → X.grownBy Y (some b) → Jx s Y) →
  (∀ pre x X, J pre X → pre.length < N → (0 < K → W.heap.size + K ≤ X.heap.size) → YieldAt F (n - 1) P l (encs x) X fun e Y =>
   (e = .returned (.bool true) ∧ J (pre ++ [x]) Y ∧ KeepsAt (A W.heap.size) X Y) ∨ (e = .returned (.bool false) ∧ Jx (pre ++ [x]) Y)) → J [] W →
   CallsIn F n P g (#[.func (.yield l) #[] #[]] ++ lb) W fun e Y => (∃ v, e = .returned v) ∧ ((∃ xs, S xs ∧ J xs Y) ∨ (∃ pre, Sp pre ∧ Jx pre Y))
variable {F : Fence} {n : Nat} {P : Program}
theorem wpIn_rangeFunc_win {α : Type} {g : Operand} {ps : Array Tmp} {assign body : Code} {Q : Exit → Act → World → Prop} {a : Act} {w : World}
  (hro : F.round = none) (h1 : 1 ≤ n) {gf : Nat} {lb : Array Value} (hg : a.eval g = .func (.func gf) #[] lb) (hF : F.fn gf) (eg : ∀ args w, (callFunc gf args).run P w = .ok (.enter gf args) w)
  {encs : α → Array Value} {A : Nat → Nat → Prop} {K : Nat} {stops : Prop} {S Sp : List α → Prop} {N : Nat} {w0 : World} (hseq : SeqOwn F (n - 1) P gf lb encs A K stops S Sp N w0)
  (hb0 : Below w0.heap.size w0 w) (hps : ∀ x, (encs x).size = ps.size)
  (hA : ∀ b, A (w.heap.size + 2) b → b ≠ w.heap.size ∧ b ≠ w.heap.size + 1)
  (I : List α → World → Prop) (Ix : Code → List α → World → Prop)
  (hI : ∀ s b X Y, (A (w.heap.size + 2) b ∨ b = w.heap.size ∨ b = w.heap.size + 1) → I s X → X.grownBy Y (some b) → I s Y)
  (hIx : ∀ c s b X Y, (A (w.heap.size + 2) b ∨ b = w.heap.size ∨ b = w.heap.size + 1) → Ix c s X → X.grownBy Y (some b) → Ix c s Y)
  (hst : ∀ c s X, Ix c s X → stops)
  (hI0 : ∀ o, I [] ((w.alloc (.deferred (some []))).alloc (.loop o)))
  (a₁ : α → Act)
  (hassign : ∀ (l : Nat) (x : α) (W : World) (K : Act → World → Prop), K (a₁ x) W →
   assign.wpIn (F.inRound l) (n - 1 - 1) P (Exit.then K (fun _ _ _ => False)) { tmps := (ps.zip (encs x)).foldl (fun t (p, v) => t.setIfInBounds p v) a.tmps, defers := [] } W)
  (hbody : ∀ (l : Nat) (pre : List α) (x : α) (W : World), I pre W → pre.length < N → (0 < K → w.heap.size + 2 + K ≤ W.heap.size) → body.wpIn (F.inRound l) (n - 1 - 1) P (winPost (A (w.heap.size + 2)) w.heap.size I Ix (pre ++ [x]) W) (a₁ x) W)
  (hdone : ∀ (xs : List α) (W : World), S xs → I xs W → W.heap[w.heap.size]? = some (.deferred (some [])) → Q .normal { a with defers := { target := .collected w.heap.size, args := #[] } :: a.defers } W)
  (hstop : ∀ (c : Code) (pre : List α) (W : World), Sp pre → Ix c pre W → W.heap[w.heap.size]? = some (.deferred (some [])) → c.wpIn F n P Q { a with defers := { target := .collected w.heap.size, args := #[] } :: a.defers } W) :
  (Code.rangeFunc g ps assign body).wpIn F n P Q a w := by
 refine wpIn_rangeFunc fun fn hfn => ?_
 rw [hro]
 obtain ⟨rec, hrec⟩ : ∃ rec : LoopState → Option Code → Loop, rec = fun st pe => { state := st, pending := pe, fn, tmps := a.tmps, params := ps, assign, body, defers := w.heap.size } := ⟨_, rfl⟩
 obtain ⟨W1, hW1⟩ : ∃ W1, (w.alloc (.deferred (some []))).alloc (.loop (rec .ready none)) = W1 := ⟨_, rfl⟩
 have hL1 : W1.heap[w.heap.size + 1]? = some (.loop (rec .ready none)) := by
  rw [← hW1]; have := World.alloc_heap_new (w.alloc (.deferred (some []))) (.loop (rec .ready none)); rwa [World.size_alloc] at this
 have hK1 : W1.heap[w.heap.size]? = some (.deferred (some [])) := by
  rw [← hW1]; exact (Below.heap_alloc _ _ _ (by simp)).trans (World.alloc_heap_new w _)
 have hs1 : W1.heap.size = w.heap.size + 2 := by rw [← hW1]; simp
 have hI1 : I [] W1 := by rw [← hW1]; exact hI0 _
 have hb1 : Below w0.heap.size w0 W1 := by
  rw [← hW1]; exact hb0.trans ((((Below.refl _ w).alloc (Nat.le_refl _) _).alloc (by simp) _).mono hb0.size)
 refine ⟨w.heap.size + 1, [{ target := .collected w.heap.size, args := #[] }], W1, { target := .fn (.func gf) lb, args := #[.func (.yield (w.heap.size + 1)) #[] #[]] }, W1, gf,
  #[.func (.yield (w.heap.size + 1)) #[] #[]] ++ lb, W1, ?_, ?_, ?_, ?_, fun _ => h1, ?_⟩
 ·rw [← hW1, hrec]; exact run_enterLoop_outer _ _ _ _ _
 ·simp only [resolve, hg]
  simp [go_sem]
 ·intro f' hf'; simp [Target.leads] at hf'; subst hf'; exact hF
 ·simp [invoke, go_sem, eg]
 ·have keep : ∀ {X Y : World} {b k : Nat} {o : Obj}, X.heap[k]? = some o → X.grownBy Y (some b) → b ≠ k → Y.heap[k]? = some o :=
   fun hx hg hne => (hg.block _ (Array.getElem?_eq_some_iff.1 hx).1 (fun e => hne (by cases e; rfl))).trans hx
  refine (hseq (w.heap.size + 1)
   (fun pre W => I pre W ∧ W.heap[w.heap.size + 1]? = some (.loop (rec .ready none)) ∧ W.heap[w.heap.size]? = some (.deferred (some [])))
   (fun pre W => ∃ c, Ix c pre W ∧ W.heap[w.heap.size + 1]? = some (.loop (rec .done (some c))) ∧ W.heap[w.heap.size]? = some (.deferred (some [])))
   W1 hb1 (fun s X h => by obtain ⟨c, hc, _⟩ := h; exact hst c s X hc)
   (fun s b X Y hb hs hg' => by
    rw [hs1] at hb
    exact ⟨hI s b X Y (.inl hb) hs.1 hg', keep hs.2.1 hg' (hA b hb).2, keep hs.2.2 hg' (hA b hb).1⟩)
   (fun s b X Y hb hs hg' => by
    rw [hs1] at hb
    obtain ⟨c, hc, hl, hk⟩ := hs
    exact ⟨c, hIx c s b X Y (.inl hb) hc hg', keep hl hg' (hA b hb).2, keep hk hg' (hA b hb).1⟩)
   ?_ ⟨hI1, hL1, hK1⟩).mono ?_
  ·rintro pre x W ⟨hi, hl, hk⟩ hlen hsz
   rw [hs1] at hsz ⊢
   have hlt : w.heap.size + 1 < W.heap.size := (Array.getElem?_eq_some_iff.1 hl).1
   have hy := run_yield (P := P) (args := encs x) hl (by rw [hrec]; exact hps x)
   rw [hrec] at hy
   refine ⟨fn, _, assign, body, hy, roundIn_of_wpIn hfn (hassign _ x W _ ⟨_, run_beginRound hl (by rw [hrec]), ?_⟩)⟩
   have hl2 : (W.putObj (w.heap.size + 1) (.loop { rec .ready none with state := .busy })).heap[w.heap.size + 1]? = some (.loop { rec .ready none with state := .busy }) := World.putObj_heap_same hlt
   have hk2 : (W.putObj (w.heap.size + 1) (.loop { rec .ready none with state := .busy })).heap[w.heap.size]? = some (.deferred (some [])) := (World.putObj_heap_other (by omega)).trans hk
   have hkA : ∀ (W : World) (o : Obj), KeepsAt (A (w.heap.size + 2)) W (W.putObj (w.heap.size + 1) o) := fun W o => KeepsAt.put (fun h => (hA _ h).2 rfl)
   refine wpIn_mono (hbody _ pre x _ (hI _ _ _ _ (.inr (.inr rfl)) hi (grownBy_putObj' _ _ _)) hlen (fun hK => Nat.le_trans (hsz hK) (grownBy_putObj' W _ _).size)) ?_
   have fin : ∀ (jump : Option Code) (W3 : World), W3.heap[w.heap.size + 1]? = some (.loop { rec .ready none with state := .busy }) → W3.heap[w.heap.size]? = some (.deferred (some [])) →
     (Instr.endRound (w.heap.size + 1) jump).run P W3 = .ok (.bool jump.isNone) (W3.putObj (w.heap.size + 1) (.loop (rec (if jump.isNone then .ready else .done) jump))) ∧
     (W3.putObj (w.heap.size + 1) (.loop (rec (if jump.isNone then .ready else .done) jump))).heap[w.heap.size + 1]? = some (.loop (rec (if jump.isNone then .ready else .done) jump)) ∧
     (W3.putObj (w.heap.size + 1) (.loop (rec (if jump.isNone then .ready else .done) jump))).heap[w.heap.size]? = some (.deferred (some [])) := fun jump W3 hl3 hk3 => by
    have := run_endRound (P := P) jump hl3
    rw [hrec] at this ⊢
    exact ⟨this, World.putObj_heap_same (Array.getElem?_eq_some_iff.1 hl3).1, (World.putObj_heap_other (by omega)).trans hk3⟩
   rintro e a3 W3 hp
   have hL3 : ∀ {B : Nat → Prop}, KeepsAt B (W.putObj (w.heap.size + 1) (.loop { rec .ready none with state := .busy })) W3 → B (w.heap.size + 1) → W3.heap[w.heap.size + 1]? = some (.loop { rec .ready none with state := .busy }) := fun h hB => (h _ hB).trans hl2
   have hD3 : ∀ {B : Nat → Prop}, KeepsAt B (W.putObj (w.heap.size + 1) (.loop { rec .ready none with state := .busy })) W3 → B w.heap.size → W3.heap[w.heap.size]? = some (.deferred (some [])) := fun h hB => (h _ hB).trans hk2
   cases e with
   | normal =>
    obtain ⟨hk3, hi3⟩ := hp
    obtain ⟨hr, hl4, hk4⟩ := fin none W3 (hL3 hk3 (.inr (.inr rfl))) (hD3 hk3 (.inr (.inl rfl)))
    exact ⟨_, _, hr, .inl ⟨rfl, ⟨hI _ _ _ _ (.inr (.inr rfl)) hi3 (grownBy_putObj' _ _ _), hl4, hk4⟩, ((hkA W _).trans (hk3.mono (fun k h => .inl h))).trans (hkA W3 _)⟩⟩
   | ret =>
    obtain ⟨hk3, hi3⟩ := hp
    obtain ⟨hr, hl4, hk4⟩ := fin (some .ret) W3 (hL3 hk3 (.inr rfl)) (hD3 hk3 (.inl rfl))
    exact ⟨_, _, hr, .inr ⟨rfl, .ret, hIx _ _ _ _ _ (.inr (.inr rfl)) hi3 (grownBy_putObj' _ _ _), hl4, hk4⟩⟩
   | exit id =>
    obtain ⟨hk3, hi3⟩ := hp
    obtain ⟨hr, hl4, hk4⟩ := fin (some (.exit id)) W3 (hL3 hk3 (.inr rfl)) (hD3 hk3 (.inl rfl))
    exact ⟨_, _, hr, .inr ⟨rfl, .exit id, hIx _ _ _ _ _ (.inr (.inr rfl)) hi3 (grownBy_putObj' _ _ _), hl4, hk4⟩⟩
   | goto t =>
    obtain ⟨hk3, hi3⟩ := hp
    obtain ⟨hr, hl4, hk4⟩ := fin (some (.goto t)) W3 (hL3 hk3 (.inr rfl)) (hD3 hk3 (.inl rfl))
    exact ⟨_, _, hr, .inr ⟨rfl, .goto t, hIx _ _ _ _ _ (.inr (.inr rfl)) hi3 (grownBy_putObj' _ _ _), hl4, hk4⟩⟩
   | panic ch => exact hp.elim
   | outgrown => exact hp.elim
  ·rintro e W2 ⟨⟨v, rfl⟩, (⟨xs, hS, hi, hl, hk⟩ | ⟨pre, hSp, c, hi, hl, hk⟩)⟩
   ·exact ⟨none, _, by have := run_endLoop (P := P) hl (by rw [hrec]; simp); rw [hrec] at this; exact this, hdone xs _ hS (hI _ _ _ _ (.inr (.inr rfl)) hi (grownBy_putObj' _ _ _)) ((World.putObj_heap_other (by omega)).trans hk)⟩
   ·exact ⟨some c, _, by have := run_endLoop (P := P) hl (by rw [hrec]; simp); rw [hrec] at this; exact this, hstop c pre _ hSp (hIx _ _ _ _ _ (.inr (.inr rfl)) hi (grownBy_putObj' _ _ _)) ((World.putObj_heap_other (by omega)).trans hk)⟩
end Go.Proofs.YtlccihidedfemaaGreatDoor
set_option linter.unusedVariables false
namespace Go.Proofs.YtlccihidedfemaaGreatDoor
open Go.RowKit Go.Shelf
attribute [local go_sem] Oper.semAt_some
abbrev badS : ByteArray := ⟨#[47, 0]⟩
set_option maxRecDepth 100000 in
theorem IndexByte_any (s : ByteArray) (c : UInt8) (w : World) : Calls Tryz.prog 178 #[.string s, .int .u8 c.toNat] w fun e w' => e = .returned (.int .i64 (Lib.indexByte s.data.toList c)) ∧ w = w' := by
 have C := Any.strings_IndexByte Tryz.lays137 s (c.toNat : Int) w
 change Calls Tryz.prog 178 _ _ _ at C
 refine C.mono ?_
 rintro e w' ⟨rfl, rfl⟩
 exact ⟨by simp, rfl⟩
def runeB (c : Int) : Bool := (decide (0 ≤ c) && decide (c < 55296)) || (decide (57343 < c) && decide (c ≤ 1114111))
theorem ValidRune_any (c : Int) (h0 : 128 ≤ c) (w : World) : Calls Tryz.prog 179 #[.int .i32 c] w fun e w' => e = .returned (.bool (runeB c)) ∧ w = w' := by
 have a0 : decide ((0 : Int) ≤ c) = true := decide_eq_true (by omega)
 by_cases h1 : c < 55296
 ·have a1 : decide (c < 55296) = true := decide_eq_true h1
  have HN : Hid (runeB c = true) := by show _ = _; simp [runeB, a0, a1]
  go_enter Tryz.func179, Tryz.ntmps179
  go_wp2
  go_ret
  exact ⟨ret_val (congrArg Value.bool HN.out.symm), rfl⟩
 ·have a1 : decide (c < 55296) = false := decide_eq_false h1
  by_cases h2 : 57343 < c
  ·have a2 : decide (57343 < c) = true := decide_eq_true h2
   by_cases h3 : c ≤ 1114111
   ·have a3 : decide (c ≤ 1114111) = true := decide_eq_true h3
    have HN : Hid (runeB c = true) := by show _ = _; simp [runeB, a2, a3]
    go_enter Tryz.func179, Tryz.ntmps179
    go_wp2
    go_ret
    exact ⟨ret_val (congrArg Value.bool HN.out.symm), rfl⟩
   ·have a3 : decide (c ≤ 1114111) = false := decide_eq_false h3
    have HN : Hid (runeB c = false) := by show _ = _; simp [runeB, a1, a3]
    go_enter Tryz.func179, Tryz.ntmps179
    go_wp2
    go_ret
    exact ⟨ret_val (congrArg Value.bool HN.out.symm), rfl⟩
  ·have a2 : decide (57343 < c) = false := decide_eq_false h2
   have HN : Hid (runeB c = false) := by show _ = _; simp [runeB, a1, a2]
   go_enter Tryz.func179, Tryz.ntmps179
   go_wp2
   go_ret
   exact ⟨ret_val (congrArg Value.bool HN.out.symm), rfl⟩
theorem encode_high {c : Int} (h : 128 ≤ c) : 2 ≤ (Utf8.encode c).size ∧ (Utf8.encode c).size ≤ 4 ∧ ∀ k (hk : k < (Utf8.encode c).size), k + 1 = (Utf8.encode c).size → ((Utf8.encode c)[k].toNat : Int) ≠ 0 := by
 obtain ⟨n, hn⟩ : ∃ n, n = if Utf8.valid c then c.toNat else Utf8.runeError := ⟨_, rfl⟩
 have hn1 : 128 ≤ n := by rw [hn]; split; omega; decide
 have key : ∀ m : Nat, ((UInt8.ofNat (128 + m % 64)).toNat : Int) ≠ 0 := fun m => by
  rw [UInt8.toNat_ofNat']; omega
 have two : ∀ a b : UInt8, (⟨#[a, b]⟩ : ByteArray).size = 2 := fun _ _ => rfl
 have three : ∀ a b c : UInt8, (⟨#[a, b, c]⟩ : ByteArray).size = 3 := fun _ _ _ => rfl
 have four : ∀ a b c d : UInt8, (⟨#[a, b, c, d]⟩ : ByteArray).size = 4 := fun _ _ _ _ => rfl
 unfold Utf8.encode
 rw [← hn]
 simp only
 split
 ·omega
 ·split
  ·refine ⟨by rw [two]; omega, by rw [two]; omega, fun k hk e => ?_⟩
   rw [two] at e; obtain rfl : k = 1 := by omega
   exact key n
  ·split
   ·refine ⟨by rw [three]; omega, by rw [three]; omega, fun k hk e => ?_⟩
    rw [three] at e; obtain rfl : k = 2 := by omega
    exact key n
   ·refine ⟨by rw [four]; omega, by rw [four]; omega, fun k hk e => ?_⟩
    rw [four] at e; obtain rfl : k = 3 := by omega
    exact key n
set_option maxRecDepth 100000 in
set_option maxHeartbeats 4000000 in
theorem IndexRune_high (c : Int) (h : 128 ≤ c) (hc : c ≤ 2147483647) (w : World) : Calls Tryz.prog 165 #[.string badS, .int .i32 c] w fun e w' => e = .returned (.int .i64 (-1)) ∧ Below w.heap.size w w' := by
 have a0 : decide (c < 128) = false := decide_eq_false (by omega)
 have a00 : decide ((0 : Int) ≤ c) = true := decide_eq_true (by omega)
 by_cases he : c = 65533
 ·subst he
  go_enter Tryz.func165, Tryz.ntmps165
  go_wp2
  go_loopg [5, 6] 2 (fun g _ _ wx => ∃ i : Nat, i + g = 2 ∧ wx = w.iter badS i)
  case atStart => exact ⟨0, by omega, rfl⟩
  case round =>
   obtain ⟨i, hig, rfl⟩ := hrel
   cases gk with
   | zero =>
    obtain rfl : i = 2 := by omega
    have hnx := run_next_end (P := Tryz.prog) w badS 2
    go_wp2
    go_ret
    exact ⟨rfl, (Below.refl _ _).alloc (Nat.le_refl _) _⟩
   | succ g =>
    have hi : i < badS.size := by show i < 2; omega
    have hx : (badS[i]'hi).toNat < 128 := by
     rcases (show i = 0 ∨ i = 1 by omega) with rfl | rfl
     ·exact (by decide : 47 < 128)
     ·exact (by decide : 0 < 128)
    have hnx := fun ty => run_next_ascii (P := Tryz.prog) w badS i ty hi hx
    obtain ⟨x, hxx⟩ : ∃ x, x = (badS[i]'hi).toNat := ⟨_, rfl⟩
    rw [← hxx] at hnx hx
    have hne : ((x : Int) == 65533) = false := beq_eq_false_iff_ne.2 (by omega)
    clear hxx
    go_wp2
    go_roundg g
    case measure => omega
    case rel => exact ⟨i + 1, by omega, rfl⟩
 ·have a1 : (c == 65533) = false := beq_eq_false_iff_ne.2 he
  have V := Lib.hid (ValidRune_any c h)
  rcases hv : runeB c with _ | _
  ·rw [hv] at V
   go_enter Tryz.func165, Tryz.ntmps165
   go_wp2_with fail
   refine (V.out _).mono ?_
   rintro e w1 ⟨rfl, rfl⟩
   go_wp2
   go_ret
   exact ⟨rfl, Below.refl _ _⟩
  ·rw [hv] at V
   obtain ⟨hz1, hz2, hlast⟩ := encode_high h
   clear hv
   by_cases hz : (Utf8.encode c).size = 2
   ·have hl := hlast 1 (by omega) (by omega)
    have hu0 : (((badS[1]'(by decide)).toNat : Int) != (((Utf8.encode c)[1]'(by omega)).toNat : Int)) = true := bne_iff_ne.2 (fun e => hl e.symm)
    have hw2 : IntKind.i64.wrap 2 = 2 := by rw [IntKind.wrap_i64]; decide
    have hs2 := fun W => run_slice_from (P := Tryz.prog) Tryz.underlying9 badS 2 (by decide) W
    have CI := Lib.hid (fun (x : ByteArray) (hx : x.data.toList = []) (u : UInt8) W => show Calls Tryz.prog 178 #[.string x, .int .u8 u.toNat] W fun e w' => e = .returned (.int .i64 (-1)) ∧ w' = W from (IndexByte_any x u W).mono fun e w' h => ⟨by rw [h.1, hx]; rfl, h.2.symm⟩)
    clear hlast hl
    go_enter Tryz.func165, Tryz.ntmps165
    go_wp2_with fail
    refine (V.out _).mono ?_
    rintro e w1 ⟨rfl, rfl⟩
    go_wp2_with fail
    apply wp_scope_straight
    go_wp2_with fail
    go_loopw [9, 10] (fun i f wx => i = .int .i64 1 ∧ f = .int .i64 0 ∧ wx = w) (fun _ _ _ => 0)
    case atStart => exact ⟨rfl, rfl, rfl⟩
    case round =>
     obtain ⟨rfl, rfl, rfl⟩ := hrel
     go_wp2_with fail
     apply wp_scope_straight
     go_wp2_with fail
     go_quiet (fail)
     go_wp2_with fail
     have hBw := below_drewN (Below.refl wr.heap.size wr) nq
     generalize wr.drewN nq = wq at hBw ⊢
     go_quiet ((go_at_call 178; exact Calls.quiet_of_same (CI.out ByteArray.empty (by rfl) _ _)))
     go_wp2_with fail
     rw [Exit.noGoto_ret]
     go_wp2_with fail
     rw [Exit.noGoto_ret]
     go_wp2
     go_ret
     exact ⟨rfl, below_drewN hBw _⟩
   ·have hz3 : 3 ≤ (Utf8.encode c).size := by omega
    obtain ⟨rs, hrs⟩ : ∃ rs, rs = Utf8.encode c := ⟨_, rfl⟩
    have HZ3 := Lib.hid hz3
    clear hlast hz
    go_enter Tryz.func165, Tryz.ntmps165
    go_wp2_with fail
    refine (V.out _).mono ?_
    rintro e w1 ⟨rfl, rfl⟩
    go_wp2_with fail
    apply wp_scope_straight
    go_wp2_with fail
    rw [← hrs] at hz3 hz1 hz2 ⊢
    clear hrs
    have hlt : decide ((rs.size : Int) - 1 < 2) = false := decide_eq_false (by omega)
    go_loopw [9, 10] (fun i f wx => i = .int .i64 ((rs.size : Int) - 1) ∧ f = .int .i64 0 ∧ wx = w) (fun _ _ _ => 0)
    case atStart => exact ⟨rfl, rfl, rfl⟩
    case round =>
     obtain ⟨rfl, rfl, rfl⟩ := hrel
     go_wp2_with fail
     rw [Exit.noGoto_ret]
     go_wp2
     go_ret
     exact ⟨rfl, Below.refl _ _⟩
end Go.Proofs.YtlccihidedfemaaGreatDoor
set_option linter.unusedVariables false
namespace Go.Proofs.YtlccihidedfemaaGreatDoor
open Go.RowKit Go.Shelf
theorem sizeBuilder_Bup : (Tryz.prog.info? 154).map (fun i => i.size) = some 2 := by kernel_rfl
theorem infoByte_Bup : (Tryz.prog.info? 5).map (fun i => (i.zero, i.size, i.bytes)) = some (some (.int .u8 0), 1, 1) := by kernel_rfl
theorem liesBuilder_Bup : liesAt Tryz.prog Tryz.prog.depth 154 (2 / Tryz.prog.cellsOf 154) 0 154 1 = true := by kernel_rfl
set_option maxHeartbeats 1000000 in
set_option maxRecDepth 100000 in
theorem copyCheck_used_Bup (b : Nat) (w : World) (h0 : w.cell? ⟨b, 0, none⟩ = some (.pointer (some ⟨b, 0, none⟩))) :
  Calls Tryz.prog 146 #[.pointer (some ⟨b, 0, none⟩)] w fun e w' => e = .returned (.tuple #[]) ∧ w' = w := by
 obtain ⟨j, hj, _⟩ := Option.map_eq_some_iff.1 sizeBuilder_Bup
 go_enter Tryz.func146, Tryz.ntmps146
 go_wp2
 rw [Lib.run_neq_ptr_same w _ Tryz.underlying152 hj]
 go_wp2
 go_end0
 exact ⟨rfl, rfl⟩
set_option maxHeartbeats 1000000 in
set_option maxRecDepth 100000 in
theorem copyCheck_fresh_Bup (b : Nat) (w : World) (h0 : w.cell? ⟨b, 0, none⟩ = some (.pointer none)) (hsh : w.shape? b = some (154, 2)) (hfz : w.frozen? ⟨b, 0, none⟩ = false) :
  Calls Tryz.prog 146 #[.pointer (some ⟨b, 0, none⟩)] w fun e w' => e = .returned (.tuple #[]) ∧ w' = w.setCell ⟨b, 0, none⟩ (.pointer (some ⟨b, 0, none⟩)) := by
 obtain ⟨j, hj, hjs⟩ := Option.map_eq_some_iff.1 sizeBuilder_Bup
 have hl := liesBuilder_Bup
 go_enter Tryz.func146, Tryz.ntmps146
 go_wp2
 rw [Lib.run_to_unsafe w ⟨b, 0, none⟩ Tryz.underlying152 Tryz.underlying180 hj (by rw [hjs]; decide) hsh (Nat.zero_lt_succ 1)]
 simp only [Result.andThen]
 rw [Oper.upon_value]
 go_wp2
 rw [run_callFunc_extern Tryz.func160 (by kernel_rfl) (by kernel_rfl) (by kernel_rfl) (e := Extern.AbiNoEscape.same) (by kernel_rfl)]
 rw [Lib.run_noEscape]
 simp only [Result.andThen]
 rw [Oper.upon_value]
 go_wp2
 rw [Lib.run_from_unsafe w ⟨b, 0, none⟩ Tryz.underlying180 Tryz.underlying152 hj hsh hl]
 simp only [Result.andThen]
 rw [Oper.upon_value]
 go_wp2
 go_end0
 exact ⟨rfl, rfl⟩
theorem copyCheck_k_Bup (B b : Nat) (bs : List Value) (w : World) (h : Lib.IsBuilderF 154 5 B b bs w) :
  Calls Tryz.prog 146 #[.pointer (some ⟨b, 0, none⟩)] w fun e w' => e = .returned (.tuple #[]) ∧ (Lib.BuilderAtF 154 5 B b (.pointer (some ⟨b, 0, none⟩)) bs w' ∧ Below B w w' ∧ Lib.OthersKept 5 (some b) w w') := by
 rcases h with h | h
 ·refine (copyCheck_fresh_Bup b w h.cell0 h.shape h.frozen0).mono ?_
  rintro e w' ⟨rfl, rfl⟩
  exact ⟨rfl, h.used _, (Below.refl B w).setCell (p := ⟨b, 0, none⟩) h.1 _, (Lib.OthersKept.refl _ _ w).setCell ⟨b, 0, none⟩ rfl _⟩
 ·refine (copyCheck_used_Bup b w h.cell0).mono ?_
  rintro e w' ⟨rfl, rfl⟩
  exact ⟨rfl, h, Below.refl B _, Lib.OthersKept.refl _ _ _⟩
theorem cellsByte_Bup : Tryz.prog.cellsOf 5 = 1 := by kernel_rfl
set_option maxHeartbeats 2000000 in
set_option maxRecDepth 100000 in
theorem String_full_k_Bup (B b : Nat) (l : List UInt8) (w : World) (h : Lib.IsBuilderF 154 5 B b (Lib.byteCells l) w) (h0 : l ≠ []) :
  Calls Tryz.prog 128 #[.pointer (some ⟨b, 0, none⟩)] w fun e w' => e = .returned (.string ⟨l.toArray⟩) ∧ (Lib.IsBuilderF 154 5 B b (Lib.byteCells l) w' ∧ Below B w w' ∧ Lib.OthersKept 5 (some b) w w') := by
 obtain ⟨p, hp, hAt⟩ : ∃ p, (p = .pointer none ∨ p = .pointer (some ⟨b, 0, none⟩)) ∧ Lib.BuilderAtF 154 5 B b p (Lib.byteCells l) w := by
  rcases h with h | h
  ·exact ⟨_, .inl rfl, h⟩
  ·exact ⟨_, .inr rfl, h⟩
 obtain ⟨hB, v, hbk, hown, hne⟩ := hAt
 have hl0 : l.length ≠ 0 := by simpa using h0
 rw [Lib.byteCells_length] at hown
 obtain ⟨g, cap, cur, fz, rfl, hbg, hg, hfz, hnc, hcm, hcs, htake⟩ : ∃ g cap cur fz, v = .slice (some ⟨g, 0, none⟩) l.length cap ∧ B ≤ g ∧ w.heap[g]? = some (.cells cur 5 fz) ∧ fz.2 ≤ l.length * 1 ∧ l.length ≤ cap ∧ cap ≤ maxLen ∧ cur.size = cap * 1 ∧ cur.toList.take (l.length * 1) = Lib.byteCells l := by
  rcases hown.2 with ⟨_, hz⟩ | ⟨g, cap, cur, fz, hv, r⟩
  ·exact absurd hz hl0
  ·exact ⟨g, cap, cur, fz, hv, r⟩
 have c1 : w.drew.cell? ⟨b, 1, none⟩ = some (.slice (some ⟨g, 0, none⟩) l.length cap) := by
  have : w.drew.heap[b]? = some (.cells #[p, .slice (some ⟨g, 0, none⟩) l.length cap] 154 (0, 0)) := hbk
  rw [Lib.cell_of_heap this]; rfl
 have hSD : (Builtin.unsafeSliceData_ #[83] 175 #[.slice (some ⟨g, 0, none⟩) l.length cap]).run Tryz.prog w.drew = .ok (.pointer (some ⟨g, 0, none⟩)) w.drew :=
  Lib.run_unsafeSliceData_row _ _ _ _ _ _ (by omega)
 have hUS : (Builtin.unsafeString_ #[175, 3] 9 #[.pointer (some ⟨g, 0, none⟩), .int .i64 l.length]).run Tryz.prog w.drew = .ok (.string ⟨l.toArray⟩) (w.drew.freeze ⟨g, 0, none⟩ l.length) := by
  refine Lib.run_unsafeString_row w.drew 175 3 9 5 Tryz.underlying175 cellsByte_Bup g cur.size (by have hg' : w.drew.heap[g]? = some (.cells cur 5 fz) := hg; simp [World.shape?, hg']) l h0 (by omega) (by unfold maxLen at hcm; omega) ?_
  intro j x hx
  have := hown.cells (g := g) rfl j (.int .u8 x.toNat) (by simp [Lib.byteCells, hx])
  exact this
 have hkeep : Lib.IsBuilderF 154 5 B b (Lib.byteCells l) (w.drew.freeze ⟨g, 0, none⟩ l.length) := by
  have hA : Lib.BuilderAtF 154 5 B b p (Lib.byteCells l) w.drew := ⟨hB, _, hbk, by rw [Lib.byteCells_length]; exact hown, hne⟩
  have hF := hA.froze (g := g) (cap := cap) (by rw [Lib.byteCells_length]; exact c1)
  rw [Lib.byteCells_length] at hF
  rcases hp with rfl | rfl
  ·exact .inl hF
  ·exact .inr hF
 go_enter Tryz.func128, Tryz.ntmps128
 go_wp2
 go_region
 all_goals (go_wp2; go_ret; exact ⟨rfl, hkeep, Lib.below_freeze (Below.drew (Below.refl B w)) (p := ⟨g, 0, none⟩) hbg _, ((Lib.OthersKept.refl _ _ w).drew).freeze ⟨g, 0, none⟩ _ ⟨cur, fz, hg⟩⟩)
set_option maxHeartbeats 2000000 in
set_option maxRecDepth 100000 in
theorem WriteString_k (B b : Nat) (bs : List Value) (s : ByteArray) (w : World) (h : Lib.IsBuilderF 154 5 B b bs w) (hlen : bs.length + s.size ≤ 140737488355328) (hBw : B ≤ w.heap.size) :
  Calls Tryz.prog 126 #[.pointer (some ⟨b, 0, none⟩), .string s] w fun e w' => e = .returned (.tuple #[.int .i64 s.size, .nilIface]) ∧ (Lib.BuilderAtF 154 5 B b (.pointer (some ⟨b, 0, none⟩)) (bs ++ Lib.strCells s) w' ∧ Below B w w' ∧ Lib.OthersKept 5 (some b) w w') := by
 obtain ⟨i0, hi, hz0, hz1, hz2⟩ := info_parts infoByte_Bup
 go_enter Tryz.func126, Tryz.ntmps126
 go_wp2_with (go_at_call 146; refine (copyCheck_k_Bup B b bs _ h).mono ?_)
 rintro e w1 ⟨rfl, h1, hb1, hk1⟩
 obtain ⟨hB, v, hbk, hown, hne⟩ := h1
 have c0 : w1.cell? ⟨b, 0, none⟩ = some (.pointer (some ⟨b, 0, none⟩)) := by rw [Lib.cell_of_heap hbk]; rfl
 have c1 : w1.cell? ⟨b, 1, none⟩ = some v := by rw [Lib.cell_of_heap hbk]; rfl
 go_wp2_with (at_builtin; refine Lib.wpList_append_own_stringF _ rfl _ _ 83 9 rfl B 5 i0 Tryz.underlying83 Tryz.underlying9 hi hz0 hz1 hz2 _ _ _ rfl hown s rfl ?c3 ?c4 ?c5 ?_)
 case c3 => unfold maxLen; omega
 case c4 => omega
 case c5 => have := hb1.size; omega
 intro v' w2 hown' hgrow _
 have hlt : b < w1.heap.size := (Array.getElem?_eq_some_iff.1 hbk).1
 have hb2 : w2.heap[b]? = some (.cells #[.pointer (some ⟨b, 0, none⟩), v] 154 (0, 0)) := by
  rw [hgrow.block b hlt (fun e => hne e.symm)]
  exact hbk
 have d0 : w2.cell? ⟨b, 0, none⟩ = some (.pointer (some ⟨b, 0, none⟩)) := by rw [Lib.cell_of_heap hb2]; rfl
 have d1 : w2.cell? ⟨b, 1, none⟩ = some v := by rw [Lib.cell_of_heap hb2]; rfl
 have f1 : w2.frozen? ⟨b, 1, none⟩ = false := Lib.frozen_of_heap hb2 1
 obtain ⟨ao, n', cap, rfl⟩ : ∃ ao n' cap, v' = .slice ao n' cap := by
  rcases hown'.2 with ⟨hv, _⟩ | ⟨g, cap, cur, fz, hv, _⟩
  ·exact ⟨_, _, _, hv⟩
  ·exact ⟨_, _, _, hv⟩
 go_wp2
 go_ret2
 refine ⟨rfl, ?_, ?_, (hk1.grown hgrow (Lib.ownsRowF_kind hown)).setCell ⟨b, 1, none⟩ rfl _⟩
 ·exact Lib.BuilderAtF.put (T := 154) (e := 5) hB hb2 (bs' := bs ++ Lib.strCells s) (by simpa [Lib.strCells_length] using hown') (by decide)
 ·exact (hb1.grown hgrow (by have := hb1.size; omega) (fun k hk => (hown.lt k hk).1)).setCell (p := ⟨b, 1, none⟩) hB _
theorem sizeByte : (Tryz.prog.info? 5).map (fun i => i.size) = some 1 := by kernel_rfl
set_option maxHeartbeats 2000000 in
set_option maxRecDepth 1000000 in
theorem grow_fresh (B b n : Nat) (w : World) (hB : B ≤ b) (hbk : w.heap[b]? = some (.cells #[.pointer (some ⟨b, 0, none⟩), .slice none 0 0] 154 (0, 0))) (hBw : B ≤ w.heap.size) (hn : n ≤ 281474976710656) :
  Calls Tryz.prog 152 #[.pointer (some ⟨b, 0, none⟩), .int .i64 n] w fun e w' => e = .returned (.tuple #[]) ∧ (Lib.BuilderAt 154 5 B b (.pointer (some ⟨b, 0, none⟩)) [] w' ∧ Below B w w') := by
 obtain ⟨cs, hrun, hle, hmax⟩ := Lib.run_makeNoZero (P := Tryz.prog) w.drew #[3] 83 5 Tryz.underlying83 n hn
 have hw : IntKind.i64.wrap (IntKind.i64.wrap 0 + (n : Int)) = n := by
  rw [IntKind.wrap_i64, IntKind.wrap_i64]
  omega
 have hcall : (callFunc 169 #[.int .i64 (n : Int)]).run Tryz.prog w.drew = .ok (.value (.slice (some ⟨w.drew.heap.size, 0, none⟩) n cs.size)) (w.drew.drew.drew.alloc (.cells cs 5)) := by
  rw [run_callFunc_extern Tryz.func169 (by kernel_rfl) (by kernel_rfl) (by kernel_rfl) (e := Extern.BytealgMakeNoZero.makeNoZero #[3] #[83]) (by kernel_rfl), hrun]
  rfl
 have hlt : b < w.heap.size := (Array.getElem?_eq_some_iff.1 hbk).1
 have c1 : w.drew.cell? ⟨b, 1, none⟩ = some (.slice none 0 0) := by
  have : w.drew.heap[b]? = _ := hbk
  rw [Lib.cell_of_heap this]; rfl
 have c2 : (w.alloc (.cells cs 5)).cell? ⟨b, 1, none⟩ = some (.slice none 0 0) := by
  have : (w.alloc (.cells cs 5)).heap[b]? = _ := (Lib.alloc_old w _ b hlt).trans hbk
  rw [Lib.cell_of_heap this]; rfl
 have f2 : (w.alloc (.cells cs 5)).frozen? ⟨b, 1, none⟩ = false := Lib.frozen_of_heap ((Lib.alloc_old w _ b hlt).trans hbk) 1
 have hcopy : ∀ W : World, (Builtin.copy_ #[83, 83] 3 #[.slice (some ⟨w.heap.size, 0, none⟩) 0 cs.size, .slice none 0 0]).run Tryz.prog W = .ok (goInt 0) W :=
  fun W => run_copy_none W 83 83 3 5 _ _ 0 cs.size 0 0 Tryz.underlying83 sizeByte rfl
 go_enter Tryz.func152, Tryz.ntmps152
 go_wp2
 have hfin := Lib.grown_fresh (T := 154) (e := 5) (cs := cs) hB hbk hBw (hmax (by unfold maxLen; omega)) (by decide)
 go_region
 all_goals (go_wp2; go_end0; exact ⟨rfl, by first | exact hfin | (rw [World.setCell_alloc_past _ b 1 _ hlt] at hfin; exact hfin)⟩)
set_option maxHeartbeats 2000000 in
set_option maxRecDepth 1000000 in
theorem Grow_fresh (B b n : Nat) (w : World) (hB : B ≤ b) (hbk : w.heap[b]? = some (.cells #[.pointer none, .slice none 0 0] 154 (0, 0))) (hBw : B ≤ w.heap.size) (hn1 : 1 ≤ n) (hn : n ≤ 281474976710656) :
  Calls Tryz.prog 136 #[.pointer (some ⟨b, 0, none⟩), .int .i64 n] w fun e w' => e = .returned (.tuple #[]) ∧ (Lib.BuilderAt 154 5 B b (.pointer (some ⟨b, 0, none⟩)) [] w' ∧ Below B w w') := by
 have h0 : w.cell? ⟨b, 0, none⟩ = some (.pointer none) := by rw [Lib.cell_of_heap hbk]; rfl
 have hsh : w.shape? b = some (154, 2) := by unfold World.shape?; rw [hbk]; rfl
 have hfz : w.frozen? ⟨b, 0, none⟩ = false := Lib.frozen_of_heap hbk 0
 have hbk1 : (w.setCell ⟨b, 0, none⟩ (.pointer (some ⟨b, 0, none⟩))).heap[b]? = some (.cells #[.pointer (some ⟨b, 0, none⟩), .slice none 0 0] 154 (0, 0)) := by
  simp [World.setCell, Array.getElem?_modify, hbk]
 have c1 : (w.setCell ⟨b, 0, none⟩ (.pointer (some ⟨b, 0, none⟩))).cell? ⟨b, 1, none⟩ = some (.slice none 0 0) := by rw [Lib.cell_of_heap hbk1]; rfl
 have hb1 : Below B w (w.setCell ⟨b, 0, none⟩ (.pointer (some ⟨b, 0, none⟩))) := (Below.refl B w).setCell (p := ⟨b, 0, none⟩) hB _
 obtain ⟨W1, hW1⟩ : ∃ W1, W1 = w.setCell ⟨b, 0, none⟩ (.pointer (some ⟨b, 0, none⟩)) := ⟨_, rfl⟩
 have CC := Lib.hid (copyCheck_fresh_Bup b w h0 hsh hfz)
 rw [← hW1] at hbk1 c1 hb1 CC
 have HB := Lib.hid hbk1
 have hp : (0 : Int) < (n : Int) := by omega
 clear hW1 hbk1 h0 hsh hfz
 go_enter Tryz.func136, Tryz.ntmps136
 go_wp2_with fail
 refine CC.out.mono ?_
 rintro e w1 ⟨rfl, rfl⟩
 go_wp2_with fail
 go_quiet (fail)
 go_wp2_with fail
 have hbk2 : (w1.drewN nq).heap[b]? = some (.cells #[.pointer (some ⟨b, 0, none⟩), .slice none 0 0] 154 (0, 0)) := HB.out
 refine (grow_fresh B b n _ hB hbk2 (Nat.le_trans hBw hb1.size) hn).mono ?_
 rintro e w2 ⟨rfl, hA, hb2⟩
 go_wp2_with fail
 go_end0
 exact ⟨rfl, hA, (below_drewN hb1 nq).trans hb2⟩
end Go.Proofs.YtlccihidedfemaaGreatDoor
set_option linter.unusedVariables false
namespace Go.Proofs.YtlccihidedfemaaGreatDoor
open Go.RowKit Go.Shelf
attribute [local go_sem] Oper.semAt_some
theorem quo_few (n : Nat) (h2 : 2 ≤ n) (h8 : n ≤ 8) : ¬ (9223372036854775807 : Int) / ((n : Int) - 1) ≤ 1 := by
 rcases (show n = 2 ∨ n = 3 ∨ n = 4 ∨ n = 5 ∨ n = 6 ∨ n = 7 ∨ n = 8 by omega) with rfl | rfl | rfl | rfl | rfl | rfl | rfl <;> decide
set_option maxRecDepth 100000 in
set_option maxHeartbeats 4000000 in
theorem slJoin_any (v : Value) (L : List ByteArray) (w : World) (hv : IsStrs w v L) (h8 : L.length ≤ 8) (h31 : ∀ x ∈ L, 1 ≤ x.size ∧ x.size ≤ 31) :
  Calls Tryz.prog 118 #[v, .string ⟨#[47]⟩] w fun e w' => e = .returned (.string ⟨(joinS (txts L)).toArray⟩) ∧ Below w.heap.size w w' := by
 match L, hv, h8, h31 with
 | [], hv, _, _ =>
  obtain ⟨hm, a, cap, rfl, _, hc⟩ := hv
  clear hc
  go_enter Tryz.func118, Tryz.ntmps118
  go_wp2
  go_ret
  exact ⟨rfl, Below.refl _ _⟩
 | [x], hv, _, _ =>
  obtain ⟨hm, a, cap, rfl, _, hc⟩ := hv
  obtain ⟨b, o, rfl, hlt, g⟩ := hc (Nat.zero_lt_one)
  have q := g 0 (Nat.zero_lt_one)
  simp only [Nat.add_zero, List.getElem_cons_zero] at q
  have HX : Hid (x = ⟨(joinS (txts [x])).toArray⟩) := str_of (by simp [txts, joinS])
  clear hc g
  go_enter Tryz.func118, Tryz.ntmps118
  go_wp2
  go_ret
  exact ⟨by rw [← HX.out]; rfl, Below.refl _ _⟩
 | x :: y :: T, hv, h8, h31 =>
  obtain ⟨tv, htail, htv⟩ := strs_tail hv
  have HTV := Lib.hid htv; have HTA := Lib.hid htail; have H31 := Lib.hid h31
  have H0 := Lib.hid hv
  clear htv htail hv h31
  have HLT : Hid ((x :: y :: T).length = (y :: T).length + 1) := rfl
  have h2 : 2 ≤ (x :: y :: T).length := by simp
  obtain ⟨L, hL⟩ : ∃ L, L = x :: y :: T := ⟨_, rfl⟩
  obtain ⟨U, hU⟩ : ∃ U, U = y :: T := ⟨_, rfl⟩
  rw [← hL] at H31 H0 HLT h2 h8 ⊢
  rw [← hU] at HLT HTV
  have HLU : Hid (L = x :: U) := by show _ = _; rw [hL, hU]
  clear hL hU
  obtain ⟨hm, a, cap, hve, _, hc⟩ := H0.out
  subst hve
  obtain ⟨b, o, rfl, hblt, g⟩ := hc (by omega)
  have HG := Lib.hid g
  have hqf := quo_few L.length h2 h8
  have q0 := g 0 (by omega)
  have hx0 : L[0]'(by omega) = x := by simp [HLU.out]
  rw [hx0, Nat.add_zero] at q0
  have hx1 : 1 ≤ x.size ∧ x.size ≤ 31 := H31.out x (by rw [HLU.out]; exact List.mem_cons_self ..)
  obtain ⟨hx1, hx2⟩ := hx1
  clear hc g hm hx0 H0
  go_enter Tryz.func118, Tryz.ntmps118
  go_wp2_with fail
  go_loop [5, 41] (fun n i => ∃ (q k : Nat), k ≤ L.length ∧ 1 ≤ q ∧ q ≤ 7 + 31 * k ∧ n = .int .i64 q ∧ i = .int .i64 k) (fun _ i => L.length - (intOf i).toNat)
  case atStart => exact ⟨L.length - 1, 0, Nat.zero_le _, by omega, by omega, val_i (by omega), rfl⟩
  case round =>
   obtain ⟨q, k, hk, hq1, hq2, rfl, rfl⟩ := hrel
   by_cases hlt : k < L.length
   ·have q1 := HG.out k hlt
    have hy := H31.out L[k] (List.getElem_mem hlt)
    obtain ⟨z, hz⟩ : ∃ z, z = L[k] := ⟨_, rfl⟩
    rw [← hz] at q1 hy
    clear hz q0 hqf
    have hbk : decide ((k : Int) < (L.length : Int)) = true := by simpa using (show (k : Int) < L.length by omega)
    have hng : ¬ (9223372036854775807 : Int) - (q : Int) < (z.size : Int) := by omega
    go_wp2_with fail
    go_round
    case rel => exact ⟨q + z.size, k + 1, by omega, by omega, by omega, val_i (by omega), by go_num⟩
    case measure => simp [intOf]; omega
   ·obtain rfl : k = L.length := by omega
    clear hqf
    go_wp2_with fail
    have b0 : Below w.heap.size w (w.alloc (.cells #[.pointer none, .slice none 0 0] 154)) := (Below.refl _ w).alloc (Nat.le_refl _) _
    refine (Grow_fresh w.heap.size w.heap.size q _ (Nat.le_refl _) (heap_alloc_new _ _) b0.size (by omega) (by omega)).mono ?_
    rintro e W1 ⟨rfl, hA, hbg⟩
    have b1 := b0.trans hbg
    have HA := Lib.hid hA
    have q2 := (b1.cell (p := ⟨b, o, none⟩) hblt).trans q0
    clear hA b0 hbg q0
    go_wp2_with fail
    refine (WriteString_k w.heap.size w.heap.size [] x _ (Lib.IsBuilderF.of (Or.inr HA.out)) (by simp only [List.length_nil]; omega) b1.size).mono ?_
    rintro e W2 ⟨rfl, h2', hb2', _⟩
    have b2 := b1.trans hb2'
    have HB2 : Hid (Lib.IsBuilderF 154 5 w.heap.size w.heap.size (Lib.byteCells (joinS ((txts L).take 1))) W2) := by
     have e1 : (txts L).take 1 = [x.data.toList] := by rw [HLU.out]; rfl
     rw [e1]
     rw [List.nil_append, Lib.strCells_eq] at h2'
     exact Or.inr h2'
    clear HA b1 hb2' h2' q2
    have htv := HTV.out
    obtain ⟨hum, a', cap', rfl, _, huc⟩ := htv
    have htail := HTA.out
    have HUC := Lib.hid huc
    have HLU2 := Lib.hid (txts_len L)
    have hul : U.length ≤ 7 := by have := HLT.out; omega
    clear hum huc
    go_wp2_with fail
    go_loopw [65] (fun i wx => ∃ j : Nat, j ≤ U.length ∧ i = .int .i64 j ∧ Lib.IsBuilderF 154 5 w.heap.size w.heap.size (Lib.byteCells (joinS ((txts L).take (j + 1)))) wx ∧ (joinS ((txts L).take (j + 1))).length ≤ 32 * (j + 1) ∧ joinS ((txts L).take (j + 1)) ≠ [] ∧ Below w.heap.size w wx) (fun i _ => U.length - (intOf i).toNat)
    case atStart =>
     refine ⟨0, Nat.zero_le _, rfl, HB2.out, ?_, ?_, b2⟩
     ·rw [HLU.out]; show x.data.toList.length ≤ _; rw [← Lib.size_eq]; omega
     ·rw [HLU.out]; show x.data.toList ≠ []; intro e; have := hx1; rw [Lib.size_eq, e] at this; simp at this
    case round =>
     obtain ⟨j, hj, rfl, hB, hjl, hjn, hbx⟩ := hrel
     have HB := Lib.hid hB; have HJN := Lib.hid hjn
     clear hB hjn htail HB2 b2
     have hLU := HLT.out
     by_cases hlt2 : j < U.length
     ·obtain ⟨b', o', rfl, hblt', g'⟩ := HUC.out (by omega)
      have q3 := (hbx.cell (p := ⟨b', o' + j, none⟩) hblt').trans (g' j hlt2)
      have hy : 1 ≤ U[j].size ∧ U[j].size ≤ 31 := H31.out _ (by rw [HLU.out]; exact List.mem_cons_of_mem _ (List.getElem_mem hlt2))
      have hin : (txts L)[j + 1]'(by rw [HLU2.out]; omega) = U[j].data.toList := by rw [txts_get (by omega)]; simp [HLU.out]
      obtain ⟨z, hz⟩ : ∃ z, z = U[j] := ⟨_, rfl⟩
      rw [← hz] at q3 hy hin
      have hstep := joinS_take (L := txts L) (k := j + 1) (by rw [HLU2.out]; omega) (by omega)
      rw [hin] at hstep
      have HST := Lib.hid hstep
      have hbk : decide ((j : Int) < (U.length : Int)) = true := by simpa using (show (j : Int) < U.length by omega)
      clear hz g' hin hstep hLU
      go_wp2_with fail
      refine (WriteString_k w.heap.size w.heap.size _ ⟨#[47]⟩ _ HB.out (by rw [Lib.byteCells_length]; show _ + 1 ≤ _; omega) hbx.size).mono ?_
      rintro e W3 ⟨rfl, h3, hb3, _⟩
      have hbx3 := hbx.trans hb3
      have H3 := Lib.hid (Or.inr h3 : Lib.IsBuilderF _ _ _ _ _ W3)
      clear q3 h3
      go_wp2_with fail
      refine (WriteString_k w.heap.size w.heap.size _ z _ H3.out (by rw [List.length_append, Lib.byteCells_length, Lib.strCells_eq, Lib.byteCells_length]; show _ + 1 + _ ≤ _; omega) hbx3.size).mono ?_
      rintro e W4 ⟨rfl, h4, hb4, _⟩
      have hbx4 := hbx3.trans hb4
      have e4 : Lib.byteCells (joinS ((txts L).take (j + 1))) ++ Lib.strCells ⟨#[47]⟩ ++ Lib.strCells z = Lib.byteCells (joinS ((txts L).take (j + 1 + 1))) := by
       rw [HST.out, Lib.strCells_eq, Lib.strCells_eq, ← Lib.byteCells_append, ← Lib.byteCells_append]
       congr 1
       simp
      rw [e4] at h4
      have H4 := Lib.hid (Or.inr h4 : Lib.IsBuilderF _ _ _ _ _ W4)
      clear h4 e4 hbx3 hb3 hb4 H3
      go_wp2_with fail
      go_roundw
      case rel =>
       refine ⟨j + 1, by omega, by go_num, H4.out, ?_, ?_, hbx4⟩
       ·rw [HST.out, List.length_append, List.length_cons, ← Lib.size_eq]; omega
       ·rw [HST.out]; simp
      case measure => simp [intOf]; omega
     ·obtain rfl : j = U.length := by omega
      have hall : (txts L).take (U.length + 1) = txts L := List.take_of_length_le (by rw [HLU2.out]; omega)
      rw [hall] at HB HJN
      have CS := Lib.hid (String_full_k_Bup w.heap.size w.heap.size _ wr HB.out HJN.out)
      have hbk : decide ((U.length : Int) < (U.length : Int)) = false := by simp
      clear hall hLU
      go_wp2_with fail
      refine CS.out.mono ?_
      rintro e W5 ⟨rfl, h5, hb5, _⟩
      go_wp2_with fail
      go_ret
      exact ⟨rfl, hbx.trans hb5⟩
end Go.Proofs.YtlccihidedfemaaGreatDoor
namespace Go.Proofs.YtlccihidedfemaaGreatDoor
open Go
section
variable {P : Program} {ops : Array Oper} {Q : Exit → Act → World → Prop}
def predsOf (ops : Array Oper) (i : Nat) : List Nat := ((ops[i]?).map fun o => (o.after.toList.filter (Region.binds .any)).map (·.on)).getD []
def ancOf (ops : Array Oper) : Nat → Nat → List Nat
 | 0, _ => []
 | f + 1, i => predsOf ops i ++ (predsOf ops i).flatMap (ancOf ops f)
theorem anc_listed {listed : Array Bool} (hc : ∀ k, listed.getD k false = true → ∀ j ∈ predsOf ops k, listed.getD j false = true) : ∀ (f i : Nat), (∀ j ∈ predsOf ops i, listed.getD j false = true) → ∀ k ∈ ancOf ops f i, listed.getD k false = true
 | 0, _, _, k, hk => by cases hk
 | f + 1, i, hp, k, hk => by
  rw [ancOf, List.mem_append, List.mem_flatMap] at hk
  rcases hk with hk | ⟨j, hj, hk⟩
  ·exact hp k hk
  ·exact anc_listed hc f j (hc j (hp j hj)) k hk
def relyB (ops : Array Oper) (n : Nat) : Bool :=
 (List.range ops.size).all fun i => (predsOf ops i).all (· < i) && ((ops[i]?).map (·.guard.isNone)).getD false &&
  (((ops[i]?).bind (·.dst)).map fun t => decide (t < n) && (List.range ops.size).all fun k => k == i || !(((ops[k]?).bind (·.dst)) == some t)).getD true
def slot (a : Act) (t : Tmp) : Value := a.tmps.getD t undef
theorem slot_put_same (a : Act) (t : Tmp) (v : Value) (h : t < a.tmps.size) : slot (a.put (some t) v) t = v := by
 simp [slot, Act.put, h]
theorem slot_put_other (a : Act) (d : Option Tmp) (t : Tmp) (v : Value) (h : d ≠ some t) : slot (a.put d v) t = slot a t := by
 cases d with
 | none => rfl
 | some d =>
  have h' : d ≠ t := fun e => h (by rw [e])
  simp [slot, Act.put, h']
theorem size_put (a : Act) (d : Option Tmp) (v : Value) : (a.put d v).tmps.size = a.tmps.size := by
 cases d <;> simp [Act.put]
theorem defers_put (a : Act) (d : Option Tmp) (v : Value) : (a.put d v).defers = a.defers := by
 cases d <;> simp [Act.put]
def keptB (n : Nat) (needs : Nat → List Nat) (last : List Nat) (i k : Nat) : Bool := last.contains k || (List.range n).any fun j => j != i && (needs j).contains k
def dstOf (ops : Array Oper) (i : Nat) : Option Tmp := (ops[i]?).bind (·.dst)
def leanB (ops : Array Oper) (m : Nat) (needs : Nat → List Nat) (last : List Nat) (dep : Nat → List Tmp) : Bool :=
 (List.range ops.size).all fun i => ((needs i).all fun k => decide (ops.size ≤ k) || (ancOf ops 3 i).contains k) &&
  (List.range m).all fun k => k == i || (ancOf ops 3 k).contains i || !keptB ops.size needs last i k || ((dstOf ops i).map fun t => !(dep k).contains t).getD true
def keptA (ops : Array Oper) (needs : Nat → List Nat) (last : List Nat) (i k : Nat) : Bool := last.contains k || (List.range ops.size).any fun j => j != i && !(ancOf ops 3 i).contains j && (needs j).contains k
def leanA (ops : Array Oper) (m : Nat) (needs : Nat → List Nat) (last : List Nat) (dep : Nat → List Tmp) : Bool :=
 (List.range ops.size).all fun i => ((needs i).all fun k => decide (ops.size ≤ k) || (ancOf ops 3 i).contains k) &&
  (List.range m).all fun k => k == i || (ancOf ops 3 k).contains i || !keptA ops needs last i k || ((dstOf ops i).map fun t => !(dep k).contains t).getD true
theorem kept_of_A {ops : Array Oper} {needs : Nat → List Nat} {last : List Nat} {i k : Nat} (h : keptA ops needs last i k = true) : keptB ops.size needs last i k = true := by
 unfold keptA at h
 unfold keptB
 rw [Bool.or_eq_true] at h ⊢
 refine h.imp (fun h => h) fun h => ?_
 rw [List.any_eq_true] at h ⊢
 obtain ⟨j, h1, h2⟩ := h
 simp only [Bool.and_eq_true] at h2 ⊢
 exact ⟨j, h1, h2.1.1, h2.2⟩
theorem lean_A {ops : Array Oper} {m : Nat} {needs : Nat → List Nat} {last : List Nat} {dep : Nat → List Tmp} (h : leanB ops m needs last dep = true) : leanA ops m needs last dep = true := by
 unfold leanB at h
 unfold leanA
 rw [List.all_eq_true] at h ⊢
 intro i hi
 have h1 := h i hi
 rw [Bool.and_eq_true] at h1 ⊢
 refine ⟨h1.1, ?_⟩
 have h2 := h1.2
 rw [List.all_eq_true] at h2 ⊢
 intro k hk
 have h3 := h2 k hk
 cases ha : keptA ops needs last i k with
 | false => simp
 | true => rw [kept_of_A ha] at h3; exact h3
structure RelyInv (ops : Array Oper) (m : Nat) (a0 : Act) (G : World → Prop) (V : Nat → Act → World → Prop) (needs : Nat → List Nat) (last : List Nat) (listed : Array Bool) (a : Act) (w : World) : Prop where
 g : G w
 defers : a.defers = a0.defers
 size : a.tmps.size = a0.tmps.size
 len : listed.size = ops.size
 val : ∀ k, k < m → (ops.size ≤ k ∨ listed.getD k false = true) → (k ∈ last ∨ ∃ j, j < ops.size ∧ listed.getD j false = false ∧ k ∈ needs j) → V k a w
 old : ∀ t, (∀ k, dstOf ops k = some t → listed.getD k false = false) → slot a t = slot a0 t
 closed : ∀ k, listed.getD k false = true → ∀ j ∈ predsOf ops k, listed.getD j false = true
theorem ready_spec {listed : Array Bool} {i : Nat} (h : i ∈ Region.ready .any ops listed) (hl : listed.size = ops.size) : i < ops.size ∧ listed.getD i false = false ∧ ∀ j ∈ predsOf ops i, listed.getD j false = true := by
 unfold Region.ready at h
 rw [List.mem_filter, List.mem_range] at h
 obtain ⟨hi, h2⟩ := h
 simp only [Bool.and_eq_true, Bool.not_eq_true'] at h2
 obtain ⟨h2, h3⟩ := h2
 refine ⟨hi, ?_, ?_⟩
 ·have hil : i < listed.size := by omega
  simpa [Array.getD, hil] using h2
 ·intro j hj
  unfold predsOf at hj
  rw [Array.getElem?_eq_getElem hi] at hj h3
  simp only [Option.map_some, Option.getD_some, List.mem_map, List.mem_filter] at hj h3
  obtain ⟨e, ⟨he, hb⟩, rfl⟩ := hj
  rw [Array.all_eq_true_iff_forall_mem] at h3
  have := h3 e (by simpa using he)
  simpa [hb] using this
theorem ready_of {listed : Array Bool} {i : Nat} (hi : i < ops.size) (hl : listed.size = ops.size) (h0 : listed.getD i false = false) (hp : ∀ j ∈ predsOf ops i, listed.getD j false = true) : i ∈ Region.ready .any ops listed := by
 unfold Region.ready
 rw [List.mem_filter, List.mem_range]
 refine ⟨hi, ?_⟩
 simp only [Bool.and_eq_true, Bool.not_eq_true']
 refine ⟨?_, ?_⟩
 ·have hil : i < listed.size := by omega
  simpa [Array.getD, hil] using h0
 ·rw [Array.getElem?_eq_getElem hi]
  simp only [Option.map_some, Option.getD_some]
  rw [Array.all_eq_true_iff_forall_mem]
  intro e he
  by_cases hb : Region.binds .any e = true
  ·have := hp e.on (by unfold predsOf; rw [Array.getElem?_eq_getElem hi]; simp only [Option.map_some, Option.getD_some, List.mem_map, List.mem_filter]; exact ⟨e, ⟨by simpa using he, hb⟩, rfl⟩)
   simp [hb, this]
  ·simp [hb]
def unl (n : Nat) (listed : Array Bool) : Nat := (List.range n).countP fun i => !listed.getD i false
theorem unl_zero {n : Nat} {listed : Array Bool} (h : unl n listed = 0) (i : Nat) (hi : i < n) : listed.getD i false = true := by
 unfold unl at h
 rw [List.countP_eq_zero] at h
 have := h i (List.mem_range.2 hi)
 simpa using this
theorem getD_set (listed : Array Bool) (i j : Nat) (hi : i < listed.size) : (listed.setIfInBounds i true).getD j false = if j = i then true else listed.getD j false := by
 by_cases h : j = i
 ·subst h; simp [hi]
 ·have h' : i ≠ j := fun e => h e.symm
  simp [h, h']
theorem countP_flip {l : List Nat} (hn : l.Nodup) {p q : Nat → Bool} {i : Nat} (hi : i ∈ l) (hp : p i = true) (hq : q i = false) (he : ∀ j, j ≠ i → q j = p j) : l.countP p = l.countP q + 1 := by
 induction l with
 | nil => cases hi
 | cons x l ih =>
  rw [List.nodup_cons] at hn
  rw [List.countP_cons, List.countP_cons]
  by_cases hx : x = i
  ·subst hx
   have : l.countP p = l.countP q := List.countP_congr fun j hj => by rw [he j (fun e => hn.1 (e ▸ hj))]
   simp [hp, hq, this]
  ·rcases List.mem_cons.1 hi with h | h
   ·exact absurd h.symm hx
   ·have := ih hn.2 h
    rw [he x hx]; omega
theorem unl_set {n : Nat} {listed : Array Bool} {i : Nat} (hi : i < n) (hs : i < listed.size) (h0 : listed.getD i false = false) : unl n listed = unl n (listed.setIfInBounds i true) + 1 := by
 unfold unl
 refine countP_flip List.nodup_range (List.mem_range.2 hi) (by simpa using h0) (by rw [getD_set _ _ _ hs]; simp) fun j hj => ?_
 rw [getD_set _ _ _ hs, if_neg hj]
theorem all_listed {listed : Array Bool} (hl : listed.size = ops.size) (hord : ∀ i, i < ops.size → ∀ j ∈ predsOf ops i, j < i) (hr : Region.ready .any ops listed = []) : ∀ i, i < ops.size → listed.getD i false = true := by
 intro i
 induction i using Nat.strongRecOn with
 | ind i ih =>
  intro hi
  by_cases h : listed.getD i false = true
  ·exact h
  ·exfalso
   have := ready_of hi hl (by simpa using h) (fun j hj => ih j (hord i hi j hj) (Nat.lt_trans (hord i hi j hj) hi))
   rw [hr] at this
   cases this
def AllFrom (S : Nat → Oper → Prop) : Nat → List Oper → Prop
 | _, [] => True
 | n, o :: l => S n o ∧ AllFrom S (n + 1) l
theorem allFrom_get {S : Nat → Oper → Prop} : ∀ {l : List Oper} {n : Nat}, AllFrom S n l → ∀ i (hi : i < l.length), S (n + i) l[i]
 | _ :: _, _, h, 0, _ => h.1
 | _ :: l, n, h, i + 1, hi => by
  have := allFrom_get h.2 i (by simpa using hi)
  rw [Nat.add_assoc, Nat.add_comm 1 i] at this
  exact this
theorem forall_ops {S : Nat → Oper → Prop} {l : List Oper} (h : AllFrom S 0 l) : ∀ i (hi : i < l.toArray.size), S i (l.toArray[i]) := fun i hi => by
 have := allFrom_get h i (by simpa using hi)
 rw [Nat.zero_add] at this
 simpa using this
def oldB (ops : Array Oper) (i : Nat) (t : Tmp) : Bool := (List.range ops.size).all fun k => !(dstOf ops k == some t) || (predsOf ops k).contains i
theorem old_of {i : Nat} {t : Tmp} (h : oldB ops i t = true) : ∀ k, dstOf ops k = some t → i ∈ predsOf ops k := fun k hk => by
 have hkl : k < ops.size := by
  rcases Nat.lt_or_ge k ops.size with h | h
  ·exact h
  ·unfold dstOf at hk; rw [Array.getElem?_eq_none h] at hk; cases hk
 have := (List.all_eq_true.1 h) k (List.mem_range.2 hkl)
 rw [hk] at this
 simpa using this
theorem wp_value {o : Oper} {a : Act} {w w' : World} {v : Value} {K : Act → World → Prop} (h : (execOp a.eval o).run P w = .ok (.value v) w') (hk : K (a.put o.dst v) w') : o.wp P a w K Q := by
 unfold Oper.wp; rw [h]; exact hk
theorem wp_skip {o : Oper} {a : Act} {w w' : World} {K : Act → World → Prop} (h : (execOp a.eval o).run P w = .ok .skip w') (hk : K (a.put o.dst undef) w') : o.wp P a w K Q := by
 unfold Oper.wp; rw [h]; exact hk
def patchL (ds : List Tmp) (s : Tmp → Value) : Nat → List Value → List Value
 | _, [] => []
 | t, v :: l => (if ds.contains t then s t else v) :: patchL ds s (t + 1) l
theorem patchL_get (ds : List Tmp) (s : Tmp → Value) : ∀ (l : List Value) (n i : Nat), (patchL ds s n l)[i]? = (l[i]?).map fun v => if ds.contains (n + i) then s (n + i) else v
 | [], _, _ => by simp [patchL]
 | v :: l, n, 0 => by simp [patchL]
 | v :: l, n, i + 1 => by
  rw [patchL, List.getElem?_cons_succ, patchL_get ds s l (n + 1) i, List.getElem?_cons_succ, Nat.add_assoc, Nat.add_comm 1 i]
theorem act_patch {a a0 : Act} (ds : List Tmp) (hS : a.tmps.size = a0.tmps.size) (hD : a.defers = a0.defers) (h : ∀ t, t ∉ ds → slot a t = slot a0 t) : a = ⟨(patchL ds (slot a) 0 a0.tmps.toList).toArray, a0.defers⟩ := by
 obtain ⟨tm, df⟩ := a
 obtain ⟨tm0, df0⟩ := a0
 simp only at hS hD
 subst hD
 congr 1
 apply Array.ext_getElem?
 intro i
 simp only [List.getElem?_toArray, patchL_get, Nat.zero_add, Array.getElem?_toList]
 by_cases hi : i < tm.size
 ·have hi0 : i < tm0.size := by omega
  rw [Array.getElem?_eq_getElem hi, Array.getElem?_eq_getElem hi0]
  simp only [Option.map_some, Option.some.injEq]
  split
  ·simp [slot, hi]
  ·rename_i hc
   have := h i (by simpa using hc)
   simpa [slot, hi, hi0] using this
 ·rw [Array.getElem?_eq_none (by omega), Array.getElem?_eq_none (by omega)]; rfl
def dstsOf (ops : Array Oper) : List Tmp := (List.range ops.size).filterMap (dstOf ops)
theorem free_of {t : Tmp} (h : t ∉ dstsOf ops) : ∀ k : Nat, dstOf ops k ≠ some t := fun k hk => by
 refine h (List.mem_filterMap.2 ⟨k, ?_, hk⟩)
 rw [List.mem_range]
 rcases Nat.lt_or_ge k ops.size with h | h
 ·exact h
 ·unfold dstOf at hk; rw [Array.getElem?_eq_none h] at hk; cases hk
theorem eval_slot (a : Act) (t : Tmp) : a.eval (.tmp t) = slot a t := rfl
theorem wp_region_relyA {id : Nat} {a0 : Act} {w0 : World} (hm : P.follows .mixedOrders = true) (hB : relyB ops a0.tmps.size = true) (T : Nat → World → World → Prop) (G : World → Prop) (V : Nat → Act → World → Prop)
  (m : Nat) (needs : Nat → List Nat) (last : List Nat) (dep : Nat → List Tmp) (hL : leanA ops m needs last dep = true) (hneeds : ∀ i k, k ∈ needs i → k < m)
  (hdep : ∀ k a a' w, k < m → (∀ t ∈ dep k, slot a' t = slot a t) → V k a w → V k a' w)
  (hT : ∀ i k a w w', i < ops.size → k < m → k ≠ i → keptA ops needs last i k = true → V k a w → T i w w' → V k a w')
  (hG : G { w0 with drawn := w0.drawn + 1 }) (hV0 : ∀ k, k < m → ops.size ≤ k → V k a0 { w0 with drawn := w0.drawn + 1 })
  (step : ∀ i (hi : i < ops.size) a w, G w → (∀ k ∈ needs i, V k a w) → (∀ t, (∀ k, dstOf ops k = some t → i ∈ predsOf ops k) → slot a t = slot a0 t) → a.tmps.size = a0.tmps.size →
   (ops[i]).wp P a w (fun a' w' => ∃ v, a' = a.put (ops[i]).dst v ∧ T i w w' ∧ G w' ∧ V i a' w') Q)
  (done : ∀ a w, G w → (∀ k ∈ last, k < m → V k a w) → (∀ t, (∀ k : Nat, dstOf ops k ≠ some t) → slot a t = slot a0 t) → a.tmps.size = a0.tmps.size → a.defers = a0.defers → Q .normal a w) :
  (Code.region id ops true).wp P Q a0 w0 := by
 have hB' : ∀ i, i < ops.size → ((∀ j ∈ predsOf ops i, j < i) ∧ ((ops[i]?).map (·.guard.isNone)).getD false = true) ∧
   (((ops[i]?).bind (·.dst)).map fun t => decide (t < a0.tmps.size) && (List.range ops.size).all fun k => k == i || !(((ops[k]?).bind (·.dst)) == some t)).getD true = true := by
  intro i hi
  have := (List.all_eq_true.1 hB) i (List.mem_range.2 hi)
  simp only [Bool.and_eq_true] at this
  obtain ⟨⟨h1, h2⟩, h3⟩ := this
  exact ⟨⟨fun j hj => by simpa using (List.all_eq_true.1 h1) j hj, h2⟩, h3⟩
 have hL' : ∀ i, i < ops.size → (∀ k ∈ needs i, ops.size ≤ k ∨ k ∈ ancOf ops 3 i) ∧ ∀ k, k < m → k ≠ i → i ∉ ancOf ops 3 k → keptA ops needs last i k = true → ∀ t, dstOf ops i = some t → t ∉ dep k := by
  intro i hi
  have := (List.all_eq_true.1 hL) i (List.mem_range.2 hi)
  rw [Bool.and_eq_true] at this
  obtain ⟨h1, h2⟩ := this
  refine ⟨fun k hk => by simpa using (List.all_eq_true.1 h1) k hk, fun k hk hki hip hke t ht => ?_⟩
  have h3 := (List.all_eq_true.1 h2) k (List.mem_range.2 hk)
  have hip' : (ancOf ops 3 k).contains i = false := by simpa using hip
  have hki' : (k == i) = false := by simpa using hki
  rw [hke, hip', hki', ht] at h3
  simpa using h3
 have key : ∀ fuel listed a w, unl ops.size listed ≤ fuel → RelyInv ops m a0 G V needs last listed a w → wpAny P .any ops Q fuel listed a w := by
  intro fuel
  have fin : ∀ listed a w, RelyInv ops m a0 G V needs last listed a w → (∀ i, i < ops.size → listed.getD i false = true) → Q .normal a w := fun listed a w I hall =>
   done a w I.g (fun k hk hkm => I.val k hkm (by
    rcases Nat.lt_or_ge k ops.size with h | h
    ·exact .inr (hall k h)
    ·exact .inl h) (.inl hk)) (fun t ht => I.old t fun k hk => absurd hk (ht k)) I.size I.defers
  induction fuel with
  | zero =>
   intro listed a w hu I
   have hall := fun i hi => unl_zero (Nat.le_zero.1 hu) i hi
   refine ⟨?_, fin listed a w I hall⟩
   apply List.eq_nil_iff_forall_not_mem.2
   intro i hi
   obtain ⟨h1, h2, _⟩ := ready_spec hi I.len
   rw [hall i h1] at h2; cases h2
  | succ fuel ih =>
   intro listed a w hu I
   refine ⟨fun hr => fin listed a w I (all_listed I.len (fun i hi => (hB' i hi).1.1) hr), fun i hi => ?_⟩
   obtain ⟨h1, h2, h3⟩ := ready_spec hi I.len
   have hil : i < listed.size := by rw [I.len]; exact h1
   have hst := step i h1 a w I.g (fun k hk => I.val k (hneeds i k hk) (((hL' i h1).1 k hk).imp (fun h => h) (anc_listed I.closed 3 i h3 k)) (.inr ⟨i, h1, h2, hk⟩)) (fun t ht => I.old t fun k hk => by
    by_cases hc : listed.getD k false = true
    ·have := I.closed k hc i (ht k hk)
     rw [h2] at this; cases this
    ·simpa using hc) I.size
   unfold wpOp
   rw [Array.getElem?_eq_getElem h1]
   have hg := (hB' i h1).1.2
   rw [Array.getElem?_eq_getElem h1] at hg
   simp only [Option.map_some, Option.getD_some, Option.isNone_iff_eq_none] at hg
   have hw : Region.wanted ops[i] (yielded ops a.tmps) = true := by unfold Region.wanted; rw [hg]
   simp only [hw, if_true]
   refine .inl (Oper.wp_mono ?_ hst)
   rintro a' w' ⟨v, rfl, hTi, hG', hv⟩
   refine ih _ _ _ (by have := unl_set h1 hil h2; omega) ⟨hG', by rw [defers_put]; exact I.defers, by rw [size_put]; exact I.size, by simp [I.len], ?_, ?_, ?_⟩
   ·intro k hkm hkl hkn
    by_cases e : k = i
    ·subst e; exact hv
    ·have hkl' : ops.size ≤ k ∨ listed.getD k false = true := hkl.imp (fun h => h) fun h => by rwa [getD_set _ _ _ hil, if_neg e] at h
     have hip : i ∉ ancOf ops 3 k := fun hip => by
      rcases hkl' with h | h
      ·have e0 : predsOf ops k = [] := by unfold predsOf; rw [Array.getElem?_eq_none h]; rfl
       simp [ancOf, e0] at hip
      ·have := anc_listed I.closed 3 k (I.closed k h) i hip
       rw [h2] at this; cases this
     have hkn' : (k ∈ last ∨ ∃ j, j < ops.size ∧ listed.getD j false = false ∧ k ∈ needs j) ∧ keptA ops needs last i k = true := by
      rcases hkn with h | ⟨j, hj, hjl, hjk⟩
      ·exact ⟨.inl h, by simp [keptA, h]⟩
      ·rw [getD_set _ _ _ hil] at hjl
       split at hjl
       ·cases hjl
       ·rename_i hji
        refine ⟨.inr ⟨j, hj, hjl, hjk⟩, ?_⟩
        unfold keptA
        rw [Bool.or_eq_true]
        right
        rw [List.any_eq_true]
        have hja : j ∉ ancOf ops 3 i := fun h => by
         have := anc_listed I.closed 3 i h3 j h
         rw [hjl] at this; cases this
        exact ⟨j, List.mem_range.2 hj, by simp [hji, hjk, hja]⟩
     refine hdep k a _ w' hkm (fun t ht => slot_put_other _ _ _ _ fun hd => (hL' i h1).2 k hkm e hip hkn'.2 t (by unfold dstOf; rw [Array.getElem?_eq_getElem h1]; exact hd) ht) ?_
     exact hT i k a w w' h1 hkm e hkn'.2 (I.val k hkm hkl' hkn'.1) hTi
   ·intro t ht
    rw [slot_put_other _ _ _ _ (fun hd => by
     have := ht i (by unfold dstOf; rw [Array.getElem?_eq_getElem h1]; exact hd)
     rw [getD_set _ _ _ hil, if_pos rfl] at this; cases this)]
    exact I.old t fun k hk => by
     have := ht k hk
     rw [getD_set _ _ _ hil] at this
     split at this
     ·cases this
     ·exact this
   ·intro k hkl j hj
    rw [getD_set _ _ _ hil]
    split
    ·rfl
    ·rename_i hji
     rw [getD_set _ _ _ hil] at hkl
     split at hkl
     ·rename_i hki; subst hki; exact h3 j hj
     ·exact I.closed k hkl j hj
 refine wp_region_any hm (key _ _ _ _ ?_ ⟨hG, rfl, rfl, by simp, ?_, fun t _ => rfl, ?_⟩)
 ·unfold unl
  exact Nat.le_trans (List.countP_le_length) (by simp)
 ·intro k hkm h _
  rcases h with h | h
  ·exact hV0 k hkm h
  ·simp [Array.getElem?_replicate] at h
   split at h <;> simp at h
 ·intro k h
  simp [Array.getElem?_replicate] at h
  split at h <;> simp at h
theorem wp_region_rely {id : Nat} {a0 : Act} {w0 : World} (hm : P.follows .mixedOrders = true) (hB : relyB ops a0.tmps.size = true) (T : Nat → World → World → Prop) (G : World → Prop) (V : Nat → Act → World → Prop)
  (m : Nat) (needs : Nat → List Nat) (last : List Nat) (dep : Nat → List Tmp) (hL : leanB ops m needs last dep = true) (hneeds : ∀ i k, k ∈ needs i → k < m)
  (hdep : ∀ k a a' w, k < m → (∀ t ∈ dep k, slot a' t = slot a t) → V k a w → V k a' w)
  (hT : ∀ i k a w w', i < ops.size → k < m → k ≠ i → keptB ops.size needs last i k = true → V k a w → T i w w' → V k a w')
  (hG : G { w0 with drawn := w0.drawn + 1 }) (hV0 : ∀ k, k < m → ops.size ≤ k → V k a0 { w0 with drawn := w0.drawn + 1 })
  (step : ∀ i (hi : i < ops.size) a w, G w → (∀ k ∈ needs i, V k a w) → (∀ t, (∀ k, dstOf ops k = some t → i ∈ predsOf ops k) → slot a t = slot a0 t) → a.tmps.size = a0.tmps.size →
   (ops[i]).wp P a w (fun a' w' => ∃ v, a' = a.put (ops[i]).dst v ∧ T i w w' ∧ G w' ∧ V i a' w') Q)
  (done : ∀ a w, G w → (∀ k ∈ last, k < m → V k a w) → (∀ t, (∀ k : Nat, dstOf ops k ≠ some t) → slot a t = slot a0 t) → a.tmps.size = a0.tmps.size → a.defers = a0.defers → Q .normal a w) :
  (Code.region id ops true).wp P Q a0 w0 :=
 wp_region_relyA hm hB T G V m needs last dep (lean_A hL) hneeds hdep (fun i k a w w' h1 h2 h3 h4 => hT i k a w w' h1 h2 h3 (kept_of_A h4)) hG hV0 step done
end
end Go.Proofs.YtlccihidedfemaaGreatDoor
set_option linter.unusedVariables false
namespace Go.Proofs.YtlccihidedfemaaGreatDoor
open Go.RowKit
theorem wp_callf {P : Program} {o : Oper} {a : Act} {w : World} {K : Act → World → Prop} {Q : Exit → Act → World → Prop} (f : FuncId) (args : Array Operand) (tys : Array TypeId) (ho : o.op = .call { callee := .value (.func f), args := args, argTypes := tys })
  (hen : ∀ xs w, (callFunc f xs).run P w = .ok (.enter f xs) w) (xs : Array Value) (hxs : args.map a.eval = xs) (v : Value) {R : World → Prop} (h : Calls P f xs w fun e w' => e = .returned v ∧ R w') (hk : ∀ w', R w' → K (a.put o.dst v) w') : o.wp P a w K Q := by
 unfold Oper.wp execOp
 simp only [ho]
 simp [hxs, go_sem, hen]
 refine h.mono ?_
 rintro e w' ⟨rfl, hr⟩
 exact hk w' hr
theorem wp_alloc_zero {P : Program} {o : Oper} {a : Act} {w : World} {K : Act → World → Prop} {Q : Exit → Act → World → Prop} (t : TypeId) (ho : o.op = .alloc t)
  (cells : Array Value) (hz : (P.info? t).bind (fun i => i.zero.map (·.cells)) = some cells)
  (h : K (a.put o.dst (.pointer (some ⟨w.heap.size, 0, none⟩))) (w.alloc (.cells cells t))) : o.wp P a w K Q := by
 cases hi : P.info? t with
 | none => simp [hi] at hz
 | some i =>
  cases hz0 : i.zero with
  | none => simp [hi, hz0] at hz
  | some z =>
   simp only [hi, hz0, Option.bind_some, Option.map_some, Option.some.injEq] at hz
   subst hz
   unfold Oper.wp execOp
   simp [ho, Instr.alloc, zeroValue, typeInfo, hi, hz0, newVar, newRow, go_sem]
   exact h
theorem alloc3 (w : World) (A B C : Array Value) (ta tb tc : TypeId) :
  Row (((w.alloc (.cells A ta)).alloc (.cells B tb)).alloc (.cells C tc)) w.heap.size A ta ∧ Row (((w.alloc (.cells A ta)).alloc (.cells B tb)).alloc (.cells C tc)) (w.heap.size + 1) B tb ∧
   Row (((w.alloc (.cells A ta)).alloc (.cells B tb)).alloc (.cells C tc)) (w.heap.size + 1 + 1) C tc ∧ Below w.heap.size w (((w.alloc (.cells A ta)).alloc (.cells B tb)).alloc (.cells C tc)) ∧
   (((w.alloc (.cells A ta)).alloc (.cells B tb)).alloc (.cells C tc)).heap.size = w.heap.size + 3 := by
 refine ⟨((Row.made _ _ _).alloc _).alloc _, ?_, ?_, (((Below.refl _ _).alloc (Nat.le_refl _) _).alloc (by simp) _).alloc (by simp; omega) _, by simp⟩
 ·have := (Row.made (w.alloc (.cells A ta)) B tb).alloc (.cells C tc)
  simpa using this
 ·have := Row.made ((w.alloc (.cells A ta)).alloc (.cells B tb)) C tc
  simpa using this
theorem slotE {a : Act} {t : Tmp} {v : Value} (h : slot a t = v) : a.eval (.tmp t) = v := h
def wordV (ops : Array Oper) (U : Nat → Value → World → Prop) (k : Nat) (a : Act) (w : World) : Prop := U k (((dstOf ops k).map (slot a)).getD undef) w
def needL (l : List (List Nat)) (i : Nat) : List Nat := l.getD i []
def depL (ops : Array Oper) (k : Nat) : List Tmp := (dstOf ops k).toList
def boundL (l : List (List Nat)) (m : Nat) : Bool := l.all fun x => x.all (· < m)
theorem needL_bound {l : List (List Nat)} {m : Nat} (h : boundL l m = true) (i k : Nat) (hk : k ∈ needL l i) : k < m := by
 unfold needL at hk
 rw [List.getD_eq_getElem?_getD] at hk
 cases hi : l[i]? with
 | none => rw [hi] at hk; cases hk
 | some x =>
  rw [hi] at hk
  have h1 := (List.all_eq_true.1 h) x (List.mem_of_getElem? hi)
  simpa using (List.all_eq_true.1 h1) k hk
def StepW (P : Program) (ops : Array Oper) (Q : Exit → Act → World → Prop) (a0 : Act) (T : Nat → World → World → Prop) (G : World → Prop) (U : Nat → Value → World → Prop) (nl : List (List Nat)) (i : Nat) (o : Oper) : Prop :=
 ∀ a w, G w → (∀ k ∈ needL nl i, wordV ops U k a w) → (∀ t, oldB ops i t = true → slot a t = slot a0 t) → o.wp P a w (fun a' w' => ∃ v, a' = a.put o.dst v ∧ T i w w' ∧ G w' ∧ U i (if o.dst.isSome then v else undef) w') Q
theorem wp_region_words {P : Program} {ops : Array Oper} {Q : Exit → Act → World → Prop} {id : Nat} {a0 : Act} {w0 : World} (hm : P.follows .mixedOrders = true) (hB : relyB ops a0.tmps.size = true)
  (T : Nat → World → World → Prop) (G : World → Prop) (U : Nat → Value → World → Prop) (m : Nat) (nl : List (List Nat)) (last : List Nat) (hb : boundL nl m = true) (hL : leanA ops m (needL nl) last (depL ops) = true)
  (bad : List (Nat × Nat)) (hbad : (bad.all fun x => !keptA ops (needL nl) last x.1 x.2) = true) (hT : ∀ i k v w w', i < ops.size → k < m → k ≠ i → (i, k) ∉ bad → U k v w → T i w w' → U k v w')
  (hG : G { w0 with drawn := w0.drawn + 1 }) (hV0 : ∀ k, k < m → ops.size ≤ k → U k undef { w0 with drawn := w0.drawn + 1 })
  (ds : List Tmp) (hds : dstsOf ops = ds) (step : ∀ i (hi : i < ops.size), StepW P ops Q a0 T G U nl i ops[i])
  (done : ∀ a w, G w → (∀ k ∈ last, k < m → wordV ops U k a w) → a.tmps.size = a0.tmps.size → a = ⟨(patchL ds (slot a) 0 a0.tmps.toList).toArray, a0.defers⟩ → Q .normal a w) :
  (Code.region id ops true).wp P Q a0 w0 := by
 subst hds
 refine wp_region_relyA hm hB T G (wordV ops U) m (needL nl) last (depL ops) hL (needL_bound hb) ?_ (fun i k a w w' hi hk hne hke h hTi => hT i k _ w w' hi hk hne (fun hx => by have := (List.all_eq_true.1 hbad) _ hx; simp [hke] at this) h hTi) hG ?_ ?_ ?_
 ·intro k a a' w hk h hv
  unfold wordV at hv ⊢
  unfold depL at h
  cases hd : dstOf ops k with
  | none => rw [hd] at hv; exact hv
  | some t =>
   rw [hd] at hv h
   simp only [Option.toList_some, List.mem_singleton, forall_eq] at h
   simp only [Option.map_some, Option.getD_some] at hv ⊢
   rw [h]; exact hv
 ·intro k hk hge
  unfold wordV
  have : dstOf ops k = none := by unfold dstOf; rw [Array.getElem?_eq_none hge]; rfl
  rw [this]; exact hV0 k hk hge
 ·intro i hi a w hGw hN hO hS
  refine Oper.wp_mono ?_ (step i hi a w hGw hN (fun t ht => hO t (old_of ht)))
  rintro a' w' ⟨v, rfl, h1, h2, h3⟩
  refine ⟨v, rfl, h1, h2, ?_⟩
  unfold wordV
  have hd : dstOf ops i = ops[i].dst := by unfold dstOf; rw [Array.getElem?_eq_getElem hi]; rfl
  rw [hd]
  cases ht : ops[i].dst with
  | none => rw [ht] at h3; exact h3
  | some t =>
   rw [ht] at h3
   have hlt : t < a0.tmps.size := by
    have := (List.all_eq_true.1 hB) i (List.mem_range.2 hi)
    simp only [Bool.and_eq_true] at this
    have h4 := this.2
    have hd' : (ops[i]?).bind (·.dst) = some t := by rw [Array.getElem?_eq_getElem hi]; exact ht
    rw [hd'] at h4
    simp only [Option.map_some, Option.getD_some, Bool.and_eq_true, decide_eq_true_eq] at h4
    exact h4.1
   simp only [Option.map_some, Option.getD_some]
   rw [slot_put_same _ _ _ (by rw [hS]; exact hlt)]
   exact h3
 ·intro a w hGw hV hO hS hD
  exact done a w hGw hV hS (act_patch _ hS hD (fun t ht => hO t (free_of ht)))
theorem stepW_value {P : Program} {ops : Array Oper} {Q : Exit → Act → World → Prop} {a0 : Act} {T : Nat → World → World → Prop} {G : World → Prop} {U : Nat → Value → World → Prop} {nl : List (List Nat)} {i : Nat} {o : Oper} {t : Tmp} (v : Value)
  (hd : o.dst = some t) (hTr : ∀ w, T i w w)
  (hrun : ∀ a w, G w → (∀ k ∈ needL nl i, wordV ops U k a w) → (∀ t, oldB ops i t = true → slot a t = slot a0 t) → (execOp a.eval o).run P w = .ok (.value v) w)
  (hU : ∀ w, G w → U i v w) : StepW P ops Q a0 T G U nl i o := by
 intro a w hG hN hO
 exact wp_value (hrun a w hG hN hO) ⟨v, rfl, hTr w, hG, by rw [hd]; exact hU w hG⟩
theorem run_move_slot {P : Program} {a : Act} {w : World} {o : Oper} {s : Tmp} {v : Value} (ho : o.op = .move (.tmp s) ∨ o.op = .assign (.tmp s)) (h : slot a s = v) : (execOp a.eval o).run P w = .ok (.value v) w := by
 have e : a.eval (.tmp s) = v := h
 rcases ho with ho | ho <;> simp [execOp, ho, e]
theorem slot_at {a : Act} {t : Tmp} {v : Value} (h : slot a t = v) : a.tmps[t]?.getD undef = v := by rw [← h]; simp [slot]
end Go.Proofs.YtlccihidedfemaaGreatDoor
set_option linter.unusedVariables false
namespace Go.Proofs.YtlccihidedfemaaGreatDoor
open Go Go.RowKit
section
variable {P : Program} {ops : Array Oper} {Q : Exit → Act → World → Prop}
def relyGB (ops : Array Oper) (n : Nat) : Bool :=
 (List.range ops.size).all fun i => (predsOf ops i).all (· < i) &&
  (((ops[i]?).bind (·.dst)).map fun t => decide (t < n) && (List.range ops.size).all fun k => k == i || !(((ops[k]?).bind (·.dst)) == some t)).getD true
theorem wp_any_relyG {a0 : Act} {w0 : World} (hB : relyGB ops a0.tmps.size = true) (T : Nat → World → World → Prop) (G : World → Prop) (V : Nat → Act → World → Prop)
  (m : Nat) (needs : Nat → List Nat) (last : List Nat) (dep : Nat → List Tmp) (hL : leanA ops m needs last dep = true) (hneeds : ∀ i k, k ∈ needs i → k < m)
  (hdep : ∀ k a a' w, k < m → (∀ t ∈ dep k, slot a' t = slot a t) → V k a w → V k a' w)
  (hT : ∀ i k a w w', i < ops.size → k < m → k ≠ i → keptA ops needs last i k = true → i ∉ ancOf ops 3 k → V k a w → T i w w' → V k a w')
  (hG : G { w0 with drawn := w0.drawn + 1 }) (hV0 : ∀ k, k < m → ops.size ≤ k → V k a0 { w0 with drawn := w0.drawn + 1 })
  (step : ∀ i (hi : i < ops.size) a w, G w → (∀ k ∈ needs i, V k a w) → (∀ t, (∀ k, dstOf ops k = some t → i ∈ predsOf ops k) → slot a t = slot a0 t) → a.tmps.size = a0.tmps.size →
   (Region.wanted (ops[i]) (yielded ops a.tmps) = true ∧ (ops[i]).wp P a w (fun a' w' => ∃ v, a' = a.put (ops[i]).dst v ∧ T i w w' ∧ G w' ∧ V i a' w') Q) ∨
    (Region.wanted (ops[i]) (yielded ops a.tmps) = false ∧ T i w w ∧ V i (a.put (ops[i]).dst undef) w))
  (done : ∀ a w, G w → (∀ k ∈ last, k < m → V k a w) → (∀ t, (∀ k : Nat, dstOf ops k ≠ some t) → slot a t = slot a0 t) → a.tmps.size = a0.tmps.size → a.defers = a0.defers → Q .normal a w) :
  wpAny P .any ops Q ops.size (Array.replicate ops.size false) a0 { w0 with drawn := w0.drawn + 1 } := by
 have hB' : ∀ i, i < ops.size → (∀ j ∈ predsOf ops i, j < i) ∧
   (((ops[i]?).bind (·.dst)).map fun t => decide (t < a0.tmps.size) && (List.range ops.size).all fun k => k == i || !(((ops[k]?).bind (·.dst)) == some t)).getD true = true := by
  intro i hi
  have := (List.all_eq_true.1 hB) i (List.mem_range.2 hi)
  simp only [Bool.and_eq_true] at this
  obtain ⟨h1, h3⟩ := this
  exact ⟨fun j hj => by simpa using (List.all_eq_true.1 h1) j hj, h3⟩
 have hL' : ∀ i, i < ops.size → (∀ k ∈ needs i, ops.size ≤ k ∨ k ∈ ancOf ops 3 i) ∧ ∀ k, k < m → k ≠ i → i ∉ ancOf ops 3 k → keptA ops needs last i k = true → ∀ t, dstOf ops i = some t → t ∉ dep k := by
  intro i hi
  have := (List.all_eq_true.1 hL) i (List.mem_range.2 hi)
  rw [Bool.and_eq_true] at this
  obtain ⟨h1, h2⟩ := this
  refine ⟨fun k hk => by simpa using (List.all_eq_true.1 h1) k hk, fun k hk hki hip hke t ht => ?_⟩
  have h3 := (List.all_eq_true.1 h2) k (List.mem_range.2 hk)
  have hip' : (ancOf ops 3 k).contains i = false := by simpa using hip
  have hki' : (k == i) = false := by simpa using hki
  rw [hke, hip', hki', ht] at h3
  simpa using h3
 have key : ∀ fuel listed a w, unl ops.size listed ≤ fuel → RelyInv ops m a0 G V needs last listed a w → wpAny P .any ops Q fuel listed a w := by
  intro fuel
  have fin : ∀ listed a w, RelyInv ops m a0 G V needs last listed a w → (∀ i, i < ops.size → listed.getD i false = true) → Q .normal a w := fun listed a w I hall =>
   done a w I.g (fun k hk hkm => I.val k hkm (by
    rcases Nat.lt_or_ge k ops.size with h | h
    ·exact .inr (hall k h)
    ·exact .inl h) (.inl hk)) (fun t ht => I.old t fun k hk => absurd hk (ht k)) I.size I.defers
  induction fuel with
  | zero =>
   intro listed a w hu I
   have hall := fun i hi => unl_zero (Nat.le_zero.1 hu) i hi
   refine ⟨?_, fin listed a w I hall⟩
   apply List.eq_nil_iff_forall_not_mem.2
   intro i hi
   obtain ⟨h1, h2, _⟩ := ready_spec hi I.len
   rw [hall i h1] at h2; cases h2
  | succ fuel ih =>
   intro listed a w hu I
   refine ⟨fun hr => fin listed a w I (all_listed I.len (fun i hi => (hB' i hi).1) hr), fun i hi => ?_⟩
   obtain ⟨h1, h2, h3⟩ := ready_spec hi I.len
   have hil : i < listed.size := by rw [I.len]; exact h1
   have hst := step i h1 a w I.g (fun k hk => I.val k (hneeds i k hk) (((hL' i h1).1 k hk).imp (fun h => h) (anc_listed I.closed 3 i h3 k)) (.inr ⟨i, h1, h2, hk⟩)) (fun t ht => I.old t fun k hk => by
    by_cases hc : listed.getD k false = true
    ·have := I.closed k hc i (ht k hk)
     rw [h2] at this; cases this
    ·simpa using hc) I.size
   have next : ∀ v w', T i w w' → G w' → V i (a.put (ops[i]).dst v) w' → wpAny P .any ops Q fuel (listed.setIfInBounds i true) (a.put (ops[i]).dst v) w' := by
    intro v w' hTi hG' hv
    refine ih _ _ _ (by have := unl_set h1 hil h2; omega) ⟨hG', by rw [defers_put]; exact I.defers, by rw [size_put]; exact I.size, by simp [I.len], ?_, ?_, ?_⟩
    ·intro k hkm hkl hkn
     by_cases e : k = i
     ·subst e; exact hv
     ·have hkl' : ops.size ≤ k ∨ listed.getD k false = true := hkl.imp (fun h => h) fun h => by rwa [getD_set _ _ _ hil, if_neg e] at h
      have hip : i ∉ ancOf ops 3 k := fun hip => by
       rcases hkl' with h | h
       ·have e0 : predsOf ops k = [] := by unfold predsOf; rw [Array.getElem?_eq_none h]; rfl
        simp [ancOf, e0] at hip
       ·have := anc_listed I.closed 3 k (I.closed k h) i hip
        rw [h2] at this; cases this
      have hkn' : (k ∈ last ∨ ∃ j, j < ops.size ∧ listed.getD j false = false ∧ k ∈ needs j) ∧ keptA ops needs last i k = true := by
       rcases hkn with h | ⟨j, hj, hjl, hjk⟩
       ·exact ⟨.inl h, by simp [keptA, h]⟩
       ·rw [getD_set _ _ _ hil] at hjl
        split at hjl
        ·cases hjl
        ·rename_i hji
         refine ⟨.inr ⟨j, hj, hjl, hjk⟩, ?_⟩
         unfold keptA
         rw [Bool.or_eq_true]
         right
         rw [List.any_eq_true]
         have hja : j ∉ ancOf ops 3 i := fun h => by
          have := anc_listed I.closed 3 i h3 j h
          rw [hjl] at this; cases this
         exact ⟨j, List.mem_range.2 hj, by simp [hji, hjk, hja]⟩
      refine hdep k a _ w' hkm (fun t ht => slot_put_other _ _ _ _ fun hd => (hL' i h1).2 k hkm e hip hkn'.2 t (by unfold dstOf; rw [Array.getElem?_eq_getElem h1]; exact hd) ht) ?_
      exact hT i k a w w' h1 hkm e hkn'.2 hip (I.val k hkm hkl' hkn'.1) hTi
    ·intro t ht
     rw [slot_put_other _ _ _ _ (fun hd => by
      have := ht i (by unfold dstOf; rw [Array.getElem?_eq_getElem h1]; exact hd)
      rw [getD_set _ _ _ hil, if_pos rfl] at this; cases this)]
     exact I.old t fun k hk => by
      have := ht k hk
      rw [getD_set _ _ _ hil] at this
      split at this
      ·cases this
      ·exact this
    ·intro k hkl j hj
     rw [getD_set _ _ _ hil]
     split
     ·rfl
     ·rename_i hji
      rw [getD_set _ _ _ hil] at hkl
      split at hkl
      ·rename_i hki; subst hki; exact h3 j hj
      ·exact I.closed k hkl j hj
   unfold wpOp
   rw [Array.getElem?_eq_getElem h1]
   rcases hst with ⟨hw, hst⟩ | ⟨hw, hTi, hv⟩
   ·simp only [hw, if_true]
    refine .inl (Oper.wp_mono ?_ hst)
    rintro a' w' ⟨v, rfl, hTi, hG', hv⟩
    exact next v w' hTi hG' hv
   ·simp only [hw, Bool.false_eq_true, if_false]
    exact next undef w hTi I.g hv
 refine key _ _ _ _ ?_ ⟨hG, rfl, rfl, by simp, ?_, fun t _ => rfl, ?_⟩
 ·unfold unl
  exact Nat.le_trans (List.countP_le_length) (by simp)
 ·intro k hkm h _
  rcases h with h | h
  ·exact hV0 k hkm h
  ·simp [Array.getElem?_replicate] at h
   split at h <;> simp at h
 ·intro k h
  simp [Array.getElem?_replicate] at h
  split at h <;> simp at h
def exV (ex : Nat → Option Tmp) (k : Nat) (a : Act) : Value := ((ex k).map (slot a)).getD undef
def wordE (ops : Array Oper) (ex : Nat → Option Tmp) (U : Nat → Value → Value → World → Prop) (k : Nat) (a : Act) (w : World) : Prop := U k (((dstOf ops k).map (slot a)).getD undef) (exV ex k a) w
def depE (ops : Array Oper) (ex : Nat → Option Tmp) (k : Nat) : List Tmp := (dstOf ops k).toList ++ (ex k).toList
def StepG (P : Program) (ops : Array Oper) (Q : Exit → Act → World → Prop) (a0 : Act) (T : Nat → World → World → Prop) (G : World → Prop) (ex : Nat → Option Tmp) (U : Nat → Value → Value → World → Prop) (nl : List (List Nat)) (i : Nat) (o : Oper) : Prop :=
 ∀ a w, G w → (∀ k ∈ needL nl i, wordE ops ex U k a w) → (∀ t, oldB ops i t = true → slot a t = slot a0 t) →
  (Region.wanted o (yielded ops a.tmps) = true ∧ o.wp P a w (fun a' w' => ∃ v, a' = a.put o.dst v ∧ T i w w' ∧ G w' ∧ U i (if o.dst.isSome then v else undef) (exV ex i a) w') Q) ∨ (Region.wanted o (yielded ops a.tmps) = false ∧ T i w w ∧ U i undef (exV ex i a) w)
theorem wp_any_wordsG {a0 : Act} {w0 : World} (hB : relyGB ops a0.tmps.size = true)
  (T : Nat → World → World → Prop) (G : World → Prop) (ex : Nat → Option Tmp) (U : Nat → Value → Value → World → Prop) (m : Nat) (nl : List (List Nat)) (last : List Nat) (hb : boundL nl m = true) (hL : leanA ops m (needL nl) last (depE ops ex) = true)
  (hex : ((List.range m).all fun k => (dstOf ops k).isNone || (ex k).isNone || !(dstOf ops k == ex k)) = true)
  (bad : List (Nat × Nat)) (hbad : (bad.all fun x => !keptA ops (needL nl) last x.1 x.2 || (ancOf ops 3 x.2).contains x.1) = true) (hT : ∀ i k v e w w', i < ops.size → k < m → k ≠ i → (i, k) ∉ bad → U k v e w → T i w w' → U k v e w') (hm2 : ops.size ≤ m)
  (hG : G { w0 with drawn := w0.drawn + 1 }) (hV0 : ∀ k, k < m → ops.size ≤ k → U k undef (exV ex k a0) { w0 with drawn := w0.drawn + 1 })
  (ds : List Tmp) (hds : dstsOf ops = ds) (step : ∀ i (hi : i < ops.size), StepG P ops Q a0 T G ex U nl i ops[i])
  (done : ∀ a w, G w → (∀ k ∈ last, k < m → wordE ops ex U k a w) → a.tmps.size = a0.tmps.size → a = ⟨(patchL ds (slot a) 0 a0.tmps.toList).toArray, a0.defers⟩ → Q .normal a w) :
  wpAny P .any ops Q ops.size (Array.replicate ops.size false) a0 { w0 with drawn := w0.drawn + 1 } := by
 subst hds
 refine wp_any_relyG hB T G (wordE ops ex U) m (needL nl) last (depE ops ex) hL (needL_bound hb) ?_ (fun i k a w w' hi hk hne hke hip h hTi => hT i k _ _ w w' hi hk hne (fun hx => by have := (List.all_eq_true.1 hbad) _ hx; simp [hke] at this; exact hip this) h hTi) hG ?_ ?_ ?_
 ·intro k a a' w hk h hv
  have h1 : ((dstOf ops k).map (slot a')).getD undef = ((dstOf ops k).map (slot a)).getD undef := by
   cases hd : dstOf ops k with
   | none => rfl
   | some t => simp only [Option.map_some, Option.getD_some]; exact h t (by simp [depE, hd])
  have h2 : exV ex k a' = exV ex k a := by
   unfold exV
   cases hd : ex k with
   | none => rfl
   | some t => simp only [Option.map_some, Option.getD_some]; exact h t (by simp [depE, hd])
  unfold wordE at hv ⊢
  rw [h1, h2]; exact hv
 ·intro k hk hge
  unfold wordE
  have : dstOf ops k = none := by unfold dstOf; rw [Array.getElem?_eq_none hge]; rfl
  rw [this]; exact hV0 k hk hge
 ·intro i hi a w hGw hN hO hS
  have fin : ∀ v w', U i (if (ops[i]).dst.isSome then v else undef) (exV ex i a) w' → wordE ops ex U i (a.put (ops[i]).dst v) w' := by
   intro v w' h3
   have hd : dstOf ops i = ops[i].dst := by unfold dstOf; rw [Array.getElem?_eq_getElem hi]; rfl
   have h4 : exV ex i (a.put (ops[i]).dst v) = exV ex i a := by
    unfold exV
    cases he : ex i with
    | none => rfl
    | some t =>
     simp only [Option.map_some, Option.getD_some]
     refine slot_put_other _ _ _ _ fun hdt => ?_
     have := (List.all_eq_true.1 hex) i (List.mem_range.2 (by omega))
     rw [hd, hdt, he] at this
     simp at this
   unfold wordE
   rw [hd, h4]
   cases ht : ops[i].dst with
   | none => rw [ht] at h3; exact h3
   | some t =>
    rw [ht] at h3
    have hlt : t < a0.tmps.size := by
     have := (List.all_eq_true.1 hB) i (List.mem_range.2 hi)
     simp only [Bool.and_eq_true] at this
     have h5 := this.2
     have hd' : (ops[i]?).bind (·.dst) = some t := by rw [Array.getElem?_eq_getElem hi]; exact ht
     rw [hd'] at h5
     simp only [Option.map_some, Option.getD_some, Bool.and_eq_true, decide_eq_true_eq] at h5
     exact h5.1
    simp only [Option.map_some, Option.getD_some]
    rw [slot_put_same _ _ _ (by rw [hS]; exact hlt)]
    exact h3
  rcases step i hi a w hGw hN (fun t ht => hO t (old_of ht)) with ⟨hw, hst⟩ | ⟨hw, h1, h3⟩
  ·refine .inl ⟨hw, Oper.wp_mono ?_ hst⟩
   rintro a' w' ⟨v, rfl, h1, h2, h3⟩
   exact ⟨v, rfl, h1, h2, fin v w' h3⟩
  ·exact .inr ⟨hw, h1, fin undef w (by split <;> exact h3)⟩
 ·intro a w hGw hV hO hS hD
  exact done a w hGw hV hS (act_patch _ hS hD (fun t ht => hO t (free_of ht)))
end
section
variable {P : Program} {ops : Array Oper} {Q : Exit → Act → World → Prop} {a0 : Act} {T : Nat → World → World → Prop} {G : World → Prop} {ex : Nat → Option Tmp} {U : Nat → Value → Value → World → Prop} {nl : List (List Nat)} {i : Nat} {o : Oper}
def StepR (P : Program) (ops : Array Oper) (Q : Exit → Act → World → Prop) (a0 : Act) (T : Nat → World → World → Prop) (G : World → Prop) (ex : Nat → Option Tmp) (U : Nat → Value → Value → World → Prop) (nl : List (List Nat)) (i : Nat) (o : Oper) : Prop :=
 ∀ a w, G w → (∀ k ∈ needL nl i, wordE ops ex U k a w) → (∀ t, oldB ops i t = true → slot a t = slot a0 t) →
  o.wp P a w (fun a' w' => ∃ v, a' = a.put o.dst v ∧ T i w w' ∧ G w' ∧ U i (if o.dst.isSome then v else undef) (exV ex i a) w') Q
theorem stepG_of (hg : o.guard = none) (h : StepR P ops Q a0 T G ex U nl i o) : StepG P ops Q a0 T G ex U nl i o := fun a w hG hN hO => .inl ⟨by unfold Region.wanted; rw [hg], h a w hG hN hO⟩
theorem yields_word {j : Nat} {a : Act} {w : World} {b : Bool} (hj : wordE ops ex U j a w) (hU : ∀ v e w, U j v e w → v = .bool b) : yielded ops a.tmps j = some b := by
 have h := hU _ _ _ hj
 unfold yielded
 have hd : (ops[j]?).bind (·.dst) = dstOf ops j := rfl
 rw [hd]
 cases ht : dstOf ops j with
 | none => rw [ht] at h; cases h
 | some t =>
  rw [ht] at h
  simp only [Option.map_some, Option.getD_some, slot, Array.getD_eq_getD_getElem?] at h
  simp only [Option.bind_some]
  cases hv : a.tmps[t]? with
  | none => rw [hv] at h; cases h
  | some v => rw [hv] at h; simp only [Option.getD_some] at h; rw [h]
theorem stepG_on {j : Nat} {b : Bool} (hg : o.guard = some (j, b)) (hj : j ∈ needL nl i) (hU : ∀ v e w, U j v e w → v = .bool b) (h : StepR P ops Q a0 T G ex U nl i o) : StepG P ops Q a0 T G ex U nl i o := fun a w hG hN hO => .inl ⟨by
   unfold Region.wanted; rw [hg]; simp only [yields_word (hN j hj) hU]; simp, h a w hG hN hO⟩
theorem stepR_value {t : Tmp} (v : Value) (hd : o.dst = some t) (hTr : ∀ w, T i w w)
  (hrun : ∀ a w, G w → (∀ k ∈ needL nl i, wordE ops ex U k a w) → (∀ t, oldB ops i t = true → slot a t = slot a0 t) → (execOp a.eval o).run P w = .ok (.value v) w)
  (hU : ∀ a w, G w → (∀ k ∈ needL nl i, wordE ops ex U k a w) → U i v (exV ex i a) w) : StepR P ops Q a0 T G ex U nl i o := by
 intro a w hG hN hO
 exact wp_value (hrun a w hG hN hO) ⟨v, rfl, hTr w, hG, by rw [hd]; exact hU a w hG hN⟩
end
variable {P : Program} {ops : Array Oper} {Q : Exit → Act → World → Prop}
theorem wp_region_wordsG {id : Nat} {a0 : Act} {w0 : World} (hm : P.follows .mixedOrders = true) (hB : relyGB ops a0.tmps.size = true)
  (T : Nat → World → World → Prop) (G : World → Prop) (ex : Nat → Option Tmp) (U : Nat → Value → Value → World → Prop) (m : Nat) (nl : List (List Nat)) (last : List Nat) (hb : boundL nl m = true) (hL : leanA ops m (needL nl) last (depE ops ex) = true)
  (hex : ((List.range m).all fun k => (dstOf ops k).isNone || (ex k).isNone || !(dstOf ops k == ex k)) = true)
  (bad : List (Nat × Nat)) (hbad : (bad.all fun x => !keptA ops (needL nl) last x.1 x.2 || (ancOf ops 3 x.2).contains x.1) = true) (hT : ∀ i k v e w w', i < ops.size → k < m → k ≠ i → (i, k) ∉ bad → U k v e w → T i w w' → U k v e w') (hm2 : ops.size ≤ m)
  (hG : G { w0 with drawn := w0.drawn + 1 }) (hV0 : ∀ k, k < m → ops.size ≤ k → U k undef (exV ex k a0) { w0 with drawn := w0.drawn + 1 })
  (ds : List Tmp) (hds : dstsOf ops = ds) (step : ∀ i (hi : i < ops.size), StepG P ops Q a0 T G ex U nl i ops[i])
  (done : ∀ a w, G w → (∀ k ∈ last, k < m → wordE ops ex U k a w) → a.tmps.size = a0.tmps.size → a = ⟨(patchL ds (slot a) 0 a0.tmps.toList).toArray, a0.defers⟩ → Q .normal a w) :
  (Code.region id ops true).wp P Q a0 w0 :=
 wp_region_any hm (wp_any_wordsG hB T G ex U m nl last hb hL hex bad hbad hT hm2 hG hV0 ds hds step done)
variable {P : Program} {ops : Array Oper} {Q : Exit → Act → World → Prop}
theorem rowsIn_wide {l n : Nat} {row : String} {args : Array Value} {w : World} {R : Value → World → Prop} (h : Rows P row args w R) : RowsIn (Fence.wide.inRound l) n P row args w R :=
 fun c cs _ => let ⟨v, w', r, s⟩ := h c cs; ⟨v, w', r, stepsIn_wide.2 s⟩
theorem uponIn_round {l n : Nat} {o : Oper} {a : Act} {next : Act → World → Prop} {r : Result Next} (h : o.upon P a next Q r) : o.uponIn (Fence.wide.inRound l) n P a next Q r := by
 cases r with
 | ok x w' =>
  cases x <;> simp only [Oper.upon, Oper.uponIn] at h ⊢ <;>
   first
    | exact h
    | exact ⟨fun h => (by cases h), CallsIn.inRound l (callsIn_wide.2 h)⟩
    | exact ⟨fun h => (by cases h), rowsIn_wide h⟩
 | halt x w' => cases x <;> simp only [Oper.upon, Oper.uponIn] at h ⊢ <;> exact h
theorem wpIn_round {l n : Nat} {o : Oper} {a : Act} {w : World} {next : Act → World → Prop} (hd : ∀ c, o.op ≠ .defer c) (h : o.wp P a w next Q) : o.wpIn (Fence.wide.inRound l) n P a w next Q := by
 refine ⟨fun _ _ => trivial, ?_⟩
 rw [Fence.inRound_round, Oper.semAt_some _ _ _ hd]
 exact uponIn_round h
def noDefer (ops : Array Oper) : Bool := ops.all fun o => match o.op with
 | .defer _ => false
 | _ => true
theorem noDefer_at (h : noDefer ops = true) {i : Nat} {o : Oper} (hi : ops[i]? = some o) : ∀ c, o.op ≠ .defer c := fun c e => by
 obtain ⟨hlt, rfl⟩ := Array.getElem?_eq_some_iff.1 hi
 have := Array.all_eq_true.1 h i hlt
 rw [e] at this; cases this
theorem wpOpIn_round {l n i : Nat} {K : Act → World → Prop} {a : Act} {w : World} (hd : noDefer ops = true) (hQ : ¬ LetsOut Q) (h : wpOp P ops Q i K a w) : wpOpIn (Fence.wide.inRound l) n P ops Q i K a w := by
 unfold wpOp at h; unfold wpOpIn
 cases ho : ops[i]? with
 | none => rw [ho] at h; exact h
 | some o =>
  rw [ho] at h
  simp only at h ⊢
  by_cases hw : Region.wanted o (yielded ops a.tmps) = true
  ·simp only [hw, if_true] at h ⊢
   rcases h with h | h
   ·exact wpIn_round (noDefer_at hd ho) h
   ·exact absurd h.2 hQ
  ·simp only [hw] at h ⊢
   exact ⟨fun _ _ => trivial, h⟩
theorem wpAnyIn_round {l n : Nat} {md : Region.Mode} (hd : noDefer ops = true) (hQ : ¬ LetsOut Q) : ∀ (fuel : Nat) (listed : Array Bool) (a : Act) (w : World), wpAny P md ops Q fuel listed a w → wpAnyIn (Fence.wide.inRound l) n P md ops Q fuel listed a w
 | 0, _, _, _, h => h
 | fuel + 1, listed, a, w, h => ⟨h.1, fun i hi => wpOpIn_mono (fun a w h => wpAnyIn_round hd hQ fuel _ a w h) (wpOpIn_round hd hQ (h.2 i hi))⟩
theorem wpIn_region_round {l n id : Nat} {a : Act} {w : World} (hm : P.follows .mixedOrders = true) (hd : noDefer ops = true) (hQ : ¬ LetsOut Q)
  (h : wpAny P .any ops Q ops.size (Array.replicate ops.size false) a { w with drawn := w.drawn + 1 }) : (Code.region id ops true).wpIn (Fence.wide.inRound l) n P Q a w :=
 wpIn_region_any hm (wpAnyIn_round hd hQ _ _ _ _ h)
end Go.Proofs.YtlccihidedfemaaGreatDoor
namespace Go.Proofs.YtlccihidedfemaaGreatDoor
theorem zeroIt_d : zeroIt.d = false := rfl
theorem above_dir {L : List It} (F : TFit L) (B : List (List UInt8)) (hB : B ≠ []) : ∀ (m : Nat) (r : List (List UInt8)) (x : It), r.length = m + 1 → x ∈ L → cs x.t = B ++ r → ∃ y ∈ L, cs y.t = B ∧ y.d = true
 | m, r, x, hr, hx, e => by
  have hp := F.path x hx
  have hd := cs_dir hp
  have hrn : r ≠ [] := by intro h; subst h; simp at hr
  rw [e, List.dropLast_append_of_ne_nil hrn] at hd
  have hne : dirS x.t ≠ [] := by
   intro h; rw [h, cs_nil] at hd
   have := congrArg List.length hd
   rw [List.length_append] at this
   exact hB (List.length_eq_zero_iff.1 (by simp at this; omega))
  have hu := F.under x hx
  unfold underT at hu
  rw [decide_eq_false hne, Bool.false_or] at hu
  cases hf : findT L (dirS x.t) with
  | none => rw [foundI_none hf, zeroIt_d] at hu; cases hu
  | some y =>
   rw [foundI_some hf] at hu
   obtain ⟨hy, hyt⟩ := findT_mem hf
   have hcy : cs y.t = B ++ r.dropLast := by rw [hyt]; exact hd
   cases m with
   | zero =>
    have : r.dropLast = [] := List.length_eq_zero_iff.1 (by rw [List.length_dropLast]; omega)
    rw [this, List.append_nil] at hcy
    exact ⟨y, hy, hcy, hu⟩
   | succ m => exact above_dir F B hB m r.dropLast y (by rw [List.length_dropLast]; omega) hy hcy
def seqT (c : List UInt8 → Nat) (L : List It) : List Nd := seqD c L 9 []
def topT (c : List UInt8 → Nat) (L : List It) : Nd := dirN c L 9 []
def rawsT (c : List UInt8 → Nat) (L : List It) : List (List UInt8) := (seqT c L).map wrN
def objsT (c : List UInt8 → Nat) (L : List It) : List Ob := putsN [] (seqT c L)
theorem raw_mem {c : List UInt8 → Nat} {L : List It} {n : Nd} (h : n ∈ seqT c L) : wrN n ∈ rawsT c L := List.mem_map.2 ⟨n, h, rfl⟩
theorem topT_mem (c : List UInt8 → Nat) (L : List It) : topT c L ∈ seqT c L := top_mem c L 9 []
theorem seqT_fit {c : List UInt8 → Nat} {L : List It} (R : ReadyT c L) : ∀ n ∈ seqT c L, fitN n = true := seqD_fit R 9 []
theorem objs_fit (c : List UInt8 → Nat) (L : List It) : FitO (objsT c L) := putsN_fit _ fitO_nil
theorem objs_mem {c : List UInt8 → Nat} {L : List It} {y : Ob} (h : y ∈ objsT c L) : ∃ n ∈ seqT c L, y = obN n := by
 rcases putsN_mem h with h' | h'
 ·cases h'
 ·exact h'
theorem objs_key {c : List UInt8 → Nat} {L : List It} (R : ReadyT c L) {n : Nd} (hn : n ∈ seqT c L) : ∃ y ∈ objsT c L, y.t = keyN n := putsN_key (seqT_fit R) n hn
theorem kids_in {c : List UInt8 → Nat} {L : List It} : ∀ (k : Nat) (d : List UInt8), ∀ n ∈ seqD c L k d, (∀ p ∈ n.ps, ∃ m ∈ seqD c L k d, keyN m = p.k.data.toList) ∧ ∀ e ∈ n.es, ∃ m ∈ seqD c L k d, keyN m = e.k.data.toList
 | 0, d, n, hn => by rw [List.mem_singleton.1 hn]; exact ⟨fun p hp => (by cases hp), fun e he => (by cases he)⟩
 | k + 1, d, n, hn => by
  rcases List.mem_append.1 hn with h | h
  ·obtain ⟨x, hx, h⟩ := List.mem_flatMap.1 h
   cases hd : x.d
   ·rw [if_neg (by rw [hd]; decide)] at h
    rcases List.mem_append.1 h with h | h
    ·obtain ⟨t, _, rfl⟩ := List.mem_map.1 h
     exact ⟨fun p hp => (by cases hp), fun e he => (by cases he)⟩
    ·rw [List.mem_singleton.1 h]
     refine ⟨fun p hp => ?_, fun e he => (by cases he)⟩
     obtain ⟨t, ht, rfl⟩ := List.mem_map.1 hp
     exact ⟨pieceN t, sub_file hx hd (piece_mem ht), by unfold partP; simp⟩
   ·rw [if_pos hd] at h
    obtain ⟨i1, i2⟩ := kids_in k x.t n h
    exact ⟨fun p hp => let ⟨m, hm, e⟩ := i1 p hp; ⟨m, sub_dir hx hd hm, e⟩, fun p hp => let ⟨m, hm, e⟩ := i2 p hp; ⟨m, sub_dir hx hd hm, e⟩⟩
  ·rw [List.mem_singleton.1 h]
   refine ⟨fun p hp => (by cases hp), fun e he => ?_⟩
   rw [dirN_es] at he
   obtain ⟨x, hx, rfl⟩ := List.mem_map.1 he
   exact ⟨subN c L k x, sub_mem hx, by unfold entE; simp⟩
end Go.Proofs.YtlccihidedfemaaGreatDoor
set_option linter.unusedVariables false
namespace Go.Proofs.YtlccihidedfemaaGreatDoor
theorem flatMap_same {α β : Type} {f g : α → List β} : ∀ {L : List α}, (∀ x ∈ L, f x = g x) → L.flatMap f = L.flatMap g
 | [], _ => rfl
 | x :: L, h => by rw [List.flatMap_cons, List.flatMap_cons, h x (by simp), flatMap_same fun y hy => h y (List.mem_cons_of_mem _ hy)]
theorem inD_none {L : List It} (F : TFit L) {d : List UInt8} (h : ∀ x ∈ L, (cs x.t).length ≤ (cs d).length) : inD L d = [] :=
 List.filter_eq_nil_iff.2 fun x hx => by
  intro e
  have e := of_decide_eq_true e
  have := (dir_iff (F.path x hx)).1 e
  have hl := h x hx
  rw [this, List.length_append] at hl
  simp at hl
  omega
theorem dirN_more {L : List It} (F : TFit L) (c : List UInt8 → Nat) : ∀ (k : Nat) (d : List UInt8), (∀ x ∈ L, (cs x.t).length ≤ (cs d).length + k) → dirN c L (k + 1) d = dirN c L k d
 | 0, d, h => by
  show (⟨3, ⟨#[]⟩, [], _⟩ : Nd) = ⟨3, ⟨#[]⟩, [], []⟩
  rw [inD_none F h]; rfl
 | k + 1, d, h => by
  show (⟨3, ⟨#[]⟩, [], _⟩ : Nd) = ⟨3, ⟨#[]⟩, [], _⟩
  congr 1
  refine List.map_congr_left fun x hx => ?_
  have hm := mem_inD.1 hx
  have e := (dir_iff (F.path x hm.1)).1 hm.2
  rw [dirN_more F c k x.t (fun y hy => by rw [e, List.length_append]; have := h y hy; simp; omega)]
theorem seqD_more {L : List It} (F : TFit L) (c : List UInt8 → Nat) : ∀ (k : Nat) (d : List UInt8), (∀ x ∈ L, (cs x.t).length ≤ (cs d).length + k) → seqD c L (k + 1) d = seqD c L k d
 | 0, d, h => by
  show _ ++ [dirN c L 1 d] = [dirN c L 0 d]
  rw [inD_none F h, dirN_more F c 0 d h]; rfl
 | k + 1, d, h => by
  show _ ++ [dirN c L (k + 2) d] = _ ++ [dirN c L (k + 1) d]
  rw [dirN_more F c (k + 1) d h]
  congr 1
  refine flatMap_same fun x hx => ?_
  have hm := mem_inD.1 hx
  have e := (dir_iff (F.path x hm.1)).1 hm.2
  rw [seqD_more F c k x.t (fun y hy => by rw [e, List.length_append]; have := h y hy; simp; omega)]
end Go.Proofs.YtlccihidedfemaaGreatDoor
set_option linter.unusedVariables false
namespace Go.Proofs.YtlccihidedfemaaGreatDoor
open Go.RowKit
attribute [local go_sem] Oper.semAt_some
set_option maxRecDepth 100000 in
set_option maxHeartbeats 4000000 in
theorem refOrder_any (a b : ByteArray) (ha : a.size ≤ 100000) (hb : b.size ≤ 100000) (w : World) :
  Calls Tryz.prog 81 #[.string a, .string b] w fun e w' => e = .returned (.int .i64 (orderS a.data.toList b.data.toList)) ∧ Below w.heap.size w w' := by
 have C1 := Lib.hid (parts_any a ha)
 have C2 := Lib.hid (parts_any b hb)
 unfold orderS
 obtain ⟨X, hX⟩ : ∃ X, X = pts a.data.toList := ⟨_, rfl⟩
 obtain ⟨Y, hY⟩ : ∃ Y, Y = pts b.data.toList := ⟨_, rfl⟩
 rw [← hX] at C1 ⊢
 rw [← hY] at C2 ⊢
 clear hX hY ha hb
 go_enter Tryz.func81, Tryz.ntmps81
 go_wp2_with fail
 refine (C1.out _).mono ?_
 rintro e w1 ⟨v1, rfl, hv1, hb1⟩
 have HV1 := Lib.hid hv1; clear hv1
 go_wp2_with fail
 refine (C2.out _).mono ?_
 rintro e w2 ⟨v2, rfl, hv2, hb2⟩
 have hB := below_step hb1 hb2
 have hv1 := HV1.out.stays hb2
 clear HV1 hb1 hb2 C1 C2
 obtain ⟨hm, a1, c1, rfl, _, hc1⟩ := hv1
 obtain ⟨hm2, a2, c2, rfl, _, hc2⟩ := hv2
 have hmm : (strsOf X).length ≤ 9223372036854775807 := by unfold maxLen at hm; omega
 have hmm2 : (strsOf Y).length ≤ 9223372036854775807 := by unfold maxLen at hm2; omega
 have HK := Lib.hid (strsOf_len X); have HL := Lib.hid (strsOf_len Y)
 have HI1 := Lib.hid (strsOf_at X); have HI2 := Lib.hid (strsOf_at Y)
 clear hm hm2
 obtain ⟨K, hK⟩ : ∃ K, K = strsOf X := ⟨_, rfl⟩
 obtain ⟨L, hL⟩ : ∃ L, L = strsOf Y := ⟨_, rfl⟩
 rw [← hK] at HK HI1 hc1 hmm ⊢
 rw [← hL] at HL HI2 hc2 hmm2 ⊢
 have H1 := Lib.hid hc1; have H2 := Lib.hid hc2
 clear hc1 hc2 hK hL
 go_wp2
 go_loopw [7] (fun i wr => ∃ k m : Nat, k ≤ K.length ∧ k ≤ L.length ∧ i = .int .i64 k ∧ wr = w2.drewN m ∧ SameTo X Y k) (fun i _ => K.length - (intOf i).toNat)
 case atStart => exact ⟨0, 0, Nat.zero_le _, Nat.zero_le _, rfl, rfl, same_zero _ _⟩
 case round =>
  obtain ⟨k, m, hk, hk2, rfl, rfl, hn⟩ := hrel
  have HN := Lib.hid hn; clear hn
  by_cases hlt : k < K.length
  ·by_cases hlt2 : k < L.length
   ·obtain ⟨b1, o1, rfl, _, g1⟩ := H1.out (by omega)
    have q1 := g1 k hlt
    obtain ⟨b2, o2, rfl, _, g2⟩ := H2.out (by omega)
    have q2 := g2 k hlt2
    clear g1 g2
    have hbk : decide ((k : Int) < (K.length : Int)) = true := by simpa using (show (k : Int) < K.length by omega)
    have hbk2 : decide ((k : Int) < (L.length : Int)) = true := by simpa using (show (k : Int) < L.length by omega)
    have hx := HI1.out k hlt (by rw [← HK.out]; exact hlt)
    have hy := HI2.out k hlt2 (by rw [← HL.out]; exact hlt2)
    obtain ⟨x, hxx⟩ : ∃ x, x = K[k] := ⟨_, rfl⟩
    rw [← hxx] at q1 hx
    obtain ⟨y, hyy⟩ : ∃ y, y = L[k] := ⟨_, rfl⟩
    rw [← hyy] at q2 hy
    have HX := Lib.hid hx; have HY := Lib.hid hy; clear hx hxx hy hyy
    have hxl : k < X.length := by rw [← HK.out]; exact hlt
    have hyl : k < Y.length := by rw [← HL.out]; exact hlt2
    rcases ordX_cases x.data.toList y.data.toList with ⟨h, ho⟩ | ⟨h, ho⟩ | ⟨h, ho⟩
    ·have HS : Hid (cmpP X Y = -1) := by
      have := same_stop HN.out hxl hyl (by rw [← HX.out, ← HY.out, ho]; decide)
      rw [← HX.out, ← HY.out, ho] at this; exact this
     have l1 : Op.bytesLess x.toList y.toList = true := by rw [less_eq]; exact decide_eq_true h
     clear h ho hxl hyl
     go_wp2_with fail
     go_quiet (fail)
     go_wp2
     go_ret
     exact ⟨by rw [HS.out]; rfl, below_drewN (below_drewN hB _) _⟩
    ·have HS : Hid (cmpP X Y = 1) := by
      have := same_stop HN.out hxl hyl (by rw [← HX.out, ← HY.out, ho]; decide)
      rw [← HX.out, ← HY.out, ho] at this; exact this
     have l1 : Op.bytesLess x.toList y.toList = false := by rw [less_eq]; exact decide_eq_false (x_asymm h)
     have l2 : (x.toList == y.toList) = false := beq_false (fun e => x_irrefl _ (e ▸ h))
     clear h ho hxl hyl
     go_wp2_with fail
     go_quiet (fail)
     go_wp2_with fail
     go_quiet (fail)
     go_wp2
     go_ret
     exact ⟨by rw [HS.out]; rfl, below_drewN (below_drewN (below_drewN hB _) _) _⟩
    ·have HS := Lib.hid (same_step HN.out hxl hyl (by rw [← HX.out, ← HY.out, ho]))
     have l1 : Op.bytesLess x.toList y.toList = false := by rw [less_eq, h]; exact decide_eq_false (x_irrefl _)
     have l2 : (x.toList == y.toList) = true := beq_true (str_eq' h)
     clear h ho hxl hyl
     go_wp2_with fail
     go_quiet (fail)
     go_wp2_with fail
     have E1 := Lib.hid (World.drewN_drewN w2 m nq)
     go_quiet (fail)
     go_wp2
     go_roundw
     case rel => exact ⟨k + 1, _, by omega, by omega, by go_num, (by simp only [World.drewN]; rfl), HS.out⟩
     case measure => simp [intOf]; omega
   ·have hbk : decide ((k : Int) < (K.length : Int)) = true := by simpa using (show (k : Int) < K.length by omega)
    have hkl : k = L.length := by omega
    have HS : Hid (cmpP X Y = 1) := same_longer HN.out (by rw [← HK.out]; exact hlt) (by rw [← HL.out]; omega)
    have f1 : ¬ K.length < L.length := by omega
    have f2 : L.length < K.length := by omega
    have HKL := Lib.hid hkl; clear hkl
    go_wp2
    go_ret
    exact ⟨by rw [HS.out]; rfl, below_drewN hB _⟩
  ·have hkl : k = K.length := by omega
   have f0 : ¬ k < K.length := hlt
   by_cases hlt2 : K.length < L.length
   ·have HS : Hid (cmpP X Y = -1) := same_shorter HN.out (by rw [← HK.out]; omega) (by rw [← HL.out]; omega)
    clear hkl
    go_wp2
    go_ret
    exact ⟨by rw [HS.out]; rfl, below_drewN hB _⟩
   ·have HS : Hid (cmpP X Y = 0) := same_end HN.out (by rw [← HK.out]; omega) (by rw [← HL.out]; omega)
    have f2 : ¬ L.length < K.length := by omega
    clear hkl
    go_wp2
    go_ret
    exact ⟨by rw [HS.out]; rfl, below_drewN hB _⟩
end Go.Proofs.YtlccihidedfemaaGreatDoor
set_option linter.unusedVariables false
namespace Go.Proofs.YtlccihidedfemaaGreatDoor
theorem sizeT_few : ∀ {L : List It}, (∀ x ∈ L, x.c.size ≤ 40000) → sizeT L ≤ L.length * 40000
 | [], _ => Nat.le_refl _
 | x :: L, h => by
  rw [sizeT_cons, List.length_cons]
  have h1 := h x (by simp)
  have h2 := sizeT_few (L := L) (fun y hy => h y (by simp [hy]))
  omega
theorem c_empty (c : ByteArray) : c.toList.isEmpty = decide (c.size = 0) := by
 rw [Lib.toList_data, Lib.size_eq]; cases c.data.toList <;> simp
section
variable {L : List It} {x : It}
end
end Go.Proofs.YtlccihidedfemaaGreatDoor
namespace Go.Proofs.YtlccihidedfemaaGreatDoor
open Go.RowKit
theorem builderAtF_own {β : Type} (T e : TypeId) (B b : Nat) (p : Value) (bs : β → List Value) : Own (fun (s : β) W => Lib.BuilderAtF T e B b p (bs s) W) := by
 rintro s W W' row ⟨hB, v, hb, hown, hne⟩ hg hr
 have hlt := (Array.getElem?_eq_some_iff.1 hb).1
 refine ⟨hB, v, ?_, ?_, hne⟩
 ·rw [hg.block b hlt ?_]
  ·exact hb
  ·intro h
   obtain ⟨o, ho, hc⟩ := hr b h.symm
   rw [hb] at ho; cases ho; cases hc
 ·refine hown.kept hg ?_
  rcases hob : v.ownBlock with _ | g
  ·exact .inl rfl
  ·refine .inr fun h => ?_
   obtain ⟨o, ho, hc⟩ := hr g h.symm
   obtain ⟨c, fz, hg2⟩ := Lib.ownsRowF_kind hown g hob
   rw [hg2] at ho; cases ho; cases hc
theorem isBuilderF_own {β : Type} (T e : TypeId) (B b : Nat) (bs : β → List Value) : Own (fun (s : β) W => Lib.IsBuilderF T e B b (bs s) W) := by
 intro s W W' row h hg hr
 rcases h with h | h
 ·exact .inl (builderAtF_own T e B b _ bs s W W' row h hg hr)
 ·exact .inr (builderAtF_own T e B b _ bs s W W' row h hg hr)
theorem keeps_of_others {e : TypeId} {b : Nat} {W W' : World} (h : Lib.OthersKept e (some b) W W') (hs : W.heap.size ≤ W'.heap.size) (hb : ∃ o : Obj, W.heap[b]? = some o ∧ o.isCells = true) : KeepsOthers W W' := by
 refine ⟨hs, fun k o hk ho => h k o hk ?_ ?_⟩
 ·intro hkb
  obtain ⟨o', ho', hc⟩ := hb
  cases hkb
  rw [hk] at ho'; cases ho'; rw [ho] at hc; cases hc
 ·rintro c fz rfl
  cases ho
theorem isBuilderF_cells {T e : TypeId} {B b : Nat} {bs : List Value} {W : World} (h : Lib.IsBuilderF T e B b bs W) : ∃ o : Obj, W.heap[b]? = some o ∧ o.isCells = true := by
 rcases h with ⟨_, v, hb, _⟩ | ⟨_, v, hb, _⟩ <;> exact ⟨_, hb, rfl⟩
theorem boxed_keep {A B : World} {row : Option Nat} {b : Nat} {t : TypeId} {v : Value} (h : Boxed A b t v) (hg : A.grownBy B row) (hr : ∀ r, row = some r → ∃ o : Obj, A.heap[r]? = some o ∧ o.isCells = false) : Boxed B b t v := by
 refine h.kept hg fun e => ?_
 obtain ⟨o, ho, hc⟩ := hr b e.symm
 rw [show A.heap[b]? = _ from h] at ho; cases ho; cases hc
end Go.Proofs.YtlccihidedfemaaGreatDoor
set_option linter.unusedVariables false
namespace Go.Proofs.YtlccihidedfemaaGreatDoor
open Go.RowKit
attribute [local go_sem] Oper.semAt_some
theorem ie_t {a b : Int} (h : a = b) : (a == b) = true := beq_iff_eq.2 h
theorem ie_f {a b : Int} (h : a ≠ b) : (a == b) = false := beq_eq_false_iff_ne.2 h
theorem in_t {a b : Int} (h : a ≠ b) : (a != b) = true := bne_iff_ne.2 h
theorem in_f {a b : Int} (h : a = b) : (a != b) = false := by rw [h]; simp
theorem all_okPt_step {L : List Pt} {k : Nat} (hk : k < L.length) (h : (L.take k).all okPt = true) (hx : okPt L[k] = true) : (L.take (k + 1)).all okPt = true := by
 rw [List.take_succ_eq_append_getElem hk, List.all_append, h]; simpa using hx
theorem sumPt_step {L : List Pt} {k : Nat} (hk : k < L.length) : sumPt (L.take (k + 1)) = sumPt (L.take k) + L[k].n := by
 rw [List.take_succ_eq_append_getElem hk, sumPt_app]; simp [sumPt]
theorem sumPt_bd : ∀ {L : List Pt}, L.all okPt = true → 0 ≤ sumPt L ∧ sumPt L ≤ 4096 * L.length
 | [], _ => by simp [sumPt]
 | p :: L, h => by
  rw [List.all_cons, Bool.and_eq_true] at h
  have h1 := okPt_iff.1 h.1; have h2 := sumPt_bd h.2
  rw [sumPt, List.length_cons]; push_cast; omega
theorem fitFile_no {L : List Pt} {k : Nat} (hk : k < L.length) (hx : okPt L[k] = false) : fitFileB L = false := by
 unfold fitFileB
 rw [Bool.and_eq_false_iff]; left
 rw [List.all_eq_false]
 exact ⟨L[k], List.getElem_mem _, by rw [hx]; decide⟩
theorem okPt_no1 {x : Pt} (h : x.k.size ≠ 32) : okPt x = false := by unfold okPt; rw [decide_eq_false h]; rfl
theorem okPt_no2 {x : Pt} (h : x.n < 1) : okPt x = false := by unfold okPt; rw [decide_eq_false (by omega : ¬ 1 ≤ x.n)]; simp
theorem okPt_no3 {x : Pt} (h : 4096 < x.n) : okPt x = false := by unfold okPt; rw [decide_eq_false (by omega : ¬ x.n ≤ 4096)]; simp
set_option maxRecDepth 100000 in
set_option maxHeartbeats 2000000 in
theorem rfitFile_any (v : Value) (L : List Pt) (w : World) (h : IsParts w v L) (hl : L.length ≤ 1000000) :
  Calls Tryz.prog 69 #[v] w fun e w' => e = .returned (.bool (fitFileB L)) ∧ w = w' := by
 obtain ⟨hm, a, cap, rfl, _, hc⟩ := h
 have hmm : L.length ≤ 9223372036854775807 := by unfold maxLen at hm; omega
 have H := Lib.hid hc
 clear hc hm
 go_enter Tryz.func69, Tryz.ntmps69
 go_wp2
 go_loop [3, 4] (fun n i => ∃ k : Nat, k ≤ L.length ∧ i = .int .i64 k ∧ n = .int .i64 (sumPt (L.take k)) ∧ (L.take k).all okPt = true) (fun _ i => L.length - (intOf i).toNat)
 case atStart => exact ⟨0, Nat.zero_le _, rfl, rfl, rfl⟩
 case round =>
  obtain ⟨k, hk, rfl, rfl, hall⟩ := hrel
  have HA := Lib.hid hall; clear hall
  by_cases hlt : k < L.length
  ·obtain ⟨b, off, rfl, _, g⟩ := H.out (by omega)
   have g1 := g k hlt
   clear g
   obtain ⟨c0, c1⟩ := g1
   have hbk : decide ((k : Int) < (L.length : Int)) = true := by simpa using (show (k : Int) < L.length by omega)
   have HST := Lib.hid (all_okPt_step hlt HA.out)
   have HNO := Lib.hid (fitFile_no hlt)
   have HSU := Lib.hid (sumPt_step hlt)
   have hbd := sumPt_bd HA.out
   rw [List.length_take] at hbd
   obtain ⟨x, hx⟩ : ∃ x, x = L[k] := ⟨_, rfl⟩
   rw [← hx] at c0 c1 HST HNO HSU
   clear hx
   by_cases h1 : x.k.size = 32
   ·have q1 := in_f (show (x.k.size : Int) = 32 by omega)
    by_cases h2 : x.n < 1
    ·have q2 : decide (x.n < 1) = true := decide_eq_true h2
     have HS := Lib.hid (HNO.out (okPt_no2 h2))
     clear h1 h2
     go_wp2
     go_ret
     exact ⟨by rw [HS.out]; rfl, rfl⟩
    ·have q2 : decide (x.n < 1) = false := decide_eq_false h2
     by_cases h3 : 4096 < x.n
     ·have q3 : decide (4096 < x.n) = true := decide_eq_true h3
      have HS := Lib.hid (HNO.out (okPt_no3 h3))
      clear h1 h2 h3
      go_wp2
      go_ret
      exact ⟨by rw [HS.out]; rfl, rfl⟩
     ·have q3 : decide (4096 < x.n) = false := decide_eq_false h3
      have HS := Lib.hid (HST.out (okPt_iff.2 ⟨h1, by omega, by omega⟩))
      have hb2 : -1000000000000 ≤ sumPt (L.take k) + x.n ∧ sumPt (L.take k) + x.n ≤ 1000000000000 := by omega
      clear h1
      go_wp2
      go_round
      case rel => exact ⟨k + 1, by omega, by go_num, by rw [HSU.out], HS.out⟩
      case measure => simp [intOf]; omega
   ·have q1 := in_t (show (x.k.size : Int) ≠ 32 by omega)
    have HS := Lib.hid (HNO.out (okPt_no1 h1))
    clear h1
    go_wp2
    go_ret
    exact ⟨by rw [HS.out]; rfl, rfl⟩
  ·have HS : Hid (fitFileB L = decide (sumPt (L.take k) ≤ 32768)) := show _ = _ by
    have := HA.out
    rw [List.take_of_length_le (by omega)] at this ⊢
    unfold fitFileB; rw [this]; rfl
   go_wp2
   go_ret
   exact ⟨by rw [HS.out]; rfl, rfl⟩
def DirTo (L : List En) (k : Nat) : Prop := ∀ i (h : i < L.length), i < k → okEn L[i] = true ∧ (0 < i → (L[i - 1]'(by omega)).m.data.toList < L[i].m.data.toList)
theorem dirTo_zero (L : List En) : DirTo L 0 := fun i _ h => absurd h (by omega)
theorem dirTo_step {L : List En} {k : Nat} (h : DirTo L k) (hk : k < L.length) (h1 : okEn L[k] = true) (hr : 0 < k → (L[k - 1]'(by omega)).m.data.toList < L[k].m.data.toList) : DirTo L (k + 1) := fun i hi hik => by
 by_cases e : i = k
 ·subst e; exact ⟨h1, hr⟩
 ·exact h i hi (by omega)
theorem fitDir_all {L : List En} {k : Nat} (h : DirTo L k) (hk : L.length ≤ k) : fitDirB L = true := fitDir_iff.2 ⟨fun p hp => by
 obtain ⟨i, hi, rfl⟩ := List.mem_iff_getElem.1 hp
 exact (h i hi (by omega)).1, fun i hi h0 => (h i hi (by omega)).2 h0⟩
theorem fitDir_no {L : List En} {k : Nat} (hk : k < L.length) (hx : okEn L[k] = false) : fitDirB L = false := by
 rcases h : fitDirB L with _ | _
 ·rfl
 ·have := (fitDir_iff.1 h).1 _ (List.getElem_mem hk); rw [hx] at this; cases this
theorem fitDir_norise {L : List En} {k : Nat} (hk : k < L.length) (h0 : 0 < k) (hr : ¬ (L[k - 1]'(by omega)).m.data.toList < L[k].m.data.toList) : fitDirB L = false := by
 rcases h : fitDirB L with _ | _
 ·rfl
 ·exact absurd ((fitDir_iff.1 h).2 k hk h0) hr
theorem okEn_no1 {x : En} (h : nameB x.m.data.toList = false) : okEn x = false := by unfold okEn; rw [h]; rfl
theorem okEn_no2 {x : En} (h : x.k.size ≠ 32) : okEn x = false := by unfold okEn; rw [decide_eq_false h]; simp
theorem okEn_no3 {x : En} (h2 : x.kd ≠ 2) (h3 : x.kd ≠ 3) : okEn x = false := by unfold okEn; rw [decide_eq_false h2, decide_eq_false h3]; simp
theorem okEn_no4 {x : En} (h2 : x.kd ≠ 2) (h : x.x = true) : okEn x = false := by unfold okEn; rw [decide_eq_false h2, h]; simp
set_option maxRecDepth 100000 in
set_option maxHeartbeats 8000000 in
theorem rfitDir_any (v : Value) (L : List En) (w : World) (h : IsEntries w v L) :
  Calls Tryz.prog 70 #[v] w fun e w' => e = .returned (.bool (fitDirB L)) ∧ Below w.heap.size w w' := by
 have HI := Lib.hid h
 obtain ⟨hm, a, cap, rfl, _, hc⟩ := h
 have hmm : L.length ≤ 9223372036854775807 := by unfold maxLen at hm; omega
 clear hc hm
 have RN := Lib.hid refName_any
 go_enter Tryz.func70, Tryz.ntmps70
 go_wp2
 go_loopw [3] (fun i wr => ∃ k : Nat, k ≤ L.length ∧ i = .int .i64 k ∧ DirTo L k ∧ Below w.heap.size w wr) (fun i _ => L.length - (intOf i).toNat)
 case atStart => exact ⟨0, Nat.zero_le _, rfl, dirTo_zero _, Below.refl _ _⟩
 case round =>
  obtain ⟨k, hk, rfl, hn, hB⟩ := hrel
  have HN := Lib.hid hn; clear hn
  have hsz := hB.size
  by_cases hlt : k < L.length
  ·obtain ⟨_, _, _, e, _, hc⟩ := HI.out.stays hB
   cases e
   obtain ⟨b, off, rfl, hbl, g⟩ := hc (by omega)
   have g1 := g k hlt
   obtain ⟨c0, c1, c2, c3⟩ := g1
   have hbk : decide ((k : Int) < (L.length : Int)) = true := by simpa using (show (k : Int) < L.length by omega)
   have HST := Lib.hid (dirTo_step HN.out hlt)
   have HNO := Lib.hid (fitDir_no hlt)
   have HNR := Lib.hid (fitDir_norise hlt)
   by_cases h0 : k = 0
   ·subst h0
    simp only [Nat.zero_mul, Nat.add_zero] at c0 c1 c2 c3
    clear g HNR
    obtain ⟨x, hx0⟩ : ∃ x, x = L[0] := ⟨_, rfl⟩
    rw [← hx0] at c0 c1 c2 c3 HST HNO
    clear hx0
    have R1 := Lib.hid (RN.out x.m)
    rcases hnm : nameB x.m.data.toList with _ | _
    ·rw [hnm] at R1
     have HS := Lib.hid (HNO.out (okEn_no1 hnm))
     clear hnm
     go_wp2_with fail
     go_quiet ((go_at_call 95; exact Calls.quiet_of_same ((R1.out _).mono fun e w' h => ⟨h.1, h.2.symm⟩)))
     go_wp2
     go_ret
     exact ⟨by rw [HS.out]; rfl, below_drewN (hB.alloc hsz _) _⟩
    ·rw [hnm] at R1
     have HNM := Lib.hid hnm; clear hnm
     by_cases k2 : x.kd = 2
     ·have q2 := in_f k2
      have K2 := Lib.hid k2; clear k2
      rcases hx : x.x with _ | _
      ·rw [hx] at c2
       have CL : True := trivial; clear hx
       by_cases h32 : x.k.size = 32
       ·have q5 := in_f (show (x.k.size : Int) = 32 by omega)
        have HS := Lib.hid (HST.out (okEn_iff.2 ⟨HNM.out, h32, .inl K2.out⟩) (fun h => absurd h (by omega)))
        clear h32 CL
        go_wp2_with fail
        go_quiet ((go_at_call 95; exact Calls.quiet_of_same ((R1.out _).mono fun e w' h => ⟨h.1, h.2.symm⟩)))
        go_wp2
        go_roundw
        case rel => exact ⟨1, by omega, by go_num, HS.out, below_drewN (hB.alloc hsz _) _⟩
        case measure => simp [intOf]; omega
       ·have q5 := in_t (show (x.k.size : Int) ≠ 32 by omega)
        have HS := Lib.hid (HNO.out (okEn_no2 h32))
        clear h32 CL
        go_wp2_with fail
        go_quiet ((go_at_call 95; exact Calls.quiet_of_same ((R1.out _).mono fun e w' h => ⟨h.1, h.2.symm⟩)))
        go_wp2
        go_ret
        exact ⟨by rw [HS.out]; rfl, below_drewN (hB.alloc hsz _) _⟩
      ·rw [hx] at c2
       have CL : True := trivial; clear hx
       by_cases h32 : x.k.size = 32
       ·have q5 := in_f (show (x.k.size : Int) = 32 by omega)
        have HS := Lib.hid (HST.out (okEn_iff.2 ⟨HNM.out, h32, .inl K2.out⟩) (fun h => absurd h (by omega)))
        clear h32 CL
        go_wp2_with fail
        go_quiet ((go_at_call 95; exact Calls.quiet_of_same ((R1.out _).mono fun e w' h => ⟨h.1, h.2.symm⟩)))
        go_wp2
        go_roundw
        case rel => exact ⟨1, by omega, by go_num, HS.out, below_drewN (hB.alloc hsz _) _⟩
        case measure => simp [intOf]; omega
       ·have q5 := in_t (show (x.k.size : Int) ≠ 32 by omega)
        have HS := Lib.hid (HNO.out (okEn_no2 h32))
        clear h32 CL
        go_wp2_with fail
        go_quiet ((go_at_call 95; exact Calls.quiet_of_same ((R1.out _).mono fun e w' h => ⟨h.1, h.2.symm⟩)))
        go_wp2
        go_ret
        exact ⟨by rw [HS.out]; rfl, below_drewN (hB.alloc hsz _) _⟩
     ·have q2 := in_t k2
      by_cases k3 : x.kd = 3
      ·have q3 := in_f k3
       have K3 := Lib.hid k3; clear k3
       rcases hx : x.x with _ | _
       ·rw [hx] at c2
        have HX := Lib.hid hx; clear hx k2
        have CL : True := trivial
        by_cases h32 : x.k.size = 32
        ·have q5 := in_f (show (x.k.size : Int) = 32 by omega)
         have HS := Lib.hid (HST.out (okEn_iff.2 ⟨HNM.out, h32, .inr ⟨K3.out, HX.out⟩⟩) (fun h => absurd h (by omega)))
         clear h32 CL
         go_wp2_with fail
         go_quiet ((go_at_call 95; exact Calls.quiet_of_same ((R1.out _).mono fun e w' h => ⟨h.1, h.2.symm⟩)))
         go_wp2
         go_roundw
         case rel => exact ⟨1, by omega, by go_num, HS.out, below_drewN (hB.alloc hsz _) _⟩
         case measure => simp [intOf]; omega
        ·have q5 := in_t (show (x.k.size : Int) ≠ 32 by omega)
         have HS := Lib.hid (HNO.out (okEn_no2 h32))
         clear h32 CL
         go_wp2_with fail
         go_quiet ((go_at_call 95; exact Calls.quiet_of_same ((R1.out _).mono fun e w' h => ⟨h.1, h.2.symm⟩)))
         go_wp2
         go_ret
         exact ⟨by rw [HS.out]; rfl, below_drewN (hB.alloc hsz _) _⟩
       ·rw [hx] at c2
        have HS := Lib.hid (HNO.out (okEn_no4 k2 hx)); clear hx k2
        go_wp2_with fail
        go_quiet ((go_at_call 95; exact Calls.quiet_of_same ((R1.out _).mono fun e w' h => ⟨h.1, h.2.symm⟩)))
        go_wp2
        go_ret
        exact ⟨by rw [HS.out]; rfl, below_drewN (hB.alloc hsz _) _⟩
      ·have q3 := in_t k3
       have HS := Lib.hid (HNO.out (okEn_no3 k2 k3)); clear k2 k3
       go_wp2_with fail
       go_quiet ((go_at_call 95; exact Calls.quiet_of_same ((R1.out _).mono fun e w' h => ⟨h.1, h.2.symm⟩)))
       go_wp2
       go_ret
       exact ⟨by rw [HS.out]; rfl, below_drewN (hB.alloc hsz _) _⟩
   ·obtain ⟨j, rfl⟩ : ∃ j, k = j + 1 := ⟨k - 1, by omega⟩
    have p0 := (g j (by omega)).1
    obtain ⟨z, hz⟩ : ∃ z, z = L[j] := ⟨_, rfl⟩
    have HZ : Hid (L[j + 1 - 1] = z) := show _ = _ from hz.symm
    rw [← hz] at p0
    clear g hz h0
    have hk0 : decide ((0 : Int) < ((j + 1 : Nat) : Int)) = true := by simp
    obtain ⟨x, hx0⟩ : ∃ x, x = L[j + 1] := ⟨_, rfl⟩
    rw [← hx0] at c0 c1 c2 c3 HST HNO HNR
    clear hx0
    have R1 := Lib.hid (RN.out x.m)
    rcases hnm : nameB x.m.data.toList with _ | _
    ·rw [hnm] at R1
     have HS := Lib.hid (HNO.out (okEn_no1 hnm))
     clear hnm
     go_wp2_with fail
     go_quiet ((go_at_call 95; exact Calls.quiet_of_same ((R1.out _).mono fun e w' h => ⟨h.1, h.2.symm⟩)))
     go_wp2
     go_ret
     exact ⟨by rw [HS.out]; rfl, below_drewN (hB.alloc hsz _) _⟩
    ·rw [hnm] at R1
     have HNM := Lib.hid hnm; clear hnm
     by_cases hr : z.m.data.toList < x.m.data.toList
     ·have hrb : Op.bytesLess z.m.toList x.m.toList = true := by rw [less_eq]; exact decide_eq_true hr
      have HR := Lib.hid hr; clear hr
      by_cases k2 : x.kd = 2
      ·have q2 := in_f k2
       have K2 := Lib.hid k2; clear k2
       rcases hx : x.x with _ | _
       ·rw [hx] at c2
        have CL : True := trivial; clear hx
        by_cases h32 : x.k.size = 32
        ·have q5 := in_f (show (x.k.size : Int) = 32 by omega)
         have HS := Lib.hid (HST.out (okEn_iff.2 ⟨HNM.out, h32, .inl K2.out⟩) (fun _ => by rw [HZ.out]; exact HR.out))
         clear h32 CL
         go_wp2_with fail
         go_quiet ((go_at_call 95; exact Calls.quiet_of_same ((R1.out _).mono fun e w' h => ⟨h.1, h.2.symm⟩)))
         go_wp2
         go_roundw
         case rel => exact ⟨j + 2, by omega, by go_num, HS.out, below_drewN (hB.alloc hsz _) _⟩
         case measure => simp [intOf]; omega
        ·have q5 := in_t (show (x.k.size : Int) ≠ 32 by omega)
         have HS := Lib.hid (HNO.out (okEn_no2 h32))
         clear h32 CL
         go_wp2_with fail
         go_quiet ((go_at_call 95; exact Calls.quiet_of_same ((R1.out _).mono fun e w' h => ⟨h.1, h.2.symm⟩)))
         go_wp2
         go_ret
         exact ⟨by rw [HS.out]; rfl, below_drewN (hB.alloc hsz _) _⟩
       ·rw [hx] at c2
        have CL : True := trivial; clear hx
        by_cases h32 : x.k.size = 32
        ·have q5 := in_f (show (x.k.size : Int) = 32 by omega)
         have HS := Lib.hid (HST.out (okEn_iff.2 ⟨HNM.out, h32, .inl K2.out⟩) (fun _ => by rw [HZ.out]; exact HR.out))
         clear h32 CL
         go_wp2_with fail
         go_quiet ((go_at_call 95; exact Calls.quiet_of_same ((R1.out _).mono fun e w' h => ⟨h.1, h.2.symm⟩)))
         go_wp2
         go_roundw
         case rel => exact ⟨j + 2, by omega, by go_num, HS.out, below_drewN (hB.alloc hsz _) _⟩
         case measure => simp [intOf]; omega
        ·have q5 := in_t (show (x.k.size : Int) ≠ 32 by omega)
         have HS := Lib.hid (HNO.out (okEn_no2 h32))
         clear h32 CL
         go_wp2_with fail
         go_quiet ((go_at_call 95; exact Calls.quiet_of_same ((R1.out _).mono fun e w' h => ⟨h.1, h.2.symm⟩)))
         go_wp2
         go_ret
         exact ⟨by rw [HS.out]; rfl, below_drewN (hB.alloc hsz _) _⟩
      ·have q2 := in_t k2
       by_cases k3 : x.kd = 3
       ·have q3 := in_f k3
        have K3 := Lib.hid k3; clear k3
        rcases hx : x.x with _ | _
        ·rw [hx] at c2
         have HX := Lib.hid hx; clear hx k2
         have CL : True := trivial
         by_cases h32 : x.k.size = 32
         ·have q5 := in_f (show (x.k.size : Int) = 32 by omega)
          have HS := Lib.hid (HST.out (okEn_iff.2 ⟨HNM.out, h32, .inr ⟨K3.out, HX.out⟩⟩) (fun _ => by rw [HZ.out]; exact HR.out))
          clear h32 CL
          go_wp2_with fail
          go_quiet ((go_at_call 95; exact Calls.quiet_of_same ((R1.out _).mono fun e w' h => ⟨h.1, h.2.symm⟩)))
          go_wp2
          go_roundw
          case rel => exact ⟨j + 2, by omega, by go_num, HS.out, below_drewN (hB.alloc hsz _) _⟩
          case measure => simp [intOf]; omega
         ·have q5 := in_t (show (x.k.size : Int) ≠ 32 by omega)
          have HS := Lib.hid (HNO.out (okEn_no2 h32))
          clear h32 CL
          go_wp2_with fail
          go_quiet ((go_at_call 95; exact Calls.quiet_of_same ((R1.out _).mono fun e w' h => ⟨h.1, h.2.symm⟩)))
          go_wp2
          go_ret
          exact ⟨by rw [HS.out]; rfl, below_drewN (hB.alloc hsz _) _⟩
        ·rw [hx] at c2
         have HS := Lib.hid (HNO.out (okEn_no4 k2 hx)); clear hx k2
         go_wp2_with fail
         go_quiet ((go_at_call 95; exact Calls.quiet_of_same ((R1.out _).mono fun e w' h => ⟨h.1, h.2.symm⟩)))
         go_wp2
         go_ret
         exact ⟨by rw [HS.out]; rfl, below_drewN (hB.alloc hsz _) _⟩
       ·have q3 := in_t k3
        have HS := Lib.hid (HNO.out (okEn_no3 k2 k3)); clear k2 k3
        go_wp2_with fail
        go_quiet ((go_at_call 95; exact Calls.quiet_of_same ((R1.out _).mono fun e w' h => ⟨h.1, h.2.symm⟩)))
        go_wp2
        go_ret
        exact ⟨by rw [HS.out]; rfl, below_drewN (hB.alloc hsz _) _⟩
     ·have hrb : Op.bytesLess z.m.toList x.m.toList = false := by rw [less_eq]; exact decide_eq_false hr
      have HS := Lib.hid (HNR.out (by omega) (by rw [HZ.out]; exact hr))
      clear hr
      go_wp2_with fail
      go_quiet ((go_at_call 95; exact Calls.quiet_of_same ((R1.out _).mono fun e w' h => ⟨h.1, h.2.symm⟩)))
      go_wp2
      go_ret
      exact ⟨by rw [HS.out]; rfl, below_drewN (hB.alloc hsz _) _⟩
  ·have HS := Lib.hid (fitDir_all HN.out (by omega))
   go_wp2
   go_ret
   exact ⟨by rw [HS.out]; rfl, hB⟩
end Go.Proofs.YtlccihidedfemaaGreatDoor
set_option linter.unusedVariables false
namespace Go.Proofs.YtlccihidedfemaaGreatDoor
open Go.RowKit Go.Shelf
theorem sizeBuilder : (Tryz.prog.info? 154).map (fun i => i.size) = some 2 := by kernel_rfl
theorem infoByte : (Tryz.prog.info? 5).map (fun i => (i.zero, i.size, i.bytes)) = some (some (.int .u8 0), 1, 1) := by kernel_rfl
theorem liesBuilder : liesAt Tryz.prog Tryz.prog.depth 154 (2 / Tryz.prog.cellsOf 154) 0 154 1 = true := by kernel_rfl
set_option maxHeartbeats 1000000 in
set_option maxRecDepth 100000 in
theorem copyCheck_used (b : Nat) (w : World) (h0 : w.cell? ⟨b, 0, none⟩ = some (.pointer (some ⟨b, 0, none⟩))) :
  Calls Tryz.prog 146 #[.pointer (some ⟨b, 0, none⟩)] w fun e w' => e = .returned (.tuple #[]) ∧ w' = w := by
 obtain ⟨j, hj, _⟩ := Option.map_eq_some_iff.1 sizeBuilder
 go_enter Tryz.func146, Tryz.ntmps146
 go_wp2
 rw [Lib.run_neq_ptr_same w _ Tryz.underlying152 hj]
 go_wp2
 go_end0
 exact ⟨rfl, rfl⟩
set_option maxHeartbeats 1000000 in
set_option maxRecDepth 100000 in
theorem copyCheck_fresh (b : Nat) (w : World) (h0 : w.cell? ⟨b, 0, none⟩ = some (.pointer none)) (hsh : w.shape? b = some (154, 2)) (hfz : w.frozen? ⟨b, 0, none⟩ = false) :
  Calls Tryz.prog 146 #[.pointer (some ⟨b, 0, none⟩)] w fun e w' => e = .returned (.tuple #[]) ∧ w' = w.setCell ⟨b, 0, none⟩ (.pointer (some ⟨b, 0, none⟩)) := by
 obtain ⟨j, hj, hjs⟩ := Option.map_eq_some_iff.1 sizeBuilder
 have hl := liesBuilder
 go_enter Tryz.func146, Tryz.ntmps146
 go_wp2
 rw [Lib.run_to_unsafe w ⟨b, 0, none⟩ Tryz.underlying152 Tryz.underlying180 hj (by rw [hjs]; decide) hsh (Nat.zero_lt_succ 1)]
 simp only [Result.andThen]
 rw [Oper.upon_value]
 go_wp2
 rw [run_callFunc_extern Tryz.func160 (by kernel_rfl) (by kernel_rfl) (by kernel_rfl) (e := Extern.AbiNoEscape.same) (by kernel_rfl)]
 rw [Lib.run_noEscape]
 simp only [Result.andThen]
 rw [Oper.upon_value]
 go_wp2
 rw [Lib.run_from_unsafe w ⟨b, 0, none⟩ Tryz.underlying180 Tryz.underlying152 hj hsh hl]
 simp only [Result.andThen]
 rw [Oper.upon_value]
 go_wp2
 go_end0
 exact ⟨rfl, rfl⟩
theorem copyCheck_k (B b : Nat) (bs : List Value) (w : World) (h : Lib.IsBuilderF 154 5 B b bs w) :
  Calls Tryz.prog 146 #[.pointer (some ⟨b, 0, none⟩)] w fun e w' => e = .returned (.tuple #[]) ∧ (Lib.BuilderAtF 154 5 B b (.pointer (some ⟨b, 0, none⟩)) bs w' ∧ Below B w w' ∧ Lib.OthersKept 5 (some b) w w') := by
 rcases h with h | h
 ·refine (copyCheck_fresh b w h.cell0 h.shape h.frozen0).mono ?_
  rintro e w' ⟨rfl, rfl⟩
  exact ⟨rfl, h.used _, (Below.refl B w).setCell (p := ⟨b, 0, none⟩) h.1 _, (Lib.OthersKept.refl _ _ w).setCell ⟨b, 0, none⟩ rfl _⟩
 ·refine (copyCheck_used b w h.cell0).mono ?_
  rintro e w' ⟨rfl, rfl⟩
  exact ⟨rfl, h, Below.refl B _, Lib.OthersKept.refl _ _ _⟩
set_option maxHeartbeats 2000000 in
set_option maxRecDepth 100000 in
theorem WriteByte_k (B b : Nat) (bs : List Value) (c : Int) (w : World) (h : Lib.IsBuilderF 154 5 B b bs w) (hlen : bs.length + 1 ≤ 140737488355328) (hBw : B ≤ w.heap.size) :
  Calls Tryz.prog 148 #[.pointer (some ⟨b, 0, none⟩), .int .u8 c] w fun e w' => e = .returned .nilIface ∧ (Lib.BuilderAtF 154 5 B b (.pointer (some ⟨b, 0, none⟩)) (bs ++ [.int .u8 c]) w' ∧ Below B w w' ∧ Lib.OthersKept 5 (some b) w w') := by
 obtain ⟨i0, hi, hz0, hz1, hz2⟩ := info_parts infoByte
 go_enter Tryz.func148, Tryz.ntmps148
 go_wp2_with (go_at_call 146; refine (copyCheck_k B b bs _ h).mono ?_)
 rintro e w1 ⟨rfl, h1, hb1, hk1⟩
 obtain ⟨hB, v, hbk, hown, hne⟩ := h1
 have c0 : w1.cell? ⟨b, 0, none⟩ = some (.pointer (some ⟨b, 0, none⟩)) := by rw [Lib.cell_of_heap hbk]; rfl
 have c1 : w1.cell? ⟨b, 1, none⟩ = some v := by rw [Lib.cell_of_heap hbk]; rfl
 go_wp2_with (at_builtin; refine wpList_append_ownF _ rfl _ _ 83 rfl B 5 i0 (.int .u8 0) 1 1 Tryz.underlying83 hi hz0 hz1 hz2 rfl (by decide) _ _ _ rfl (hown.alloc _) ⟨w1.heap.size, 0, none⟩ 1 1 [.int .u8 c] rfl rfl ?c1 ?c2 ?c3 ?c4 ?c5 ?_)
 case c1 =>
  intro j u hj
  match j, hj with
  | 0, hj => simp at hj; subst hj; simp [Addr.add]
 case c2 => intro u hu; simp at hu; subst hu; rfl
 case c3 => unfold maxLen; omega
 case c4 => omega
 case c5 => have := hb1.size; simp; omega
 intro v' w2 hown' hgrow _
 have hlt : b < w1.heap.size := (Array.getElem?_eq_some_iff.1 hbk).1
 have hb2 : w2.heap[b]? = some (.cells #[.pointer (some ⟨b, 0, none⟩), v] 154 (0, 0)) := by
  rw [hgrow.block b (by simp; omega) (fun e => hne e.symm), Lib.alloc_old w1 _ b hlt]
  exact hbk
 have d0 : w2.cell? ⟨b, 0, none⟩ = some (.pointer (some ⟨b, 0, none⟩)) := by rw [Lib.cell_of_heap hb2]; rfl
 have d1 : w2.cell? ⟨b, 1, none⟩ = some v := by rw [Lib.cell_of_heap hb2]; rfl
 have f1 : w2.frozen? ⟨b, 1, none⟩ = false := Lib.frozen_of_heap hb2 1
 obtain ⟨g, cap, rfl⟩ : ∃ g cap, v' = .slice (some ⟨g, 0, none⟩) (bs.length + 1) cap := by
  rcases hown'.2 with ⟨_, h0⟩ | ⟨g, cap, cur, fz, hv, _⟩
  ·omega
  ·exact ⟨g, cap, hv⟩
 go_wp2
 go_ret
 refine ⟨rfl, ?_, ?_, ((hk1.alloc _).grown hgrow (Lib.ownsRowF_kind (hown.alloc _))).setCell ⟨b, 1, none⟩ rfl _⟩
 ·exact Lib.BuilderAtF.put (T := 154) (e := 5) hB hb2 (bs' := bs ++ [.int .u8 c]) (by simpa using hown') (by decide)
 ·exact ((hb1.alloc (by have := hb1.size; omega) _).grown hgrow (by have := hb1.size; simp; omega) (fun k hk => (hown.lt k hk).1)).setCell (p := ⟨b, 1, none⟩) hB _
theorem cellsByte : Tryz.prog.cellsOf 5 = 1 := by kernel_rfl
set_option maxHeartbeats 2000000 in
set_option maxRecDepth 100000 in
theorem String_full_k (B b : Nat) (l : List UInt8) (w : World) (h : Lib.IsBuilderF 154 5 B b (Lib.byteCells l) w) (h0 : l ≠ []) :
  Calls Tryz.prog 128 #[.pointer (some ⟨b, 0, none⟩)] w fun e w' => e = .returned (.string ⟨l.toArray⟩) ∧ (Lib.IsBuilderF 154 5 B b (Lib.byteCells l) w' ∧ Below B w w' ∧ Lib.OthersKept 5 (some b) w w') := by
 obtain ⟨p, hp, hAt⟩ : ∃ p, (p = .pointer none ∨ p = .pointer (some ⟨b, 0, none⟩)) ∧ Lib.BuilderAtF 154 5 B b p (Lib.byteCells l) w := by
  rcases h with h | h
  ·exact ⟨_, .inl rfl, h⟩
  ·exact ⟨_, .inr rfl, h⟩
 obtain ⟨hB, v, hbk, hown, hne⟩ := hAt
 have hl0 : l.length ≠ 0 := by simpa using h0
 rw [Lib.byteCells_length] at hown
 obtain ⟨g, cap, cur, fz, rfl, hbg, hg, hfz, hnc, hcm, hcs, htake⟩ : ∃ g cap cur fz, v = .slice (some ⟨g, 0, none⟩) l.length cap ∧ B ≤ g ∧ w.heap[g]? = some (.cells cur 5 fz) ∧ fz.2 ≤ l.length * 1 ∧ l.length ≤ cap ∧ cap ≤ maxLen ∧ cur.size = cap * 1 ∧ cur.toList.take (l.length * 1) = Lib.byteCells l := by
  rcases hown.2 with ⟨_, hz⟩ | ⟨g, cap, cur, fz, hv, r⟩
  ·exact absurd hz hl0
  ·exact ⟨g, cap, cur, fz, hv, r⟩
 have c1 : w.drew.cell? ⟨b, 1, none⟩ = some (.slice (some ⟨g, 0, none⟩) l.length cap) := by
  have : w.drew.heap[b]? = some (.cells #[p, .slice (some ⟨g, 0, none⟩) l.length cap] 154 (0, 0)) := hbk
  rw [Lib.cell_of_heap this]; rfl
 have hSD : (Builtin.unsafeSliceData_ #[83] 175 #[.slice (some ⟨g, 0, none⟩) l.length cap]).run Tryz.prog w.drew = .ok (.pointer (some ⟨g, 0, none⟩)) w.drew :=
  Lib.run_unsafeSliceData_row _ _ _ _ _ _ (by omega)
 have hUS : (Builtin.unsafeString_ #[175, 3] 9 #[.pointer (some ⟨g, 0, none⟩), .int .i64 l.length]).run Tryz.prog w.drew = .ok (.string ⟨l.toArray⟩) (w.drew.freeze ⟨g, 0, none⟩ l.length) := by
  refine Lib.run_unsafeString_row w.drew 175 3 9 5 Tryz.underlying175 cellsByte g cur.size (by have hg' : w.drew.heap[g]? = some (.cells cur 5 fz) := hg; simp [World.shape?, hg']) l h0 (by omega) (by unfold maxLen at hcm; omega) ?_
  intro j x hx
  have := hown.cells (g := g) rfl j (.int .u8 x.toNat) (by simp [Lib.byteCells, hx])
  exact this
 have hkeep : Lib.IsBuilderF 154 5 B b (Lib.byteCells l) (w.drew.freeze ⟨g, 0, none⟩ l.length) := by
  have hA : Lib.BuilderAtF 154 5 B b p (Lib.byteCells l) w.drew := ⟨hB, _, hbk, by rw [Lib.byteCells_length]; exact hown, hne⟩
  have hF := hA.froze (g := g) (cap := cap) (by rw [Lib.byteCells_length]; exact c1)
  rw [Lib.byteCells_length] at hF
  rcases hp with rfl | rfl
  ·exact .inl hF
  ·exact .inr hF
 go_enter Tryz.func128, Tryz.ntmps128
 go_wp2
 go_region
 all_goals (go_wp2; go_ret; exact ⟨rfl, hkeep, Lib.below_freeze (Below.drew (Below.refl B w)) (p := ⟨g, 0, none⟩) hbg _, ((Lib.OthersKept.refl _ _ w).drew).freeze ⟨g, 0, none⟩ _ ⟨cur, fz, hg⟩⟩)
set_option maxHeartbeats 4000000 in
set_option maxRecDepth 100000 in
theorem stringslite_Clone (s : ByteArray) (w : World) (hlim : s.size ≤ 281474976710656) :
  Calls Tryz.prog 134 #[.string s] w fun e w' => e = .returned (.string s) ∧ Below w.heap.size w w' := by
 by_cases h0 : s.size = 0
 ·have hs : s = ⟨#[]⟩ := by
   apply ByteArray.ext
   exact Array.eq_empty_of_size_eq_zero h0
  subst hs
  go_enter Tryz.func134, Tryz.ntmps134
  go_wp2
  go_ret
  exact ⟨rfl, Below.refl _ _⟩
 ·obtain ⟨i0, hi, hz0, hz1, hz2⟩ := info_parts infoByte
  have hinfo : (Tryz.prog.info? 5).map (fun i => i.size) = some 1 := by rw [hi]; simp [hz1]
  obtain ⟨M, hM⟩ : ∃ M, M = madeCells (Value.int .u8 0).cells (((s.size : Nat) : Int).toNat * i0.size) := ⟨_, rfl⟩
  have hMs : M.size = s.size := by rw [hM, size_madeCells, hz1]; simp
  have hmk : ∀ W : World, (Instr.makeSlice 83 (.int .i64 (s.size : Int)) (.int .i64 (s.size : Int))).run Tryz.prog W = .ok (.slice (some ⟨W.heap.size, 0, none⟩) s.size s.size) (W.alloc (.cells M 5)) := fun W => by
   have h := run_make (P := Tryz.prog) W 83 5 i0 (.int .u8 0) Tryz.underlying83 hi hz0 .i64 .i64 (s.size : Int) (s.size : Int) (by omega) (by omega) (by rw [hz2]; omega) (by omega)
   rw [← hM] at h
   simpa using h
  clear hM
  have hcp := Lib.run_copy_row_string (P := Tryz.prog) (w.alloc (.cells M 5)) 83 9 3 5 w.heap.size 0 s.size s.size s M 5 Tryz.underlying83 hinfo (heap_alloc_new w _) (Nat.le_refl _) (by omega)
  obtain ⟨Y, hY⟩ : ∃ Y, Y = (M.toList.take 0 ++ Lib.byteCells s.data.toList ++ M.toList.drop (0 + s.size)).toArray := ⟨_, rfl⟩
  rw [← hY] at hcp
  have hYl : Y.toList = Lib.byteCells s.data.toList := by
   rw [hY, List.toList_toArray, List.take_zero, List.nil_append, List.drop_of_length_le (by rw [Array.length_toList]; omega), List.append_nil]
  have hYs : Y.size = s.size := by rw [← Array.length_toList, hYl, Lib.byteCells_length, ← Lib.size_eq]
  have hgY : ((w.alloc (.cells M 5)).setRow w.heap.size Y).heap[w.heap.size]? = some (.cells Y 5 (0, 0)) := setRow_heap _ _ M _ 5 (0, 0) (heap_alloc_new w _)
  have hne : s.data.toList ≠ [] := fun e => h0 (by rw [Lib.size_eq, e]; rfl)
  have hUS := Lib.run_unsafeString_row (P := Tryz.prog) ((w.alloc (.cells M 5)).setRow w.heap.size Y) 175 3 9 5 Tryz.underlying175 cellsByte w.heap.size Y.size (by unfold World.shape?; rw [hgY]) s.data.toList hne (by rw [← Lib.size_eq]; omega) (by rw [← Lib.size_eq]; omega)
   (fun j x hx => Lib.cells_of_row hgY Y.size j _ (by rw [List.take_of_length_le (by rw [Array.length_toList]; exact Nat.le_refl _), hYl]; simp [Lib.byteCells, hx]))
  rw [← Lib.size_eq] at hUS
  clear hY
  go_enter Tryz.func134, Tryz.ntmps134
  go_wp2
  go_ret
  have hb1 : Below w.heap.size w (w.alloc (.cells M 5)) := (Below.refl _ w).alloc (Nat.le_refl _) _
  have hb2 : Below w.heap.size (w.alloc (.cells M 5)) ((w.alloc (.cells M 5)).setRow w.heap.size Y) := ⟨rfl, rfl, rfl, by simp, fun k hk => setRow_other _ _ _ _ (by omega)⟩
  exact ⟨rfl, Lib.below_freeze (hb1.trans hb2) (p := ⟨w.heap.size, 0, none⟩) (Nat.le_refl _) _⟩
end Go.Proofs.YtlccihidedfemaaGreatDoor
set_option linter.unusedVariables false
namespace Go.Proofs.YtlccihidedfemaaGreatDoor
open Go.RowKit
def left (v : Nat) (pre : List UInt8) (k r : Nat) : Prop := r < 128 ^ (k + 1) ∧ U64 r ∧ vput v = pre ++ vputF (k + 1) r
theorem left_step {v : Nat} {pre : List UInt8} {k r : Nat} (h : left v pre k r) (hr : 128 ≤ r) : left v (pre ++ [UInt8.ofNat (r % 128 + 128)]) (k - 1) (r / 128) := by
 obtain ⟨h1, h2, h3⟩ := h
 obtain ⟨j, rfl⟩ : ∃ j, k = j + 1 := by
  cases k with
  | zero => simp at h1; omega
  | succ j => exact ⟨j, rfl⟩
 refine ⟨?_, h2.div _, ?_⟩
 ·rw [Nat.add_sub_cancel, Nat.div_lt_iff_lt_mul (by decide)]; rw [Nat.pow_succ] at h1; exact h1
 ·rw [h3, vputF_hi hr]; simp
theorem left_pre {v : Nat} {pre : List UInt8} {k r : Nat} (h : left v pre k r) (hr : 128 ≤ r) : pre ++ [UInt8.ofNat (r % 128 + 128)] <+: vput v := by
 rw [(left_step h hr).2.2]; exact List.prefix_append _ _
theorem left_len {v : Nat} {pre : List UInt8} {k r : Nat} (h : left v pre k r) : pre.length ≤ 9 := by
 have h1 := vput_len v
 have h2 := vputF_pos k r
 rw [h.2.2, List.length_append] at h1
 omega
theorem left_end {v : Nat} {pre : List UInt8} {k r : Nat} (h : left v pre k r) (hr : r < 128) : vput v = pre ++ [UInt8.ofNat r] := by rw [h.2.2, vputF_lo hr]
theorem ownsRow_slice {w : World} {base : Nat} {e : TypeId} {v : Value} {n : Nat} {xs : List Value} (h : w.ownsRow base e 1 v (n + 1) xs) : ∃ g cap, v = .slice (some ⟨g, 0, none⟩) (n + 1) cap := by
 rcases h.2 with ⟨_, h0⟩ | ⟨g, cap, _, rfl, _⟩
 ·omega
 ·exact ⟨g, cap, rfl⟩
set_option maxRecDepth 100000 in
set_option maxHeartbeats 2000000 in
theorem refPut_any (v : Nat) (hv : U64 v) (w : World) :
  Calls Tryz.prog 71 #[.int .u64 v] w fun e w' => e = .returned (.string ⟨(vput v).toArray⟩) ∧ Below w.heap.size w w' := by
 obtain ⟨i0, hi, hz0, hz1, hz2⟩ := info_parts infoByte
 go_enter Tryz.func71, Tryz.ntmps71
 go_wp2
 go_loopw [0, 3] (fun t s wr => ∃ (pre : List UInt8) (k r : Nat), t = .int .u64 r ∧ left v pre k r ∧ wr.ownsRow w.heap.size 5 1 s pre.length (Lib.byteCells pre) ∧ Below w.heap.size w wr)
  (fun t s _ => (intOf t).toNat)
 case atStart => exact ⟨[], 9, v, rfl, ⟨by unfold U64 at hv; omega, hv, rfl⟩, World.ownsRow_nil _ _ _ _, Below.refl _ _⟩
 case round =>
  obtain ⟨pre, k, r, rfl, hl, hown, hB⟩ := hrel
  have hu : U64 r := hl.2.1
  have hp9 := left_len hl
  have hsz := hB.size
  by_cases h : 128 ≤ r
  ·have hmod : (0 : Int) ≤ (r : Int) % 128 ∧ (r : Int) % 128 < 128 := by omega
   go_wp2_with (at_builtin; refine wpList_append_own _ rfl _ _ 83 rfl w.heap.size 5 i0 (.int .u8 0) 1 1 Tryz.underlying83 hi hz0 hz1 hz2 rfl (by decide) _ _ _ rfl (hown.alloc _) ⟨wr.heap.size, 0, none⟩ 1 1 [.int .u8 ((r : Int) % 128 + 128)] rfl rfl ?c1 ?c2 ?c3 ?c4 ?c5 ?_)
   case c1 =>
    intro j u hj
    match j, hj with
    | 0, hj => simp at hj; subst hj; simp [Addr.add]
   case c2 => intro u hu; simp at hu; subst hu; rfl
   case c3 => unfold maxLen; omega
   case c4 => omega
   case c5 => simp; omega
   intro v' w1 hown' hgrow _
   obtain ⟨g, cap, rfl⟩ := ownsRow_slice hown'
   have hb1 : Below w.heap.size w w1 := (hB.alloc hsz _).grown hgrow (by simp; omega) (fun j hj => (hown.lt j hj).1)
   have hown2 : w1.ownsRow w.heap.size 5 1 (.slice (some ⟨g, 0, none⟩) (pre.length + 1) cap) (pre ++ [UInt8.ofNat (r % 128 + 128)]).length (Lib.byteCells (pre ++ [UInt8.ofNat (r % 128 + 128)])) := by
    rw [Lib.byteCells_append, List.length_append]
    have e : Lib.byteCells [UInt8.ofNat (r % 128 + 128)] = [Value.int .u8 ((r : Int) % 128 + 128)] := by
     simp [Lib.byteCells]; omega
    rw [e]; exact hown'
   have hl2 := left_step hl h
   clear hown hown' hgrow
   have hwd := hu.wrap_div 128
   simp only [Int.cast_ofNat_Int] at hwd
   go_wp2
   go_roundw
   case rel => exact ⟨_, _, _, by go_num, hl2, hown2, hb1⟩
   case measure => simp [intOf]; omega
  ·have hlt : r < 128 := by omega
   have hfin := left_end hl hlt
   have HF := Lib.hid hfin; clear hfin
   go_wp2_with (at_builtin; refine wpList_append_own _ rfl _ _ 83 rfl w.heap.size 5 i0 (.int .u8 0) 1 1 Tryz.underlying83 hi hz0 hz1 hz2 rfl (by decide) _ _ _ rfl (hown.alloc _) ⟨wr.heap.size, 0, none⟩ 1 1 [.int .u8 (r : Int)] rfl rfl ?c1 ?c2 ?c3 ?c4 ?c5 ?_)
   case c1 =>
    intro j u hj
    match j, hj with
    | 0, hj => simp at hj; subst hj; simp [Addr.add]
   case c2 => intro u hu; simp at hu; subst hu; rfl
   case c3 => unfold maxLen; omega
   case c4 => omega
   case c5 => simp; omega
   intro v' w1 hown' hgrow _
   obtain ⟨g, cap, rfl⟩ := ownsRow_slice hown'
   have hb1 : Below w.heap.size w w1 := (hB.alloc hsz _).grown hgrow (by simp; omega) (fun j hj => (hown.lt j hj).1)
   have hown2 : w1.ownsRow w.heap.size 5 1 (.slice (some ⟨g, 0, none⟩) (pre.length + 1) cap) (pre.length + 1) (Lib.byteCells (vput v)) := by
    have e : Lib.byteCells [UInt8.ofNat r] = [Value.int .u8 (r : Int)] := by
     simp [Lib.byteCells]; omega
    rw [HF.out, Lib.byteCells_append, e]; exact hown'
   have hlv : (vput v).length = pre.length + 1 := by rw [HF.out]; simp
   have hcv := run_convert_bytes_back (P := Tryz.prog) w1 83 9 5 ⟨g, 0, none⟩ cap (vput v) Tryz.underlying83 Tryz.underlying5 Tryz.underlying9
    (fun j hj => hown2.cells (g := g) rfl j _ (by simp [Lib.byteCells, hj]))
   rw [hlv] at hcv
   clear hown hown' hgrow hown2 hlv
   go_wp2
   go_ret
   exact ⟨rfl, hb1⟩
end Go.Proofs.YtlccihidedfemaaGreatDoor
set_option linter.unusedVariables false
namespace Go.Proofs.YtlccihidedfemaaGreatDoor
open Go.RowKit Go.Shelf
attribute [local go_sem] Oper.semAt_some
abbrev encB (c : UInt8) : Value := .int .u8 c.toNat
set_option maxHeartbeats 1000000 in
set_option maxRecDepth 100000 in
theorem numberBytes1_stops (F : Fence) (n : Nat) (hf : F.fn 161) (hro : F.round = none) (hn : 1 ≤ n) (Bn : Nat) (Kp : World → World → Prop) (v : Nat) (hv : U64 v) (w : World) (hB : Bn < w.heap.size)
  (hc : w.cell? ⟨Bn, 0, none⟩ = some (.int .u64 v)) :
  SeqStopsK F n Tryz.prog 161 #[.pointer (some ⟨Bn, 0, none⟩)] (fun c => #[encB c]) Kp (fun xs => xs = vput v) (fun pre => pre <+: vput v) (vput v).length w := fun l J Jx W hW hJ hJx hY h0 => by
 have hc1 : W.cell? ⟨Bn, 0, none⟩ = some (.int .u64 v) := (hW.cell (p := ⟨Bn, 0, none⟩) hB).trans hc
 refine callsIn_of_wp Tryz.func161 rfl hf ?_ hro
 simp only [Tryz.ntmps161, List.size_toArray, List.length_cons, List.length_nil, Nat.reduceAdd, Nat.reduceSub, Array.replicate_succ, Array.replicate_zero, List.push_toArray, List.append_toArray, List.nil_append, List.cons_append]
 gi_wp2
 gi_loopw [3] (fun p wr => ∃ (pre : List UInt8) (k r : Nat), p = .int .u64 r ∧ left v pre k r ∧ J pre wr)
  (fun p wr => (intOf p).toNat)
 case atStart =>
  exact ⟨[], 9, v, rfl, ⟨by unfold U64 at hv; omega, hv, rfl⟩, h0⟩
 case round =>
  obtain ⟨pre, k, r, rfl, hl, hJs⟩ := hrel
  have hu : U64 r := hl.2.1
  by_cases h : 128 ≤ r
  ·have hY1 := hY pre (UInt8.ofNat (r % 128 + 128)) wr hJs (by rw [hl.2.2, vputF_hi h]; simp)
   obtain ⟨fn, tmps, assign, body, hy, hR⟩ := hY1
   simp only [encB] at hy
   rw [← low_byte hu] at hy
   clear hY
   gi_wp2
   refine hR.mono ?_
   rintro e W3 (⟨rfl, hJ3, hk3⟩ | ⟨rfl, hJx3⟩)
   ·gi_wp2
    go_roundw
    case rel => 
     refine ⟨_, k - 1, r / 128, by go_num, left_step hl h, hJ3⟩
    case measure => simp [intOf]; omega
   ·gi_wp2
    refine bodyPost_ret (results_none rfl _ _ _) rfl ?_
    exact ⟨⟨_, rfl⟩, .inr ⟨_, left_pre hl h, hJx3⟩⟩
  ·have hlt : r < 128 := by omega
   have hY1 := hY pre (UInt8.ofNat r) wr hJs (by rw [hl.2.2, vputF_lo hlt]; simp)
   obtain ⟨fn, tmps, assign, body, hy, hR⟩ := hY1
   simp only [encB] at hy
   rw [last_byte hlt] at hy
   clear hY
   have hfin : vput v = pre ++ [UInt8.ofNat r] := by rw [hl.2.2, vputF_lo hlt]
   have Hfin := Lib.hid hfin; clear hfin
   gi_wp2
   refine hR.mono ?_
   rintro e W3 (⟨rfl, hJ3, hk3⟩ | ⟨rfl, hJx3⟩)
   ·gi_wp2
    go_end0
    exact ⟨⟨_, rfl⟩, .inl ⟨_, Hfin.out.symm, hJ3⟩⟩
   ·gi_wp2
    go_end0
    exact ⟨⟨_, rfl⟩, .inr ⟨_, by rw [Hfin.out]; exact List.prefix_refl _, hJx3⟩⟩
theorem numberBytes_any (v : Nat) (w : World) :
  Calls Tryz.prog 147 #[.int .u64 v] w fun e w' => e = .returned (.func (.func 161) #[] #[.pointer (some ⟨w.heap.size, 0, none⟩)]) ∧ w' = w.alloc (.cells #[.int .u64 v] 70) := by
 go_enter Tryz.func147, Tryz.ntmps147
 go_wp2
 go_ret
 exact ⟨rfl, rfl⟩
set_option maxRecDepth 100000 in
set_option maxHeartbeats 2000000 in
theorem Put_any (v : Nat) (hv : U64 v) (w : World) :
  Calls Tryz.prog 127 #[.int .u64 v] w fun e w' => e = .returned (.string ⟨(vput v).toArray⟩) ∧ Below w.heap.size w w' := by
 refine (callsIn_wide (n := 5)).1 ?_
 have hro : Fence.wide.round = none := rfl
 refine callsIn_of_wp_marks Tryz.func127 rfl trivial ?_ hro
 simp only [Tryz.ntmps127, List.size_toArray, List.length_cons, List.length_nil, Nat.reduceAdd, Nat.reduceSub, Array.replicate_succ, Array.replicate_zero, List.push_toArray, List.append_toArray, List.nil_append, List.cons_append]
 gi_wp2_with (refine ⟨trivial, ?_⟩; gi_at_call 147; refine (callsIn_wide.2 (numberBytes_any v _)).mono ?_; rintro e w' ⟨rfl, rfl⟩)
 have hc := (Boxed.new (w.alloc (.cells #[.pointer none, .slice none 0 0] 154)) 70 (.int .u64 v)).cell
 rw [World.size_alloc] at hc
 have hB0 : Below w.heap.size w ((w.alloc (.cells #[.pointer none, .slice none 0 0] 154)).alloc (.cells #[.int .u64 v] 70)) := ((Below.refl _ w).alloc (Nat.le_refl _) _).alloc (by simp) _
 have hI0 : Lib.IsBuilderF 154 5 w.heap.size w.heap.size [] ((w.alloc (.cells #[.pointer none, .slice none 0 0] 154)).alloc (.cells #[.int .u64 v] 70)) :=
  (Lib.IsBuilderF.of (Lib.fresh_isBuilder 154 5 w)).alloc _
 refine wpIn_rangeFunc_ownF hro (by decide) (gf := 161) (lb := #[.pointer (some ⟨w.heap.size + 1, 0, none⟩)]) rfl trivial (enters_of Tryz.func161 (by kernel_rfl) rfl)
  (numberBytes1_stops Fence.wide 4 trivial hro (by decide) (w.heap.size + 1) (Below w.heap.size) v hv _ (by simp) hc) belowK_t (belowK_b (by simp; omega)) (Below.refl _ _) (fun _ => rfl)
  (fun pre W => Lib.IsBuilderF 154 5 w.heap.size w.heap.size (Lib.byteCells pre) W ∧ Below w.heap.size w W)
  (fun _ _ _ => False)
  (OwnFrom.and (Own.from (isBuilderF_own 154 5 w.heap.size w.heap.size (fun pre : List UInt8 => Lib.byteCells pre)) _) (ownFrom_below (Nat.le_refl _) (by simp; omega)))
  (fun _ _ _ _ _ hs _ _ => hs)
  ⟨hI0, hB0⟩
  (fun x => { tmps := #[.int .u64 v, undef, .string { data := #[] }, .pointer (some ⟨w.heap.size, 0, none⟩), encB x, .int .u64 v, .func (.func 161) #[] #[.pointer (some ⟨w.heap.size + 1, 0, none⟩)], encB x, undef, undef, undef], defers := [] }) ?assign ?body ?done ?stop
 case assign =>
  intro l x W K hK
  gi_wp2
  exact hK
 case body =>
  rintro l pre x W ⟨hI, hB⟩ hlen
  have hl10 := vput_len v
  have hcc : (Lib.byteCells pre).length + 1 ≤ 140737488355328 := by rw [Lib.byteCells_length]; omega
  have hbw := hB.size
  gi_wp2_with (refine ⟨trivial, ?_⟩; gi_at_call 148; refine (CallsIn.inRound l (callsIn_wide.2 (WriteByte_k w.heap.size w.heap.size (Lib.byteCells pre) _ W hI hcc hbw))).mono ?_; rintro e w' ⟨rfl, hb', hbel, hoth⟩)
  refine ⟨keeps_of_others hoth hbel.size (isBuilderF_cells hI), hbel, .inr ?_, hB.trans hbel⟩
  rw [Lib.byteCells_append]; exact hb'
 case done =>
  rintro D xs W hD rfl ⟨hI, hB⟩ hK
  have hne : vput v ≠ [] := fun h => by have := vput_pos v; rw [h] at this; simp at this
  gi_wp2_with (refine ⟨trivial, ?_⟩; gi_at_call 128; refine (callsIn_wide.2 (String_full_k w.heap.size w.heap.size (vput v) W hI hne)).mono ?_; rintro e w' ⟨rfl, hI', hbel, hoth⟩)
  have hK' := hoth D _ hK (fun h => by cases h; obtain ⟨o, ho, hc⟩ := isBuilderF_cells hI; rw [hK] at ho; cases ho; cases hc) (fun _ _ h => by cases h)
  refine ⟨by simp, .inl ⟨_, _, rfl, run_takeDeferred hK', ?_⟩⟩
  exact ⟨_, results_tmp rfl _ _ _, rfl, (hB.trans hbel).trans (belowK_b (w := w) (Nat.le_refl _) w' D _ _ (by simp at hD; omega) hK' rfl rfl)⟩
 case stop =>
  rintro D c pre W _ _ h _
  exact h.elim
end Go.Proofs.YtlccihidedfemaaGreatDoor
set_option linter.unusedVariables false
namespace Go.Proofs.YtlccihidedfemaaGreatDoor
open Go.RowKit
theorem bytes_append (a : List UInt8) (s : ByteArray) : (⟨a.toArray⟩ : ByteArray) ++ s = ⟨(a ++ s.data.toList).toArray⟩ := by
 apply ByteArray.ext
 rw [ByteArray.data_append]
 simp
set_option maxRecDepth 100000 in
theorem PutText_any (s : ByteArray) (hs : s.size ≤ maxLen) (w : World) :
  Calls Tryz.prog 129 #[.string s] w fun e w' => e = .returned (.string ⟨(vputText s.data.toList).toArray⟩) ∧ Below w.heap.size w w' := by
 have hsm : s.size ≤ 9223372036854775807 := by unfold maxLen at hs; omega
 have HS := Lib.hid (Lib.size_eq s)
 by_cases h : s.size ≤ 65536
 ·have hu : U64 s.size := by unfold U64; omega
  have hv : vputText s.data.toList = vput s.size ++ s.data.toList := by rw [vputText, if_neg (by rw [← HS.out]; omega), ← HS.out]
  have HV := Lib.hid hv; clear hv
  have hl := vput_len s.size
  have hsum : ¬ 9223372036854775807 < (vput s.size).length + s.size := by omega
  go_enter Tryz.func129, Tryz.ntmps129
  go_wp2_with (go_at_call 127; refine (Put_any _ hu _).mono ?_; rintro e w' ⟨rfl, hb⟩)
  go_ret
  exact ⟨by rw [HV.out]; exact congrArg (fun x => Ending.returned (.string x)) (bytes_append _ s), hb⟩
 ·have hv : vputText s.data.toList = [] := by rw [vputText, if_pos (by rw [← HS.out]; omega)]
  have HV := Lib.hid hv; clear hv
  go_enter Tryz.func129, Tryz.ntmps129
  go_wp2
  go_ret
  exact ⟨by rw [HV.out]; rfl, Below.refl _ _⟩
set_option maxRecDepth 100000 in
theorem refPutText_any (s : ByteArray) (hs : s.size ≤ maxLen) (w : World) :
  Calls Tryz.prog 72 #[.string s] w fun e w' => e = .returned (.string ⟨(vputText s.data.toList).toArray⟩) ∧ Below w.heap.size w w' := by
 have hsm : s.size ≤ 9223372036854775807 := by unfold maxLen at hs; omega
 have HS := Lib.hid (Lib.size_eq s)
 by_cases h : s.size ≤ 65536
 ·have hu : U64 s.size := by unfold U64; omega
  have hv : vputText s.data.toList = vput s.size ++ s.data.toList := by rw [vputText, if_neg (by rw [← HS.out]; omega), ← HS.out]
  have HV := Lib.hid hv; clear hv
  have hl := vput_len s.size
  have hsum : ¬ 9223372036854775807 < (vput s.size).length + s.size := by omega
  go_enter Tryz.func72, Tryz.ntmps72
  go_wp2_with (go_at_call 71; refine (refPut_any _ hu _).mono ?_; rintro e w' ⟨rfl, hb⟩)
  go_ret
  exact ⟨by rw [HV.out]; exact congrArg (fun x => Ending.returned (.string x)) (bytes_append _ s), hb⟩
 ·have hv : vputText s.data.toList = [] := by rw [vputText, if_pos (by rw [← HS.out]; omega)]
  have HV := Lib.hid hv; clear hv
  go_enter Tryz.func72, Tryz.ntmps72
  go_wp2
  go_ret
  exact ⟨by rw [HV.out]; rfl, Below.refl _ _⟩
theorem takeText_of {l : List UInt8} {n k e : Nat} (h : vtake l = (n, k, e)) :
  vtakeText l = if e ≠ 0 then ([], 0, e) else if 65536 < n then ([], 0, 4) else if l.length < k + n then ([], 0, 1) else ((l.drop k).take n, k + n, 0) := by
 rw [vtakeText, h]
theorem three_of {a b c d e f : Value} (h1 : b = e ∧ c = f) (h : a = d) : Ending.returned (.tuple #[a, b, c]) = .returned (.tuple #[d, e, f]) := by rw [h, h1.1, h1.2]
theorem piece_eq (s : ByteArray) (k n : Nat) : Value.string (s.extract k (k + n)) = .string ⟨((s.data.toList.drop k).take n).toArray⟩ := by
 rw [Lib.extract_eq]; congr 4; omega
theorem run_slice_nat {P : Program} {t : TypeId} (ht : P.underlying t = some .string) (s : ByteArray) (k n : Nat) (h : k + n ≤ s.size) (w : World) :
  (Instr.slice t (.string s) (some (.int .i64 (k : Int))) (some (.int .i64 ((k : Int) + (n : Int)))) none).run P w = .ok (.string (s.extract k (k + n))) w := by
 have := run_slice_str ht s k ((k : Int) + n) (by omega) (by omega) (by omega) w
 rw [this]; congr 3 <;> omega
def allT (_ : Nat) (w w' : World) : Prop := Below w.heap.size w w'
theorem wp_callx {P : Program} {o : Oper} {a : Act} {w : World} {K : Act → World → Prop} {Q : Exit → Act → World → Prop} (f : FuncId) (args : Array Operand) (tys : Array TypeId) (ho : o.op = .call { callee := .value (.func f), args := args, argTypes := tys })
  (hen : ∀ xs w, (callFunc f xs).run P w = .ok (.enter f xs) w) (xs : Array Value) (hxs : args.map a.eval = xs) {R : Value → World → Prop} (h : Calls P f xs w fun e w' => ∃ v, e = .returned v ∧ R v w') (hk : ∀ v w', R v w' → K (a.put o.dst v) w') : o.wp P a w K Q := by
 unfold Oper.wp execOp
 simp only [ho]
 simp [hxs, go_sem, hen]
 refine h.mono ?_
 rintro e w' ⟨v, rfl, hr⟩
 exact hk v w' hr
def appTs (l : List Nat) (R : Nat → World → World → Prop) (i : Nat) (w w' : World) : Prop := if i ∈ l then R i w w' else Below w.heap.size w w'
theorem appTs_at {l : List Nat} {R : Nat → World → World → Prop} {i : Nat} {w w' : World} (hi : i ∈ l) (h : R i w w') : appTs l R i w w' := by unfold appTs; rw [if_pos hi]; exact h
theorem appTs_in {l : List Nat} {R : Nat → World → World → Prop} {i : Nat} {w w' : World} (hi : i ∈ l) (h : appTs l R i w w') : R i w w' := by unfold appTs at h; rw [if_pos hi] at h; exact h
theorem appTs_other {l : List Nat} {R : Nat → World → World → Prop} {i : Nat} {w w' : World} (hi : i ∉ l) (h : Below w.heap.size w w') : appTs l R i w w' := by unfold appTs; rw [if_neg hi]; exact h
theorem appTs_out {l : List Nat} {R : Nat → World → World → Prop} {i : Nat} {w w' : World} (hi : i ∉ l) (h : appTs l R i w w') : Below w.heap.size w w' := by unfold appTs at h; rw [if_neg hi] at h; exact h
set_option maxRecDepth 100000 in
set_option maxHeartbeats 1000000 in
theorem size43 : (Tryz.prog.info? 116).map (·.size) = some 64 := by kernel_rfl
theorem size24 : (Tryz.prog.info? 87).map (·.size) = some 8 := by kernel_rfl
theorem zero43 : (Tryz.prog.info? 116).bind (fun i => i.zero.map (·.cells)) = some (zrow 64) := by kernel_rfl
theorem zero24 : (Tryz.prog.info? 87).bind (fun i => i.zero.map (·.cells)) = some (zrow 8) := by kernel_rfl
def kint : List Int := [1116352408, 1899447441, 3049323471, 3921009573, 961987163, 1508970993, 2453635748, 2870763221, 3624381080, 310598401, 607225278, 1426881987, 1925078388, 2162078206, 2614888103, 3248222580, 3835390401, 4022224774, 264347078, 604807628, 770255983, 1249150122, 1555081692, 1996064986, 2554220882, 2821834349, 2952996808, 3210313671, 3336571891, 3584528711, 113926993, 338241895, 666307205, 773529912, 1294757372, 1396182291, 1695183700, 1986661051, 2177026350, 2456956037, 2730485921, 2820302411, 3259730800, 3345764771, 3516065817, 3600352804, 4094571909, 275423344, 430227734, 506948616, 659060556, 883997877, 958139571, 1322822218, 1537002063, 1747873779, 1955562222, 2024104815, 2227730452, 2361852424, 2428436474, 2756734187, 3204031479, 3329325298]
theorem kint_eq : (kint.map (Value.int .u32)).toArray = numV ktab := by kernel_rfl
theorem ktab_len : ktab.length = 64 := rfl
set_option maxRecDepth 100000 in
set_option maxHeartbeats 1000000 in
theorem constants_any (w : World) : Calls Tryz.prog 183 #[] w fun e w' => e = .returned (.agg (numV ktab)) ∧ Below w.heap.size w w' := by
 go_enter Tryz.func183, Tryz.ntmps183
 go_wp2_with (first
  | refine wpList_alloc_zero rfl _ rfl _ zero43 ?_
  | (refine Great.wpList_buildFlatArr rfl 116 85 64 _ rfl .u32 kint Tryz.underlying116 (by kernel_rfl) (by kernel_rfl) (by kernel_rfl) ?_; rw [kint_eq])
  | refine wpList_store_row rfl 116 _ _ rfl w.heap.size (numV ktab) rfl rfl 116 (zrow 64) (heap_alloc_new _ _) (by rw [numV_size]; exact size43) (by rw [numV_size]; kernel_rfl) (numV_one _) ?_)
 refine bodyPost_ret (v := .agg (numV ktab)) (results_cell_row rfl _ _ w.heap.size 116 (numV ktab) (0, 0) _ rfl (setRow_heap _ _ (zrow 64) _ _ _ (heap_alloc_new _ _)) Tryz.underlying116 rfl (by rw [numV_size]; kernel_rfl)) rfl ⟨rfl, below_setRow ((Below.refl _ _).alloc (Nat.le_refl _) _) (Nat.le_refl _) _⟩
set_option maxRecDepth 100000 in
set_option maxHeartbeats 1000000 in
theorem refConstants_any (w : World) : Calls Tryz.prog 74 #[] w fun e w' => e = .returned (.agg (numV ktab)) ∧ Below w.heap.size w w' := by
 go_enter Tryz.func74, Tryz.ntmps74
 go_wp2_with (first
  | refine wpList_alloc_zero rfl _ rfl _ zero43 ?_
  | (refine Great.wpList_buildFlatArr rfl 116 85 64 _ rfl .u32 kint Tryz.underlying116 (by kernel_rfl) (by kernel_rfl) (by kernel_rfl) ?_; rw [kint_eq])
  | refine wpList_store_row rfl 116 _ _ rfl w.heap.size (numV ktab) rfl rfl 116 (zrow 64) (heap_alloc_new _ _) (by rw [numV_size]; exact size43) (by rw [numV_size]; kernel_rfl) (numV_one _) ?_)
 refine bodyPost_ret (v := .agg (numV ktab)) (results_cell_row rfl _ _ w.heap.size 116 (numV ktab) (0, 0) _ rfl (setRow_heap _ _ (zrow 64) _ _ _ (heap_alloc_new _ _)) Tryz.underlying116 rfl (by rw [numV_size]; kernel_rfl)) rfl ⟨rfl, below_setRow ((Below.refl _ _).alloc (Nat.le_refl _) _) (Nat.le_refl _) _⟩
set_option maxRecDepth 100000 in
set_option maxHeartbeats 1000000 in
theorem First_any (w : World) : Calls Tryz.prog 140 #[] w fun e w' => e = .returned (.agg (numV first.list)) ∧ Below w.heap.size w w' := by
 go_enter Tryz.func140, Tryz.ntmps140
 go_wp2_with (first
  | refine wpList_alloc_zero rfl _ rfl _ zero24 ?_
  | refine wpList_store_row rfl 87 _ _ rfl w.heap.size (numV first.list) rfl rfl 87 (zrow 8) (heap_alloc_new _ _) (by rw [numV_size]; exact size24) (by rw [numV_size]; kernel_rfl) (numV_one _) ?_)
 refine bodyPost_ret (v := .agg (numV first.list)) (results_cell_row rfl _ _ w.heap.size 87 (numV first.list) (0, 0) _ rfl (setRow_heap _ _ (zrow 8) _ _ _ (heap_alloc_new _ _)) Tryz.underlying87 rfl (by rw [numV_size]; kernel_rfl)) rfl ⟨rfl, below_setRow ((Below.refl _ _).alloc (Nat.le_refl _) _) (Nat.le_refl _) _⟩
set_option maxRecDepth 100000 in
set_option maxHeartbeats 1000000 in
theorem refFirst_any (w : World) : Calls Tryz.prog 44 #[] w fun e w' => e = .returned (.agg (numV first.list)) ∧ Below w.heap.size w w' := by
 go_enter Tryz.func44, Tryz.ntmps44
 go_wp2_with (first
  | refine wpList_alloc_zero rfl _ rfl _ zero24 ?_
  | refine wpList_store_row rfl 87 _ _ rfl w.heap.size (numV first.list) rfl rfl 87 (zrow 8) (heap_alloc_new _ _) (by rw [numV_size]; exact size24) (by rw [numV_size]; kernel_rfl) (numV_one _) ?_)
 refine bodyPost_ret (v := .agg (numV first.list)) (results_cell_row rfl _ _ w.heap.size 87 (numV first.list) (0, 0) _ rfl (setRow_heap _ _ (zrow 8) _ _ _ (heap_alloc_new _ _)) Tryz.underlying87 rfl (by rw [numV_size]; kernel_rfl)) rfl ⟨rfl, below_setRow ((Below.refl _ _).alloc (Nat.le_refl _) _) (Nat.le_refl _) _⟩
end Go.Proofs.YtlccihidedfemaaGreatDoor
set_option linter.unusedVariables false
set_option pp.maxSteps 200000
namespace Go.Proofs.YtlccihidedfemaaGreatDoor
open Go.RowKit
set_option maxRecDepth 100000 in
set_option maxHeartbeats 1000000 in
theorem rotr_int (x n : Nat) (hx : x < 4294967296) (h0 : 1 ≤ n) (h1 : n ≤ 31) : bits .or .u32 ((x : Int) / 2 ^ n) ((x : Int) * 2 ^ (32 - n) % 4294967296) = (rotr x n : Nat) := by
 have e1 : (x : Int) / 2 ^ n = ((x / 2 ^ n : Nat) : Int) := by rw [Int.natCast_ediv, Int.natCast_pow]; rfl
 have e2 : (x : Int) * 2 ^ (32 - n) % 4294967296 = ((x * 2 ^ (32 - n) % 4294967296 : Nat) : Int) := by rw [Int.natCast_emod, Int.natCast_mul, Int.natCast_pow]; rfl
 rw [e1, e2, u32_or_nat _ _ (Nat.lt_of_le_of_lt (Nat.div_le_self _ _) hx) (Nat.mod_lt _ (by decide))]; rfl
theorem or32_comm (a b : Nat) (ha : a < 4294967296) (hb : b < 4294967296) : bits .or .u32 (a : Int) (b : Int) = bits .or .u32 (b : Int) (a : Int) := by
 rw [u32_or_nat _ _ ha hb, u32_or_nat _ _ hb ha, Nat.or_comm]
theorem rotl_int (x n m : Nat) (hx : x < 4294967296) (hm : n + m = 32) (h0 : 1 ≤ n) (h1 : n ≤ 31) : bits .or .u32 ((x : Int) * 2 ^ m % 4294967296) ((x : Int) / 2 ^ (32 - m)) = (rotr x n : Nat) := by
 have e1 : (x : Int) / 2 ^ n = ((x / 2 ^ n : Nat) : Int) := by rw [Int.natCast_ediv, Int.natCast_pow]; rfl
 have e2 : (x : Int) * 2 ^ m % 4294967296 = ((x * 2 ^ m % 4294967296 : Nat) : Int) := by rw [Int.natCast_emod, Int.natCast_mul, Int.natCast_pow]; rfl
 rw [show 32 - m = n by omega, e1, e2, or32_comm _ _ (Nat.mod_lt _ (by decide)) (Nat.lt_of_le_of_lt (Nat.div_le_self _ _) hx), ← e1, ← e2, show m = 32 - n by omega]
 exact rotr_int x n hx h0 h1
theorem neg31 (n m : Nat) (hm : n + m = 32) (h0 : 1 ≤ n) (h1 : n ≤ 31) : bits .and .u64 (IntKind.u64.wrap (-(n : Int))) 31 = (m : Int) := by
 have e : IntKind.u64.wrap (-(n : Int)) = ((18446744073709551616 - n : Nat) : Int) := by
  show (-(n : Int)) % 18446744073709551616 = _
  omega
 have h := u64_and_nat (18446744073709551616 - n) 31 (by omega) (by decide)
 rw [nat_mask5] at h
 rw [e]
 exact h.trans (by omega)
theorem rot_any (x n : Nat) (hx : x < 4294967296) (h0 : 1 ≤ n) (h1 : n ≤ 31) (w : World) : Calls Tryz.prog 75 #[.int .u32 x, .int .u64 n] w fun e w' => e = .returned (.int .u32 (rotr x n)) ∧ w = w' := by
 go_enter Tryz.func75, Tryz.ntmps75
 go_wp2
 go_ret
 exact ⟨congrArg (fun z => Ending.returned (.int .u32 z)) (rotr_int x n hx h0 h1), rfl⟩
set_option maxRecDepth 100000 in
set_option maxHeartbeats 1000000 in
theorem down_any (x n : Nat) (hx : x < 4294967296) (h0 : 1 ≤ n) (h1 : n ≤ 31) (w : World) : Calls Tryz.prog 184 #[.int .u32 x, .int .i64 n] w fun e w' => e = .returned (.int .u32 (rotr x n)) ∧ w = w' := by
 obtain ⟨m, hm⟩ : ∃ m, n + m = 32 := ⟨32 - n, by omega⟩
 have HM := Lib.hid hm
 have e := neg31 n m hm h0 h1
 have hm1 : 1 ≤ m := by omega
 have hm2 : m ≤ 31 := by omega
 clear hm
 go_enter Tryz.func184, Tryz.ntmps184
 go_wp2
 go_ret
 exact ⟨congrArg (fun z => Ending.returned (.int .u32 z)) (rotl_int x n m hx HM.out h0 h1), rfl⟩
theorem down_z (x : Nat) (z : Int) (hx : x < 4294967296) (h : 1 ≤ z ∧ z ≤ 31) (w : World) : Calls Tryz.prog 184 #[.int .u32 x, .int .i64 z] w fun e w' => e = .returned (.int .u32 (rotr x z.toNat)) ∧ w = w' := by
 have := down_any x z.toNat hx (by omega) (by omega) w
 rwa [show ((z.toNat : Nat) : Int) = z by omega] at this
theorem rot_z (x : Nat) (z : Int) (hx : x < 4294967296) (h : 1 ≤ z ∧ z ≤ 31) (w : World) : Calls Tryz.prog 75 #[.int .u32 x, .int .u64 z] w fun e w' => e = .returned (.int .u32 (rotr x z.toNat)) ∧ w = w' := by
 have := rot_any x z.toNat hx (by omega) (by omega) w
 rwa [show ((z.toNat : Nat) : Int) = z by omega] at this
theorem xor3_int (a b c : Nat) (ha : a < 4294967296) (hb : b < 4294967296) (hc : c < 4294967296) : bits .xor .u32 (bits .xor .u32 (a : Int) (b : Int)) (c : Int) = ((a ^^^ b ^^^ c : Nat) : Int) := by
 rw [u32_xor_nat _ _ ha hb, u32_xor_nat _ _ (xor_lt ha hb) hc]
theorem sg0_int (x : Nat) (h : x < 4294967296) : bits .xor .u32 (bits .xor .u32 (rotr x 7 : Nat) (rotr x 18 : Nat)) ((x : Int) / 8) = (sg0 x : Nat) := by
 rw [show (x : Int) / 8 = ((x / 8 : Nat) : Int) by omega, xor3_int _ _ _ (rotr_lt _ h) (rotr_lt _ h) (by omega)]; rfl
theorem sg1_int (x : Nat) (h : x < 4294967296) : bits .xor .u32 (bits .xor .u32 (rotr x 17 : Nat) (rotr x 19 : Nat)) ((x : Int) / 1024) = (sg1 x : Nat) := by
 rw [show (x : Int) / 1024 = ((x / 1024 : Nat) : Int) by omega, xor3_int _ _ _ (rotr_lt _ h) (rotr_lt _ h) (by omega)]; rfl
theorem ad4_int (a b c d : Nat) : ((a : Int) + b + c + d) % 4294967296 = (ad (ad (ad a b) c) d : Nat) := by unfold ad; omega
theorem or3_int (a b c d : Nat) (ha : a < 256) (hb : b < 256) (hc : c < 256) (hd : d < 256) :
  bits .or .u32 (bits .or .u32 (bits .or .u32 ((a : Int) % 4294967296 * 16777216 % 4294967296) ((b : Int) % 4294967296 * 65536 % 4294967296)) ((c : Int) % 4294967296 * 256 % 4294967296)) ((d : Int) % 4294967296) =
   ((a * 16777216 % 4294967296 ||| b * 65536 % 4294967296 ||| c * 256 % 4294967296 ||| d : Nat) : Int) := by
 have e1 : (a : Int) % 4294967296 * 16777216 % 4294967296 = ((a * 16777216 % 4294967296 : Nat) : Int) := by omega
 have e2 : (b : Int) % 4294967296 * 65536 % 4294967296 = ((b * 65536 % 4294967296 : Nat) : Int) := by omega
 have e3 : (c : Int) % 4294967296 * 256 % 4294967296 = ((c * 256 % 4294967296 : Nat) : Int) := by omega
 have e4 : (d : Int) % 4294967296 = ((d : Nat) : Int) := by omega
 have l1 : a * 16777216 % 4294967296 < 4294967296 := Nat.mod_lt _ (by decide)
 have l2 : b * 65536 % 4294967296 < 4294967296 := Nat.mod_lt _ (by decide)
 have l3 : c * 256 % 4294967296 < 4294967296 := Nat.mod_lt _ (by decide)
 rw [e1, e2, e3, e4, u32_or_nat _ _ l1 l2, u32_or_nat _ _ (or_lt l1 l2) l3, u32_or_nat _ _ (or_lt (or_lt l1 l2) l3) (by omega)]
set_option maxRecDepth 100000 in
set_option maxHeartbeats 1000000 in
theorem spread_any (l : List UInt8) (hl : l.length = 64) (w : World) : Calls Tryz.prog 172 #[.agg (bytV l)] w fun e w' => e = .returned (.agg (numV (wlist (fun i => (l.getD i 0).toNat) 64))) ∧ Below w.heap.size w w' := by
 obtain ⟨L, hL⟩ : ∃ L : Nat → Nat, L = fun i => (l.getD i 0).toNat := ⟨_, rfl⟩
 have HL := Lib.hid hL
 have hl8 : ∀ i, L i < 256 := fun i => by rw [hL]; exact UInt8.toNat_lt _
 rw [← hL]
 clear hL
 go_enter Tryz.func172, Tryz.ntmps172
 go_wp2_with (first
  | refine wpList_alloc_zero rfl _ rfl _ zero43 ?_)
 go_loopw [11, 4, 5] (fun i _ _ wr => ∃ k : Nat, k ≤ 16 ∧ i = .int .i64 k ∧ Row wr w.heap.size (bytV l) 89 ∧ Row wr (w.heap.size + 1) (zrow 64) 116 ∧ Row wr (w.heap.size + 1 + 1) (numV (wrow L k)) 116 ∧ Below w.heap.size w wr) (fun i _ _ _ => 16 - (intOf i).toNat)
 case atStart => 
  refine ⟨0, by omega, rfl, ?_, ?_, ?_, ?_⟩
  ·exact ((Row.made _ _ _).alloc _).alloc _
  ·have := (Row.made (w.alloc (.cells (bytV l) 89)) (zrow 64) 116).alloc (.cells (zrow 64) 116)
   simpa using this
  ·show Row _ _ (zrow 64) _
   have := Row.made ((w.alloc (.cells (bytV l) 89)).alloc (.cells (zrow 64) 116)) (zrow 64) 116
   simpa using this
  ·exact (((Below.refl _ _).alloc (Nat.le_refl _) _).alloc (by simp) _).alloc (by simp; omega) _
 case round =>
  obtain ⟨k, hk, rfl, hB, hZ, hR, hb⟩ := hrel
  by_cases hlt : k < 16
  ·have hbk : decide ((k : Int) < 16) = true := by simpa using (show (k : Int) < 16 by omega)
   have c0 : wr.cell? ⟨w.heap.size, k * 4, none⟩ = some (.int .u8 (L (k * 4))) := by rw [hB.cell, bytV_get _ _ (by omega), HL.out]
   have c1 : wr.cell? ⟨w.heap.size, k * 4 + 1, none⟩ = some (.int .u8 (L (k * 4 + 1))) := by rw [hB.cell, bytV_get _ _ (by omega), HL.out]
   have c2 : wr.cell? ⟨w.heap.size, k * 4 + 2, none⟩ = some (.int .u8 (L (k * 4 + 2))) := by rw [hB.cell, bytV_get _ _ (by omega), HL.out]
   have c3 : wr.cell? ⟨w.heap.size, k * 4 + 3, none⟩ = some (.int .u8 (L (k * 4 + 3))) := by rw [hB.cell, bytV_get _ _ (by omega), HL.out]
   have cf := hR.free k
   have cr : wr.cell? ⟨w.heap.size + 1 + 1, k, none⟩ = some (.int .u32 0) := by
    rw [hR.cell, numV_get _ _ (by rw [wrow_len _ _ (by omega)]; omega), wrow, List.getD_eq_getElem?_getD, List.getElem?_append_right (by rw [wlist_len]; exact Nat.le_refl _), List.getElem?_replicate]
    split <;> rfl
   have t0 : ((k : Int) * 4).toNat = k * 4 := by omega
   have t1 : ((k : Int) * 4 + 1).toNat = k * 4 + 1 := by omega
   have t2 : ((k : Int) * 4 + 2).toNat = k * 4 + 2 := by omega
   have t3 : ((k : Int) * 4 + 3).toNat = k * 4 + 3 := by omega
   have s1 : IntKind.i64.wrap ((k : Int) * 4 + 1) = (k : Int) * 4 + 1 := IntWalk.i64_in _ (by omega)
   have s2 : IntKind.i64.wrap ((k : Int) * 4 + 2) = (k : Int) * 4 + 2 := IntWalk.i64_in _ (by omega)
   have s3 : IntKind.i64.wrap ((k : Int) * 4 + 3) = (k : Int) * 4 + 3 := IntWalk.i64_in _ (by omega)
   have b0 : (0 : Int) ≤ (k : Int) * 4 ∧ (k : Int) * 4 < 64 := by omega
   have b1 : (0 : Int) ≤ (k : Int) * 4 + 1 ∧ (k : Int) * 4 + 1 < 64 := by omega
   have b2 : (0 : Int) ≤ (k : Int) * 4 + 2 ∧ (k : Int) * 4 + 2 < 64 := by omega
   have b3 : (0 : Int) ≤ (k : Int) * 4 + 3 ∧ (k : Int) * 4 + 3 < 64 := by omega
   have b4 : (0 : Int) ≤ (k : Int) ∧ (k : Int) < 64 := by omega
   have HB := Lib.hid hB; have HR := Lib.hid hR; have HZ := Lib.hid hZ
   clear hB hR hZ
   go_wp2_with fail
   go_still_tail 27, (by kernel_rfl)
   change wpList _ _ _ _ _ wr.drew
   clear t0 t1 t2 t3 s1 s2 s3 b0 b1 b2 b3 c0 c1 c2 c3
   go_wp2
   go_roundw
   case rel => 
    refine ⟨k + 1, by omega, by go_num, ?_, ?_, ?_, ?_⟩
    ·exact (Row.drew HB.out).other _ _ (by show w.heap.size ≠ w.heap.size + 1 + 1; omega)
    ·exact (Row.drew HZ.out).other _ _ (by show w.heap.size + 1 ≠ w.heap.size + 1 + 1; omega)
    ·have := (Row.drew HR.out).set k (.int .u32 (lead L k : Nat))
     rw [numV_set, ← nxt_lead L (wlist L k) k hlt, wrow_set L k (by omega), nxt_lead L (wlist L k) k hlt] at this
     rw [or3_int _ _ _ _ (hl8 _) (hl8 _) (hl8 _) (hl8 _)]
     exact this
    ·exact (hb.drew).setCell (by show w.heap.size ≤ w.heap.size + 1 + 1; omega) _
   case measure => simp [intOf]; omega
  ·have hk16 : k = 16 := by omega
   have hR' : Row wr (w.heap.size + 1 + 1) (numV (wrow L 16)) 116 := by rw [← hk16]; exact hR
   have hbk : decide ((k : Int) < 16) = false := by rw [hk16]; rfl
   clear hR hk16 hlt hk
   have hR := hR'
   clear hR'
   have HB := Lib.hid hB; have HR := Lib.hid hR; have HZ := Lib.hid hZ
   clear hB hR hZ
   go_wp2_with fail
   go_loopw [6] (fun i wr => ∃ k : Nat, 16 ≤ k ∧ k ≤ 64 ∧ i = .int .i64 k ∧ Row wr (w.heap.size + 1) (zrow 64) 116 ∧ Row wr (w.heap.size + 1 + 1) (numV (wrow L k)) 116 ∧ Below w.heap.size w wr) (fun i _ => 64 - (intOf i).toNat)
   case atStart => exact ⟨16, by omega, by omega, rfl, HZ.out, HR.out, hb⟩
   case round =>
    clear HB HR HZ hb
    obtain ⟨k, hk0, hk, rfl, hZ, hR, hb⟩ := hrel
    by_cases hlt : k < 64
    ·have hbk : decide ((k : Int) < 64) = true := by simpa using (show (k : Int) < 64 by omega)
     have hm := wlist_mem L hl8 k
     obtain ⟨x, hx⟩ : ∃ x, x = (wlist L k).getD (k - 15) 0 := ⟨_, rfl⟩
     obtain ⟨y, hy⟩ : ∃ y, y = (wlist L k).getD (k - 2) 0 := ⟨_, rfl⟩
     obtain ⟨p, hp⟩ : ∃ y, y = (wlist L k).getD (k - 16) 0 := ⟨_, rfl⟩
     obtain ⟨q, hq⟩ : ∃ y, y = (wlist L k).getD (k - 7) 0 := ⟨_, rfl⟩
     have lx : x < 4294967296 := by rw [hx]; exact getD_lt hm _
     have ly : y < 4294967296 := by rw [hy]; exact getD_lt hm _
     have lp : p < 4294967296 := by rw [hp]; exact getD_lt hm _
     have lq : q < 4294967296 := by rw [hq]; exact getD_lt hm _
     have cc : ∀ j, j < k → wr.cell? ⟨w.heap.size + 1 + 1, j, none⟩ = some (.int .u32 ((wlist L k).getD j 0 : Nat)) := fun j hj => by
      rw [hR.cell, numV_get _ _ (by rw [wrow_len _ _ hk]; omega), wrow_get _ _ _ hj]
     have c15 := cc (k - 15) (by omega)
     have c2 := cc (k - 2) (by omega)
     have c16 := cc (k - 16) (by omega)
     have c7 := cc (k - 7) (by omega)
     rw [← hx] at c15; rw [← hy] at c2; rw [← hp] at c16; rw [← hq] at c7
     have cf := hR.free k
     have cr : ∃ v, wr.cell? ⟨w.heap.size + 1 + 1, k, none⟩ = some v := by
      rw [hR.cell, numV_get _ _ (by rw [wrow_len _ _ hk]; omega)]
      exact ⟨_, rfl⟩
     obtain ⟨v, cr⟩ := cr
     clear cc hm
     have HV := Lib.hid (nxt_on L (wlist L k) k hk0)
     have HX := Lib.hid hx; have HY := Lib.hid hy; have HP := Lib.hid hp; have HQ := Lib.hid hq
     clear hx hy hp hq
     have t1 : ((k : Int) - 15).toNat = k - 15 := by omega
     have t2 : ((k : Int) - 2).toNat = k - 2 := by omega
     have t3 : ((k : Int) - 16).toNat = k - 16 := by omega
     have t4 : ((k : Int) - 7).toNat = k - 7 := by omega
     have s1 : IntKind.i64.wrap ((k : Int) - 15) = (k : Int) - 15 := IntWalk.i64_in _ (by omega)
     have s2 : IntKind.i64.wrap ((k : Int) - 2) = (k : Int) - 2 := IntWalk.i64_in _ (by omega)
     have s3 : IntKind.i64.wrap ((k : Int) - 16) = (k : Int) - 16 := IntWalk.i64_in _ (by omega)
     have s4 : IntKind.i64.wrap ((k : Int) - 7) = (k : Int) - 7 := IntWalk.i64_in _ (by omega)
     have b1 : (0 : Int) ≤ (k : Int) - 15 ∧ (k : Int) - 15 < 64 := by omega
     have b2 : (0 : Int) ≤ (k : Int) - 2 ∧ (k : Int) - 2 < 64 := by omega
     have b3 : (0 : Int) ≤ (k : Int) - 16 ∧ (k : Int) - 16 < 64 := by omega
     have b4 : (0 : Int) ≤ (k : Int) - 7 ∧ (k : Int) - 7 < 64 := by omega
     have b6 : (16 : Int) ≤ (k : Int) := by omega
     have b7 : (7 : Int) ≤ (k : Int) := by omega
     have b8 : (k : Int) - 16 < 64 := by omega
     have b9 : (k : Int) - 7 < 64 := by omega
     have b10 : (0 : Int) ≤ (k : Int) - 16 := by omega
     have b11 : (0 : Int) ≤ (k : Int) - 7 := by omega
     have b5 : (0 : Int) ≤ (k : Int) ∧ (k : Int) < 64 := by omega
     have HR := Lib.hid hR; have HZ := Lib.hid hZ
     clear hR hZ
     have HL8 := Lib.hid hl8; clear hl8
     go_wp2_with fail
     go_quiet (fail)
     go_wp2_with (go_at_call 184; refine (down_z _ _ (by assumption) (by decide) _).mono ?_; rintro e w1 ⟨rfl, rfl⟩)
     obtain ⟨W2, hW2⟩ : ∃ W2, W2 = wr.drewN nq := ⟨_, rfl⟩
     rw [← hW2]
     have d16 : W2.cell? ⟨w.heap.size + 1 + 1, k - 16, none⟩ = some (.int .u32 p) := by rw [hW2]; exact c16
     have d7 : W2.cell? ⟨w.heap.size + 1 + 1, k - 7, none⟩ = some (.int .u32 q) := by rw [hW2]; exact c7
     have df : W2.frozen? ⟨w.heap.size + 1 + 1, k, none⟩ = false := by rw [hW2]; exact cf
     have dr : W2.cell? ⟨w.heap.size + 1 + 1, k, none⟩ = some v := by rw [hW2]; exact cr
     have HR2 : Hid (Row W2 (w.heap.size + 1 + 1) (numV (wrow L k)) 116) := Lib.hid (by rw [hW2]; exact HR.out)
     have HZ2 : Hid (Row W2 (w.heap.size + 1) (zrow 64) 116) := Lib.hid (by rw [hW2]; exact HZ.out)
     have hb2 : Below w.heap.size w W2 := by rw [hW2]; exact below_drewN hb nq
     clear hW2 c16 c7 cf cr HR HZ hb c15 c2 t1 t2 s1 s2 b1 b2
     go_still_tail 15, (by kernel_rfl)
     change wpList _ _ _ _ _ W2.drew
     clear t3 t4 s3 s4 b3 b4 d16 d7
     go_wp2
     go_roundw
     case rel =>
      refine ⟨k + 1, by omega, by omega, by go_num, ?_, ?_, ?_⟩
      ·exact (Row.drew HZ2.out).other _ _ (by show w.heap.size + 1 ≠ w.heap.size + 1 + 1; omega)
      ·have := (Row.drew HR2.out).set k (.int .u32 (nxt L (wlist L k) k : Nat))
       rw [numV_set, wrow_set L k (by omega), HV.out, ← HX.out, ← HY.out, ← HP.out, ← HQ.out] at this
       rw [sg0_int x lx, sg1_int y ly, ad4_int]
       exact this
      ·exact (hb2.drew).setCell (by show w.heap.size ≤ w.heap.size + 1 + 1; omega) _
     case measure => simp [intOf]; omega
    ·obtain rfl : k = 64 := by omega
     have hbk : decide (((64 : Nat) : Int) < 64) = false := rfl
     have HR := Lib.hid hR; have HZ := Lib.hid hZ
     clear hR hZ
     go_wp2_with (first
      | refine wpList_load_row rfl 116 _ rfl (w.heap.size + 1 + 1) rfl 116 (numV (wrow L 64)) (0, 0) _ HR.out Tryz.underlying116 rfl (by rw [numV_size, wrow_len _ _ hk]; exact size43) ?_
      | refine wpList_store_row rfl 116 _ _ rfl (w.heap.size + 1) (numV (wrow L 64)) rfl rfl 116 (zrow 64) HZ.out (by rw [numV_size, wrow_len _ _ hk]; exact size43) (by rw [numV_size, zrow_size, wrow_len _ _ hk]) (numV_one _) ?_)
     refine bodyPost_ret (v := .agg (numV (wrow L 64))) (results_cell_row rfl _ _ (w.heap.size + 1) 116 (numV (wrow L 64)) (0, 0) _ rfl (setRow_heap _ _ _ _ _ _ HZ.out) Tryz.underlying116 rfl (by rw [numV_size, wrow_len _ _ hk]; exact size43)) rfl ⟨by rw [wrow_full], below_setRow hb (by omega) _⟩
end Go.Proofs.YtlccihidedfemaaGreatDoor
set_option linter.unusedVariables false
set_option pp.maxSteps 200000
namespace Go.Proofs.YtlccihidedfemaaGreatDoor
open Go.RowKit
set_option maxRecDepth 100000 in
set_option maxHeartbeats 1000000 in
set_option maxRecDepth 100000 in
set_option maxHeartbeats 1000000 in
theorem refWords_any (l : List UInt8) (hl : l.length = 64) (w : World) : Calls Tryz.prog 73 #[.agg (bytV l)] w fun e w' => e = .returned (.agg (numV (wlist (fun i => (l.getD i 0).toNat) 64))) ∧ Below w.heap.size w w' := by
 obtain ⟨L, hL⟩ : ∃ L : Nat → Nat, L = fun i => (l.getD i 0).toNat := ⟨_, rfl⟩
 have HL := Lib.hid hL
 have hl8 : ∀ i, L i < 256 := fun i => by rw [hL]; exact UInt8.toNat_lt _
 rw [← hL]
 clear hL
 go_enter Tryz.func73, Tryz.ntmps73
 go_wp2_with (first
  | refine wpList_alloc_zero rfl _ rfl _ zero43 ?_)
 go_loopw [4] (fun i wr => ∃ k : Nat, k ≤ 16 ∧ i = .int .i64 k ∧ Row wr w.heap.size (bytV l) 89 ∧ Row wr (w.heap.size + 1) (zrow 64) 116 ∧ Row wr (w.heap.size + 1 + 1) (numV (wrow L k)) 116 ∧ Below w.heap.size w wr) (fun i _ => 16 - (intOf i).toNat)
 case atStart => 
  refine ⟨0, by omega, rfl, ?_, ?_, ?_, ?_⟩
  ·exact ((Row.made _ _ _).alloc _).alloc _
  ·have := (Row.made (w.alloc (.cells (bytV l) 89)) (zrow 64) 116).alloc (.cells (zrow 64) 116)
   simpa using this
  ·show Row _ _ (zrow 64) _
   have := Row.made ((w.alloc (.cells (bytV l) 89)).alloc (.cells (zrow 64) 116)) (zrow 64) 116
   simpa using this
  ·exact (((Below.refl _ _).alloc (Nat.le_refl _) _).alloc (by simp) _).alloc (by simp; omega) _
 case round =>
  obtain ⟨k, hk, rfl, hB, hZ, hR, hb⟩ := hrel
  by_cases hlt : k < 16
  ·have hbk : decide ((k : Int) < 16) = true := by simpa using (show (k : Int) < 16 by omega)
   have c0 : wr.cell? ⟨w.heap.size, k * 4, none⟩ = some (.int .u8 (L (k * 4))) := by rw [hB.cell, bytV_get _ _ (by omega), HL.out]
   have c1 : wr.cell? ⟨w.heap.size, k * 4 + 1, none⟩ = some (.int .u8 (L (k * 4 + 1))) := by rw [hB.cell, bytV_get _ _ (by omega), HL.out]
   have c2 : wr.cell? ⟨w.heap.size, k * 4 + 2, none⟩ = some (.int .u8 (L (k * 4 + 2))) := by rw [hB.cell, bytV_get _ _ (by omega), HL.out]
   have c3 : wr.cell? ⟨w.heap.size, k * 4 + 3, none⟩ = some (.int .u8 (L (k * 4 + 3))) := by rw [hB.cell, bytV_get _ _ (by omega), HL.out]
   have cf := hR.free k
   have cr : wr.cell? ⟨w.heap.size + 1 + 1, k, none⟩ = some (.int .u32 0) := by
    rw [hR.cell, numV_get _ _ (by rw [wrow_len _ _ (by omega)]; omega), wrow, List.getD_eq_getElem?_getD, List.getElem?_append_right (by rw [wlist_len]; exact Nat.le_refl _), List.getElem?_replicate]
    split <;> rfl
   have t0 : (4 * (k : Int)).toNat = k * 4 := by omega
   have t1 : (4 * (k : Int) + 1).toNat = k * 4 + 1 := by omega
   have t2 : (4 * (k : Int) + 2).toNat = k * 4 + 2 := by omega
   have t3 : (4 * (k : Int) + 3).toNat = k * 4 + 3 := by omega
   have s0 : IntKind.i64.wrap (4 * (k : Int)) = 4 * (k : Int) := IntWalk.i64_in _ (by omega)
   have s1 : IntKind.i64.wrap (4 * (k : Int) + 1) = 4 * (k : Int) + 1 := IntWalk.i64_in _ (by omega)
   have s2 : IntKind.i64.wrap (4 * (k : Int) + 2) = 4 * (k : Int) + 2 := IntWalk.i64_in _ (by omega)
   have s3 : IntKind.i64.wrap (4 * (k : Int) + 3) = 4 * (k : Int) + 3 := IntWalk.i64_in _ (by omega)
   have b0 : (0 : Int) ≤ 4 * (k : Int) ∧ 4 * (k : Int) < 64 := by omega
   have b1 : (0 : Int) ≤ 4 * (k : Int) + 1 ∧ 4 * (k : Int) + 1 < 64 := by omega
   have b2 : (0 : Int) ≤ 4 * (k : Int) + 2 ∧ 4 * (k : Int) + 2 < 64 := by omega
   have b3 : (0 : Int) ≤ 4 * (k : Int) + 3 ∧ 4 * (k : Int) + 3 < 64 := by omega
   have b4 : (0 : Int) ≤ (k : Int) ∧ (k : Int) < 64 := by omega
   have HB := Lib.hid hB; have HR := Lib.hid hR; have HZ := Lib.hid hZ
   clear hB hR hZ
   go_wp2_with fail
   go_still_tail 31, (by kernel_rfl)
   change wpList _ _ _ _ _ wr.drew
   clear t0 t1 t2 t3 s0 s1 s2 s3 b0 b1 b2 b3 c0 c1 c2 c3
   go_wp2
   go_roundw
   case rel => 
    refine ⟨k + 1, by omega, by go_num, ?_, ?_, ?_, ?_⟩
    ·exact (Row.drew HB.out).other _ _ (by show w.heap.size ≠ w.heap.size + 1 + 1; omega)
    ·exact (Row.drew HZ.out).other _ _ (by show w.heap.size + 1 ≠ w.heap.size + 1 + 1; omega)
    ·have := (Row.drew HR.out).set k (.int .u32 (lead L k : Nat))
     rw [numV_set, ← nxt_lead L (wlist L k) k hlt, wrow_set L k (by omega), nxt_lead L (wlist L k) k hlt] at this
     rw [or3_int _ _ _ _ (hl8 _) (hl8 _) (hl8 _) (hl8 _)]
     exact this
    ·exact (hb.drew).setCell (by show w.heap.size ≤ w.heap.size + 1 + 1; omega) _
   case measure => simp [intOf]; omega
  ·have hk16 : k = 16 := by omega
   have hR' : Row wr (w.heap.size + 1 + 1) (numV (wrow L 16)) 116 := by rw [← hk16]; exact hR
   have hbk : decide ((k : Int) < 16) = false := by rw [hk16]; rfl
   clear hR hk16 hlt hk
   have hR := hR'
   clear hR'
   have HB := Lib.hid hB; have HR := Lib.hid hR; have HZ := Lib.hid hZ
   clear hB hR hZ
   go_wp2_with fail
   go_loopw [5] (fun i wr => ∃ k : Nat, 16 ≤ k ∧ k ≤ 64 ∧ i = .int .i64 k ∧ Row wr (w.heap.size + 1) (zrow 64) 116 ∧ Row wr (w.heap.size + 1 + 1) (numV (wrow L k)) 116 ∧ Below w.heap.size w wr) (fun i _ => 64 - (intOf i).toNat)
   case atStart => exact ⟨16, by omega, by omega, rfl, HZ.out, HR.out, hb⟩
   case round =>
    clear HB HR HZ hb
    obtain ⟨k, hk0, hk, rfl, hZ, hR, hb⟩ := hrel
    by_cases hlt : k < 64
    ·have hbk : decide ((k : Int) < 64) = true := by simpa using (show (k : Int) < 64 by omega)
     have hm := wlist_mem L hl8 k
     obtain ⟨x, hx⟩ : ∃ x, x = (wlist L k).getD (k - 15) 0 := ⟨_, rfl⟩
     obtain ⟨y, hy⟩ : ∃ y, y = (wlist L k).getD (k - 2) 0 := ⟨_, rfl⟩
     obtain ⟨p, hp⟩ : ∃ y, y = (wlist L k).getD (k - 16) 0 := ⟨_, rfl⟩
     obtain ⟨q, hq⟩ : ∃ y, y = (wlist L k).getD (k - 7) 0 := ⟨_, rfl⟩
     have lx : x < 4294967296 := by rw [hx]; exact getD_lt hm _
     have ly : y < 4294967296 := by rw [hy]; exact getD_lt hm _
     have lp : p < 4294967296 := by rw [hp]; exact getD_lt hm _
     have lq : q < 4294967296 := by rw [hq]; exact getD_lt hm _
     have cc : ∀ j, j < k → wr.cell? ⟨w.heap.size + 1 + 1, j, none⟩ = some (.int .u32 ((wlist L k).getD j 0 : Nat)) := fun j hj => by
      rw [hR.cell, numV_get _ _ (by rw [wrow_len _ _ hk]; omega), wrow_get _ _ _ hj]
     have c15 := cc (k - 15) (by omega)
     have c2 := cc (k - 2) (by omega)
     have c16 := cc (k - 16) (by omega)
     have c7 := cc (k - 7) (by omega)
     rw [← hx] at c15; rw [← hy] at c2; rw [← hp] at c16; rw [← hq] at c7
     have cf := hR.free k
     have cr : ∃ v, wr.cell? ⟨w.heap.size + 1 + 1, k, none⟩ = some v := by
      rw [hR.cell, numV_get _ _ (by rw [wrow_len _ _ hk]; omega)]
      exact ⟨_, rfl⟩
     obtain ⟨v, cr⟩ := cr
     clear cc hm
     have HV := Lib.hid (nxt_on L (wlist L k) k hk0)
     have HX := Lib.hid hx; have HY := Lib.hid hy; have HP := Lib.hid hp; have HQ := Lib.hid hq
     clear hx hy hp hq
     have t1 : ((k : Int) - 15).toNat = k - 15 := by omega
     have t2 : ((k : Int) - 2).toNat = k - 2 := by omega
     have t3 : ((k : Int) - 16).toNat = k - 16 := by omega
     have t4 : ((k : Int) - 7).toNat = k - 7 := by omega
     have s1 : IntKind.i64.wrap ((k : Int) - 15) = (k : Int) - 15 := IntWalk.i64_in _ (by omega)
     have s2 : IntKind.i64.wrap ((k : Int) - 2) = (k : Int) - 2 := IntWalk.i64_in _ (by omega)
     have s3 : IntKind.i64.wrap ((k : Int) - 16) = (k : Int) - 16 := IntWalk.i64_in _ (by omega)
     have s4 : IntKind.i64.wrap ((k : Int) - 7) = (k : Int) - 7 := IntWalk.i64_in _ (by omega)
     have b1 : (0 : Int) ≤ (k : Int) - 15 ∧ (k : Int) - 15 < 64 := by omega
     have b2 : (0 : Int) ≤ (k : Int) - 2 ∧ (k : Int) - 2 < 64 := by omega
     have b3 : (0 : Int) ≤ (k : Int) - 16 ∧ (k : Int) - 16 < 64 := by omega
     have b4 : (0 : Int) ≤ (k : Int) - 7 ∧ (k : Int) - 7 < 64 := by omega
     have b6 : (16 : Int) ≤ (k : Int) := by omega
     have b7 : (7 : Int) ≤ (k : Int) := by omega
     have b8 : (k : Int) - 16 < 64 := by omega
     have b9 : (k : Int) - 7 < 64 := by omega
     have b10 : (0 : Int) ≤ (k : Int) - 16 := by omega
     have b11 : (0 : Int) ≤ (k : Int) - 7 := by omega
     have b5 : (0 : Int) ≤ (k : Int) ∧ (k : Int) < 64 := by omega
     have HR := Lib.hid hR; have HZ := Lib.hid hZ
     clear hR hZ
     have HL8 := Lib.hid hl8; clear hl8
     go_wp2_with (go_at_call 75; refine (rot_z _ _ (by assumption) (by decide) _).mono ?_; rintro e w1 ⟨rfl, rfl⟩)
     obtain ⟨W2, hW2⟩ : ∃ W2, W2 = wr := ⟨_, rfl⟩
     rw [← hW2]
     have d16 : W2.cell? ⟨w.heap.size + 1 + 1, k - 16, none⟩ = some (.int .u32 p) := by rw [hW2]; exact c16
     have d7 : W2.cell? ⟨w.heap.size + 1 + 1, k - 7, none⟩ = some (.int .u32 q) := by rw [hW2]; exact c7
     have df : W2.frozen? ⟨w.heap.size + 1 + 1, k, none⟩ = false := by rw [hW2]; exact cf
     have dr : W2.cell? ⟨w.heap.size + 1 + 1, k, none⟩ = some v := by rw [hW2]; exact cr
     have HR2 : Hid (Row W2 (w.heap.size + 1 + 1) (numV (wrow L k)) 116) := Lib.hid (by rw [hW2]; exact HR.out)
     have HZ2 : Hid (Row W2 (w.heap.size + 1) (zrow 64) 116) := Lib.hid (by rw [hW2]; exact HZ.out)
     have hb2 : Below w.heap.size w W2 := by rw [hW2]; exact hb
     clear hW2 c16 c7 cf cr HR HZ hb c15 c2 t1 t2 s1 s2 b1 b2
     go_still_tail 15, (by kernel_rfl)
     change wpList _ _ _ _ _ W2.drew
     clear t3 t4 s3 s4 b3 b4 d16 d7
     go_wp2
     go_roundw
     case rel =>
      refine ⟨k + 1, by omega, by omega, by go_num, ?_, ?_, ?_⟩
      ·exact (Row.drew HZ2.out).other _ _ (by show w.heap.size + 1 ≠ w.heap.size + 1 + 1; omega)
      ·have := (Row.drew HR2.out).set k (.int .u32 (nxt L (wlist L k) k : Nat))
       rw [numV_set, wrow_set L k (by omega), HV.out, ← HX.out, ← HY.out, ← HP.out, ← HQ.out] at this
       rw [sg0_int x lx, sg1_int y ly, ad4_int]
       exact this
      ·exact (hb2.drew).setCell (by show w.heap.size ≤ w.heap.size + 1 + 1; omega) _
     case measure => simp [intOf]; omega
    ·obtain rfl : k = 64 := by omega
     have hbk : decide (((64 : Nat) : Int) < 64) = false := rfl
     have HR := Lib.hid hR; have HZ := Lib.hid hZ
     clear hR hZ
     go_wp2_with (first
      | refine wpList_load_row rfl 116 _ rfl (w.heap.size + 1 + 1) rfl 116 (numV (wrow L 64)) (0, 0) _ HR.out Tryz.underlying116 rfl (by rw [numV_size, wrow_len _ _ hk]; exact size43) ?_
      | refine wpList_store_row rfl 116 _ _ rfl (w.heap.size + 1) (numV (wrow L 64)) rfl rfl 116 (zrow 64) HZ.out (by rw [numV_size, wrow_len _ _ hk]; exact size43) (by rw [numV_size, zrow_size, wrow_len _ _ hk]) (numV_one _) ?_)
     refine bodyPost_ret (v := .agg (numV (wrow L 64))) (results_cell_row rfl _ _ (w.heap.size + 1) 116 (numV (wrow L 64)) (0, 0) _ rfl (setRow_heap _ _ _ _ _ _ HZ.out) Tryz.underlying116 rfl (by rw [numV_size, wrow_len _ _ hk]; exact size43)) rfl ⟨by rw [wrow_full], below_setRow hb (by omega) _⟩
end Go.Proofs.YtlccihidedfemaaGreatDoor
set_option linter.unusedVariables false
namespace Go.Proofs.YtlccihidedfemaaGreatDoor
open Go.RowKit
def setSeg : Array Value → Nat → List Value → Array Value
 | xs, _, [] => xs
 | xs, o, v :: r => setSeg (xs.setIfInBounds o v) (o + 1) r
theorem setSeg_eq : ∀ (vs : List Value) (A M B : List Value), M.length = vs.length → setSeg (A ++ M ++ B).toArray A.length vs = (A ++ vs ++ B).toArray
 | [], A, M, B, h => by
  have : M = [] := List.length_eq_zero_iff.1 h
  subst this; rfl
 | v :: r, A, [], B, h => by simp at h
 | v :: r, A, m :: M, B, h => by
  have := setSeg_eq r (A ++ [v]) M B (by simpa using h)
  rw [setSeg, show (A ++ m :: M ++ B).toArray.setIfInBounds A.length v = (A ++ [v] ++ M ++ B).toArray by simp]
  simp only [List.length_append, List.length_singleton] at this
  rw [this]; simp
theorem Row.setCells {W : World} {B : Nat} {T : TypeId} : ∀ (vs : List Value) {xs : Array Value} {W : World} (h : Row W B xs T) (o : Nat), Row (W.setCells B o vs) B (setSeg xs o vs) T
 | [], _, _, h, _ => h
 | v :: r, _, _, h, o => Row.setCells (W := W) r (h.set o v) (o + 1)
theorem below_setCells {b g : Nat} {w : World} : ∀ (vs : List Value) {W : World} (h : Below b w W) (o : Nat) (hg : b ≤ g), Below b w (W.setCells g o vs)
 | [], _, h, _, _ => h
 | v :: r, _, h, o, hg => below_setCells r (h.setCell hg v) (o + 1) hg
theorem Row.range {W : World} {B : Nat} {T : TypeId} {A M C : List Value} (h : Row W B (A ++ M ++ C).toArray T) : W.rangeAt B A.length M := fun j v hv => by
 rw [h.cell]
 have hj : j < M.length := (List.getElem?_eq_some_iff.1 hv).1
 simp only [List.getElem?_toArray]
 rw [List.append_assoc, List.getElem?_append_right (by omega), List.getElem?_append_left (by omega), show A.length + j - A.length = j by omega, hv]
theorem Row.there {W : World} {B : Nat} {T : TypeId} {xs : Array Value} (h : Row W B xs T) (o n : Nat) (hn : o + n ≤ xs.size) : W.there B o n := fun j hj => by
 refine ⟨?_, h.free _⟩
 rw [h.cell, Array.getElem?_eq_getElem (by omega)]
 rfl
theorem run_copy_part {P : Program} (w : World) (dT sT ty elem : TypeId) (g dLen dCap : Nat) (s : ByteArray) (A M C : List Value) (t : TypeId)
  (hu : P.underlying dT = some (.slice elem)) (hs : (P.info? elem).map (·.size) = some 1) (hg : Row w g (A ++ M ++ C).toArray t) (n : Nat) (hn : Nat.min s.size dLen = n) (hM : M.length = n) :
  (Builtin.copy_ #[dT, sT] ty #[.slice (some ⟨g, A.length, none⟩) dLen dCap, .string s]).run P w =
   .ok (goInt n) (w.setRow g (A ++ Lib.byteCells (s.data.toList.take n) ++ C).toArray) := by
 have hle : n ≤ s.size := by rw [← hn]; exact Nat.min_le_left _ _
 have hl : (Lib.byteCells (s.data.toList.take n)).length = n := by rw [Lib.byteCells_length, List.length_take, ← Lib.size_eq]; omega
 have hst := run_storeCells_at P g A.length t (Lib.byteCells (s.data.toList.take n)) 0 (A ++ M ++ C).toArray w hg (by rw [hl]; simp; omega) (Lib.byteCells_one _)
 rw [hl] at hst
 simp only [Nat.add_zero] at hst
 rw [show ((A ++ M ++ C).toArray.toList.take A.length ++ Lib.byteCells (s.data.toList.take n) ++ (A ++ M ++ C).toArray.toList.drop (A.length + n)) = A ++ Lib.byteCells (s.data.toList.take n) ++ C by
  simp [← hM, List.append_assoc, ← List.drop_drop]] at hst
 have hx : List.take n (List.map (fun b : UInt8 => Value.int IntKind.u8 (b.toNat : Int)) s.data.toList) = Lib.byteCells (s.data.toList.take n) := by
  rw [← List.map_take]; rfl
 cases hq : P.info? elem with
 | none => simp [hq] at hs
 | some i =>
  simp [Builtin.copy_, run_underlying hu, Builtin.lenOf, Builtin.firstCells, sizeOf, typeInfo, hq, hn]
  rw [hx, hst]
  simp [Result.andThen]
theorem Row.rangeA {W : World} {B : Nat} {T : TypeId} {A C : List Value} {M : Array Value} (h : Row W B (A ++ M.toList ++ C).toArray T) (n : Nat) (hn : A.length = n) : W.rangeAt B n M.toList := by subst hn; exact h.range
end Go.Proofs.YtlccihidedfemaaGreatDoor
set_option linter.unusedVariables false
namespace Go.Proofs.YtlccihidedfemaaGreatDoor
open Go.RowKit Go.Shelf
set_option maxHeartbeats 2000000 in
set_option maxRecDepth 100000 in
theorem WriteString_k_Bus (B b : Nat) (bs : List Value) (s : ByteArray) (w : World) (h : Lib.IsBuilderF 154 5 B b bs w) (hlen : bs.length + s.size ≤ 140737488355328) (hBw : B ≤ w.heap.size) :
  Calls Tryz.prog 126 #[.pointer (some ⟨b, 0, none⟩), .string s] w fun e w' => e = .returned (.tuple #[.int .i64 s.size, .nilIface]) ∧ (Lib.BuilderAtF 154 5 B b (.pointer (some ⟨b, 0, none⟩)) (bs ++ Lib.strCells s) w' ∧ Below B w w' ∧ Lib.OthersKept 5 (some b) w w') := by
 obtain ⟨i0, hi, hz0, hz1, hz2⟩ := info_parts infoByte
 go_enter Tryz.func126, Tryz.ntmps126
 go_wp2_with (go_at_call 146; refine (copyCheck_k B b bs _ h).mono ?_)
 rintro e w1 ⟨rfl, h1, hb1, hk1⟩
 obtain ⟨hB, v, hbk, hown, hne⟩ := h1
 have c0 : w1.cell? ⟨b, 0, none⟩ = some (.pointer (some ⟨b, 0, none⟩)) := by rw [Lib.cell_of_heap hbk]; rfl
 have c1 : w1.cell? ⟨b, 1, none⟩ = some v := by rw [Lib.cell_of_heap hbk]; rfl
 go_wp2_with (at_builtin; refine Lib.wpList_append_own_stringF _ rfl _ _ 83 9 rfl B 5 i0 Tryz.underlying83 Tryz.underlying9 hi hz0 hz1 hz2 _ _ _ rfl hown s rfl ?c3 ?c4 ?c5 ?_)
 case c3 => unfold maxLen; omega
 case c4 => omega
 case c5 => have := hb1.size; omega
 intro v' w2 hown' hgrow _
 have hlt : b < w1.heap.size := (Array.getElem?_eq_some_iff.1 hbk).1
 have hb2 : w2.heap[b]? = some (.cells #[.pointer (some ⟨b, 0, none⟩), v] 154 (0, 0)) := by
  rw [hgrow.block b hlt (fun e => hne e.symm)]
  exact hbk
 have d0 : w2.cell? ⟨b, 0, none⟩ = some (.pointer (some ⟨b, 0, none⟩)) := by rw [Lib.cell_of_heap hb2]; rfl
 have d1 : w2.cell? ⟨b, 1, none⟩ = some v := by rw [Lib.cell_of_heap hb2]; rfl
 have f1 : w2.frozen? ⟨b, 1, none⟩ = false := Lib.frozen_of_heap hb2 1
 obtain ⟨ao, n', cap, rfl⟩ : ∃ ao n' cap, v' = .slice ao n' cap := by
  rcases hown'.2 with ⟨hv, _⟩ | ⟨g, cap, cur, fz, hv, _⟩
  ·exact ⟨_, _, _, hv⟩
  ·exact ⟨_, _, _, hv⟩
 go_wp2
 go_ret2
 refine ⟨rfl, ?_, ?_, (hk1.grown hgrow (Lib.ownsRowF_kind hown)).setCell ⟨b, 1, none⟩ rfl _⟩
 ·exact Lib.BuilderAtF.put (T := 154) (e := 5) hB hb2 (bs' := bs ++ Lib.strCells s) (by simpa [Lib.strCells_length] using hown') (by decide)
 ·exact (hb1.grown hgrow (by have := hb1.size; omega) (fun k hk => (hown.lt k hk).1)).setCell (p := ⟨b, 1, none⟩) hB _
theorem size_mk (l : List UInt8) : (⟨l.toArray⟩ : ByteArray).size = l.length := by simp [ByteArray.size]
theorem builder_step {T e : TypeId} {B b : Nat} {bs : List Value} {w w' : World} (h : Lib.IsBuilderF T e B b bs w) (hb : Below w.heap.size w w') : Lib.IsBuilderF T e B b bs w' := by
 have hg : w.grownBy w' none := ⟨hb.os, hb.tape, hb.output, hb.size, fun k hk _ => hb.block k hk⟩
 have key : ∀ p, Lib.BuilderAtF T e B b p bs w → Lib.BuilderAtF T e B b p bs w' := by
  rintro p ⟨hB, v, hbk, hown, hne⟩
  refine ⟨hB, v, ?_, hown.kept hg ?_, hne⟩
  ·rw [hb.block b (Array.getElem?_eq_some_iff.1 hbk).1]; exact hbk
  ·cases hv : v.ownBlock with
   | none => exact .inl rfl
   | some g => exact .inr (by simp)
 exact h.imp (key _) (key _)
set_option maxHeartbeats 1000000 in
set_option maxRecDepth 100000 in
theorem Len_k (B b : Nat) (bs : List Value) (w : World) (h : Lib.IsBuilderF 154 5 B b bs w) :
  Calls Tryz.prog 175 #[.pointer (some ⟨b, 0, none⟩)] w fun e w' => e = .returned (.int .i64 bs.length) ∧ w = w' := by
 obtain ⟨p, hB, v, hbk, hown, hne⟩ : ∃ p, Lib.BuilderAtF 154 5 B b p bs w := by
  rcases h with h | h
  ·exact ⟨_, h⟩
  ·exact ⟨_, h⟩
 obtain ⟨ao, cap, rfl⟩ : ∃ ao cap, v = .slice ao bs.length cap := by
  rcases hown.2 with ⟨hv, h0⟩ | ⟨g, cap, cur, fz, hv, _⟩
  ·exact ⟨none, 0, by rw [hv, h0]⟩
  ·exact ⟨_, _, hv⟩
 have c1 : w.cell? ⟨b, 1, none⟩ = some (.slice ao bs.length cap) := by rw [Lib.cell_of_heap hbk]; rfl
 go_enter Tryz.func175, Tryz.ntmps175
 go_wp2
 go_ret
 exact ⟨rfl, rfl⟩
theorem sizeByte_Bum : (Tryz.prog.info? 5).map (fun i => i.size) = some 1 := by kernel_rfl
set_option maxHeartbeats 2000000 in
set_option maxRecDepth 1000000 in
theorem grow_fresh_Bum (B b n : Nat) (w : World) (hB : B ≤ b) (hbk : w.heap[b]? = some (.cells #[.pointer (some ⟨b, 0, none⟩), .slice none 0 0] 154 (0, 0))) (hBw : B ≤ w.heap.size) (hn : n ≤ 281474976710656) :
  Calls Tryz.prog 152 #[.pointer (some ⟨b, 0, none⟩), .int .i64 n] w fun e w' => e = .returned (.tuple #[]) ∧ (Lib.BuilderAt 154 5 B b (.pointer (some ⟨b, 0, none⟩)) [] w' ∧ Below B w w') := by
 obtain ⟨cs, hrun, hle, hmax⟩ := Lib.run_makeNoZero (P := Tryz.prog) w.drew #[3] 83 5 Tryz.underlying83 n hn
 have hw : IntKind.i64.wrap (IntKind.i64.wrap 0 + (n : Int)) = n := by
  rw [IntKind.wrap_i64, IntKind.wrap_i64]
  omega
 have hcall : (callFunc 169 #[.int .i64 (n : Int)]).run Tryz.prog w.drew = .ok (.value (.slice (some ⟨w.drew.heap.size, 0, none⟩) n cs.size)) (w.drew.drew.drew.alloc (.cells cs 5)) := by
  rw [run_callFunc_extern Tryz.func169 (by kernel_rfl) (by kernel_rfl) (by kernel_rfl) (e := Extern.BytealgMakeNoZero.makeNoZero #[3] #[83]) (by kernel_rfl), hrun]
  rfl
 have hlt : b < w.heap.size := (Array.getElem?_eq_some_iff.1 hbk).1
 have c1 : w.drew.cell? ⟨b, 1, none⟩ = some (.slice none 0 0) := by
  have : w.drew.heap[b]? = _ := hbk
  rw [Lib.cell_of_heap this]; rfl
 have c2 : (w.alloc (.cells cs 5)).cell? ⟨b, 1, none⟩ = some (.slice none 0 0) := by
  have : (w.alloc (.cells cs 5)).heap[b]? = _ := (Lib.alloc_old w _ b hlt).trans hbk
  rw [Lib.cell_of_heap this]; rfl
 have f2 : (w.alloc (.cells cs 5)).frozen? ⟨b, 1, none⟩ = false := Lib.frozen_of_heap ((Lib.alloc_old w _ b hlt).trans hbk) 1
 have hcopy : ∀ W : World, (Builtin.copy_ #[83, 83] 3 #[.slice (some ⟨w.heap.size, 0, none⟩) 0 cs.size, .slice none 0 0]).run Tryz.prog W = .ok (goInt 0) W :=
  fun W => run_copy_none W 83 83 3 5 _ _ 0 cs.size 0 0 Tryz.underlying83 sizeByte_Bum rfl
 go_enter Tryz.func152, Tryz.ntmps152
 go_wp2
 have hfin := Lib.grown_fresh (T := 154) (e := 5) (cs := cs) hB hbk hBw (hmax (by unfold maxLen; omega)) (by decide)
 go_region
 all_goals (go_wp2; go_end0; exact ⟨rfl, by first | exact hfin | (rw [World.setCell_alloc_past _ b 1 _ hlt] at hfin; exact hfin)⟩)
set_option maxHeartbeats 2000000 in
set_option maxRecDepth 1000000 in
theorem Grow_fresh_Bum (B b n : Nat) (w : World) (hB : B ≤ b) (hbk : w.heap[b]? = some (.cells #[.pointer none, .slice none 0 0] 154 (0, 0))) (hBw : B ≤ w.heap.size) (hn1 : 1 ≤ n) (hn : n ≤ 281474976710656) :
  Calls Tryz.prog 136 #[.pointer (some ⟨b, 0, none⟩), .int .i64 n] w fun e w' => e = .returned (.tuple #[]) ∧ (Lib.BuilderAt 154 5 B b (.pointer (some ⟨b, 0, none⟩)) [] w' ∧ Below B w w') := by
 have h0 : w.cell? ⟨b, 0, none⟩ = some (.pointer none) := by rw [Lib.cell_of_heap hbk]; rfl
 have hsh : w.shape? b = some (154, 2) := by unfold World.shape?; rw [hbk]; rfl
 have hfz : w.frozen? ⟨b, 0, none⟩ = false := Lib.frozen_of_heap hbk 0
 have hbk1 : (w.setCell ⟨b, 0, none⟩ (.pointer (some ⟨b, 0, none⟩))).heap[b]? = some (.cells #[.pointer (some ⟨b, 0, none⟩), .slice none 0 0] 154 (0, 0)) := by
  simp [World.setCell, Array.getElem?_modify, hbk]
 have c1 : (w.setCell ⟨b, 0, none⟩ (.pointer (some ⟨b, 0, none⟩))).cell? ⟨b, 1, none⟩ = some (.slice none 0 0) := by rw [Lib.cell_of_heap hbk1]; rfl
 have hb1 : Below B w (w.setCell ⟨b, 0, none⟩ (.pointer (some ⟨b, 0, none⟩))) := (Below.refl B w).setCell (p := ⟨b, 0, none⟩) hB _
 obtain ⟨W1, hW1⟩ : ∃ W1, W1 = w.setCell ⟨b, 0, none⟩ (.pointer (some ⟨b, 0, none⟩)) := ⟨_, rfl⟩
 have CC := Lib.hid (copyCheck_fresh b w h0 hsh hfz)
 rw [← hW1] at hbk1 c1 hb1 CC
 have HB := Lib.hid hbk1
 have hp : (0 : Int) < (n : Int) := by omega
 clear hW1 hbk1 h0 hsh hfz
 go_enter Tryz.func136, Tryz.ntmps136
 go_wp2_with fail
 refine CC.out.mono ?_
 rintro e w1 ⟨rfl, rfl⟩
 go_wp2_with fail
 go_quiet (fail)
 go_wp2_with fail
 have hbk2 : (w1.drewN nq).heap[b]? = some (.cells #[.pointer (some ⟨b, 0, none⟩), .slice none 0 0] 154 (0, 0)) := HB.out
 refine (grow_fresh_Bum B b n _ hB hbk2 (Nat.le_trans hBw hb1.size) hn).mono ?_
 rintro e w2 ⟨rfl, hA, hb2⟩
 go_wp2_with fail
 go_end0
 exact ⟨rfl, hA, (below_drewN hb1 nq).trans hb2⟩
end Go.Proofs.YtlccihidedfemaaGreatDoor

/-
  Texts put together: contracts and laws that this seat's proofs share.
-/
import Derived.WideKeyArgs
import Derived.Below
import Derived.OpenShut
import Derived.Deep.Slices
import Derived.ProofKit
import Derived.Laws.Rows
import Derived.DataReads
import Derived.Laws.BitsAllLaws
import Derived.WalkKit
import Derived.Deep.QuietTactic
import Derived.BigQuiet
import Derived.Laws.CopyOwn
import Derived.Laws.BytesArg
import Derived.Deep.WholeRow
import Derived.Test.YtlccihidedfemaaGreatDoorProg
import Derived.LoopTactic
import Derived.Outline
import Derived.Lib.Hide
import Derived.Laws.PanicsMore
import Derived.Lib.Strings
import Derived.SliceStrings
import Derived.WideShapes
import Derived.OwnWalk
import Derived.Laws.AppendOwn
import Derived.Laws.AppendOwnNone
import Derived.BigFrame
import Derived.Lib.SlicesCompact
import Derived.Sort.Walk0
import Derived.KernelRfl
import Derived.RegionTactic
import Derived.BigRegionIn
import Derived.Sort.CutIn
import Derived.Laws.Cover1
import Derived.ChangeAlike
import Derived.ChangeKeysEq
import Derived.Shelf.Strings.SplitCore
import Derived.Shelf.Strings.Search3
import Derived.Shelf.Strings.Count
import Derived.Shelf.Strings.IndexAnyAll
import Derived.Shelf.Small.Strs
import Derived.Shelf.Small.Bits
import Derived.Shelf.Spec.TrailingZeros
import Derived.Shelf.Pu.Clone
import Derived.Ground.MpProg
import Derived.Laws.BitsLemmas
import Derived.Laws.Bits64
import Derived.Lib.VarintBits
namespace Go.Proofs.YtlccihidedfemaaGreatDoor
open Go.ChangeShapes Go.WideShapes Go.RowKit Go.Deep
section
variable {H : Type} {enc : TypeId × Value → H} {P : Program}
theorem trodAll_stays (hl : laidOutB P = true) {W W' : World} {sp' : Nat → Bool} (hb : Below W.heap.size W W') : ∀ {ts : List TypeId} {vs : List Value} {ds : List (DataW H)} {ps : List MemPlace},
  (ts.all fun t => P.readableRec t && decide (t < P.types.size)) = true → DataW.TrodAll enc P W 0 (fun _ => true) true ts vs ds ps → (∀ p ∈ ps, p.block < W.heap.size) → (∀ p ∈ ps, sp' p.block = true) →
  DataW.TrodAll enc P W' 0 sp' true ts vs ds ps
 | [], _, _, _, _, h, _, _ => by
  obtain ⟨rfl, rfl, rfl⟩ := trodAll_nil h
  exact trodAll_mk0
 | t :: ts, _, _, _, hr, h, hlt, hsp => by
  obtain ⟨v, vs1, d, ds1, a, b, rfl, rfl, rfl, h1, h2⟩ := trodAll_cons h
  simp only [List.all_cons, Bool.and_eq_true, decide_eq_true_eq] at hr
  obtain ⟨⟨hr1, hr2⟩, hr3⟩ := hr
  exact trodAll_cons_mk (WideElems.Trod_stays hl hr1 hr2 h1 (fun p hp => hb.same (hlt p (List.mem_append.2 (.inl hp)))) (fun p hp => hsp p (List.mem_append.2 (.inl hp))))
   (trodAll_stays hl hb hr3 h2 (fun p hp => hlt p (List.mem_append.2 (.inr hp))) (fun p hp => hsp p (List.mem_append.2 (.inr hp))))
variable {w : World} {base : Nat} {spare : Nat → Bool} {held : Bool} {fuel : Nat} {t e : TypeId} {cs : List Value} {x : DataW H × List MemPlace}
end
end Go.Proofs.YtlccihidedfemaaGreatDoor
set_option linter.unusedVariables false
namespace Go.Proofs.YtlccihidedfemaaGreatDoor
def M64 : Nat := 18446744073709551616
def fld (n d : Nat) : Nat := n ^^^ n / 2 ^ d
def tabN (b : Nat) : Nat := fld (fld (fld ((b + 1) * 11400714819323198485 % M64) 30 * 13787848793156543929 % M64) 27 * 10723151780598845931 % M64) 31
theorem m64_pos : 0 < M64 := by decide
def rollN (h b : Nat) : Nat := (2 * h + tabN b) % M64
def hashF (h : Nat) (l : List UInt8) : Nat := l.foldl (fun h b => rollN h b.toNat) h
theorem rollN_lt (h b : Nat) : rollN h b < M64 := Nat.mod_lt _ m64_pos
theorem foldG_snoc (f : Nat → Nat → Nat) (h : Nat) (b : UInt8) (l : List UInt8) : List.foldl (fun h b => f h b.toNat) h (l ++ [b]) = f (List.foldl (fun h b => f h b.toNat) h l) b.toNat := by
 rw [List.foldl_append]; rfl
theorem hashF_snoc (h : Nat) (l : List UInt8) (b : UInt8) : hashF h (l ++ [b]) = rollN (hashF h l) b.toNat := foldG_snoc rollN h b l
def hs (at' : Nat) (l : List UInt8) : List (Nat × Nat) := (List.range l.length).map fun k => (at' + k, hashF 0 (l.take (k + 1)))
theorem hs_len (p : Nat) (l : List UInt8) : (hs p l).length = l.length := by simp [hs]
theorem hs_get (p : Nat) (l : List UInt8) (k : Nat) (h : k < l.length) : (hs p l)[k]? = some (p + k, hashF 0 (l.take (k + 1))) := by
 simp [hs, List.getElem?_range h]
theorem hs_take (p : Nat) (l : List UInt8) (n : Nat) : (hs p l).take n = hs p (l.take n) := by
 apply List.ext_getElem?
 intro i
 by_cases h : i < n ∧ i < l.length
 ·rw [List.getElem?_take, if_pos h.1, hs_get p l i h.2, hs_get p (l.take n) i (by rw [List.length_take]; omega), List.take_take, Nat.min_eq_left (by omega)]
 ·rw [List.getElem?_eq_none (by rw [List.length_take, hs_len]; omega), List.getElem?_eq_none (by rw [hs_len, List.length_take]; omega)]
theorem hs_app (p : Nat) (l q : List UInt8) : hs p l <+: hs p (l ++ q) := by
 have := hs_take p (l ++ q) l.length
 rw [List.take_append_of_le_length (Nat.le_refl _), List.take_length] at this
 rw [← this]
 exact List.take_prefix _ _
theorem hs_snoc (p : Nat) (l : List UInt8) (k : Nat) (h : k < l.length) : hs p (l.take (k + 1)) = hs p (l.take k) ++ [(p + k, hashF 0 (l.take (k + 1)))] := by
 rw [← hs_take, ← hs_take, List.take_add_one, hs_get p l k h]; rfl
theorem hs_mem {p : Nat} {l : List UInt8} {y : Nat × Nat} (h : y ∈ hs p l) : ∃ k, k < l.length ∧ y = (p + k, hashF 0 (l.take (k + 1))) := by
 simp only [hs, List.mem_map, List.mem_range] at h
 obtain ⟨k, hk, rfl⟩ := h
 exact ⟨k, hk, rfl⟩
def stopB (b : Nat) (y : Nat × Nat) : Bool := decide (y.2 < 2 ^ (64 - (if y.1 < 2 ^ b then b + 1 else b - 1)))
def cutFrom (b p : Nat) (l : List UInt8) : Nat := (((hs p l).find? (stopB b)).map (·.1 + 1)).getD (p + l.length)
theorem cutFrom_none {b p : Nat} {l : List UInt8} (h : ∀ y ∈ hs p l, stopB b y = false) : cutFrom b p l = p + l.length := by
 have : (hs p l).find? (stopB b) = none := by
  rw [List.find?_eq_none]; intro y hy; rw [h y hy]; simp
 rw [cutFrom, this]; rfl
theorem cutFrom_stop {b p : Nat} {l : List UInt8} {pre : List (Nat × Nat)} {x : Nat × Nat} (hp : pre ++ [x] <+: hs p l) (h : ∀ y ∈ pre, stopB b y = false) (hx : stopB b x = true) : cutFrom b p l = x.1 + 1 := by
 obtain ⟨r, hr⟩ := hp
 have : (hs p l).find? (stopB b) = some x := by
  rw [← hr, List.append_assoc, List.find?_append]
  have hn : pre.find? (stopB b) = none := by
   rw [List.find?_eq_none]; intro y hy; rw [h y hy]; simp
  rw [hn]
  simp [hx]
 rw [cutFrom, this]; rfl
theorem cutFrom_cases (b p : Nat) (l : List UInt8) : ((hs p l).find? (stopB b) = none ∧ cutFrom b p l = p + l.length) ∨ ∃ k, k < l.length ∧ (hs p l).find? (stopB b) = some (p + k, hashF 0 (l.take (k + 1))) ∧ cutFrom b p l = p + k + 1 := by
 unfold cutFrom
 rcases hf : (hs p l).find? (stopB b) with _ | y
 ·exact .inl ⟨rfl, rfl⟩
 ·obtain ⟨k, hk, rfl⟩ := hs_mem (List.mem_of_find?_eq_some hf)
  exact .inr ⟨k, hk, rfl, rfl⟩
theorem cutFrom_le (b p : Nat) (l : List UInt8) : cutFrom b p l ≤ p + l.length := by
 rcases cutFrom_cases b p l with ⟨_, h⟩ | ⟨k, hk, _, h⟩ <;> omega
theorem cutFrom_ge (b p : Nat) (l : List UInt8) : p ≤ cutFrom b p l := by
 rcases cutFrom_cases b p l with ⟨_, h⟩ | ⟨k, hk, _, h⟩ <;> omega
theorem cutFrom_app {b p : Nat} {l : List UInt8} (q : List UInt8) (h : cutFrom b p l < p + l.length) : cutFrom b p (l ++ q) = cutFrom b p l := by
 rcases cutFrom_cases b p l with ⟨_, h1⟩ | ⟨k, hk, hf, h1⟩
 ·omega
 ·obtain ⟨r, hr⟩ := hs_app p l q
  have : (hs p (l ++ q)).find? (stopB b) = some (p + k, hashF 0 (l.take (k + 1))) := by
   rw [← hr, List.find?_append, hf]; rfl
  rw [h1, cutFrom, this]; rfl
def cutN (mn b mx : Nat) (l : List UInt8) : Nat :=
 if (l.take mx).length ≤ mn then (l.take mx).length else cutFrom b mn ((l.take mx).drop mn)
theorem cutN_le (mn b mx : Nat) (l : List UInt8) : cutN mn b mx l ≤ l.length := by
 unfold cutN
 split
 ·rw [List.length_take]; omega
 ·have := cutFrom_le b mn ((l.take mx).drop mn)
  rw [List.length_drop, List.length_take] at this
  rename_i h; rw [List.length_take] at h
  omega
theorem cutN_max (mn b mx : Nat) (l : List UInt8) : cutN mn b mx l ≤ mx := by
 unfold cutN
 split
 ·rw [List.length_take]; omega
 ·have := cutFrom_le b mn ((l.take mx).drop mn)
  rw [List.length_drop, List.length_take] at this
  rename_i h; rw [List.length_take] at h
  omega
theorem cutN_pos {mn b mx : Nat} (h1 : 1 ≤ mn) (h2 : mn ≤ mx) {l : List UInt8} (hl : l ≠ []) : 1 ≤ cutN mn b mx l := by
 have := List.length_pos_iff.2 hl
 unfold cutN
 split
 ·rw [List.length_take]; omega
 ·have := cutFrom_ge b mn ((l.take mx).drop mn)
  omega
theorem cutN_min {mn b mx : Nat} (h2 : mn ≤ mx) {l : List UInt8} (h : cutN mn b mx l < l.length) : mn ≤ cutN mn b mx l := by
 revert h
 unfold cutN
 split
 ·rw [List.length_take]; omega
 ·intro _
  exact cutFrom_ge b mn ((l.take mx).drop mn)
theorem cutN_app {mn b mx : Nat} {l : List UInt8} (q : List UInt8) (h : cutN mn b mx l < l.length) : cutN mn b mx (l ++ q) = cutN mn b mx l := by
 by_cases hm : mx ≤ l.length
 ·unfold cutN; rw [List.take_append_of_le_length hm]
 ·have e1 : l.take mx = l := List.take_of_length_le (by omega)
  have e2 : (l ++ q).take mx = l ++ q.take (mx - l.length) := by rw [List.take_append, e1]
  unfold cutN at h ⊢
  rw [e1] at h ⊢
  rw [e2]
  by_cases hn : l.length ≤ mn
  ·rw [if_pos hn] at h; omega
  ·rw [if_neg hn] at h ⊢
   rw [if_neg (by rw [List.length_append]; omega), List.drop_append_of_le_length (by omega)]
   exact cutFrom_app _ (by rw [List.length_drop]; omega)
theorem cutN_none {mn b mx : Nat} {l : List UInt8} (h : ∀ y ∈ hs mn ((l.take mx).drop mn), stopB b y = false) : cutN mn b mx l = (l.take mx).length := by
 unfold cutN
 split
 ·rfl
 ·rw [cutFrom_none h, List.length_drop]; omega
theorem cutN_stop {mn b mx : Nat} {l : List UInt8} {pre : List (Nat × Nat)} {x : Nat × Nat} (hp : pre ++ [x] <+: hs mn ((l.take mx).drop mn)) (h : ∀ y ∈ pre, stopB b y = false) (hx : stopB b x = true) : cutN mn b mx l = x.1 + 1 := by
 have := hp.length_le
 rw [List.length_append, hs_len, List.length_drop, List.length_singleton] at this
 unfold cutN
 rw [if_neg (by omega), cutFrom_stop hp h hx]
def pcsK (c : List UInt8 → Nat) : Nat → List UInt8 → List (List UInt8)
 | 0, _ => []
 | n + 1, l => if l.isEmpty then [] else l.take (c l) :: pcsK c n (l.drop (c l))
def pcs (c : List UInt8 → Nat) (l : List UInt8) : List (List UInt8) := pcsK c l.length l
theorem pcsK_enough {c : List UInt8 → Nat} (hc : ∀ l, l ≠ [] → 1 ≤ c l) : ∀ (n m : Nat) (l : List UInt8), l.length ≤ n → l.length ≤ m → pcsK c n l = pcsK c m l
 | 0, 0, _, _, _ => rfl
 | 0, m + 1, l, h, _ => by
  obtain rfl : l = [] := List.length_eq_zero_iff.1 (by omega)
  rfl
 | n + 1, 0, l, _, h => by
  obtain rfl : l = [] := List.length_eq_zero_iff.1 (by omega)
  rfl
 | n + 1, m + 1, l, h1, h2 => by
  by_cases hl : l = []
  ·subst hl; rfl
  ·have hp := List.length_pos_iff.2 hl
   have := hc l hl
   simp only [pcsK]
   rw [pcsK_enough hc n m (l.drop (c l)) (by rw [List.length_drop]; omega) (by rw [List.length_drop]; omega)]
theorem pcs_nil (c : List UInt8 → Nat) : pcs c [] = [] := rfl
theorem pcs_cons {c : List UInt8 → Nat} (hc : ∀ l, l ≠ [] → 1 ≤ c l) {l : List UInt8} (hl : l ≠ []) : pcs c l = l.take (c l) :: pcs c (l.drop (c l)) := by
 have hp := List.length_pos_iff.2 hl
 have := hc l hl
 obtain ⟨n, hn⟩ : ∃ n, l.length = n + 1 := ⟨l.length - 1, by omega⟩
 unfold pcs
 rw [hn]
 simp only [pcsK]
 rw [if_neg (by simpa using hl), pcsK_enough hc n (l.drop (c l)).length (l.drop (c l)) (by rw [List.length_drop]; omega) (Nat.le_refl _)]
theorem pcs_len {c : List UInt8 → Nat} (hc : ∀ l, l ≠ [] → 1 ≤ c l) : ∀ (n : Nat) (l : List UInt8), l.length ≤ n → (pcs c l).length ≤ l.length
 | 0, l, h => by
  obtain rfl : l = [] := List.length_eq_zero_iff.1 (by omega)
  exact Nat.le_refl _
 | n + 1, l, h => by
  by_cases hl : l = []
  ·subst hl; exact Nat.le_refl _
  ·have hp := List.length_pos_iff.2 hl
   have := hc l hl
   have := pcs_len hc n (l.drop (c l)) (by rw [List.length_drop]; omega)
   rw [pcs_cons hc hl, List.length_cons]
   rw [List.length_drop] at this
   omega
theorem pcs_flat {c : List UInt8 → Nat} (hc : ∀ l, l ≠ [] → 1 ≤ c l) : ∀ (n : Nat) (l : List UInt8), l.length ≤ n → (pcs c l).flatten = l
 | 0, l, h => by
  obtain rfl : l = [] := List.length_eq_zero_iff.1 (by omega)
  rfl
 | n + 1, l, h => by
  by_cases hl : l = []
  ·subst hl; rfl
  ·have hp := List.length_pos_iff.2 hl
   have := hc l hl
   rw [pcs_cons hc hl, List.flatten_cons, pcs_flat hc n (l.drop (c l)) (by rw [List.length_drop]; omega), List.take_append_drop]
structure CutOk (mn mx : Nat) (c : List UInt8 → Nat) : Prop where
 pos : ∀ l, l ≠ [] → 1 ≤ c l
 le : ∀ l, c l ≤ l.length
 max : ∀ l, c l ≤ mx
 min : ∀ l, c l < l.length → mn ≤ c l
 app : ∀ l q, c l < l.length → c (l ++ q) = c l
theorem cutN_ok {mn b mx : Nat} (h1 : 1 ≤ mn) (h2 : mn ≤ mx) : CutOk mn mx (cutN mn b mx) :=
 ⟨fun _ => cutN_pos h1 h2, cutN_le _ _ _, cutN_max _ _ _, fun _ => cutN_min h2, fun _ q h => cutN_app q h⟩
theorem pcs_each {mn mx : Nat} {c : List UInt8 → Nat} (H : CutOk mn mx c) : ∀ (n : Nat) (l : List UInt8), l.length ≤ n → ∀ (i : Nat) (x : List UInt8), (pcs c l)[i]? = some x → 1 ≤ x.length ∧ x.length ≤ mx ∧ (i + 1 < (pcs c l).length → mn ≤ x.length)
 | 0, l, h, i, x, hx => by
  obtain rfl : l = [] := List.length_eq_zero_iff.1 (by omega)
  rw [pcs_nil] at hx; simp at hx
 | n + 1, l, h, i, x, hx => by
  by_cases hl : l = []
  ·subst hl; rw [pcs_nil] at hx; simp at hx
  ·have hp := List.length_pos_iff.2 hl
   have h1 := H.pos l hl
   have h2 := H.le l
   have h3 := H.max l
   rw [pcs_cons H.pos hl] at hx ⊢
   cases i with
   | zero =>
    simp only [List.getElem?_cons_zero, Option.some.injEq] at hx
    subst hx
    have e : (l.take (c l)).length = c l := by rw [List.length_take]; omega
    refine ⟨by omega, by omega, fun hi => ?_⟩
    rw [e]
    refine H.min l ?_
    by_cases hd : c l < l.length
    ·exact hd
    ·have : l.drop (c l) = [] := List.drop_of_length_le (by omega)
     rw [this, pcs_nil] at hi; simp at hi
   | succ i =>
    rw [List.getElem?_cons_succ] at hx
    obtain ⟨g1, g2, g3⟩ := pcs_each H n (l.drop (c l)) (by rw [List.length_drop]; omega) i x hx
    refine ⟨g1, g2, fun hi => g3 ?_⟩
    rw [List.length_cons] at hi; omega
structure FitAt (mn av mx : Int) (b : Nat) : Prop where
 h1 : 1 ≤ mn
 h2 : mn ≤ av
 h3 : av ≤ mx
 h4 : mx ≤ 4096
 h5 : 1 ≤ b
 h6 : b ≤ 12
 h7 : av = ((2 ^ b : Nat) : Int)
theorem FitAt.two {mn av mx : Int} {b : Nat} (h : FitAt mn av mx b) : 2 ≤ av := by
 rw [h.h7]
 have : 2 ^ 1 ≤ 2 ^ b := Nat.pow_le_pow_right (by decide) h.h5
 exact_mod_cast this
def fitB_Cdm (mn av mx : Int) : Bool := decide (∃ b, b < 13 ∧ 1 ≤ mn ∧ mn ≤ av ∧ av ≤ mx ∧ mx ≤ 4096 ∧ 1 ≤ b ∧ av = ((2 ^ b : Nat) : Int))
theorem fitB_true_Cdm {mn av mx : Int} (h : fitB_Cdm mn av mx = true) : ∃ b, FitAt mn av mx b := by
 obtain ⟨b, h0, h1, h2, h3, h4, h5, h6⟩ := of_decide_eq_true h
 exact ⟨b, h1, h2, h3, h4, h5, by omega, h6⟩
theorem fitB_of {mn av mx : Int} {b : Nat} (h : FitAt mn av mx b) : fitB_Cdm mn av mx = true :=
 decide_eq_true ⟨b, by have := h.h6; omega, h.h1, h.h2, h.h3, h.h4, h.h5, h.h7⟩
theorem fitB_not {mn av mx : Int} (h : fitB_Cdm mn av mx = false) : ∀ b, ¬ FitAt mn av mx b := fun b hb => by
 rw [fitB_of hb] at h; cases h
theorem pow_lt13 {b : Nat} (h : b ≤ 12) : (2 ^ b : Nat) ≤ 4096 := by
 have : b < 13 := by omega
 revert b; decide
end Go.Proofs.YtlccihidedfemaaGreatDoor
namespace Go.Proofs.YtlccihidedfemaaGreatDoor
open Go.RowKit
theorem wpList_alloc_zero {P : Program} {ops : Array Oper} {rest : List Oper} {o : Oper} {a : Act} {w : World} {Q : Exit → Act → World → Prop} (hg : o.guard = none) (t : TypeId) (ho : o.op = .alloc t)
  (cells : Array Value) (hz : (P.info? t).bind (fun i => i.zero.map (·.cells)) = some cells)
  (h : wpList P ops Q rest (a.put o.dst (.pointer (some ⟨w.heap.size, 0, none⟩))) (w.alloc (.cells cells t))) : wpList P ops Q (o :: rest) a w := by
 cases hi : P.info? t with
 | none => simp [hi] at hz
 | some i =>
  cases hz0 : i.zero with
  | none => simp [hi, hz0] at hz
  | some z =>
   simp only [hi, hz0, Option.bind_some, Option.map_some, Option.some.injEq] at hz
   subst hz
   refine wpList_plain hg fun K hK => ?_
   unfold Oper.wp execOp
   simp [ho, Instr.alloc, zeroValue, typeInfo, hi, hz0, newVar, newRow, go_sem]
   exact hK _ _ h
theorem wpList_index_arr {P : Program} {ops : Array Oper} {rest : List Oper} {o : Oper} {a : Act} {w : World} {Q : Exit → Act → World → Prop} (hg : o.guard = none) (t : TypeId) (x y : Operand) (ho : o.op = .index t x y)
  (n : Nat) (e : TypeId) (k : IntKind) (i : Nat) (cs : Array Value) (v : Value) (hx : a.eval x = .agg cs) (hy : a.eval y = .int k i) (hu : P.underlying t = some (.array n e)) (hin : i < n)
  (hs : (P.info? e).map (·.size) = some 1) (ha : ∀ w, (isAgg e).run P w = .ok false w) (hv : cs[i]? = some v)
  (h : wpList P ops Q rest (a.put o.dst v) w) : wpList P ops Q (o :: rest) a w := by
 cases hi : P.info? e with
 | none => simp [hi] at hs
 | some ie =>
  simp only [hi, Option.map_some, Option.some.injEq] at hs
  refine wpList_plain hg fun K hK => ?_
  unfold Oper.wp execOp
  have h1 : (0 : Int) ≤ (i : Int) ∧ (i : Int) < (n : Int) := ⟨Int.natCast_nonneg i, by omega⟩
  simp only [ho, hx, hy]
  simp [Instr.index, asIntOf, run_underlying hu, hin, sizeOf, typeInfo, hi, hs, part, ha, hv, Sem.run_bind, go_sem]
  exact hK _ _ h
def Row (W : World) (B : Nat) (xs : Array Value) (T : TypeId) : Prop := W.heap[B]? = some (.cells xs T (0, 0))
theorem Row.cell {W : World} {B : Nat} {xs : Array Value} {T : TypeId} (h : Row W B xs T) (i : Nat) : W.cell? ⟨B, i, none⟩ = xs[i]? := cell_of_row W B i _ _ _ h
theorem Row.free {W : World} {B : Nat} {xs : Array Value} {T : TypeId} (h : Row W B xs T) (i : Nat) : W.frozen? ⟨B, i, none⟩ = false := frozen_of_row W B i _ _ h
theorem Row.lt {W : World} {B : Nat} {xs : Array Value} {T : TypeId} (h : Row W B xs T) : B < W.heap.size := (Array.getElem?_eq_some_iff.1 h).1
theorem Row.set {W : World} {B : Nat} {xs : Array Value} {T : TypeId} (h : Row W B xs T) (i : Nat) (v : Value) : Row (W.setCell ⟨B, i, none⟩ v) B (xs.setIfInBounds i v) T := heap_setCell_same W B i _ _ _ h
theorem Row.other {W : World} {B : Nat} {xs : Array Value} {T : TypeId} (h : Row W B xs T) (a : Addr) (v : Value) (hne : B ≠ a.block) : Row (W.setCell a v) B xs T := by
 unfold Row; rw [heap_setCell_other _ _ _ _ hne]; exact h
theorem Row.setRow {W : World} {B : Nat} {xs : Array Value} {T : TypeId} (h : Row W B xs T) (ys : Array Value) : Row (W.setRow B ys) B ys T := setRow_heap _ _ _ _ _ _ h
theorem Row.setRow_other {W : World} {B : Nat} {xs : Array Value} {T : TypeId} (h : Row W B xs T) (g : Nat) (ys : Array Value) (hne : B ≠ g) : Row (W.setRow g ys) B xs T := by
 unfold Row; rw [Go.setRow_other _ _ _ _ hne]; exact h
theorem Row.alloc {W : World} {B : Nat} {xs : Array Value} {T : TypeId} (h : Row W B xs T) (o : Obj) : Row (W.alloc o) B xs T := by
 show (W.heap.push o)[B]? = _; rw [Array.getElem?_push, if_neg (Nat.ne_of_lt h.lt)]; exact h
theorem Row.made (W : World) (xs : Array Value) (T : TypeId) : Row (W.alloc (.cells xs T)) W.heap.size xs T := heap_alloc_new _ _
theorem Row.below {W W' : World} {B b : Nat} {xs : Array Value} {T : TypeId} (h : Row W B xs T) (hb : Below b W W') (hlt : B < b) : Row W' B xs T := by
 unfold Row; rw [hb.block B hlt]; exact h
theorem Row.step {W W' : World} {B : Nat} {xs : Array Value} {T : TypeId} (h : Row W B xs T) (hb : Below W.heap.size W W') : Row W' B xs T := h.below hb h.lt
theorem Row.drew {W : World} {B : Nat} {xs : Array Value} {T : TypeId} (h : Row W B xs T) : Row W.drew B xs T := h
theorem Row.drewN {W : World} {B : Nat} {xs : Array Value} {T : TypeId} (h : Row W B xs T) (n : Nat) : Row (W.drewN n) B xs T := h
def numV (l : List Nat) : Array Value := (l.map fun n : Nat => Value.int .u32 (n : Int)).toArray
def bytV (l : List UInt8) : Array Value := (l.map fun n : UInt8 => Value.int .u8 (n.toNat : Int)).toArray
def zrow (n : Nat) : Array Value := numV (List.replicate n 0)
theorem zrow_size (n : Nat) : (zrow n).size = n := by simp [zrow, numV]
def zbyt (n : Nat) : Array Value := bytV (List.replicate n 0)
theorem numV_size (l : List Nat) : (numV l).size = l.length := by simp [numV]
theorem bytV_size (l : List UInt8) : (bytV l).size = l.length := by simp [bytV]
theorem numV_get (l : List Nat) (i : Nat) (h : i < l.length) : (numV l)[i]? = some (.int .u32 (l.getD i 0 : Nat)) := by simp [numV, h]
theorem bytV_get (l : List UInt8) (i : Nat) (h : i < l.length) : (bytV l)[i]? = some (.int .u8 ((l.getD i 0).toNat : Nat)) := by simp [bytV, h]
theorem numV_set (l : List Nat) (i n : Nat) : (numV l).setIfInBounds i (.int .u32 (n : Int)) = numV (l.set i n) := by
 simp [numV, List.map_set]
theorem bytV_set (l : List UInt8) (i : Nat) (n : UInt8) : (bytV l).setIfInBounds i (.int .u8 (n.toNat : Int)) = bytV (l.set i n) := by
 simp [bytV, List.map_set]
theorem numV_one (l : List Nat) : (numV l).all (·.oneCell') = true := by
 simp [numV, Value.oneCell']
section
variable {P : Program}
theorem wpList_convert {ops : Array Oper} {rest : List Oper} {o : Oper} {a : Act} {w : World} {Q : Exit → Act → World → Prop} (hgd : o.guard = none) (t t' : TypeId) (x : Operand) (ho : o.op = .convert t t' x)
  (y v : Value) (w' : World) (hx : a.eval x = y) (hrun : (convert t t' y).run P w = .ok v w') (h : wpList P ops Q rest (a.put o.dst v) w') : wpList P ops Q (o :: rest) a w :=
 wpList_plain hgd fun _ hK => by
  unfold Oper.wp execOp
  simp only [ho, hx, Sem.run_bind, hrun, Result.andThen_ok, Sem.run_pure]
  exact hK _ _ h
theorem conv_row (src e dst : TypeId) (hs : P.underlying src = some (.slice e)) (he : P.underlying e = some (.int .u8)) (hd : P.underlying dst = some .string) (w : World) (B : Nat) (t : TypeId) (fr : Nat × Nat) (xs : List Int)
  (hg : w.heap[B]? = some (.cells (xs.map (Value.int .u8)).toArray t fr)) (n cap : Nat) (hn : xs.length = n) :
  (convert src dst (.slice (some ⟨B, 0, none⟩) n cap)).run P w = .ok (.string (strOfNums xs)) w :=
 run_convert_bytes_arg (P := P) w src e hs he B 0 n cap xs hn (fun i hi => by
  rw [Nat.zero_add, cell_of_row w B i _ _ _ hg]
  have hi' : i < xs.length := by omega
  simp [List.getD, List.getElem?_eq_getElem hi']) dst hd
end
end Go.Proofs.YtlccihidedfemaaGreatDoor
set_option linter.unusedVariables false
namespace Go.Proofs.YtlccihidedfemaaGreatDoor
open Go.RowKit
theorem ret_i {k : IntKind} {a b : Int} (h : a = b) : Ending.returned (.int k a) = .returned (.int k b) := by rw [h]
theorem val_i {k : IntKind} {a b : Int} (h : a = b) : Value.int k a = .int k b := by rw [h]
theorem take_on (s : ByteArray) (k : Nat) (h : k < s.size) : s.data.toList.take (k + 1) = s.data.toList.take k ++ [s[k]] := by
 rw [List.take_succ_eq_append_getElem (by simpa using h)]; rfl
theorem take_all (s : ByteArray) (k : Nat) (h : s.size ≤ k) : s.data.toList.take k = s.data.toList := List.take_of_length_le (by simp; omega)
theorem nums_bytes (l : List UInt8) : strOfNums (l.map fun u : UInt8 => (u.toNat : Int)) = ⟨l.toArray⟩ := by
 unfold strOfNums
 rw [List.map_map]
 congr 2
 exact (List.map_congr_left (fun u _ => by simp)).trans (List.map_id l)
theorem bytV_of (l : List UInt8) : bytV l = ((l.map fun u : UInt8 => (u.toNat : Int)).map (Value.int .u8)).toArray := by simp [bytV]
theorem conv_of {W : World} {B : Nat} {l : List UInt8} {T : TypeId} (h : Row W B (bytV l) T) (n cap : Nat) (hn : l.length = n) :
  (convert 83 9 (.slice (some ⟨B, 0, none⟩) n cap)).run Tryz.prog W = .ok (.string ⟨l.toArray⟩) W := by
 have h' : W.heap[B]? = some (.cells ((l.map fun u : UInt8 => (u.toNat : Int)).map (Value.int .u8)).toArray T (0, 0)) := by rw [← bytV_of]; exact h
 rw [conv_row 83 5 9 Tryz.underlying83 Tryz.underlying5 Tryz.underlying9 W B T (0, 0) _ h' n cap (by simpa using hn), nums_bytes]
theorem bytes_app (a b : ByteArray) : (a ++ b).data.toList = a.data.toList ++ b.data.toList := by simp
theorem size_of_app (a b : ByteArray) : (a ++ b).size = a.size + b.size := ByteArray.size_append
theorem wrapU (n : Nat) : IntKind.u64.wrap (n : Int) = ((n % M64 : Nat) : Int) := by
 rw [Int.natCast_emod]; rfl
theorem wrapU_mul (n c : Nat) : IntKind.u64.wrap ((n : Int) * (c : Int)) = ((n * c % M64 : Nat) : Int) := by
 rw [← Int.natCast_mul, wrapU]
theorem wrapU_add (n c : Nat) : IntKind.u64.wrap ((n : Int) + (c : Int)) = (((n + c) % M64 : Nat) : Int) := by
 rw [← Int.natCast_add, wrapU]
theorem xorDown (n d : Nat) (h : n < M64) : bits .xor .u64 (n : Int) ((n : Int) / 2 ^ d) = ((fld n d : Nat) : Int) := by
 rw [show (n : Int) / 2 ^ d = ((n / 2 ^ d : Nat) : Int) by rw [Int.natCast_ediv, Int.natCast_pow]; rfl,
  u64_xor_nat _ _ h (Nat.lt_of_le_of_lt (Nat.div_le_self _ _) h)]
 rfl
set_option maxRecDepth 100000 in
set_option maxHeartbeats 1000000 in
theorem folded_any (n d : Nat) (hn : n < M64) (hd : d < 64) (w : World) : Calls Tryz.prog 190 #[.int .u64 n, .int .u64 d] w fun e w' => e = .returned (.int .u64 (fld n d)) ∧ w = w' := by
 go_enter Tryz.func190, Tryz.ntmps190
 go_wp2
 go_ret
 exact ⟨ret_i (xorDown n d hn), rfl⟩
theorem first_mul (b : Nat) (hb : b < 256) : IntKind.u64.wrap (IntKind.u64.wrap (IntKind.u64.wrap (b : Int) + 1) * 11400714819323198485) = (((b + 1) * 11400714819323198485 % M64 : Nat) : Int) := by
 have h1 : IntKind.u64.wrap (b : Int) = (b : Int) := by rw [wrapU, Nat.mod_eq_of_lt (by unfold M64; omega)]
 have h2 : IntKind.u64.wrap ((b : Int) + 1) = ((b + 1 : Nat) : Int) := by
  have := wrapU_add b 1; rw [Nat.mod_eq_of_lt (by unfold M64; omega)] at this; exact this
 rw [h1, h2]
 exact wrapU_mul (b + 1) 11400714819323198485
set_option maxRecDepth 100000 in
set_option maxHeartbeats 1000000 in
theorem refTable_any (b : UInt8) (w : World) : Calls Tryz.prog 131 #[.int .u8 b.toNat] w fun e w' => e = .returned (.int .u64 (tabN b.toNat)) ∧ w = w' := by
 go_enter Tryz.func131, Tryz.ntmps131
 go_wp2
 go_ret
 refine ⟨ret_i ?_, rfl⟩
 rw [first_mul _ b.toNat_lt]
 unfold tabN
 obtain ⟨n, hn⟩ : ∃ n, n = (b.toNat + 1) * 11400714819323198485 % M64 := ⟨_, rfl⟩
 have ln : n < M64 := by rw [hn]; exact Nat.mod_lt _ m64_pos
 rw [← hn]
 clear hn
 have e1 := xorDown n 30 ln
 rw [show (2 : Int) ^ 30 = 1073741824 by decide] at e1
 rw [e1]
 have m1 := wrapU_mul (fld n 30) 13787848793156543929
 rw [show ((13787848793156543929 : Nat) : Int) = 13787848793156543929 from rfl] at m1
 rw [m1]
 obtain ⟨p, hp⟩ : ∃ p, p = fld n 30 * 13787848793156543929 % M64 := ⟨_, rfl⟩
 have lp : p < M64 := by rw [hp]; exact Nat.mod_lt _ m64_pos
 rw [← hp]
 clear hp e1 m1
 have e1 := xorDown p 27 lp
 rw [show (2 : Int) ^ 27 = 134217728 by decide] at e1
 rw [e1]
 have m1 := wrapU_mul (fld p 27) 10723151780598845931
 rw [show ((10723151780598845931 : Nat) : Int) = 10723151780598845931 from rfl] at m1
 rw [m1]
 obtain ⟨q, hq⟩ : ∃ q, q = fld p 27 * 10723151780598845931 % M64 := ⟨_, rfl⟩
 have lq : q < M64 := by rw [hq]; exact Nat.mod_lt _ m64_pos
 rw [← hq]
 exact xorDown q 31 lq
set_option maxRecDepth 100000 in
set_option maxHeartbeats 1000000 in
theorem Table_any (b : UInt8) (w : World) : Calls Tryz.prog 182 #[.int .u8 b.toNat] w fun e w' => e = .returned (.int .u64 (tabN b.toNat)) ∧ w = w' := by
 obtain ⟨n, hn⟩ : ∃ n, n = (b.toNat + 1) * 11400714819323198485 % M64 := ⟨_, rfl⟩
 have ln : n < M64 := by rw [hn]; exact Nat.mod_lt _ m64_pos
 obtain ⟨p, hp⟩ : ∃ p, p = fld n 30 * 13787848793156543929 % M64 := ⟨_, rfl⟩
 have lp : p < M64 := by rw [hp]; exact Nat.mod_lt _ m64_pos
 obtain ⟨q, hq⟩ : ∃ q, q = fld p 27 * 10723151780598845931 % M64 := ⟨_, rfl⟩
 have lq : q < M64 := by rw [hq]; exact Nat.mod_lt _ m64_pos
 have E1 := Lib.hid (first_mul _ b.toNat_lt)
 rw [← hn] at E1
 have E2 := Lib.hid (wrapU_mul (fld n 30) 13787848793156543929)
 rw [show ((13787848793156543929 : Nat) : Int) = 13787848793156543929 from rfl, ← hp] at E2
 have E3 := Lib.hid (wrapU_mul (fld p 27) 10723151780598845931)
 rw [show ((10723151780598845931 : Nat) : Int) = 10723151780598845931 from rfl, ← hq] at E3
 have E : tabN b.toNat = fld q 31 := by unfold tabN; rw [← hn, ← hp, ← hq]
 rw [E]
 have LN := Lib.hid ln; have LP := Lib.hid lp; have LQ := Lib.hid lq
 clear hn hp hq ln lp lq E
 go_enter Tryz.func182, Tryz.ntmps182
 go_wp2_with fail
 rw [E1.out]
 refine (folded_any n 30 LN.out (by decide) _).mono ?_
 rintro e w1 ⟨rfl, rfl⟩
 go_wp2_with fail
 rw [E2.out]
 refine (folded_any p 27 LP.out (by decide) _).mono ?_
 rintro e w1 ⟨rfl, rfl⟩
 go_wp2_with fail
 rw [E3.out]
 refine (folded_any q 31 LQ.out (by decide) _).mono ?_
 rintro e w1 ⟨rfl, rfl⟩
 go_wp2
 go_ret
 exact ⟨rfl, rfl⟩
theorem roll_int (h : Nat) (b : Nat) : IntKind.u64.wrap (IntKind.u64.wrap (2 * (h : Int)) + (tabN b : Nat)) = ((rollN h b : Nat) : Int) := by
 have h1 := wrapU_mul 2 h
 rw [show ((2 : Nat) : Int) = 2 from rfl] at h1
 rw [h1, wrapU_add, Nat.mod_add_mod]
 rfl
set_option maxRecDepth 100000 in
set_option maxHeartbeats 1000000 in
theorem refRoll_any (h : Nat) (b : UInt8) (w : World) : Calls Tryz.prog 113 #[.int .u64 h, .int .u8 b.toNat] w fun e w' => e = .returned (.int .u64 (rollN h b.toNat)) ∧ w = w' := by
 go_enter Tryz.func113, Tryz.ntmps113
 go_wp2_with fail
 refine (refTable_any b _).mono ?_
 rintro e w1 ⟨rfl, rfl⟩
 go_wp2
 go_ret
 exact ⟨ret_i (roll_int _ _), rfl⟩
set_option maxRecDepth 100000 in
set_option maxHeartbeats 1000000 in
theorem behind_any (h : Nat) (b : UInt8) (w : World) : Calls Tryz.prog 170 #[.int .u64 h, .int .u8 b.toNat] w fun e w' => e = .returned (.int .u64 (rollN h b.toNat)) ∧ w = w' := by
 go_enter Tryz.func170, Tryz.ntmps170
 go_wp2_with fail
 refine (Table_any b _).mono ?_
 rintro e w1 ⟨rfl, rfl⟩
 go_wp2
 go_ret
 exact ⟨ret_i (roll_int _ _), rfl⟩
set_option maxRecDepth 100000 in
set_option maxHeartbeats 1000000 in
theorem Roll_any (h : Nat) (b : UInt8) (w : World) : Calls Tryz.prog 156 #[.int .u64 h, .int .u8 b.toNat] w fun e w' => e = .returned (.int .u64 (rollN h b.toNat)) ∧ w = w' := by
 go_enter Tryz.func156, Tryz.ntmps156
 go_wp2_with fail
 refine (behind_any h b _).mono ?_
 rintro e w1 ⟨rfl, rfl⟩
 go_wp2
 go_ret
 exact ⟨rfl, rfl⟩
end Go.Proofs.YtlccihidedfemaaGreatDoor
namespace Go.Proofs.YtlccihidedfemaaGreatDoor
open Go.RowKit
theorem run_slice_str {P : Program} {t : TypeId} (ht : P.underlying t = some .string) (s : ByteArray) (a b : Int) (h0 : 0 ≤ a) (h1 : a ≤ b) (h2 : b ≤ s.size) (w : World) :
  (Instr.slice t (.string s) (some (.int .i64 a)) (some (.int .i64 b)) none).run P w = .ok (.string (s.extract a.toNat b.toNat)) w := by
 have e2 : 0 ≤ b := Int.le_trans h0 h1
 have eb : ∀ (y : Nat) code, b ≤ y → (Instr.sliceBound (.int .i64 b) y code).run P w = .ok b.toNat w := fun y code hy => by
  simp [Instr.sliceBound, asIntOf, e2, go_sem]
  omega
 have ea : ∀ (y : Nat) code, a ≤ y → (Instr.sliceBound (.int .i64 a) y code).run P w = .ok a.toNat w := fun y code hy => by
  simp [Instr.sliceBound, asIntOf, h0, go_sem]
  omega
 simp [Instr.slice, run_underlying ht, Instr.sliceBounds, eb s.size _ h2, go_sem]
 omega
theorem run_slice_to {P : Program} {t : TypeId} (ht : P.underlying t = some .string) (s : ByteArray) (b : Nat) (h2 : b ≤ s.size) (w : World) :
  (Instr.slice t (.string s) none (some (.int .i64 (b : Int))) none).run P w = .ok (.string (s.extract 0 b)) w := by
 have eb : ∀ (y : Nat) code, b ≤ y → (Instr.sliceBound (.int .i64 (b : Int)) y code).run P w = .ok b w := fun y code hy => by
  simp [Instr.sliceBound, asIntOf, go_sem]
  omega
 simp [Instr.slice, run_underlying ht, Instr.sliceBounds, eb s.size _ h2, go_sem]
theorem run_slice_from {P : Program} {t : TypeId} (ht : P.underlying t = some .string) (s : ByteArray) (a : Nat) (h2 : a ≤ s.size) (w : World) :
  (Instr.slice t (.string s) (some (.int .i64 (a : Int))) none none).run P w = .ok (.string (s.extract a s.size)) w := by
 have ea : ∀ (y : Nat) code, a ≤ y → (Instr.sliceBound (.int .i64 (a : Int)) y code).run P w = .ok a w := fun y code hy => by
  simp [Instr.sliceBound, asIntOf, go_sem]
  omega
 simp [Instr.slice, run_underlying ht, Instr.sliceBounds, ea s.size _ h2, go_sem]
theorem below_step {a b c : World} (h : Below a.heap.size a b) (k : Below b.heap.size b c) : Below a.heap.size a c := h.trans (k.mono h.size)
end Go.Proofs.YtlccihidedfemaaGreatDoor
namespace Go.Proofs.YtlccihidedfemaaGreatDoor
open Go.ChangeShapes Go.WideShapes Go.RowKit Go.Deep
def strCells (L : List ByteArray) : List Value := L.map Value.string
def IsStrs (w : World) (v : Value) (L : List ByteArray) : Prop :=
 L.length ≤ maxLen ∧ ∃ (a : Option Addr) (cap : Nat), v = .slice a L.length cap ∧ ((a = none → L = [] ∧ cap = 0) ∧ L.length ≤ cap) ∧ (0 < L.length → ∃ b off, a = some ⟨b, off, none⟩ ∧ b < w.heap.size ∧ ∀ i (h : i < L.length), w.cell? ⟨b, off + i, none⟩ = some (.string L[i]))
theorem strCells_len (L : List ByteArray) : (strCells L).length = L.length := List.length_map ..
theorem strCells_get {L : List ByteArray} {i : Nat} (h : i < L.length) : (strCells L)[i]? = some (.string L[i]) := by simp [strCells, h]
theorem strCells_app (L M : List ByteArray) : strCells (L ++ M) = strCells L ++ strCells M := List.map_append
theorem add_plain' (b o i : Nat) : (⟨b, o, none⟩ : Addr).add i = ⟨b, o + i, none⟩ := by unfold Addr.add; split <;> simp_all
theorem isStrs_nil (w : World) : IsStrs w (.slice none 0 0) [] := ⟨Nat.zero_le _, none, 0, rfl, ⟨fun _ => ⟨rfl, rfl⟩, Nat.le_refl _⟩, fun h => absurd h (by simp)⟩
theorem IsStrs.stays {w w' : World} {v : Value} {L : List ByteArray} (h : IsStrs w v L) (hb : Below w.heap.size w w') : IsStrs w' v L := by
 obtain ⟨h0, a, cap, h1, h2, h3⟩ := h
 refine ⟨h0, a, cap, h1, h2, fun hL => ?_⟩
 obtain ⟨b, off, e, hlt, hc⟩ := h3 hL
 exact ⟨b, off, e, Nat.lt_of_lt_of_le hlt hb.size, fun i hi => (hb.cell (p := ⟨b, off + i, none⟩) hlt).trans (hc i hi)⟩
theorem IsStrs.of_owns {w : World} {base : Nat} {e : TypeId} {v : Value} {L : List ByteArray} (h : w.ownsRow base e 1 v L.length (strCells L)) : IsStrs w v L := by
 have hlt := h.lt
 have hc := fun g hg => h.cells (g := g) hg
 rcases h.2 with ⟨rfl, h0⟩ | ⟨g, cap, cur, rfl, hb, hg, hle, hm, _⟩
 ·obtain rfl := List.length_eq_zero_iff.1 h0
  exact isStrs_nil w
 ·refine ⟨Nat.le_trans hle hm, some ⟨g, 0, none⟩, cap, rfl, ⟨fun h => (by cases h), hle⟩, fun _ => ⟨g, 0, rfl, (hlt g rfl).2, fun i hi => ?_⟩⟩
  have := hc g rfl i _ (strCells_get hi)
  rw [add_plain'] at this; exact this
theorem grownBy_of_below {W W' : World} (h : Below W.heap.size W W') : W.grownBy W' none := ⟨h.os, h.tape, h.output, h.size, fun k hk _ => h.block k hk⟩
end Go.Proofs.YtlccihidedfemaaGreatDoor
set_option linter.unusedVariables false
namespace Go.Proofs.YtlccihidedfemaaGreatDoor
abbrev Txt := List UInt8
theorem t_irrefl (x : Txt) : ¬ x < x := List.lt_irrefl x
theorem t_trans {x y z : Txt} (h : x < y) (h' : y < z) : x < z := List.lt_trans h h'
theorem t_tri (x y : Txt) (h : ¬ x < y) (h' : ¬ y < x) : x = y := List.le_antisymm (List.not_lt.1 h') (List.not_lt.1 h)
theorem t_asymm {x y : Txt} (h : x < y) : ¬ y < x := fun h' => t_irrefl _ (t_trans h h')
abbrev Rises (l : List Txt) : Prop := l.Pairwise (· < ·)
def FitP (l : List Txt) : Prop := ∀ i (h : i < l.length), l[i].length = 32 ∧ (0 < i → l[i - 1]'(by omega) < l[i])
theorem fit_rises {l : List Txt} (h : FitP l) : Rises l := by
 refine List.pairwise_iff_getElem.2 ?_
 intro i j hi hj hij
 induction j with
 | zero => omega
 | succ j ih =>
  have h1 := (h (j + 1) hj).2 (by omega)
  rcases Nat.lt_or_ge i j with e | e
  ·exact t_trans (ih (by omega) e) h1
  ·obtain rfl : i = j := by omega
   exact h1
theorem fit_of {l : List Txt} (h : Rises l) (hk : ∀ x ∈ l, x.length = 32) : FitP l := fun i hi =>
 ⟨hk _ (List.getElem_mem ..), fun h0 => List.pairwise_iff_getElem.1 h (i - 1) i (by omega) hi (by omega)⟩
open Classical in
noncomputable def fitB (l : List Txt) : Bool := decide (FitP l)
theorem fitB_true {l : List Txt} (h : FitP l) : fitB l = true := by simp [fitB, h]
theorem fitB_false {l : List Txt} (h : ¬ FitP l) : fitB l = false := by simp [fitB, h]
end Go.Proofs.YtlccihidedfemaaGreatDoor
set_option linter.unusedVariables false
namespace Go.Proofs.YtlccihidedfemaaGreatDoor
open Go.RowKit
attribute [local go_sem] Oper.semAt_some
theorem cell_one {w : World} {v : Value} {t : TypeId} : ∀ j u, [v][j]? = some u → (w.alloc (.cells #[v] t)).cell? ((⟨w.heap.size, 0, none⟩ : Addr).add j) = some u := by
 intro j u hj
 match j, hj with
 | 0, hj => simp at hj; subst hj; simp [Addr.add]
theorem ret_val {a b : Value} (h : a = b) : Ending.returned a = .returned b := by rw [h]
theorem str_eq' {x y : ByteArray} (h : x.data.toList = y.data.toList) : x = y := ByteArray.ext (Array.toList_inj.1 h)
theorem beq_true {x y : ByteArray} (h : x = y) : (x.toList == y.toList) = true := by subst h; simp
theorem beq_false {x y : ByteArray} (h : x ≠ y) : (x.toList == y.toList) = false := by
 rw [beq_eq_false_iff_ne]; intro e
 rw [Lib.toList_data, Lib.toList_data] at e
 exact h (str_eq' e)
theorem less_eq (x y : ByteArray) : Op.bytesLess x.toList y.toList = decide (x.data.toList < y.data.toList) := by
 rw [Lib.toList_data, Lib.toList_data, bytesLess_eq]
theorem below_drewN {B : Nat} {a w : World} (h : Below B a w) (n : Nat) : Below B a (w.drewN n) := h.trans ⟨rfl, rfl, rfl, Nat.le_refl _, fun _ _ => rfl⟩
end Go.Proofs.YtlccihidedfemaaGreatDoor
set_option linter.unusedVariables false
namespace Go.Proofs.YtlccihidedfemaaGreatDoor
open Go.RowKit
theorem infoStr : (Tryz.prog.info? 9).map (fun i => (i.zero, i.size, i.bytes)) = some (some (.string ⟨#[]⟩), 1, 16) := by kernel_rfl
def strsOf (L : List (List UInt8)) : List ByteArray := L.map fun l => ⟨l.toArray⟩
def txts (L : List ByteArray) : List (List UInt8) := L.map (·.data.toList)
theorem strsOf_len (L : List (List UInt8)) : (strsOf L).length = L.length := List.length_map ..
theorem txts_len (L : List ByteArray) : (txts L).length = L.length := List.length_map ..
theorem strsOf_snoc (L : List (List UInt8)) (t : List UInt8) : strsOf (L ++ [t]) = strsOf L ++ [⟨t.toArray⟩] := by simp [strsOf]
theorem strsOf_app (L M : List (List UInt8)) : strsOf (L ++ M) = strsOf L ++ strsOf M := List.map_append
theorem strsOf_txts (L : List ByteArray) : strsOf (txts L) = L := by simp [strsOf, txts, Function.comp_def]
theorem txts_strsOf (L : List (List UInt8)) : txts (strsOf L) = L := by simp [strsOf, txts, Function.comp_def]
theorem txts_get {L : List ByteArray} {i : Nat} (h : i < L.length) : (txts L)[i]'(by rw [txts_len]; exact h) = L[i].data.toList := by simp [txts]
theorem strsOf_get {L : List (List UInt8)} {i : Nat} (h : i < L.length) : (strsOf L)[i]'(by rw [strsOf_len]; exact h) = ⟨L[i].toArray⟩ := by simp [strsOf]
theorem strs_tail {w : World} {v : Value} {x : ByteArray} {L : List ByteArray} (h : IsStrs w v (x :: L)) :
  ∃ v', (∀ W, (Instr.slice 38 v (some (.int .i64 1)) none none).run Tryz.prog W = .ok v' W) ∧ IsStrs w v' L := by
 obtain ⟨hm, a, cap, rfl, ⟨_, hcap⟩, hc⟩ := h
 obtain ⟨b, off, rfl, hlt, hcell⟩ := hc (by simp)
 simp only [List.length_cons] at hm hcap hcell
 refine ⟨sliced (some ⟨b, off, none⟩) 1 (L.length + 1) cap 1, fun W => ?_, Nat.le_trans (Nat.le_succ _) hm, ?_⟩
 ·have := run_slice_l (P := Tryz.prog) (w := W) 38 (some ⟨b, off, none⟩) (L.length + 1) cap (by kernel_rfl) .i64 1 (by omega) (by omega)
  rw [List.length_cons, this]
  have hs : (sizeOf (Tryz.prog.elem 38)).run Tryz.prog W = .ok 1 W := by
   have : Tryz.prog.elem 38 = 9 := by kernel_rfl
   rw [this]
   obtain ⟨i0, hi, _⟩ := info_parts infoStr
   rw [run_sizeOf _ hi]
   have h1 : Tryz.prog.cellsOf 9 = 1 := by kernel_rfl
   rw [h1]
  rw [hs]; rfl
 ·by_cases hcap1 : cap = 1
  ·subst hcap1
   obtain rfl : L = [] := List.length_eq_zero_iff.1 (by omega)
   exact ⟨some ⟨b, off, none⟩, 0, by simp [sliced], ⟨fun h => (by cases h), Nat.le_refl _⟩, fun h => absurd h (by simp)⟩
  ·refine ⟨some ⟨b, off + 1, none⟩, cap - 1, by simp [sliced, Addr.add, hcap1], ⟨fun h => (by cases h), by omega⟩, fun h => ⟨b, off + 1, rfl, hlt, fun i hi => ?_⟩⟩
   have := hcell (i + 1) (by omega)
   rw [show off + 1 + i = off + (i + 1) by omega, this]; simp
theorem wpList_append_one {ops : Array Oper} {rest : List Oper} {o : Oper} {a : Act} {W w0 : World} {Q : Exit → Act → World → Prop} (hgd : o.guard = none) (s x : Operand)
  (ho : o.op = .call { callee := .builtin .append, args := #[s, x], argTypes := #[38, 38] })
  {v : Value} {M : List ByteArray} {y : ByteArray} (hown : w0.ownsRow W.heap.size 9 1 v M.length (strCells M)) (hb : Below W.heap.size W w0) (hs : a.eval s = v)
  (hx : a.eval x = .slice (some ⟨w0.heap.size, 0, none⟩) 1 1) (hlen : M.length ≤ 1000000)
  (h : ∀ v' w', w'.ownsRow W.heap.size 9 1 v' (M ++ [y]).length (strCells (M ++ [y])) → Below W.heap.size W w' → wpList Tryz.prog ops Q rest (a.put o.dst v') w') :
  wpList Tryz.prog ops Q (o :: rest) a (w0.alloc (.cells #[.string y] 9)) := by
 obtain ⟨i0, hi, hz0, hz1, hz2⟩ := info_parts infoStr
 have hsz := hb.size
 refine wpList_append_own _ hgd s x 38 ho W.heap.size 9 i0 (.string ⟨#[]⟩) 1 16 Tryz.underlying38 hi hz0 hz1 hz2 rfl (by decide) v M.length (strCells M) hs (hown.alloc _) ⟨w0.heap.size, 0, none⟩ 1 1 [.string y] hx rfl cell_one ?_ ?_ ?_ ?_ ?_
 ·intro u hu; simp at hu; subst hu; rfl
 ·unfold maxLen; omega
 ·omega
 ·simp; omega
 ·intro v' w' hown' hg _
  refine h v' w' ?_ ((hb.alloc hsz _).grown hg (by simp; omega) (fun j hj => (hown.lt j hj).1))
  rw [List.length_append, strCells_app]; exact hown'
def OwnTxt (W wr : World) (v : Value) (M : List (List UInt8)) : Prop := wr.ownsRow W.heap.size 9 1 v (strsOf M).length (strCells (strsOf M))
theorem ownTxt_nil (W : World) : OwnTxt W W (.slice none 0 0) [] := World.ownsRow_nil _ _ _ _
theorem OwnTxt.strs {W wr : World} {v : Value} {M : List (List UInt8)} (h : OwnTxt W wr v M) : IsStrs wr v (strsOf M) := IsStrs.of_owns h
theorem OwnTxt.stays {W a b : World} {v : Value} {M : List (List UInt8)} (h : OwnTxt W a v M) (hb : Below a.heap.size a b) : OwnTxt W b v M :=
 World.ownsRow.kept h (grownBy_of_below hb) (by cases hv : v.ownBlock <;> simp)
theorem txt_str (x : ByteArray) : (⟨x.data.toList.toArray⟩ : ByteArray) = x := by simp
theorem wpList_append_txt {ops : Array Oper} {rest : List Oper} {o : Oper} {a : Act} {W w0 : World} {Q : Exit → Act → World → Prop} (hgd : o.guard = none) (s x : Operand)
  (ho : o.op = .call { callee := .builtin .append, args := #[s, x], argTypes := #[38, 38] })
  {v : Value} {M : List (List UInt8)} {y : ByteArray} (hown : OwnTxt W w0 v M) (hb : Below W.heap.size W w0) (hs : a.eval s = v)
  (hx : a.eval x = .slice (some ⟨w0.heap.size, 0, none⟩) 1 1) (hlen : M.length ≤ 1000000)
  (h : ∀ v' w', OwnTxt W w' v' (M ++ [y.data.toList]) → Below W.heap.size W w' → wpList Tryz.prog ops Q rest (a.put o.dst v') w') :
  wpList Tryz.prog ops Q (o :: rest) a (w0.alloc (.cells #[.string y] 9)) :=
 wpList_append_one hgd s x ho hown hb hs hx (by rw [strsOf_len]; exact hlen) fun v' w' h1 h2 => h v' w' (by unfold OwnTxt; rw [strsOf_snoc, txt_str]; exact h1) h2
end Go.Proofs.YtlccihidedfemaaGreatDoor
namespace Go.Proofs
open Go.Shelf
def Tryz.lays143_ren : Go.Shelf.Ren := ⟨fun | 143 => 164 | 219 => 177 | 217 => 188 | 225 => 181 | 224 => 180 | 267 => 189 | 266 => 192 | 314 => 193 | n => n, fun | 9 => 9 | 3 => 3 | 4 => 4 | 5 => 5 | 46 => 84 | 146 => 201 | 51 => 85 | n => n, fun | 1 => 0 | n => n⟩
theorem Tryz.lays143 : Go.Proofs.Lays.n143 Tryz.prog Tryz.lays143_ren := {
 mixed := by kernel_rfl
 f143 := Tryz.func164.trans (congrArg some (by kernel_rfl))
 f217 := Tryz.func188.trans (congrArg some (by kernel_rfl))
 f219 := Tryz.func177.trans (congrArg some (by kernel_rfl))
 f224 := Tryz.func180.trans (congrArg some (by kernel_rfl))
 f225 := Tryz.func181.trans (congrArg some (by kernel_rfl))
 f266 := Tryz.func192.trans (congrArg some (by kernel_rfl))
 f267 := Tryz.func189.trans (congrArg some (by kernel_rfl))
 f314 := Tryz.func193.trans (congrArg some (by kernel_rfl))
 t3 := Tryz.underlying3
 a3 := Tryz.isAgg3
 z3 := Tryz.sizeOf3
 v3 := Tryz.zeroValue3
 t4 := Tryz.underlying4
 a4 := Tryz.isAgg4
 z4 := Tryz.sizeOf4
 v4 := Tryz.zeroValue4
 t5 := Tryz.underlying5
 a5 := Tryz.isAgg5
 z5 := Tryz.sizeOf5
 v5 := Tryz.zeroValue5
 t9 := Tryz.underlying9
 a9 := Tryz.isAgg9
 z9 := Tryz.sizeOf9
 v9 := Tryz.zeroValue9
 t46 := Tryz.underlying84
 a46 := Tryz.isAgg84
 z46 := Tryz.sizeOf84
 v46 := Tryz.zeroValue84
 t51 := Tryz.underlying85
 a51 := Tryz.isAgg85
 z51 := Tryz.sizeOf85
 v51 := Tryz.zeroValue85
 t146 := Tryz.underlying201
 a146 := Tryz.isAgg201
 z146 := Tryz.sizeOf201
 v146 := Tryz.zeroValue201
 g1 := by kernel_rfl }
def Tryz.lays153_ren : Go.Shelf.Ren := ⟨fun | 153 => 151 | 152 => 165 | 226 => 166 | 227 => 167 | 228 => 168 | 137 => 178 | 119 => 179 | 224 => 180 | 225 => 181 | 217 => 188 | 266 => 192 | n => n, fun | 9 => 9 | 3 => 3 | 4 => 4 | 5 => 5 | 21 => 21 | 117 => 188 | 116 => 187 | 0 => 0 | 46 => 84 | 124 => 199 | n => n, fun | n => n⟩
theorem Tryz.lays153 : Go.Proofs.Lays.n153 Tryz.prog Tryz.lays153_ren := {
 mixed := by kernel_rfl
 f119 := Tryz.func179.trans (congrArg some (by kernel_rfl))
 f137 := Tryz.func178.trans (congrArg some (by kernel_rfl))
 f152 := Tryz.func165.trans (congrArg some (by kernel_rfl))
 f153 := Tryz.func151.trans (congrArg some (by kernel_rfl))
 f217 := Tryz.func188.trans (congrArg some (by kernel_rfl))
 f224 := Tryz.func180.trans (congrArg some (by kernel_rfl))
 f225 := Tryz.func181.trans (congrArg some (by kernel_rfl))
 f226 := Tryz.func166.trans (congrArg some (by kernel_rfl))
 f227 := Tryz.func167.trans (congrArg some (by kernel_rfl))
 f228 := Tryz.func168.trans (congrArg some (by kernel_rfl))
 f266 := Tryz.func192.trans (congrArg some (by kernel_rfl))
 t0 := Tryz.underlying0
 a0 := Tryz.isAgg0
 z0 := Tryz.sizeOf0
 v0 := Tryz.zeroValue0
 t3 := Tryz.underlying3
 a3 := Tryz.isAgg3
 z3 := Tryz.sizeOf3
 v3 := Tryz.zeroValue3
 t4 := Tryz.underlying4
 a4 := Tryz.isAgg4
 z4 := Tryz.sizeOf4
 v4 := Tryz.zeroValue4
 t5 := Tryz.underlying5
 a5 := Tryz.isAgg5
 z5 := Tryz.sizeOf5
 v5 := Tryz.zeroValue5
 t9 := Tryz.underlying9
 a9 := Tryz.isAgg9
 z9 := Tryz.sizeOf9
 v9 := Tryz.zeroValue9
 t21 := Tryz.underlying21
 a21 := Tryz.isAgg21
 z21 := Tryz.sizeOf21
 v21 := Tryz.zeroValue21
 t46 := Tryz.underlying84
 a46 := Tryz.isAgg84
 z46 := Tryz.sizeOf84
 v46 := Tryz.zeroValue84
 t116 := Tryz.underlying187
 a116 := Tryz.isAgg187
 z116 := Tryz.sizeOf187
 t117 := Tryz.underlying188
 a117 := Tryz.isAgg188
 z117 := Tryz.sizeOf188
 v117 := Tryz.zeroValue188
 t124 := Tryz.underlying199
 a124 := Tryz.isAgg199
 z124 := Tryz.sizeOf199
 v124 := Tryz.zeroValue199 }
def Tryz.lays152_ren : Go.Shelf.Ren := ⟨fun | 152 => 165 | 137 => 178 | 119 => 179 | 224 => 180 | 225 => 181 | 217 => 188 | 266 => 192 | n => n, fun | 9 => 9 | 21 => 21 | 3 => 3 | 4 => 4 | 5 => 5 | 0 => 0 | 46 => 84 | n => n, fun | n => n⟩
theorem Tryz.lays152 : Go.Proofs.Lays.n152 Tryz.prog Tryz.lays152_ren := {
 mixed := by kernel_rfl
 f119 := Tryz.func179.trans (congrArg some (by kernel_rfl))
 f137 := Tryz.func178.trans (congrArg some (by kernel_rfl))
 f152 := Tryz.func165.trans (congrArg some (by kernel_rfl))
 f217 := Tryz.func188.trans (congrArg some (by kernel_rfl))
 f224 := Tryz.func180.trans (congrArg some (by kernel_rfl))
 f225 := Tryz.func181.trans (congrArg some (by kernel_rfl))
 f266 := Tryz.func192.trans (congrArg some (by kernel_rfl))
 t0 := Tryz.underlying0
 a0 := Tryz.isAgg0
 z0 := Tryz.sizeOf0
 v0 := Tryz.zeroValue0
 t3 := Tryz.underlying3
 a3 := Tryz.isAgg3
 z3 := Tryz.sizeOf3
 v3 := Tryz.zeroValue3
 t4 := Tryz.underlying4
 a4 := Tryz.isAgg4
 z4 := Tryz.sizeOf4
 v4 := Tryz.zeroValue4
 t5 := Tryz.underlying5
 a5 := Tryz.isAgg5
 z5 := Tryz.sizeOf5
 v5 := Tryz.zeroValue5
 t9 := Tryz.underlying9
 a9 := Tryz.isAgg9
 z9 := Tryz.sizeOf9
 v9 := Tryz.zeroValue9
 t21 := Tryz.underlying21
 a21 := Tryz.isAgg21
 z21 := Tryz.sizeOf21
 v21 := Tryz.zeroValue21
 t46 := Tryz.underlying84
 a46 := Tryz.isAgg84
 z46 := Tryz.sizeOf84
 v46 := Tryz.zeroValue84 }
def Tryz.lays137_ren : Go.Shelf.Ren := ⟨fun | 137 => 178 | 217 => 188 | 266 => 192 | n => n, fun | 9 => 9 | 5 => 5 | 3 => 3 | n => n, fun | n => n⟩
theorem Tryz.lays137 : Go.Proofs.Lays.n137 Tryz.prog Tryz.lays137_ren := {
 mixed := by kernel_rfl
 f137 := Tryz.func178.trans (congrArg some (by kernel_rfl))
 f217 := Tryz.func188.trans (congrArg some (by kernel_rfl))
 f266 := Tryz.func192.trans (congrArg some (by kernel_rfl))
 t3 := Tryz.underlying3
 a3 := Tryz.isAgg3
 z3 := Tryz.sizeOf3
 v3 := Tryz.zeroValue3
 t5 := Tryz.underlying5
 a5 := Tryz.isAgg5
 z5 := Tryz.sizeOf5
 v5 := Tryz.zeroValue5
 t9 := Tryz.underlying9
 a9 := Tryz.isAgg9
 z9 := Tryz.sizeOf9
 v9 := Tryz.zeroValue9 }
def Tryz.lays134_ren : Go.Shelf.Ren := ⟨fun | 134 => 139 | 129 => 157 | n => n, fun | 53 => 70 | 3 => 3 | 4 => 4 | 46 => 84 | 5 => 5 | 9 => 9 | n => n, fun | n => n⟩
theorem Tryz.lays134 : Go.Proofs.Lays.n134 Tryz.prog Tryz.lays134_ren := {
 mixed := by kernel_rfl
 f129 := Tryz.func157.trans (congrArg some (by kernel_rfl))
 f134 := Tryz.func139.trans (congrArg some (by kernel_rfl))
 t3 := Tryz.underlying3
 a3 := Tryz.isAgg3
 z3 := Tryz.sizeOf3
 v3 := Tryz.zeroValue3
 t4 := Tryz.underlying4
 a4 := Tryz.isAgg4
 z4 := Tryz.sizeOf4
 v4 := Tryz.zeroValue4
 t5 := Tryz.underlying5
 a5 := Tryz.isAgg5
 z5 := Tryz.sizeOf5
 v5 := Tryz.zeroValue5
 t9 := Tryz.underlying9
 a9 := Tryz.isAgg9
 z9 := Tryz.sizeOf9
 v9 := Tryz.zeroValue9
 t46 := Tryz.underlying84
 a46 := Tryz.isAgg84
 z46 := Tryz.sizeOf84
 v46 := Tryz.zeroValue84
 t53 := Tryz.underlying70
 a53 := Tryz.isAgg70
 z53 := Tryz.sizeOf70
 v53 := Tryz.zeroValue70 }
def Tryz.lays_7_27_ren : Go.Shelf.Ren := ⟨fun | 27 => 137 | 28 => 153 | 29 => 154 | n => n, fun | 25 => 84 | 3 => 3 | 27 => 85 | 22 => 70 | 4 => 4 | 53 => 179 | 0 => 0 | 5 => 5 | 54 => 89 | n => n, fun | 0 => 1 | 1 => 2 | n => n⟩
theorem Tryz.lays_7_27 : Go.Proofs.Lays7.n27 Tryz.prog Tryz.lays_7_27_ren := {
 mixed := by kernel_rfl
 f27 := Tryz.func137.trans (congrArg some (by kernel_rfl))
 f28 := Tryz.func153.trans (congrArg some (by kernel_rfl))
 f29 := Tryz.func154.trans (congrArg some (by kernel_rfl))
 t0 := Tryz.underlying0
 a0 := Tryz.isAgg0
 z0 := Tryz.sizeOf0
 v0 := Tryz.zeroValue0
 i0 := by kernel_rfl
 t3 := Tryz.underlying3
 a3 := Tryz.isAgg3
 z3 := Tryz.sizeOf3
 v3 := Tryz.zeroValue3
 i3 := by kernel_rfl
 t4 := Tryz.underlying4
 a4 := Tryz.isAgg4
 z4 := Tryz.sizeOf4
 v4 := Tryz.zeroValue4
 i4 := by kernel_rfl
 t5 := Tryz.underlying5
 a5 := Tryz.isAgg5
 z5 := Tryz.sizeOf5
 v5 := Tryz.zeroValue5
 i5 := by kernel_rfl
 t22 := Tryz.underlying70
 a22 := Tryz.isAgg70
 z22 := Tryz.sizeOf70
 v22 := Tryz.zeroValue70
 i22 := by kernel_rfl
 t25 := Tryz.underlying84
 a25 := Tryz.isAgg84
 z25 := Tryz.sizeOf84
 v25 := Tryz.zeroValue84
 i25 := by kernel_rfl
 t27 := Tryz.underlying85
 a27 := Tryz.isAgg85
 z27 := Tryz.sizeOf85
 v27 := Tryz.zeroValue85
 i27 := by kernel_rfl
 t53 := Tryz.underlying179
 a53 := Tryz.isAgg179
 z53 := Tryz.sizeOf179
 v53 := Tryz.zeroValue179
 i53 := by kernel_rfl
 t54 := Tryz.underlying89
 a54 := Tryz.isAgg89
 z54 := Tryz.sizeOf89
 g0 := by kernel_rfl
 g1 := by kernel_rfl }
def Tryz.lays_pu25_ren : Go.Shelf.Ren := ⟨fun | 25 => 134 | n => n, fun | 9 => 9 | 3 => 3 | 4 => 4 | 37 => 83 | 0 => 0 | 47 => 175 | 5 => 5 | n => n, fun | n => n⟩
theorem Tryz.lays_pu25 : Go.Proofs.LaysPu.n25 Tryz.prog Tryz.lays_pu25_ren := {
 mixed := by kernel_rfl
 f25 := Tryz.func134.trans (congrArg some (by kernel_rfl))
 t0 := Tryz.underlying0
 a0 := Tryz.isAgg0
 z0 := Tryz.sizeOf0
 v0 := Tryz.zeroValue0
 i0 := by kernel_rfl
 t3 := Tryz.underlying3
 a3 := Tryz.isAgg3
 z3 := Tryz.sizeOf3
 v3 := Tryz.zeroValue3
 i3 := by kernel_rfl
 t4 := Tryz.underlying4
 a4 := Tryz.isAgg4
 z4 := Tryz.sizeOf4
 v4 := Tryz.zeroValue4
 i4 := by kernel_rfl
 t5 := Tryz.underlying5
 a5 := Tryz.isAgg5
 z5 := Tryz.sizeOf5
 v5 := Tryz.zeroValue5
 i5 := by kernel_rfl
 t9 := Tryz.underlying9
 a9 := Tryz.isAgg9
 z9 := Tryz.sizeOf9
 v9 := Tryz.zeroValue9
 i9 := by kernel_rfl
 t37 := Tryz.underlying83
 a37 := Tryz.isAgg83
 z37 := Tryz.sizeOf83
 v37 := Tryz.zeroValue83
 i37 := by kernel_rfl
 t47 := Tryz.underlying175
 a47 := Tryz.isAgg175
 z47 := Tryz.sizeOf175
 v47 := Tryz.zeroValue175
 i47 := by kernel_rfl }
end Go.Proofs
namespace Go.Proofs.YtlccihidedfemaaGreatDoor
def vputF : Nat → Nat → List UInt8
 | 0, _ => []
 | k + 1, n => if n < 128 then [UInt8.ofNat n] else UInt8.ofNat (n % 128 + 128) :: vputF k (n / 128)
def vput (n : Nat) : List UInt8 := vputF 10 n
theorem vputF_lo {k n : Nat} (h : n < 128) : vputF (k + 1) n = [UInt8.ofNat n] := by simp [vputF, h]
theorem vputF_hi {k n : Nat} (h : 128 ≤ n) : vputF (k + 1) n = UInt8.ofNat (n % 128 + 128) :: vputF k (n / 128) := by
 simp [vputF, Nat.not_lt.2 h]
theorem vputF_len (k : Nat) : ∀ n, (vputF k n).length ≤ k := by
 induction k with
 | zero => intro n; simp [vputF]
 | succ k ih =>
  intro n
  by_cases h : n < 128
  ·simp [vputF_lo h]
  ·rw [vputF_hi (by omega)]; simp; exact ih _
theorem vputF_pos (k n : Nat) : 1 ≤ (vputF (k + 1) n).length := by
 by_cases h : n < 128
 ·simp [vputF_lo h]
 ·rw [vputF_hi (by omega)]; simp
theorem vput_len (n : Nat) : (vput n).length ≤ 10 := vputF_len 10 n
theorem vput_pos (n : Nat) : 1 ≤ (vput n).length := vputF_pos 9 n
def U64 (n : Nat) : Prop := n < 18446744073709551616
theorem U64.div {n : Nat} (h : U64 n) (k : Nat) : U64 (n / k) := Nat.lt_of_le_of_lt (Nat.div_le_self n k) h
theorem wraps_u64' (n : Int) (h₀ : 0 ≤ n) (h₁ : n < 2 ^ 64) : IntKind.u64.wrap n = n := by rw [IntKind.wrap_u64]; omega
theorem u64_and127 {r : Nat} (h : U64 r) : bits .and .u64 (r : Int) 127 = ((r % 128 : Nat) : Int) := by
 have := bits_mask .u64 64 (by decide) wraps_u64' 7 (by decide) (r : Int) (by omega) (by unfold U64 at h; omega)
 simpa using this
theorem low_byte {r : Nat} (h : U64 r) : bits .or .u8 (bits .and .u64 (r : Int) 127 % 256) 128 = ((UInt8.ofNat (r % 128 + 128)).toNat : Int) := by
 rw [u64_and127 h]
 have h2 : ((UInt8.ofNat (r % 128 + 128)).toNat : Int) = ((r % 128 : Nat) : Int) + 128 := by
  rw [UInt8.toNat_ofNat']; omega
 have h3 : ((r % 128 : Nat) : Int) % 256 = ((r % 128 : Nat) : Int) := by omega
 rw [h2, h3]
 have := bits_join_low .u8 8 (by decide) wraps_u8 7 ((r % 128 : Nat) : Int) 128 (by omega) (by omega) (by omega) (by decide) (by decide) (by decide)
 exact this
theorem last_byte {r : Nat} (h : r < 128) : ((UInt8.ofNat r).toNat : Int) = (r : Int) := by
 rw [UInt8.toNat_ofNat']; omega
def vtakeF (i a : Nat) : List UInt8 → Nat × Nat × Nat
 | [] => (0, 0, 1)
 | b :: t =>
  if i = 9 ∧ 1 < b.toNat then (0, 0, 4)
  else if 128 ≤ b.toNat then vtakeF (i + 1) (a + b.toNat % 128 * 2 ^ (7 * i)) t
  else if b.toNat = 0 ∧ 0 < i then (0, 0, 2)
  else (a + b.toNat * 2 ^ (7 * i), i + 1, 0)
def vtake (l : List UInt8) : Nat × Nat × Nat := vtakeF 0 0 l
theorem U64.wrap {n : Nat} (h : U64 n) : IntKind.u64.wrap (n : Int) = (n : Int) := by rw [IntKind.wrap_u64]; unfold U64 at h; omega
theorem U64.wrap_div {n : Nat} (h : U64 n) (k : Nat) : IntKind.u64.wrap ((n : Int) / (k : Int)) = (n : Int) / (k : Int) := by
 have := (h.div k).wrap
 rwa [Int.natCast_ediv] at this
theorem take_put_gen : ∀ (k i a r : Nat) (t : List UInt8), i + k = 10 → r * 2 ^ (7 * i) < 18446744073709551616 → (0 < i → 0 < r) →
  vtakeF i a (vputF k r ++ t) = (a + r * 2 ^ (7 * i), i + (vputF k r).length, 0) := by
 intro k
 induction k with
 | zero =>
  intro i a r t hi hr h0
  obtain rfl : i = 10 := by omega
  have : 0 < r := h0 (by decide)
  omega
 | succ k ih =>
  intro i a r t hi hr h0
  have hi9 : i ≤ 9 := by omega
  have h9 : i = 9 → r ≤ 1 := by
   rintro rfl
   omega
  by_cases h : r < 128
  ·have hb : (UInt8.ofNat r).toNat = r := by rw [UInt8.toNat_ofNat']; omega
   rw [vputF_lo h, List.singleton_append, vtakeF, hb, if_neg (fun hA => by have := h9 hA.1; omega), if_neg (by omega), if_neg (fun hz => by have := h0 hz.2; omega)]
   rfl
  ·have hb : (UInt8.ofNat (r % 128 + 128)).toNat = r % 128 + 128 := by rw [UInt8.toNat_ofNat']; omega
   have e : 2 ^ (7 * (i + 1)) = 2 ^ (7 * i) * 128 := by rw [show 7 * (i + 1) = 7 * i + 7 by omega, Nat.pow_add]
   have hm : r / 128 * (2 ^ (7 * i) * 128) ≤ r * 2 ^ (7 * i) := by
    have := Nat.mul_le_mul_right (2 ^ (7 * i)) (Nat.div_mul_le_self r 128)
    calc r / 128 * (2 ^ (7 * i) * 128) = r / 128 * 128 * 2 ^ (7 * i) := by rw [Nat.mul_assoc, Nat.mul_comm 128]
     _ ≤ _ := this
   rw [vputF_hi (by omega), List.cons_append, vtakeF, hb, if_neg (fun hA => by have := h9 hA.1; omega), if_pos (by omega),
    ih (i + 1) _ (r / 128) t (by omega) (by rw [e]; omega) (fun _ => by omega)]
   have hs : a + (r % 128 + 128) % 128 * 2 ^ (7 * i) + r / 128 * 2 ^ (7 * (i + 1)) = a + r * 2 ^ (7 * i) := by
    have h1 : (r % 128 + 128) % 128 = r % 128 := by omega
    have h2 : r = r % 128 + r / 128 * 128 := by omega
    rw [h1, e]
    conv => rhs; rw [h2, Nat.add_mul, Nat.mul_assoc, Nat.mul_comm 128]
    omega
   rw [hs, List.length_cons]
   congr 2; omega
theorem take_put {n : Nat} (h : U64 n) (t : List UInt8) : vtake (vput n ++ t) = (n, (vput n).length, 0) := by
 unfold U64 at h
 have := take_put_gen 10 0 0 n t (by decide) (by simpa using h) (by simp)
 simpa [vtake, vput] using this
def vputText (l : List UInt8) : List UInt8 := if 65536 < l.length then [] else vput l.length ++ l
def vtakeText (l : List UInt8) : List UInt8 × Nat × Nat :=
 if (vtake l).2.2 ≠ 0 then ([], 0, (vtake l).2.2)
 else if 65536 < (vtake l).1 then ([], 0, 4)
 else if l.length < (vtake l).2.1 + (vtake l).1 then ([], 0, 1)
 else ((l.drop (vtake l).2.1).take (vtake l).1, (vtake l).2.1 + (vtake l).1, 0)
theorem takeText_putText {l : List UInt8} (h : l.length ≤ 65536) (t : List UInt8) : vtakeText (vputText l ++ t) = (l, (vputText l).length, 0) := by
 have hu : U64 l.length := by unfold U64; omega
 have e : vputText l = vput l.length ++ l := by rw [vputText, if_neg (by omega)]
 have hT : vtake (vputText l ++ t) = (l.length, (vput l.length).length, 0) := by rw [e, List.append_assoc, take_put hu]
 rw [vtakeText, hT, if_neg (by simp), if_neg (by simp; omega), if_neg (by rw [e]; simp), e]
 simp
def pts : List UInt8 → List (List UInt8)
 | [] => [[]]
 | c :: r => if c = 47 then [] :: pts r else match pts r with
  | [] => [[c]]
  | h :: t => (c :: h) :: t
def joinS : List (List UInt8) → List UInt8
 | [] => []
 | [a] => a
 | a :: b :: r => a ++ 47 :: joinS (b :: r)
theorem pts_ne (l : List UInt8) : pts l ≠ [] := by
 cases l with
 | nil => simp [pts]
 | cons c r =>
  simp only [pts]
  split
  ·simp
  ·split <;> simp
theorem pts_slash (r : List UInt8) : pts (47 :: r) = [] :: pts r := by simp [pts]
theorem pts_other {c : UInt8} (hc : c ≠ 47) {r h : List UInt8} {t : List (List UInt8)} (e : pts r = h :: t) : pts (c :: r) = (c :: h) :: t := by simp [pts, hc, e]
theorem pts_app (a b : List UInt8) : pts (a ++ 47 :: b) = pts a ++ pts b := by
 induction a with
 | nil => simp [pts]
 | cons c r ih =>
  by_cases hc : c = 47
  ·subst hc; simp [pts, ih]
  ·obtain ⟨h, t, e⟩ := List.exists_cons_of_ne_nil (pts_ne r)
   rw [List.cons_append, pts_other hc (show pts (r ++ 47 :: b) = h :: (t ++ pts b) by rw [ih, e]; rfl), pts_other hc e]; rfl
theorem pts_one {a : List UInt8} (h : (47 : UInt8) ∉ a) : pts a = [a] := by
 induction a with
 | nil => rfl
 | cons c r ih =>
  have hc : c ≠ 47 := fun e => h (by rw [e]; exact List.mem_cons_self ..)
  exact pts_other hc (ih (fun hr => h (List.mem_cons_of_mem _ hr)))
theorem joinS_cons {a : List UInt8} {L : List (List UInt8)} (h : L ≠ []) : joinS (a :: L) = a ++ 47 :: joinS L := by
 cases L with
 | nil => exact absurd rfl h
 | cons b r => rfl
theorem joinS_pts (l : List UInt8) : joinS (pts l) = l := by
 induction l with
 | nil => rfl
 | cons c r ih =>
  by_cases hc : c = 47
  ·subst hc; rw [pts_slash, joinS_cons (pts_ne r), ih]; rfl
  ·obtain ⟨h, t, e⟩ := List.exists_cons_of_ne_nil (pts_ne r)
   rw [pts_other hc e]; rw [e] at ih
   cases t with
   | nil => simp only [joinS] at ih ⊢; rw [ih]
   | cons b t => simp only [joinS] at ih ⊢; rw [List.cons_append, ih]
theorem pts_joinS : ∀ {L : List (List UInt8)}, L ≠ [] → (∀ p ∈ L, (47 : UInt8) ∉ p) → pts (joinS L) = L
 | [], h, _ => absurd rfl h
 | [a], _, h => pts_one (h a (List.mem_cons_self ..))
 | a :: b :: r, _, h => by
  show pts (a ++ 47 :: joinS (b :: r)) = _
  rw [pts_app, pts_one (h a (List.mem_cons_self ..)), pts_joinS (by simp) (fun p hp => h p (List.mem_cons_of_mem _ hp))]; rfl
theorem joinS_snoc {L : List (List UInt8)} (h : L ≠ []) (p : List UInt8) : joinS (L ++ [p]) = joinS L ++ 47 :: p := by
 induction L with
 | nil => exact absurd rfl h
 | cons a r ih =>
  cases r with
  | nil => rfl
  | cons b r => rw [List.cons_append, joinS_cons (L := b :: r ++ [p]) (by simp), ih (by simp), joinS_cons (a := a) (L := b :: r) (by simp), List.append_assoc, List.cons_append]
theorem joinS_len : ∀ (L : List (List UInt8)), (joinS L).length + 1 = (L.map List.length).sum + L.length ∨ L = []
 | [] => .inr rfl
 | [a] => .inl (by simp [joinS])
 | a :: b :: r => .inl (by
  rcases joinS_len (b :: r) with h | h
  ·show (a ++ 47 :: joinS (b :: r)).length + 1 = _
   rw [List.length_append, List.length_cons]; simp only [List.map_cons, List.sum_cons, List.length_cons] at h ⊢; omega
  ·cases h)
def nameB (l : List UInt8) : Bool := decide (1 ≤ l.length ∧ l.length ≤ 31 ∧ l ≠ [46] ∧ l ≠ [46, 46] ∧ (0 : UInt8) ∉ l ∧ (47 : UInt8) ∉ l)
theorem nameB_iff {l : List UInt8} : nameB l = true ↔ 1 ≤ l.length ∧ l.length ≤ 31 ∧ l ≠ [46] ∧ l ≠ [46, 46] ∧ (0 : UInt8) ∉ l ∧ (47 : UInt8) ∉ l := by simp [nameB]
theorem nameB_mk {l : List UInt8} (h : 1 ≤ l.length ∧ l.length ≤ 31 ∧ l ≠ [46] ∧ l ≠ [46, 46] ∧ (0 : UInt8) ∉ l ∧ (47 : UInt8) ∉ l) : nameB l = true := nameB_iff.2 h
theorem nameB_no {l : List UInt8} (h : ¬ (1 ≤ l.length ∧ l.length ≤ 31 ∧ l ≠ [46] ∧ l ≠ [46, 46] ∧ (0 : UInt8) ∉ l ∧ (47 : UInt8) ∉ l)) : nameB l = false := by
 rcases hb : nameB l with _ | _
 ·rfl
 ·exact absurd (nameB_iff.1 hb) h
theorem nameB_nil : nameB [] = false := rfl
def joinN (L : List (List UInt8)) : List UInt8 := if L.length ≤ 8 ∧ L.all nameB = true then joinS L else []
def splitS (l : List UInt8) : List (List UInt8) := if (pts l).length ≤ 8 ∧ (pts l).all nameB = true then pts l else []
def firstN (l : List UInt8) : List (List UInt8) := (pts l).takeWhile nameB
def dirS (l : List UInt8) : List UInt8 := joinN (splitS l).dropLast
theorem firstN_all (l : List UInt8) : (firstN l).all nameB = true := by
 unfold firstN; exact List.all_takeWhile
theorem firstN_free (l : List UInt8) : ∀ p ∈ firstN l, (47 : UInt8) ∉ p := fun p hp => (nameB_iff.1 (List.all_eq_true.1 (firstN_all l) p hp)).2.2.2.2.2
theorem takeWhile_all {p : List UInt8 → Bool} : ∀ {L : List (List UInt8)}, L.all p = true → L.takeWhile p = L
 | [], _ => rfl
 | a :: L, h => by
  rw [List.all_cons, Bool.and_eq_true] at h
  rw [List.takeWhile_cons, h.1, if_pos rfl, takeWhile_all h.2]
theorem split_same {l : List UInt8} (h : joinN (firstN l) = l) : splitS l = firstN l := by
 unfold joinN at h
 by_cases h8 : (firstN l).length ≤ 8
 ·rw [if_pos ⟨h8, firstN_all l⟩] at h
  by_cases hn : firstN l = []
  ·rw [hn] at h
   subst h
   decide
  ·have hp := pts_joinS hn (firstN_free l)
   rw [h] at hp
   unfold splitS
   rw [hp, if_pos ⟨h8, firstN_all l⟩]
 ·rw [if_neg (fun hh => h8 hh.1)] at h
  subst h
  exact absurd (by decide) h8
theorem split_other {l : List UInt8} (h : joinN (firstN l) ≠ l) : splitS l = [] := by
 unfold splitS
 split
 ·rename_i hh
  refine absurd ?_ h
  have e : firstN l = pts l := takeWhile_all hh.2
  rw [e]; unfold joinN; rw [if_pos hh, joinS_pts]
 ·rfl
theorem splitS_cases (l : List UInt8) : (splitS l = [] ∧ ¬ ((pts l).length ≤ 8 ∧ (pts l).all nameB = true)) ∨ (splitS l = pts l ∧ (pts l).length ≤ 8 ∧ (pts l).all nameB = true) := by
 by_cases h : (pts l).length ≤ 8 ∧ (pts l).all nameB = true
 ·exact .inr ⟨if_pos h, h⟩
 ·exact .inl ⟨if_neg h, h⟩
theorem splitS_ne {l : List UInt8} (h : splitS l ≠ []) : splitS l = pts l ∧ (pts l).length ≤ 8 ∧ (pts l).all nameB = true := (splitS_cases l).resolve_left fun e => h e.1
theorem joinN_small {L : List (List UInt8)} (h : L.length ≤ 8) (hL : L.all nameB = true) : joinN L = joinS L := if_pos ⟨h, hL⟩
theorem joinN_long {L : List (List UInt8)} (h : 8 < L.length) : joinN L = [] := if_neg fun hh => absurd hh.1 (by omega)
theorem joinN_bad {L : List (List UInt8)} {p : List UInt8} (hp : p ∈ L) (h : nameB p = false) : joinN L = [] := if_neg fun hh => by
 have := List.all_eq_true.1 hh.2 p hp; rw [h] at this; cases this
theorem splitS_short {l : List UInt8} (h : (splitS l).length < 2) : dirS l = [] := by
 unfold dirS
 have : (splitS l).dropLast = [] := by
  cases hs : splitS l with
  | nil => rfl
  | cons a r => cases r with
   | nil => rfl
   | cons b r => rw [hs] at h; simp at h; omega
 rw [this]; rfl
def cmpP : List (List UInt8) → List (List UInt8) → Int
 | [], [] => 0
 | [], _ :: _ => -1
 | _ :: _, [] => 1
 | a :: x, b :: y => if a < b then -1 else if b < a then 1 else cmpP x y
def orderS (a b : List UInt8) : Int := cmpP (pts a) (pts b)
structure Pt where
 k : ByteArray
 n : Int
structure En where
 m : ByteArray
 kd : Int
 x : Bool
 k : ByteArray
structure Nd where
 kd : Int
 d : ByteArray
 ps : List Pt
 es : List En
theorem pt_ext {a b : Pt} (h1 : a.k = b.k) (h2 : a.n = b.n) : a = b := by cases a; cases b; simp_all
theorem en_ext {a b : En} (h1 : a.m = b.m) (h2 : a.kd = b.kd) (h3 : a.x = b.x) (h4 : a.k = b.k) : a = b := by cases a; cases b; simp_all
theorem nd_ext {a b : Nd} (h1 : a.kd = b.kd) (h2 : a.d = b.d) (h3 : a.ps = b.ps) (h4 : a.es = b.es) : a = b := by cases a; cases b; simp_all
def zeroPt : Pt := ⟨⟨#[]⟩, 0⟩
def zeroEn : En := ⟨⟨#[]⟩, 0, false, ⟨#[]⟩⟩
def okPt (p : Pt) : Bool := decide (p.k.size = 32) && decide (1 ≤ p.n) && decide (p.n ≤ 4096)
def sumPt : List Pt → Int
 | [] => 0
 | p :: L => p.n + sumPt L
theorem sumPt_app (L M : List Pt) : sumPt (L ++ M) = sumPt L + sumPt M := by
 induction L with
 | nil => simp [sumPt]
 | cons p L ih => simp only [List.cons_append, sumPt, ih]; omega
def fitFileB (L : List Pt) : Bool := L.all okPt && decide (sumPt L ≤ 32768)
def okEn (e : En) : Bool := nameB e.m.data.toList && decide (e.k.size = 32) && (decide (e.kd = 2) || decide (e.kd = 3) && !e.x)
def RisesN (L : List En) : Prop := ∀ i (h : i < L.length), 0 < i → (L[i - 1]'(by omega)).m.data.toList < L[i].m.data.toList
instance (L : List En) : Decidable (RisesN L) := by unfold RisesN; infer_instance
def fitDirB (L : List En) : Bool := L.all okEn && decide (RisesN L)
def fitN (n : Nd) : Bool :=
 (decide (n.kd = 1) && (decide (1 ≤ n.d.size) && decide (n.d.size ≤ 4096) && decide (n.ps.length = 0) && decide (n.es.length = 0)))
 || (decide (n.kd = 2) && (decide (n.d.size = 0) && decide (n.es.length = 0) && decide (n.ps.length ≤ 1024) && fitFileB n.ps))
 || (decide (n.kd = 3) && (decide (n.d.size = 0) && decide (n.ps.length = 0) && decide (n.es.length ≤ 60) && fitDirB n.es))
theorem fit_piece {n : Nd} (h : n.kd = 1) : fitN n = (decide (1 ≤ n.d.size) && decide (n.d.size ≤ 4096) && decide (n.ps.length = 0) && decide (n.es.length = 0)) := by
 unfold fitN; rw [h]; simp
theorem fit_file {n : Nd} (h : n.kd = 2) : fitN n = (decide (n.d.size = 0) && decide (n.es.length = 0) && decide (n.ps.length ≤ 1024) && fitFileB n.ps) := by
 unfold fitN; rw [h]; simp
theorem fit_dir {n : Nd} (h : n.kd = 3) : fitN n = (decide (n.d.size = 0) && decide (n.ps.length = 0) && decide (n.es.length ≤ 60) && fitDirB n.es) := by
 unfold fitN; rw [h]; simp
theorem fit_none {n : Nd} (h1 : n.kd ≠ 1) (h2 : n.kd ≠ 2) (h3 : n.kd ≠ 3) : fitN n = false := by
 unfold fitN; simp [h1, h2, h3]
theorem fit_kinds {n : Nd} (h : fitN n = true) : n.kd = 1 ∨ n.kd = 2 ∨ n.kd = 3 := by
 by_cases h1 : n.kd = 1
 ·exact .inl h1
 ·by_cases h2 : n.kd = 2
  ·exact .inr (.inl h2)
  ·by_cases h3 : n.kd = 3
   ·exact .inr (.inr h3)
   ·rw [fit_none h1 h2 h3] at h; exact absurd h (by decide)
theorem size_zero {b : ByteArray} (h : b.size = 0) : b = ⟨#[]⟩ := by
 cases b with | mk a => exact congrArg ByteArray.mk (Array.eq_empty_of_size_eq_zero h)
def ptB (p : Pt) : List UInt8 := p.k.data.toList ++ vput p.n.toNat
def enK (e : En) : UInt8 := UInt8.ofNat (e.kd.toNat + if e.x then 4 else 0)
def enB (e : En) : List UInt8 := vputText e.m.data.toList ++ [enK e] ++ e.k.data.toList
def psB (L : List Pt) : List UInt8 := L.flatMap ptB
def esB (L : List En) : List UInt8 := L.flatMap enB
theorem psB_app (L M : List Pt) : psB (L ++ M) = psB L ++ psB M := List.flatMap_append
theorem esB_app (L M : List En) : esB (L ++ M) = esB L ++ esB M := List.flatMap_append
theorem psB_one (p : Pt) : psB [p] = ptB p := List.append_nil _
theorem esB_one (e : En) : esB [e] = enB e := List.append_nil _
def bodyN (n : Nd) : List UInt8 :=
 if n.kd = 1 then n.d.data.toList else if n.kd = 2 then vput n.ps.length ++ psB n.ps else vput n.es.length ++ esB n.es
def wrL (n : Nd) : List UInt8 := UInt8.ofNat n.kd.toNat :: bodyN n
def wrN (n : Nd) : List UInt8 := if fitN n = true then wrL n else []
theorem body_piece {n : Nd} (h : n.kd = 1) : bodyN n = n.d.data.toList := if_pos h
theorem body_file {n : Nd} (h : n.kd = 2) : bodyN n = vput n.ps.length ++ psB n.ps := by unfold bodyN; rw [h]; simp
theorem body_dir {n : Nd} (h : n.kd = 3) : bodyN n = vput n.es.length ++ esB n.es := by unfold bodyN; rw [h]; simp
theorem wrN_fit {n : Nd} (h : fitN n = true) : wrN n = wrL n := if_pos h
theorem wrN_un {n : Nd} (h : fitN n = false) : wrN n = [] := if_neg (by rw [h]; decide)
theorem okPt_iff {p : Pt} : okPt p = true ↔ p.k.size = 32 ∧ 1 ≤ p.n ∧ p.n ≤ 4096 := by
 unfold okPt; simp only [Bool.and_eq_true, decide_eq_true_eq, and_assoc]
theorem okEn_iff {e : En} : okEn e = true ↔ nameB e.m.data.toList = true ∧ e.k.size = 32 ∧ (e.kd = 2 ∨ e.kd = 3 ∧ e.x = false) := by
 unfold okEn; simp only [Bool.and_eq_true, Bool.or_eq_true, decide_eq_true_eq, Bool.not_eq_true', and_assoc]
theorem ptB_len {p : Pt} (h : p.k.size = 32) : (ptB p).length ≤ 42 := by
 unfold ptB; rw [List.length_append, ← Lib.size_eq, h]; have := vput_len p.n.toNat; omega
theorem vputText_len {l : List UInt8} : (vputText l).length ≤ l.length + 10 := by
 unfold vputText; split
 ·simp
 ·rw [List.length_append]; have := vput_len l.length; omega
theorem enB_len {e : En} (h : okEn e = true) : (enB e).length ≤ 74 := by
 obtain ⟨h1, h2, _⟩ := okEn_iff.1 h
 have h31 := (nameB_iff.1 h1).2.1
 unfold enB; rw [List.length_append, List.length_append, ← Lib.size_eq, h2]
 have := vputText_len (l := e.m.data.toList); simp; omega
theorem psB_len : ∀ (L : List Pt), (∀ p ∈ L, p.k.size = 32) → (psB L).length ≤ 42 * L.length
 | [], _ => by simp [psB]
 | p :: L, h => by
  show (ptB p ++ psB L).length ≤ _
  have h1 := ptB_len (h p (by simp)); have h2 := psB_len L (fun q hq => h q (by simp [hq]))
  rw [List.length_append, List.length_cons]; omega
theorem esB_len : ∀ (L : List En), (∀ p ∈ L, okEn p = true) → (esB L).length ≤ 74 * L.length
 | [], _ => by simp [esB]
 | p :: L, h => by
  show (enB p ++ esB L).length ≤ _
  have h1 := enB_len (h p (by simp)); have h2 := esB_len L (fun q hq => h q (by simp [hq]))
  rw [List.length_append, List.length_cons]; omega
theorem fitFile_iff {L : List Pt} : fitFileB L = true ↔ (∀ p ∈ L, okPt p = true) ∧ sumPt L ≤ 32768 := by
 unfold fitFileB; rw [Bool.and_eq_true, List.all_eq_true, decide_eq_true_eq]
theorem fitDir_iff {L : List En} : fitDirB L = true ↔ (∀ p ∈ L, okEn p = true) ∧ RisesN L := by
 unfold fitDirB; rw [Bool.and_eq_true, List.all_eq_true, decide_eq_true_eq]
theorem fit1 {n : Nd} (h : n.kd = 1) (hf : fitN n = true) : 1 ≤ n.d.size ∧ n.d.size ≤ 4096 ∧ n.ps = [] ∧ n.es = [] := by
 rw [fit_piece h] at hf; simp only [Bool.and_eq_true, decide_eq_true_eq, List.length_eq_zero_iff, and_assoc] at hf; exact hf
theorem fit2 {n : Nd} (h : n.kd = 2) (hf : fitN n = true) : n.d = ⟨#[]⟩ ∧ n.es = [] ∧ n.ps.length ≤ 1024 ∧ fitFileB n.ps = true := by
 rw [fit_file h] at hf; simp only [Bool.and_eq_true, decide_eq_true_eq, List.length_eq_zero_iff, and_assoc] at hf
 exact ⟨size_zero hf.1, hf.2⟩
theorem fit3 {n : Nd} (h : n.kd = 3) (hf : fitN n = true) : n.d = ⟨#[]⟩ ∧ n.ps = [] ∧ n.es.length ≤ 60 ∧ fitDirB n.es = true := by
 rw [fit_dir h] at hf; simp only [Bool.and_eq_true, decide_eq_true_eq, List.length_eq_zero_iff, and_assoc] at hf
 exact ⟨size_zero hf.1, hf.2⟩
theorem wrL_len {n : Nd} (hf : fitN n = true) : 1 ≤ (wrL n).length ∧ (wrL n).length ≤ 50000 := by
 unfold wrL; rw [List.length_cons]
 refine ⟨by omega, ?_⟩
 rcases fit_kinds hf with h | h | h
 ·rw [body_piece h, ← Lib.size_eq]; have := fit1 h hf; omega
 ·rw [body_file h, List.length_append]
  obtain ⟨_, _, h3, h4⟩ := fit2 h hf
  have := psB_len n.ps (fun p hp => (okPt_iff.1 ((fitFile_iff.1 h4).1 p hp)).1)
  have := vput_len n.ps.length; omega
 ·rw [body_dir h, List.length_append]
  obtain ⟨_, _, h3, h4⟩ := fit3 h hf
  have := esB_len n.es (fitDir_iff.1 h4).1
  have := vput_len n.es.length; omega
def pPart (l : List UInt8) : Option (Pt × List UInt8) :=
 if l.length < 32 then none
 else if (vtake (l.drop 32)).2.2 ≠ 0 then none
 else if 4096 < (vtake (l.drop 32)).1 then none
 else some (⟨⟨(l.take 32).toArray⟩, (vtake (l.drop 32)).1⟩, l.drop (32 + (vtake (l.drop 32)).2.1))
def kByte (l : List UInt8) : Nat := (l.headD 0).toNat
def pEntry (l : List UInt8) : Option (En × List UInt8) :=
 if (vtakeText l).2.2 ≠ 0 then none
 else if (l.drop (vtakeText l).2.1).length < 33 then none
 else some (⟨⟨(vtakeText l).1.toArray⟩, ((kByte (l.drop (vtakeText l).2.1) - (if kByte (l.drop (vtakeText l).2.1) / 4 % 2 = 1 then 4 else 0) : Nat) : Int), decide (kByte (l.drop (vtakeText l).2.1) / 4 % 2 = 1),
  ⟨((l.drop ((vtakeText l).2.1 + 1)).take 32).toArray⟩⟩, l.drop ((vtakeText l).2.1 + 33))
def pList {α : Type} (next : List UInt8 → Option (α × List UInt8)) : Nat → List UInt8 → Option (List α × List UInt8)
 | 0, l => some ([], l)
 | c + 1, l => match next l with
  | none => none
  | some (x, r) => match pList next c r with
   | none => none
   | some (L, r') => some (x :: L, r')
def pNode (l : List UInt8) : Option (Nd × List UInt8) :=
 match l with
 | [] => none
 | b :: r =>
  if b.toNat = 1 then some (⟨1, ⟨r.toArray⟩, [], []⟩, [])
  else if b.toNat = 2 then
   if (vtake r).2.2 ≠ 0 then none else (pList pPart (vtake r).1 (r.drop (vtake r).2.1)).map fun x => (⟨2, ⟨#[]⟩, x.1, []⟩, x.2)
  else if b.toNat = 3 then
   if (vtake r).2.2 ≠ 0 then none else (pList pEntry (vtake r).1 (r.drop (vtake r).2.1)).map fun x => (⟨3, ⟨#[]⟩, [], x.1⟩, x.2)
  else some (⟨(b.toNat : Int), ⟨#[]⟩, [], []⟩, r)
theorem pPart_full {p : Pt} (h : okPt p = true) (r : List UInt8) : pPart (ptB p ++ r) = some (p, r) := by
 obtain ⟨h1, h2, h3⟩ := okPt_iff.1 h
 have hl : p.k.data.toList.length = 32 := by rw [← Lib.size_eq]; exact h1
 have e1 : (ptB p ++ r).drop 32 = vput p.n.toNat ++ r := by unfold ptB; rw [List.append_assoc, ← hl, List.drop_left]
 have e2 : (ptB p ++ r).take 32 = p.k.data.toList := by unfold ptB; rw [List.append_assoc, ← hl, List.take_left]
 have e3 : vtake (vput p.n.toNat ++ r) = (p.n.toNat, (vput p.n.toNat).length, 0) := take_put (by unfold U64; omega) r
 unfold pPart
 rw [e1, e3, if_neg (by unfold ptB; simp; omega), if_neg (by simp), if_neg (by show ¬ 4096 < p.n.toNat; omega), e2, ← List.drop_drop, e1]
 simp only [List.drop_left, Option.some.injEq, Prod.mk.injEq, and_true]
 exact pt_ext (by cases hk : p.k; rfl) (by show ((p.n.toNat : Nat) : Int) = p.n; omega)
theorem pEntry_full {e : En} (h : okEn e = true) (r : List UInt8) : pEntry (enB e ++ r) = some (e, r) := by
 obtain ⟨h1, h2, h3⟩ := okEn_iff.1 h
 have h31 := (nameB_iff.1 h1).2.1
 have hl : e.k.data.toList.length = 32 := by rw [← Lib.size_eq]; exact h2
 have e0 : enB e ++ r = vputText e.m.data.toList ++ (enK e :: (e.k.data.toList ++ r)) := by unfold enB; simp [List.append_assoc]
 have e3 : vtakeText (enB e ++ r) = (e.m.data.toList, (vputText e.m.data.toList).length, 0) := by rw [e0]; exact takeText_putText (by omega) _
 have e1 : (enB e ++ r).drop (vputText e.m.data.toList).length = enK e :: (e.k.data.toList ++ r) := by rw [e0, List.drop_left]
 have e4 : (enB e ++ r).drop ((vputText e.m.data.toList).length + 1) = e.k.data.toList ++ r := by rw [← List.drop_drop, e1]; rfl
 have e5 : (enB e ++ r).drop ((vputText e.m.data.toList).length + 33) = r := by
  rw [show (vputText e.m.data.toList).length + 33 = (vputText e.m.data.toList).length + 1 + 32 by omega, ← List.drop_drop, e4, ← hl, List.drop_left]
 unfold pEntry
 rw [e3]
 simp only [e1, e4, e5]
 rw [if_neg (by simp), if_neg (by simp; omega)]
 have hk : kByte (enK e :: (e.k.data.toList ++ r)) = e.kd.toNat + if e.x then 4 else 0 := by
  show (enK e).toNat = _
  unfold enK
  rw [UInt8.toNat_ofNat']
  rcases h3 with h | ⟨h, _⟩ <;> rw [h] <;> cases e.x <;> rfl
 rw [hk]
 refine congrArg some (Prod.ext (en_ext (by show (ByteArray.mk _) = e.m; cases e.m; rfl) ?_ ?_ (by show ByteArray.mk _ = e.k; rw [← hl, List.take_left])) rfl)
 ·rcases h3 with h | ⟨h, _⟩ <;> rw [h] <;> cases e.x <;> rfl
 ·rcases h3 with h | ⟨h, _⟩ <;> rw [h] <;> cases e.x <;> rfl
theorem pList_full {α : Type} {next : List UInt8 → Option (α × List UInt8)} {b : α → List UInt8} : ∀ (L : List α), (∀ x ∈ L, ∀ r, next (b x ++ r) = some (x, r)) → ∀ r, pList next L.length (L.flatMap b ++ r) = some (L, r)
 | [], _, r => rfl
 | x :: L, h, r => by
  show (match next ((b x ++ L.flatMap b) ++ r) with | none => none | some (x, r) => match pList next L.length r with | none => none | some (L, r') => some (x :: L, r')) = _
  rw [List.append_assoc, h x (by simp)]
  simp only [pList_full L (fun y hy => h y (by simp [hy])) r]
theorem pNode_full {n : Nd} (hf : fitN n = true) : pNode (wrL n) = some (n, []) := by
 unfold wrL
 rcases fit_kinds hf with h | h | h
 ·obtain ⟨_, _, h3, h4⟩ := fit1 h hf
  rw [body_piece h, h]
  unfold pNode
  simp only
  rw [show (UInt8.ofNat (1 : Int).toNat).toNat = 1 from rfl, if_pos rfl]
  exact congrArg some (Prod.ext (nd_ext h.symm (by show ByteArray.mk _ = n.d; cases n.d; rfl) h3.symm h4.symm) rfl)
 ·obtain ⟨h1, h2, h3, h4⟩ := fit2 h hf
  rw [body_file h, h]
  unfold pNode
  simp only
  rw [show (UInt8.ofNat (2 : Int).toNat).toNat = 2 from rfl]
  have hv : vtake (vput n.ps.length ++ psB n.ps) = (n.ps.length, (vput n.ps.length).length, 0) := take_put (by unfold U64; omega) _
  have hp := pList_full n.ps (b := ptB) (next := pPart) (fun x hx r => pPart_full ((fitFile_iff.1 h4).1 x hx) r) []
  rw [List.append_nil] at hp
  rw [if_neg (by decide), if_pos rfl, hv, if_neg (by simp)]
  simp only [List.drop_left]
  rw [show psB n.ps = n.ps.flatMap ptB from rfl, hp]
  exact congrArg some (Prod.ext (nd_ext h.symm h1.symm rfl h2.symm) rfl)
 ·obtain ⟨h1, h2, h3, h4⟩ := fit3 h hf
  rw [body_dir h, h]
  unfold pNode
  simp only
  rw [show (UInt8.ofNat (3 : Int).toNat).toNat = 3 from rfl]
  have hv : vtake (vput n.es.length ++ esB n.es) = (n.es.length, (vput n.es.length).length, 0) := take_put (by unfold U64; omega) _
  have hp := pList_full n.es (b := enB) (next := pEntry) (fun x hx r => pEntry_full ((fitDir_iff.1 h4).1 x hx) r) []
  rw [List.append_nil] at hp
  rw [if_neg (by decide), if_neg (by decide), if_pos rfl, hv, if_neg (by simp)]
  simp only [List.drop_left]
  rw [show esB n.es = n.es.flatMap enB from rfl, hp]
  exact congrArg some (Prod.ext (nd_ext h.symm h1.symm h2.symm rfl) rfl)
theorem wrL_inj {n m : Nd} (hn : fitN n = true) (hm : fitN m = true) (h : wrL n = wrL m) : n = m := by
 have h1 := pNode_full hn; rw [h, pNode_full hm] at h1
 simp only [Option.some.injEq, Prod.mk.injEq, and_true] at h1
 exact h1.symm
def rotr (x n : Nat) : Nat := x / 2 ^ n ||| x * 2 ^ (32 - n) % 4294967296
def ad (a b : Nat) : Nat := (a + b) % 4294967296
def sg0 (x : Nat) : Nat := rotr x 7 ^^^ rotr x 18 ^^^ x / 8
def sg1 (x : Nat) : Nat := rotr x 17 ^^^ rotr x 19 ^^^ x / 1024
def bs0 (x : Nat) : Nat := rotr x 2 ^^^ rotr x 13 ^^^ rotr x 22
def bs1 (x : Nat) : Nat := rotr x 6 ^^^ rotr x 11 ^^^ rotr x 25
def chs (e f g : Nat) : Nat := (e &&& f) ^^^ ((4294967295 - e) &&& g)
def mj (a b c : Nat) : Nat := (a &&& b) ^^^ (a &&& c) ^^^ (b &&& c)
def ktab : List Nat := [
 0x428a2f98, 0x71374491, 0xb5c0fbcf, 0xe9b5dba5, 0x3956c25b, 0x59f111f1, 0x923f82a4, 0xab1c5ed5,
 0xd807aa98, 0x12835b01, 0x243185be, 0x550c7dc3, 0x72be5d74, 0x80deb1fe, 0x9bdc06a7, 0xc19bf174,
 0xe49b69c1, 0xefbe4786, 0x0fc19dc6, 0x240ca1cc, 0x2de92c6f, 0x4a7484aa, 0x5cb0a9dc, 0x76f988da,
 0x983e5152, 0xa831c66d, 0xb00327c8, 0xbf597fc7, 0xc6e00bf3, 0xd5a79147, 0x06ca6351, 0x14292967,
 0x27b70a85, 0x2e1b2138, 0x4d2c6dfc, 0x53380d13, 0x650a7354, 0x766a0abb, 0x81c2c92e, 0x92722c85,
 0xa2bfe8a1, 0xa81a664b, 0xc24b8b70, 0xc76c51a3, 0xd192e819, 0xd6990624, 0xf40e3585, 0x106aa070,
 0x19a4c116, 0x1e376c08, 0x2748774c, 0x34b0bcb5, 0x391c0cb3, 0x4ed8aa4a, 0x5b9cca4f, 0x682e6ff3,
 0x748f82ee, 0x78a5636f, 0x84c87814, 0x8cc70208, 0x90befffa, 0xa4506ceb, 0xbef9a3f7, 0xc67178f2]
def kt (i : Nat) : Nat := ktab.getD i 0
def lead (b : Nat → Nat) (i : Nat) : Nat := b (i * 4) * 16777216 % 4294967296 ||| b (i * 4 + 1) * 65536 % 4294967296 ||| b (i * 4 + 2) * 256 % 4294967296 ||| b (i * 4 + 3)
def nxt (b : Nat → Nat) (l : List Nat) (k : Nat) : Nat :=
 if k < 16 then lead b k else ad (ad (ad (l.getD (k - 16) 0) (sg0 (l.getD (k - 15) 0))) (l.getD (k - 7) 0)) (sg1 (l.getD (k - 2) 0))
def wlist (b : Nat → Nat) : Nat → List Nat
 | 0 => []
 | k + 1 => wlist b k ++ [nxt b (wlist b k) k]
def wd (b : Nat → Nat) (i : Nat) : Nat := (wlist b 64).getD i 0
structure St where
 (a b c d e f g h : Nat)
def rnd (s : St) (k w : Nat) : St :=
 let t := ad (ad (ad (ad s.h (bs1 s.e)) (chs s.e s.f s.g)) k) w
 let u := ad (bs0 s.a) (mj s.a s.b s.c)
 ⟨ad t u, s.a, s.b, s.c, ad s.d t, s.e, s.f, s.g⟩
def rounds (b : Nat → Nat) (s : St) : Nat → St
 | 0 => s
 | k + 1 => rnd (rounds b s k) (kt k) (wd b k)
def St.add (s t : St) : St := ⟨ad s.a t.a, ad s.b t.b, ad s.c t.c, ad s.d t.d, ad s.e t.e, ad s.f t.f, ad s.g t.g, ad s.h t.h⟩
def blkS (s : St) (b : Nat → Nat) : St := s.add (rounds b s 64)
def first : St := ⟨0x6a09e667, 0xbb67ae85, 0x3c6ef372, 0xa54ff53a, 0x510e527f, 0x9b05688c, 0x1f83d9ab, 0x5be0cd19⟩
def St.list (s : St) : List Nat := [s.a, s.b, s.c, s.d, s.e, s.f, s.g, s.h]
theorem ad_lt (a b : Nat) : ad a b < 4294967296 := Nat.mod_lt _ (by decide)
theorem xor_lt {a b : Nat} (ha : a < 4294967296) (hb : b < 4294967296) : a ^^^ b < 4294967296 := Nat.xor_lt_two_pow (n := 32) ha hb
theorem or_lt {a b : Nat} (ha : a < 4294967296) (hb : b < 4294967296) : a ||| b < 4294967296 := Nat.or_lt_two_pow (n := 32) ha hb
theorem and_lt' {a b : Nat} (ha : a < 4294967296) : a &&& b < 4294967296 := Nat.lt_of_le_of_lt Nat.and_le_left ha
theorem div_lt' {a : Nat} (b : Nat) (ha : a < 4294967296) : a / b < 4294967296 := Nat.lt_of_le_of_lt (Nat.div_le_self _ _) ha
theorem rotr_lt {x : Nat} (n : Nat) (hx : x < 4294967296) : rotr x n < 4294967296 := or_lt (div_lt' _ hx) (Nat.mod_lt _ (by decide))
theorem lead_lt (b : Nat → Nat) (h : ∀ i, b i < 256) (k : Nat) : lead b k < 4294967296 := by
 unfold lead
 have := h (k * 4 + 3)
 exact or_lt (or_lt (or_lt (Nat.mod_lt _ (by decide)) (Nat.mod_lt _ (by decide))) (Nat.mod_lt _ (by decide))) (by omega)
theorem nxt_lt (b : Nat → Nat) (h : ∀ i, b i < 256) (l : List Nat) (k : Nat) : nxt b l k < 4294967296 := by
 unfold nxt
 split
 ·exact lead_lt b h k
 ·exact ad_lt _ _
theorem wlist_len (b : Nat → Nat) (k : Nat) : (wlist b k).length = k := by
 induction k with
 | zero => rfl
 | succ k ih => simp [wlist, ih]
theorem wlist_mem (b : Nat → Nat) (h : ∀ i, b i < 256) (k : Nat) : ∀ x ∈ wlist b k, x < 4294967296 := by
 induction k with
 | zero => intro x hx; cases hx
 | succ k ih =>
  intro x hx
  rw [wlist, List.mem_append] at hx
  rcases hx with hx | hx
  ·exact ih x hx
  ·rw [List.mem_singleton] at hx; rw [hx]; exact nxt_lt b h _ _
theorem getD_lt {l : List Nat} (h : ∀ x ∈ l, x < 4294967296) (i : Nat) : l.getD i 0 < 4294967296 := by
 rw [List.getD_eq_getElem?_getD]
 cases hi : l[i]? with
 | none => simp
 | some x => exact h x (List.mem_of_getElem? hi)
def wrow (b : Nat → Nat) (k : Nat) : List Nat := wlist b k ++ List.replicate (64 - k) 0
theorem wrow_len (b : Nat → Nat) (k : Nat) (h : k ≤ 64) : (wrow b k).length = 64 := by unfold wrow; simp [wlist_len]; omega
theorem wrow_full (b : Nat → Nat) : wrow b 64 = wlist b 64 := by simp [wrow]
theorem wrow_get (b : Nat → Nat) (k j : Nat) (h : j < k) : (wrow b k).getD j 0 = (wlist b k).getD j 0 := by
 unfold wrow
 rw [List.getD_eq_getElem?_getD, List.getElem?_append_left (by rw [wlist_len]; exact h), ← List.getD_eq_getElem?_getD]
theorem wrow_set (b : Nat → Nat) (k : Nat) (h : k < 64) : (wrow b k).set k (nxt b (wlist b k) k) = wrow b (k + 1) := by
 unfold wrow
 rw [List.set_append_right _ _ (by rw [wlist_len]; exact Nat.le_refl _), wlist_len, Nat.sub_self, show 64 - k = (64 - (k + 1)) + 1 by omega, List.replicate_succ, List.set_cons_zero, wlist, List.append_assoc]
 rfl
theorem nxt_lead (b : Nat → Nat) (l : List Nat) (k : Nat) (h : k < 16) : nxt b l k = lead b k := by rw [nxt, if_pos h]
theorem nxt_on (b : Nat → Nat) (l : List Nat) (k : Nat) (h : 16 ≤ k) : nxt b l k = ad (ad (ad (l.getD (k - 16) 0) (sg0 (l.getD (k - 15) 0))) (l.getD (k - 7) 0)) (sg1 (l.getD (k - 2) 0)) := by rw [nxt, if_neg (by omega)]
def St.ok (s : St) : Prop := s.a < 4294967296 ∧ s.b < 4294967296 ∧ s.c < 4294967296 ∧ s.d < 4294967296 ∧ s.e < 4294967296 ∧ s.f < 4294967296 ∧ s.g < 4294967296 ∧ s.h < 4294967296
theorem rnd_ok {s : St} (h : s.ok) (k w : Nat) : (rnd s k w).ok := ⟨ad_lt _ _, h.1, h.2.1, h.2.2.1, ad_lt _ _, h.2.2.2.2.1, h.2.2.2.2.2.1, h.2.2.2.2.2.2.1⟩
theorem rounds_ok (b : Nat → Nat) {s : St} (h : s.ok) (k : Nat) : (rounds b s k).ok := by
 induction k with
 | zero => exact h
 | succ k ih => exact rnd_ok ih _ _
theorem add_ok (s t : St) : (s.add t).ok := ⟨ad_lt _ _, ad_lt _ _, ad_lt _ _, ad_lt _ _, ad_lt _ _, ad_lt _ _, ad_lt _ _, ad_lt _ _⟩
theorem first_ok : first.ok := by refine ⟨?_, ?_, ?_, ?_, ?_, ?_, ?_, ?_⟩ <;> decide
theorem kt_lt (i : Nat) : kt i < 4294967296 := getD_lt (by decide) i
theorem wd_lt (b : Nat → Nat) (h : ∀ i, b i < 256) (i : Nat) : wd b i < 4294967296 := getD_lt (wlist_mem b h 64) i
theorem list_len (s : St) : s.list.length = 8 := rfl
end Go.Proofs.YtlccihidedfemaaGreatDoor
set_option linter.unusedVariables false
namespace Go.Proofs.YtlccihidedfemaaGreatDoor
def byt (l : List UInt8) (i : Nat) : Nat := (l.getD i 0).toNat
def blk (s : St) (l : List UInt8) : St := blkS s (byt l)
def absorb (s : St) (l : List UInt8) : St × List UInt8 := if h : l.length < 64 then (s, l) else absorb (blk s (l.take 64)) (l.drop 64)
termination_by l.length
decreasing_by simp; omega
theorem absorb_lt (s : St) {l : List UInt8} (h : l.length < 64) : absorb s l = (s, l) := by rw [absorb, dif_pos h]
theorem absorb_ge (s : St) {l : List UInt8} (h : 64 ≤ l.length) : absorb s l = absorb (blk s (l.take 64)) (l.drop 64) := by rw [absorb, dif_neg (by omega)]
theorem blk_ok (s : St) (l : List UInt8) : (blk s l).ok := add_ok _ _
theorem absorb_ok (l : List UInt8) : ∀ {s : St}, s.ok → (absorb s l).1.ok := by
 induction h : l.length using Nat.strongRecOn generalizing l with
 | ind n ih =>
  intro s hs
  by_cases hl : l.length < 64
  ·rw [absorb_lt s hl]; exact hs
  ·rw [absorb_ge s (by omega)]
   exact ih _ (by simp; omega) (l.drop 64) rfl (blk_ok _ _)
theorem absorb_len (l : List UInt8) : ∀ (s : St), (absorb s l).2.length = l.length % 64 := by
 induction h : l.length using Nat.strongRecOn generalizing l with
 | ind n ih =>
  intro s
  by_cases hl : l.length < 64
  ·rw [absorb_lt s hl, h, Nat.mod_eq_of_lt (by omega)]
  ·rw [absorb_ge s (by omega)]
   have := ih (l.drop 64).length (by simp; omega) (l.drop 64) rfl (blk s (l.take 64))
   rw [this, List.length_drop]; omega
theorem absorb_append (l m : List UInt8) : ∀ (s : St), absorb (absorb s l).1 ((absorb s l).2 ++ m) = absorb s (l ++ m) := by
 induction h : l.length using Nat.strongRecOn generalizing l with
 | ind n ih =>
  intro s
  by_cases hl : l.length < 64
  ·rw [absorb_lt s hl]
  ·rw [absorb_ge s (by omega), absorb_ge s (l := l ++ m) (by simp; omega)]
   have := ih (l.drop 64).length (by simp; omega) (l.drop 64) rfl (blk s (l.take 64))
   rw [this, List.take_append_of_le_length (by omega), List.drop_append_of_le_length (by omega)]
theorem absorb_fill (s : St) (p t : List UInt8) (h : p.length < 64) (hf : 64 ≤ p.length + t.length) : absorb s (p ++ t) = absorb (blk s (p ++ t.take (64 - p.length))) (t.drop (64 - p.length)) := by
 rw [absorb_ge s (by simp; omega), List.take_append, List.drop_append]
 rw [List.take_of_length_le (by omega), List.drop_of_length_le (by omega)]
 rfl
def wbytes (n : Nat) : List UInt8 := [UInt8.ofNat (n / 16777216), UInt8.ofNat (n / 65536), UInt8.ofNat (n / 256), UInt8.ofNat n]
def St.bytes (s : St) : List UInt8 := s.list.flatMap wbytes
theorem bytes_len (s : St) : s.bytes.length = 32 := rfl
def byteAt (s : St) (i : Nat) : UInt8 := UInt8.ofNat (s.list.getD (i / 4) 0 / 2 ^ (8 * (3 - i % 4)))
def zerosN_Shn (n : Nat) : Nat := (119 - n % 64) % 64
def be8 (n : Nat) : List UInt8 := (List.range 8).map fun i => UInt8.ofNat (n / 2 ^ (8 * (7 - i)))
def closing (n : Nat) : List UInt8 := 128 :: (List.replicate (zerosN_Shn n) 0 ++ be8 (n * 8))
def shaSum (l : List UInt8) : List UInt8 := (absorb first (l ++ closing l.length)).1.bytes
theorem bytes_row (s : St) : (List.range 32).map (byteAt s) = s.bytes := by
 obtain ⟨a, b, c, d, e, f, g, h⟩ := s
 simp [List.range_succ, byteAt, St.bytes, St.list, wbytes]
theorem be8_len (n : Nat) : (be8 n).length = 8 := by simp [be8]
theorem closing_len (n : Nat) : (closing n).length = 9 + zerosN_Shn n := by simp [closing, be8_len]; omega
theorem closed_len (l : List UInt8) : (l ++ closing l.length).length % 64 = 0 := by
 rw [List.length_append, closing_len, zerosN_Shn]; omega
theorem shaSum_len (l : List UInt8) : (shaSum l).length = 32 := rfl
theorem closed_rest (l : List UInt8) (s : St) : (absorb s (l ++ closing l.length)).2 = [] := by
 have := absorb_len (l ++ closing l.length) s
 rw [closed_len] at this
 exact List.length_eq_zero_iff.1 this
theorem absorb_one (s : St) {l : List UInt8} (h : l.length = 64) : absorb s l = (blk s l, []) := by
 rw [absorb_ge s (by omega), List.take_of_length_le (by omega), List.drop_of_length_le (by omega), absorb_lt _ (by simp)]
theorem byt_eq (l : List UInt8) : byt l = fun i => (l.getD i 0).toNat := rfl
end Go.Proofs.YtlccihidedfemaaGreatDoor
namespace Go.Proofs.YtlccihidedfemaaGreatDoor
def keyN (n : Nd) : List UInt8 := if fitN n = true then shaSum (wrL n) else []
theorem keyN_fit {n : Nd} (h : fitN n = true) : keyN n = shaSum (wrL n) := if_pos h
theorem keyN_un {n : Nd} (h : fitN n = false) : keyN n = [] := if_neg (by rw [h]; decide)
theorem keyN_len {n : Nd} (h : fitN n = true) : (keyN n).length = 32 := by rw [keyN_fit h]; exact shaSum_len _
theorem l_irrefl (x : List UInt8) : ¬ x < x := List.lt_irrefl x
theorem l_trans {x y z : List UInt8} (h : x < y) (h' : y < z) : x < z := List.lt_trans h h'
theorem l_tri (x y : List UInt8) (h : ¬ x < y) (h' : ¬ y < x) : x = y := List.le_antisymm (List.not_lt.1 h') (List.not_lt.1 h)
theorem cmp_cons (a b : List UInt8) (x y : List (List UInt8)) : cmpP (a :: x) (b :: y) = if a < b then -1 else if b < a then 1 else cmpP x y := rfl
theorem cmp_same (a : List UInt8) (x y : List (List UInt8)) : cmpP (a :: x) (a :: y) = cmpP x y := by rw [cmp_cons, if_neg (l_irrefl a), if_neg (l_irrefl a)]
theorem cmp_three : ∀ x y : List (List UInt8), cmpP x y = -1 ∨ cmpP x y = 0 ∨ cmpP x y = 1
 | [], [] => .inr (.inl rfl)
 | [], _ :: _ => .inl rfl
 | _ :: _, [] => .inr (.inr rfl)
 | a :: x, b :: y => by
  rw [cmp_cons]
  split
  ·exact .inl rfl
  ·split
   ·exact .inr (.inr rfl)
   ·exact cmp_three x y
theorem cmp_refl : ∀ x : List (List UInt8), cmpP x x = 0
 | [] => rfl
 | a :: x => by rw [cmp_same]; exact cmp_refl x
theorem cmp_zero : ∀ {x y : List (List UInt8)}, cmpP x y = 0 → x = y
 | [], [], _ => rfl
 | [], _ :: _, h => by cases h
 | _ :: _, [], h => by cases h
 | a :: x, b :: y, h => by
  rw [cmp_cons] at h
  by_cases h1 : a < b
  ·rw [if_pos h1] at h; cases h
  ·rw [if_neg h1] at h
   by_cases h2 : b < a
   ·rw [if_pos h2] at h; cases h
   ·rw [if_neg h2] at h; rw [l_tri a b h1 h2, cmp_zero h]
theorem cmp_trans : ∀ {x y z : List (List UInt8)}, cmpP x y = -1 → cmpP y z = -1 → cmpP x z = -1
 | [], [], _, h, _ => by cases h
 | [], _ :: _, [], _, h => by cases h
 | [], _ :: _, _ :: _, _, _ => rfl
 | _ :: _, [], _, h, _ => by cases h
 | _ :: _, _ :: _, [], _, h => by cases h
 | a :: x, b :: y, c :: z, h, h' => by
  rw [cmp_cons] at h h' ⊢
  by_cases h1 : a < b
  ·by_cases h2 : b < c
   ·rw [if_pos (l_trans h1 h2)]
   ·rw [if_neg h2] at h'
    by_cases h3 : c < b
    ·rw [if_pos h3] at h'; cases h'
    ·rw [← l_tri b c h2 h3, if_pos h1]
  ·rw [if_neg h1] at h
   by_cases h2 : b < a
   ·rw [if_pos h2] at h; cases h
   ·rw [if_neg h2] at h
    have e := l_tri a b h1 h2
    subst e
    by_cases h3 : a < c
    ·rw [if_pos h3]
    ·rw [if_neg h3] at h' ⊢
     by_cases h4 : c < a
     ·rw [if_pos h4] at h'; cases h'
     ·rw [if_neg h4] at h' ⊢; exact cmp_trans h h'
theorem cmp_below : ∀ (x : List (List UInt8)) {z : List (List UInt8)}, z ≠ [] → cmpP x (x ++ z) = -1
 | [], _ :: _, _ => rfl
 | [], [], h => absurd rfl h
 | a :: x, z, h => by rw [List.cons_append, cmp_same]; exact cmp_below x h
theorem pts_inj {a b : List UInt8} (h : pts a = pts b) : a = b := by rw [← joinS_pts a, h, joinS_pts]
theorem order_three (a b : List UInt8) : orderS a b = -1 ∨ orderS a b = 0 ∨ orderS a b = 1 := cmp_three _ _
theorem order_zero (a b : List UInt8) : orderS a b = 0 ↔ a = b := ⟨fun h => pts_inj (cmp_zero h), fun h => by subst h; exact cmp_refl _⟩
theorem order_trans {a b c : List UInt8} (h : orderS a b = -1) (h' : orderS b c = -1) : orderS a c = -1 := cmp_trans h h'
def pathB (l : List UInt8) : Bool := decide (0 < (splitS l).length)
theorem path_iff (l : List UInt8) : 0 < (splitS l).length ↔ ((pts l).length ≤ 8 ∧ (pts l).all nameB = true) := by
 rcases splitS_cases l with ⟨h, hn⟩ | ⟨h, h2⟩
 ·rw [h]; exact ⟨fun h => absurd h (by simp), fun h => absurd h hn⟩
 ·rw [h]; exact ⟨fun _ => h2, fun _ => List.length_pos_iff.2 (pts_ne l)⟩
structure Ob where
 k : ByteArray
 r : ByteArray
def Ob.t (x : Ob) : List UInt8 := x.k.data.toList
def Ob.u (x : Ob) : List UInt8 := x.r.data.toList
theorem ob_ext {x y : Ob} (h1 : x.k = y.k) (h2 : x.r = y.r) : x = y := by cases x; cases y; simp_all
theorem ob_bytes {a b : ByteArray} (h : a.data.toList = b.data.toList) : a = b := by
 cases a; cases b
 simp at h
 rw [h]
def RiseO (L : List Ob) : Prop := L.Pairwise fun a b => a.t < b.t
def FitO (L : List Ob) : Prop := RiseO L ∧ ∀ x ∈ L, x.t.length = 32
def getO (L : List Ob) (t : List UInt8) : Option Ob := L.find? fun x => decide (x.t = t)
def insO (L : List Ob) (x : Ob) : List Ob := (L.takeWhile fun y => !decide (x.t < y.t)) ++ x :: (L.dropWhile fun y => !decide (x.t < y.t))
def addO (L : List Ob) (x : Ob) : List Ob := if (getO L x.t).isSome = true ∨ x.t.length ≠ 32 then L else insO L x
noncomputable def fitO (L : List Ob) : Bool := @decide (FitO L) (Classical.propDecidable _)
theorem fitO_yes {L : List Ob} (h : FitO L) : fitO L = true := @decide_eq_true _ (Classical.propDecidable _) h
theorem fitO_no {L : List Ob} (h : ¬ FitO L) : fitO L = false := @decide_eq_false _ (Classical.propDecidable _) h
noncomputable def sameO (L M : List Ob) : Bool := @decide (L = M) (Classical.propDecidable _)
theorem sameO_yes {L M : List Ob} (h : L = M) : sameO L M = true := @decide_eq_true _ (Classical.propDecidable _) h
theorem sameO_no {L M : List Ob} (h : L ≠ M) : sameO L M = false := @decide_eq_false _ (Classical.propDecidable _) h
theorem getO_mem {L : List Ob} {t : List UInt8} {x : Ob} (h : getO L t = some x) : x ∈ L ∧ x.t = t :=
 ⟨List.mem_of_find?_eq_some h, by have := List.find?_some h; simpa using this⟩
theorem getO_none {L : List Ob} {t : List UInt8} : getO L t = none ↔ ∀ x ∈ L, x.t ≠ t := by
 unfold getO; simp
theorem rise_one {L : List Ob} (h : RiseO L) {x y : Ob} (hx : x ∈ L) (hy : y ∈ L) (e : x.t = y.t) : x = y := by
 induction L with
 | nil => cases hx
 | cons a L ih =>
  obtain ⟨h1, h2⟩ := List.pairwise_cons.1 h
  rcases List.mem_cons.1 hx with rfl | hx'
  ·rcases List.mem_cons.1 hy with e2 | hy'
   ·exact e2.symm
   ·exact absurd (e ▸ h1 y hy') (l_irrefl _)
  ·rcases List.mem_cons.1 hy with rfl | hy'
   ·exact absurd (e ▸ h1 x hx') (l_irrefl _)
   ·exact ih h2 hx' hy'
theorem getO_some {L : List Ob} (hr : RiseO L) {t : List UInt8} {x : Ob} : getO L t = some x ↔ x ∈ L ∧ x.t = t := by
 refine ⟨getO_mem, fun ⟨h1, h2⟩ => ?_⟩
 cases hf : getO L t with
 | none => exact absurd h2 (getO_none.1 hf x h1)
 | some y =>
  obtain ⟨h3, h4⟩ := getO_mem hf
  rw [rise_one hr h3 h1 (h4.trans h2.symm)]
theorem riseO_ext : ∀ {L M : List Ob}, RiseO L → RiseO M → (∀ y, y ∈ L ↔ y ∈ M) → L = M
 | [], [], _, _, _ => rfl
 | [], y :: M, _, _, h => absurd ((h y).2 (by simp)) (by simp)
 | x :: L, [], _, _, h => absurd ((h x).1 (by simp)) (by simp)
 | x :: L, y :: M, hL, hM, h => by
  obtain ⟨a1, a2⟩ := List.pairwise_cons.1 hL
  obtain ⟨b1, b2⟩ := List.pairwise_cons.1 hM
  have hxy : x = y := by
   rcases List.mem_cons.1 ((h x).1 (by simp)) with e | e
   ·exact e
   ·rcases List.mem_cons.1 ((h y).2 (by simp)) with e' | e'
    ·exact e'.symm
    ·exact absurd (l_trans (b1 x e) (a1 y e')) (l_irrefl _)
  subst hxy
  congr 1
  refine riseO_ext a2 b2 (fun z => ⟨fun hz => ?_, fun hz => ?_⟩)
  ·rcases List.mem_cons.1 ((h z).1 (List.mem_cons_of_mem _ hz)) with e | e
   ·exact absurd (e ▸ a1 z hz) (l_irrefl _)
   ·exact e
  ·rcases List.mem_cons.1 ((h z).2 (List.mem_cons_of_mem _ hz)) with e | e
   ·exact absurd (e ▸ b1 z hz) (l_irrefl _)
   ·exact e
theorem mem_insO {L : List Ob} {x y : Ob} : y ∈ insO L x ↔ y = x ∨ y ∈ L := by
 unfold insO
 conv => rhs; rw [← List.takeWhile_append_dropWhile (p := fun y => !decide (x.t < y.t)) (l := L)]
 simp only [List.mem_append, List.mem_cons]
 constructor
 ·rintro (h | h | h)
  ·exact .inr (.inl h)
  ·exact .inl h
  ·exact .inr (.inr h)
 ·rintro (h | h | h)
  ·exact .inr (.inl h)
  ·exact .inl h
  ·exact .inr (.inr h)
theorem insO_cons (L : List Ob) (x y : Ob) : insO (y :: L) x = if x.t < y.t then x :: y :: L else y :: insO L x := by
 unfold insO
 by_cases h : x.t < y.t
 ·simp [h]
 ·simp [h]
theorem insO_rise : ∀ {L : List Ob} {x : Ob}, RiseO L → (∀ y ∈ L, y.t ≠ x.t) → RiseO (insO L x)
 | [], x, _, _ => by unfold insO; exact List.pairwise_singleton _ _
 | y :: L, x, h, hn => by
  obtain ⟨h1, h2⟩ := List.pairwise_cons.1 h
  rw [insO_cons]
  by_cases hl : x.t < y.t
  ·rw [if_pos hl]
   refine List.pairwise_cons.2 ⟨fun z hz => ?_, h⟩
   rcases List.mem_cons.1 hz with rfl | hz'
   ·exact hl
   ·exact l_trans hl (h1 z hz')
  ·rw [if_neg hl]
   refine List.pairwise_cons.2 ⟨fun z hz => ?_, insO_rise h2 (fun z hz => hn z (List.mem_cons_of_mem _ hz))⟩
   rcases mem_insO.1 hz with rfl | hz'
   ·by_cases hg : y.t < z.t
    ·exact hg
    ·exact absurd (l_tri _ _ hg hl) (hn y (by simp))
   ·exact h1 z hz'
theorem mem_addO {L : List Ob} {x y : Ob} : y ∈ addO L x ↔ y ∈ L ∨ (y = x ∧ getO L x.t = none ∧ x.t.length = 32) := by
 unfold addO
 by_cases hc : (getO L x.t).isSome = true ∨ x.t.length ≠ 32
 ·rw [if_pos hc]
  refine ⟨.inl, fun h => h.elim id fun ⟨_, h2, h3⟩ => ?_⟩
  rcases hc with hc | hc
  ·rw [h2] at hc; cases hc
  ·exact absurd h3 hc
 ·rw [if_neg hc, mem_insO]
  rw [not_or] at hc
  have h1 : getO L x.t = none := by simpa using hc.1
  have h2 : x.t.length = 32 := Decidable.not_not.1 hc.2
  constructor
  ·rintro (h | h)
   ·exact .inr ⟨h, h1, h2⟩
   ·exact .inl h
  ·rintro (h | h)
   ·exact .inr h
   ·exact .inl h.1
theorem addO_fit {L : List Ob} (h : FitO L) (x : Ob) : FitO (addO L x) := by
 refine ⟨?_, fun y hy => ?_⟩
 ·unfold addO
  by_cases hc : (getO L x.t).isSome = true ∨ x.t.length ≠ 32
  ·rw [if_pos hc]; exact h.1
  ·rw [if_neg hc]
   rw [not_or] at hc
   exact insO_rise h.1 (getO_none.1 (by simpa using hc.1))
 ·rcases mem_addO.1 hy with h1 | ⟨rfl, _, h3⟩
  ·exact h.2 y h1
  ·exact h3
theorem fitO_nil : FitO [] := ⟨List.Pairwise.nil, fun _ h => by cases h⟩
theorem getO_add_self {L : List Ob} (h : FitO L) {x : Ob} (hn : getO L x.t = none) (hk : x.t.length = 32) : getO (addO L x) x.t = some x :=
 (getO_some (addO_fit h x).1).2 ⟨mem_addO.2 (.inr ⟨rfl, hn, hk⟩), rfl⟩
theorem getO_add_old {L : List Ob} (h : FitO L) (x : Ob) {y : Ob} (hy : y ∈ L) : getO (addO L x) y.t = some y :=
 (getO_some (addO_fit h x).1).2 ⟨mem_addO.2 (.inl hy), rfl⟩
theorem getO_add_other {L : List Ob} (h : FitO L) (x : Ob) {t : List UInt8} (ht : t ≠ x.t) : getO (addO L x) t = getO L t := by
 cases hg : getO L t with
 | some y => exact (getO_some (addO_fit h x).1).2 ⟨mem_addO.2 (.inl (getO_mem hg).1), (getO_mem hg).2⟩
 | none =>
  refine getO_none.2 fun y hy => ?_
  rcases mem_addO.1 hy with h1 | ⟨rfl, _, _⟩
  ·exact getO_none.1 hg y h1
  ·exact ht.symm
theorem addO_there {L : List Ob} {x : Ob} (h : (getO L x.t).isSome = true ∨ x.t.length ≠ 32) : addO L x = L := if_pos h
theorem addO_len {L : List Ob} {x : Ob} (hn : getO L x.t = none) (hk : x.t.length = 32) : (addO L x).length = L.length + 1 := by
 unfold addO
 rw [if_neg (by rw [hn]; simp [hk])]
 unfold insO
 rw [List.length_append, List.length_cons]
 have := congrArg List.length (List.takeWhile_append_dropWhile (p := fun y => !decide (x.t < y.t)) (l := L))
 rw [List.length_append] at this
 omega
theorem addO_len_le (L : List Ob) (x : Ob) : L.length ≤ (addO L x).length ∧ (addO L x).length ≤ L.length + 1 := by
 by_cases h : (getO L x.t).isSome = true ∨ x.t.length ≠ 32
 ·rw [addO_there h]; omega
 ·rw [not_or] at h
  rw [addO_len (by simpa using h.1) (Decidable.not_not.1 h.2)]; omega
def obN (n : Nd) : Ob := ⟨⟨(keyN n).toArray⟩, ⟨(wrN n).toArray⟩⟩
theorem obN_t (n : Nd) : (obN n).t = keyN n := by unfold obN Ob.t; simp
def putN (L : List Ob) (n : Nd) : List Ob := addO L (obN n)
def putsN (L : List Ob) (S : List Nd) : List Ob := S.foldl putN L
theorem putsN_cons (L : List Ob) (n : Nd) (S : List Nd) : putsN L (n :: S) = putsN (putN L n) S := rfl
theorem putsN_app (L : List Ob) (S T : List Nd) : putsN L (S ++ T) = putsN (putsN L S) T := List.foldl_append
theorem putsN_fit : ∀ {L : List Ob} (S : List Nd), FitO L → FitO (putsN L S)
 | _, [], h => h
 | _, _ :: S, h => putsN_fit S (addO_fit h _)
theorem putsN_len : ∀ (L : List Ob) (S : List Nd), L.length ≤ (putsN L S).length ∧ (putsN L S).length ≤ L.length + S.length
 | _, [] => ⟨Nat.le_refl _, Nat.le_refl _⟩
 | L, n :: S => by
  have h := addO_len_le L (obN n)
  have h2 := putsN_len (putN L n) S
  rw [putsN_cons, List.length_cons]
  unfold putN at h2 ⊢
  omega
theorem putsN_mem : ∀ {L : List Ob} {S : List Nd} {y : Ob}, y ∈ putsN L S → y ∈ L ∨ ∃ n ∈ S, y = obN n
 | _, [], _, h => .inl h
 | L, n :: S, y, h => by
  rcases putsN_mem (L := putN L n) (S := S) h with h1 | ⟨m, hm, e⟩
  ·rcases mem_addO.1 h1 with h2 | ⟨h2, _, _⟩
   ·exact .inl h2
   ·exact .inr ⟨n, by simp, h2⟩
  ·exact .inr ⟨m, List.mem_cons_of_mem _ hm, e⟩
def Clash (T : List (List UInt8)) : Prop := ∃ a ∈ T, ∃ b ∈ T, a ≠ b ∧ shaSum a = shaSum b
theorem same_raw {T : List (List UInt8)} (h : ¬ Clash T) {a b : List UInt8} (ha : a ∈ T) (hb : b ∈ T) (e : shaSum a = shaSum b) : a = b :=
 Classical.byContradiction fun hn => h ⟨a, ha, b, hb, hn, e⟩
theorem same_node {T : List (List UInt8)} (h : ¬ Clash T) {n m : Nd} (hn : fitN n = true) (hm : fitN m = true) (ha : wrN n ∈ T) (hb : wrN m ∈ T) (e : keyN n = keyN m) : n = m := by
 rw [keyN_fit hn, keyN_fit hm] at e
 rw [wrN_fit hn] at ha; rw [wrN_fit hm] at hb
 exact wrL_inj hn hm (same_raw h ha hb e)
end Go.Proofs.YtlccihidedfemaaGreatDoor

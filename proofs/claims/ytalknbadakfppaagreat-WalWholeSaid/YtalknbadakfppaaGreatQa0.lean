/-
  Texts put together: contracts and laws that this seat's proofs share.
-/
import Derived.WideKeyArgs
import Derived.Below
import Derived.OpenShut
import Derived.Deep.Slices
import Derived.ProofKit
import Derived.Laws.Rows
import Derived.DataReads
import Derived.Lib.SlicesCompact
import Derived.Sort.Walk0
import Derived.SliceStrings
import Derived.WideShapes
import Derived.OwnWalk
import Derived.Laws.AppendOwn
import Derived.Laws.AppendOwnNone
import Derived.BigFrame
import Derived.Laws.PanicsMore
import Derived.Lib.Strings
import Derived.WalkKit
import Derived.Test.YtalknbadakfppaaGreatProg
import Derived.KernelRfl
import Derived.Lib.Hide
import Derived.LoopTactic
import Derived.RegionTactic
import Derived.BigRegionIn
import Derived.Sort.CutIn
import Derived.Deep.QuietTactic
import Derived.BigQuiet
import Derived.Outline
import Derived.Laws.Cover1
import Derived.ChangeAlike
import Derived.ChangeKeysEq
import Derived.ChangeSame
import Derived.ChangeMaps5
import Derived.Deep.Fields
import Derived.Lib.SmallJoins
import Derived.Laws.BitsLemmas
import Derived.Laws.Bits64
import Derived.Lib.VarintBits
import Derived.Laws.CopyOwn
import Derived.Laws.BytesArg
import Derived.Deep.WholeRow
import Derived.Shelf.Strings.BuilderK
import Derived.Shelf.Strconv.Clone
import Derived.RangeFuncNested
import Derived.RangeFuncBound
import Derived.RangeFuncCalls
import Derived.RangeFuncLeaves
import Derived.RangeFuncBox
import Derived.Lib.OthersKept
import Derived.Laws.IdiomStrings
import Derived.Shelf.Abstract
import Derived.Shelf.RegionOpen
import Derived.OwnWalkIn
import Derived.TacticsInMore
import Derived.LoopNIn
import Derived.LoopIn
import Derived.Laws.BitsAllLaws
import Derived.Lib.QuietBelow
import Derived.WalkSmall
import Derived.Lib.IndexBytes
import Derived.Lib.SlicesS
namespace Go.Proofs.YtalknbadakfppaaGreat
open Go.ChangeShapes Go.WideShapes Go.RowKit Go.Deep
section
variable {H : Type} {enc : TypeId × Value → H} {P : Program}
theorem trodAll_stays (hl : laidOutB P = true) {W W' : World} {sp' : Nat → Bool} (hb : Below W.heap.size W W') : ∀ {ts : List TypeId} {vs : List Value} {ds : List (DataW H)} {ps : List MemPlace},
    (ts.all fun t => P.readableRec t && decide (t < P.types.size)) = true → DataW.TrodAll enc P W 0 (fun _ => true) true ts vs ds ps → (∀ p ∈ ps, p.block < W.heap.size) → (∀ p ∈ ps, sp' p.block = true) →
    DataW.TrodAll enc P W' 0 sp' true ts vs ds ps
  | [], _, _, _, _, h, _, _ => by
    obtain ⟨rfl, rfl, rfl⟩ := trodAll_nil h
    exact trodAll_mk0
  | t :: ts, _, _, _, hr, h, hlt, hsp => by
    obtain ⟨v, vs1, d, ds1, a, b, rfl, rfl, rfl, h1, h2⟩ := trodAll_cons h
    simp only [List.all_cons, Bool.and_eq_true, decide_eq_true_eq] at hr
    obtain ⟨⟨hr1, hr2⟩, hr3⟩ := hr
    exact trodAll_cons_mk (WideElems.Trod_stays hl hr1 hr2 h1 (fun p hp => hb.same (hlt p (List.mem_append.2 (.inl hp)))) (fun p hp => hsp p (List.mem_append.2 (.inl hp))))
      (trodAll_stays hl hb hr3 h2 (fun p hp => hlt p (List.mem_append.2 (.inr hp))) (fun p hp => hsp p (List.mem_append.2 (.inr hp))))
variable {w : World} {base : Nat} {spare : Nat → Bool} {held : Bool} {fuel : Nat} {t e : TypeId} {cs : List Value} {x : DataW H × List MemPlace}
end
theorem u8_of_wf' {a : Int} (h : (Lit.int .u8 a).wf = true) : ∃ u : UInt8, a = u.toNat := by
  simp [Lit.wf, IntKind.min, IntKind.max, IntKind.signed, IntKind.bits] at h
  exact ⟨UInt8.ofNat a.toNat, by simp; omega⟩
end Go.Proofs.YtalknbadakfppaaGreat
set_option linter.unusedVariables false
namespace Go.Proofs.YtalknbadakfppaaGreat
abbrev Txt := List UInt8
theorem t_irrefl (x : Txt) : ¬ x < x := List.lt_irrefl x
theorem t_trans {x y z : Txt} (h : x < y) (h' : y < z) : x < z := List.lt_trans h h'
theorem t_tri (x y : Txt) (h : ¬ x < y) (h' : ¬ y < x) : x = y := List.le_antisymm (List.not_lt.1 h') (List.not_lt.1 h)
theorem t_asymm {x y : Txt} (h : x < y) : ¬ y < x := fun h' => t_irrefl _ (t_trans h h')
def padT (s : Txt) (a : Nat) : Txt := s ++ List.replicate (a - s.length) 0
def layT (s : Txt) (a : Nat) (t : Txt) : Txt := (padT s a).take a ++ t ++ (padT s a).drop (a + t.length)
theorem padT_len (s : Txt) (a : Nat) : (padT s a).length = max s.length a := by unfold padT; rw [List.length_append, List.length_replicate]; omega
theorem layT_len (s : Txt) (a : Nat) (t : Txt) : (layT s a t).length = max s.length (a + t.length) := by
  unfold layT
  rw [List.length_append, List.length_append, List.length_take, List.length_drop, padT_len]; omega
theorem layT_over {s : Txt} {a : Nat} {t : Txt} (h : s.length ≤ a + t.length) : layT s a t = (padT s a).take a ++ t := by
  unfold layT
  rw [List.drop_eq_nil_of_le (by rw [padT_len]; omega), List.append_nil]
theorem padT_in {s : Txt} {a : Nat} (h : a ≤ s.length) : padT s a = s := by unfold padT; rw [show a - s.length = 0 by omega]; simp
theorem layT_in {s : Txt} {a : Nat} {t : Txt} (h : a ≤ s.length) : layT s a t = s.take a ++ t ++ s.drop (a + t.length) := by unfold layT; rw [padT_in h]
structure Dop where
  at_ : Int
  d : ByteArray
structure Dfl where
  n : ByteArray
  d : ByteArray
  ops : List Dop
structure Dsk where
  fs : List Dfl
  off : Bool
  fuse : Int
def Dfl.t (x : Dfl) : Txt := x.n.data.toList
def Dop.a (o : Dop) : Nat := o.at_.toNat
def Dop.t (o : Dop) : Txt := o.d.data.toList
def seenT (s : Txt) (ops : List Dop) : Txt := ops.foldl (fun s o => layT s o.a o.t) s
def seenF (f : Dfl) : Txt := seenT f.d.data.toList f.ops
theorem seenT_app (s : Txt) (P Q : List Dop) : seenT s (P ++ Q) = seenT (seenT s P) Q := by unfold seenT; rw [List.foldl_append]
theorem seenT_one (s : Txt) (P : List Dop) (o : Dop) : seenT s (P ++ [o]) = layT (seenT s P) o.a o.t := by rw [seenT_app]; rfl
def opOk (o : Dop) : Prop := 0 ≤ o.at_ ∧ o.d.size ≠ 0 ∧ o.at_ + o.d.size ≤ 262144
theorem dsize (x : ByteArray) : x.data.toList.length = x.size := by rw [Array.length_toList]; rfl
theorem seenT_max {s : Txt} {m : Nat} (hs : s.length ≤ m) : ∀ {P : List Dop}, (∀ o ∈ P, o.a + o.t.length ≤ m) → (seenT s P).length ≤ m
  | [], _ => hs
  | o :: P, h => by
    have h1 := h o (List.mem_cons_self ..)
    show (seenT (layT s o.a o.t) P).length ≤ m
    exact seenT_max (by rw [layT_len]; omega) fun x hx => h x (List.mem_cons_of_mem _ hx)
theorem opOk_len {o : Dop} (h : opOk o) : o.a + o.t.length ≤ 262144 := by
  obtain ⟨h1, _, h3⟩ := h
  unfold Dop.a Dop.t; rw [dsize]; omega
structure FitF (nm : Txt → Bool) (f : Dfl) : Prop where
  name : nm f.t = true
  many : f.ops.length ≤ 200
  bytes : f.d.size ≤ 262144
  ops : ∀ o ∈ f.ops, opOk o
theorem FitF.seen {nm : Txt → Bool} {f : Dfl} (h : FitF nm f) : (seenF f).length ≤ 262144 := seenT_max (by rw [dsize]; exact h.bytes) fun o ho => opOk_len (h.ops o ho)
structure FitD (nm : Txt → Bool) (d : Dsk) : Prop where
  many : d.fs.length ≤ 8
  lo : -1 ≤ d.fuse
  hi : d.fuse ≤ 1048576
  off : d.off = true → d.fuse = -1
  files : ∀ f ∈ d.fs, FitF nm f
  rise : d.fs.Pairwise fun x y => x.t < y.t
def getF (l : List Dfl) (t : Txt) : Option Dfl := l.find? fun f => decide (f.t = t)
theorem getF_some {l : List Dfl} (h : l.Pairwise fun x y => x.t < y.t) {t : Txt} {f : Dfl} : getF l t = some f ↔ f ∈ l ∧ f.t = t := by
  unfold getF
  constructor
  · intro g
    exact ⟨List.mem_of_find?_eq_some g, by simpa using List.find?_some g⟩
  · rintro ⟨hm, rfl⟩
    induction l with
    | nil => cases hm
    | cons x l ih =>
      obtain ⟨h1, h2⟩ := List.pairwise_cons.1 h
      rcases List.mem_cons.1 hm with rfl | hm
      · rw [List.find?_cons_of_pos (by simp)]
      · have hne : ¬ x.t = f.t := fun e => t_irrefl f.t (by have := h1 f hm; rwa [e] at this)
        rw [List.find?_cons_of_neg (by simpa using hne), ih h2 hm]
theorem getF_none {l : List Dfl} {t : Txt} : getF l t = none ↔ ∀ f ∈ l, f.t ≠ t := by
  unfold getF
  rw [List.find?_eq_none]
  exact ⟨fun h f hf e => h f hf (by simpa using e), fun h f hf e => h f hf (by simpa using e)⟩
def withF : List Dfl → Dfl → List Dfl
  | [], f => [f]
  | x :: l, f => if x.t < f.t then x :: withF l f else if x.t = f.t then f :: l else f :: x :: l
def lessF (l : List Dfl) (t : Txt) : List Dfl := l.filter fun x => decide (x.t ≠ t)
theorem withF_mem {l : List Dfl} {f : Dfl} (h : l.Pairwise fun x y => x.t < y.t) {x : Dfl} : x ∈ withF l f ↔ x = f ∨ (x ∈ l ∧ x.t ≠ f.t) := by
  induction l with
  | nil => simp [withF]
  | cons y l ih =>
    obtain ⟨h1, h2⟩ := List.pairwise_cons.1 h
    unfold withF
    by_cases g1 : y.t < f.t
    · rw [if_pos g1, List.mem_cons, ih h2, List.mem_cons]
      constructor
      · rintro (rfl | rfl | ⟨h3, h4⟩)
        · exact .inr ⟨.inl rfl, fun e => t_irrefl f.t (by rwa [e] at g1)⟩
        · exact .inl rfl
        · exact .inr ⟨.inr h3, h4⟩
      · rintro (rfl | ⟨rfl | h3, h4⟩)
        · exact .inr (.inl rfl)
        · exact .inl rfl
        · exact .inr (.inr ⟨h3, h4⟩)
    · rw [if_neg g1]
      by_cases g2 : y.t = f.t
      · rw [if_pos g2, List.mem_cons, List.mem_cons]
        constructor
        · rintro (rfl | h3)
          · exact .inl rfl
          · exact .inr ⟨.inr h3, fun e => t_irrefl y.t (by have := h1 x h3; rwa [e, ← g2] at this)⟩
        · rintro (rfl | ⟨rfl | h3, h4⟩)
          · exact .inl rfl
          · exact absurd g2 h4
          · exact .inr h3
      · rw [if_neg g2, List.mem_cons, List.mem_cons]
        have g3 : f.t < y.t := Classical.byContradiction fun c => g2 (t_tri _ _ g1 c)
        constructor
        · rintro (rfl | rfl | h3)
          · exact .inl rfl
          · exact .inr ⟨.inl rfl, g2⟩
          · exact .inr ⟨.inr h3, fun e => t_irrefl x.t (by have := t_trans g3 (h1 x h3); rwa [← e] at this)⟩
        · rintro (rfl | ⟨rfl | h3, h4⟩)
          · exact .inl rfl
          · exact .inr (.inl rfl)
          · exact .inr (.inr h3)
theorem withF_rise {l : List Dfl} {f : Dfl} (h : l.Pairwise fun x y => x.t < y.t) : (withF l f).Pairwise fun x y => x.t < y.t := by
  induction l with
  | nil => simp [withF]
  | cons y l ih =>
    obtain ⟨h1, h2⟩ := List.pairwise_cons.1 h
    unfold withF
    by_cases g1 : y.t < f.t
    · rw [if_pos g1, List.pairwise_cons]
      refine ⟨fun x hx => ?_, ih h2⟩
      rcases (withF_mem h2).1 hx with rfl | ⟨h3, _⟩
      · exact g1
      · exact h1 x h3
    · rw [if_neg g1]
      by_cases g2 : y.t = f.t
      · rw [if_pos g2, List.pairwise_cons]
        exact ⟨fun x hx => by rw [← g2]; exact h1 x hx, h2⟩
      · rw [if_neg g2, List.pairwise_cons]
        have g3 : f.t < y.t := Classical.byContradiction fun c => g2 (t_tri _ _ g1 c)
        refine ⟨fun x hx => ?_, h⟩
        rcases List.mem_cons.1 hx with rfl | hx
        · exact g3
        · exact t_trans g3 (h1 x hx)
theorem withF_len {l : List Dfl} {f : Dfl} (h : l.Pairwise fun x y => x.t < y.t) : (withF l f).length = if (getF l f.t).isSome then l.length else l.length + 1 := by
  induction l with
  | nil => rfl
  | cons y l ih =>
    obtain ⟨h1, h2⟩ := List.pairwise_cons.1 h
    unfold withF
    by_cases g1 : y.t < f.t
    · have hne : ¬ y.t = f.t := fun e => t_irrefl f.t (by rwa [e] at g1)
      rw [if_pos g1, List.length_cons, ih h2]
      have : getF (y :: l) f.t = getF l f.t := by unfold getF; rw [List.find?_cons_of_neg (by simpa using hne)]
      rw [this]
      split <;> simp
    · rw [if_neg g1]
      by_cases g2 : y.t = f.t
      · have : getF (y :: l) f.t = some y := by unfold getF; rw [List.find?_cons_of_pos (by simpa using g2)]
        rw [if_pos g2, this]; simp
      · have g3 : f.t < y.t := Classical.byContradiction fun c => g2 (t_tri _ _ g1 c)
        have : getF (y :: l) f.t = none := getF_none.2 fun x hx e => by
          rcases List.mem_cons.1 hx with rfl | hx
          · exact g2 e
          · exact t_irrefl x.t (by have := t_trans g3 (h1 x hx); rwa [← e] at this)
        rw [if_neg g2, this]; simp
theorem lessF_mem {l : List Dfl} {t : Txt} {x : Dfl} : x ∈ lessF l t ↔ x ∈ l ∧ x.t ≠ t := by unfold lessF; rw [List.mem_filter]; simp
theorem lessF_rise {l : List Dfl} {t : Txt} (h : l.Pairwise fun x y => x.t < y.t) : (lessF l t).Pairwise fun x y => x.t < y.t := h.sublist List.filter_sublist
theorem lessF_len (l : List Dfl) (t : Txt) : (lessF l t).length ≤ l.length := List.length_filter_le _ _
theorem lessF_get {l : List Dfl} (h : l.Pairwise fun x y => x.t < y.t) (t u : Txt) : getF (lessF l u) t = if t = u then none else getF l t := by
  by_cases e : t = u
  · rw [if_pos e]
    exact getF_none.2 fun x hx e2 => (lessF_mem.1 hx).2 (e2.trans e)
  · rw [if_neg e]
    cases hg : getF l t with
    | none => exact getF_none.2 fun x hx => getF_none.1 hg x (lessF_mem.1 hx).1
    | some g =>
      obtain ⟨h1, h2⟩ := (getF_some h).1 hg
      exact (getF_some (lessF_rise h)).2 ⟨lessF_mem.2 ⟨h1, by rw [h2]; exact e⟩, h2⟩
def strT (t : Txt) : ByteArray := ⟨t.toArray⟩
theorem strT_txt (t : Txt) : (strT t).data.toList = t := by unfold strT; simp
theorem txt_strT (x : ByteArray) : strT x.data.toList = x := by unfold strT; simp
theorem strT_size (t : Txt) : (strT t).size = t.length := by rw [← dsize, strT_txt]
def powD (d : Dsk) : Dsk × Int := if d.fuse = 0 then (⟨d.fs, true, -1⟩, 13) else if 0 < d.fuse then (⟨d.fs, d.off, d.fuse - 1⟩, 0) else (d, 0)
def readD (d : Dsk) (t : Txt) : Txt × Bool := match getF d.fs t with
  | none => ([], false)
  | some f => (seenF f, true)
def wroteF (d : Dsk) (n : ByteArray) (a : Int) (s : ByteArray) : Dfl :=
  let f := (getF d.fs n.data.toList).getD ⟨n, ⟨#[]⟩, []⟩
  if s.size = 0 then f else ⟨f.n, f.d, f.ops ++ [⟨a, s⟩]⟩
def fullD (d : Dsk) (n : ByteArray) (s : ByteArray) : Prop := match getF d.fs n.data.toList with
  | none => 8 ≤ d.fs.length
  | some f => s.size ≠ 0 ∧ 200 ≤ f.ops.length
instance (d : Dsk) (n s : ByteArray) : Decidable (fullD d n s) := by unfold fullD; split <;> exact inferInstance
def thenD (d : Dsk) (fs : List Dfl) : Dsk × Int := if (powD d).2 ≠ 0 then powD d else (⟨fs, (powD d).1.off, (powD d).1.fuse⟩, 0)
def writeD (nm : Txt → Bool) (d : Dsk) (n : ByteArray) (a : Int) (s : ByteArray) : Dsk × Int :=
  if d.off = true then (d, 13) else if nm n.data.toList = false then (d, 7) else if a < 0 ∨ 262144 < a + s.size then (d, 4)
  else if fullD d n s then (d, 9) else thenD d (withF d.fs (wroteF d n a s))
def syncD (d : Dsk) (n : ByteArray) : Dsk × Int :=
  if d.off = true then (d, 13) else match getF d.fs n.data.toList with
    | none => (d, 5)
    | some f => thenD d (withF d.fs ⟨n, strT (seenF f), []⟩)
def renameD (nm : Txt → Bool) (d : Dsk) (n m : ByteArray) : Dsk × Int :=
  if d.off = true then (d, 13) else if nm m.data.toList = false then (d, 7) else match getF d.fs n.data.toList with
    | none => (d, 5)
    | some f => thenD d (withF (lessF d.fs n.data.toList) ⟨m, f.d, f.ops⟩)
def removeD (d : Dsk) (n : ByteArray) : Dsk × Int :=
  if d.off = true then (d, 13) else match getF d.fs n.data.toList with
    | none => (d, 5)
    | some f => thenD d (lessF d.fs n.data.toList)
def keptT (keep : List Bool) : Nat → Txt → List Dop → Txt
  | _, s, [] => s
  | n, s, o :: P => keptT keep (n + 1) (if keep.getD n false then layT s o.a o.t else s) P
def crashL (keep : List Bool) : Nat → List Dfl → List Dfl
  | _, [] => []
  | n, f :: l => ⟨f.n, strT (keptT keep n f.d.data.toList f.ops), []⟩ :: crashL keep (n + f.ops.length) l
def crashD (d : Dsk) (keep : List Bool) : Dsk := ⟨crashL keep 0 d.fs, false, -1⟩
def opsL (l : List Dfl) : Nat := (l.map fun f => f.ops.length).sum
section
variable {nm : Txt → Bool} {d : Dsk}
theorem powD_fit (h : FitD nm d) : FitD nm (powD d).1 := by
  have h1 := h.lo; have h2 := h.hi
  unfold powD
  split
  · exact ⟨h.many, show (-1 : Int) ≤ -1 by decide, show (-1 : Int) ≤ 1048576 by decide, fun _ => rfl, h.files, h.rise⟩
  · split
    · exact ⟨h.many, by show -1 ≤ d.fuse - 1; omega, by show d.fuse - 1 ≤ _; omega, fun e => by have := h.off e; omega, h.files, h.rise⟩
    · exact h
theorem thenD_fit (h : FitD nm d) {fs : List Dfl} (h1 : fs.length ≤ 8) (h2 : ∀ f ∈ fs, FitF nm f) (h3 : fs.Pairwise fun x y => x.t < y.t) : FitD nm (thenD d fs).1 := by
  have hp := powD_fit h
  unfold thenD
  split
  · exact hp
  · exact ⟨h1, hp.lo, hp.hi, hp.off, h2, h3⟩
theorem getF_fit (h : FitD nm d) {t : Txt} {f : Dfl} (hg : getF d.fs t = some f) : FitF nm f ∧ f.t = t := by
  obtain ⟨h1, h2⟩ := (getF_some h.rise).1 hg
  exact ⟨h.files f h1, h2⟩
theorem withF_fit (h : FitD nm d) {f : Dfl} (hf : FitF nm f) (hl : (getF d.fs f.t).isSome = true ∨ d.fs.length < 8) : (withF d.fs f).length ≤ 8 ∧ (∀ x ∈ withF d.fs f, FitF nm x) ∧ (withF d.fs f).Pairwise fun x y => x.t < y.t := by
  refine ⟨?_, fun x hx => ?_, withF_rise h.rise⟩
  · rw [withF_len h.rise]
    have := h.many
    split
    · exact this
    · rename_i hn
      rcases hl with hl | hl
      · exact absurd hl hn
      · exact hl
  · rcases (withF_mem h.rise).1 hx with rfl | ⟨h1, _⟩
    · exact hf
    · exact h.files x h1
theorem wroteF_t (h : FitD nm d) (n : ByteArray) (a : Int) (s : ByteArray) : (wroteF d n a s).t = n.data.toList := by
  have : ((getF d.fs n.data.toList).getD ⟨n, ⟨#[]⟩, []⟩).t = n.data.toList := by
    cases hg : getF d.fs n.data.toList with
    | none => rfl
    | some f => exact (getF_fit h hg).2
  unfold wroteF
  dsimp only
  split
  · exact this
  · exact this
theorem wroteF_fit (h : FitD nm d) {n : ByteArray} {a : Int} {s : ByteArray} (hn : nm n.data.toList = true) (ha : ¬ (a < 0 ∨ 262144 < a + s.size)) (hf : ¬ fullD d n s) : FitF nm (wroteF d n a s) := by
  have h0 : FitF nm ((getF d.fs n.data.toList).getD ⟨n, ⟨#[]⟩, []⟩) := by
    cases hg : getF d.fs n.data.toList with
    | none => exact ⟨hn, Nat.zero_le _, Nat.zero_le _, fun o ho => (by cases ho)⟩
    | some f => exact (getF_fit h hg).1
  unfold wroteF
  dsimp only
  split
  · exact h0
  · rename_i hs
    refine ⟨h0.name, ?_, h0.bytes, fun o ho => ?_⟩
    · show (_ ++ [_]).length ≤ 200
      rw [List.length_append]
      unfold fullD at hf
      cases hg : getF d.fs n.data.toList with
      | none => simp
      | some f => rw [hg] at hf; have hf2 : ¬ (s.size ≠ 0 ∧ 200 ≤ f.ops.length) := hf; show f.ops.length + 1 ≤ 200; omega
    · rcases List.mem_append.1 ho with ho | ho
      · exact h0.ops o ho
      · rw [List.mem_singleton.1 ho]
        exact ⟨by show 0 ≤ a; omega, hs, by show a + s.size ≤ _; omega⟩
theorem writeD_fit (h : FitD nm d) (n : ByteArray) (a : Int) (s : ByteArray) : FitD nm (writeD nm d n a s).1 := by
  unfold writeD
  split
  · exact h
  split
  · exact h
  split
  · exact h
  split
  · exact h
  rename_i h1 h2 h3 h4
  have hw := wroteF_fit h (by simpa using h2) h3 h4
  obtain ⟨g1, g2, g3⟩ := withF_fit h hw (by
    rw [wroteF_t h]
    unfold fullD at h4
    cases hg : getF d.fs n.data.toList with
    | none => rw [hg] at h4; exact .inr (by simpa using h4)
    | some f => exact .inl rfl)
  exact thenD_fit h g1 g2 g3
theorem syncD_fit (h : FitD nm d) (n : ByteArray) : FitD nm (syncD d n).1 := by
  unfold syncD
  split
  · exact h
  cases hg : getF d.fs n.data.toList with
  | none => exact h
  | some f =>
    obtain ⟨f1, f2⟩ := getF_fit h hg
    obtain ⟨g1, g2, g3⟩ := withF_fit h (f := ⟨n, strT (seenF f), []⟩) ⟨by show nm n.data.toList = true; rw [← f2]; exact f1.name, Nat.zero_le _, by show (strT _).size ≤ _; rw [strT_size]; exact f1.seen, fun o ho => (by cases ho)⟩ (.inl (by show (getF d.fs n.data.toList).isSome = true; rw [hg]; rfl))
    exact thenD_fit h g1 g2 g3
theorem lessF_fit (h : FitD nm d) (t : Txt) : FitD nm ⟨lessF d.fs t, d.off, d.fuse⟩ := ⟨Nat.le_trans (lessF_len _ _) h.many, h.lo, h.hi, h.off, fun f hf => h.files f (lessF_mem.1 hf).1, lessF_rise h.rise⟩
theorem lessF_less (h : FitD nm d) {t : Txt} {f : Dfl} (hg : getF d.fs t = some f) : (lessF d.fs t).length < d.fs.length := by
  obtain ⟨h1, h2⟩ := (getF_some h.rise).1 hg
  unfold lessF
  have := List.length_filter_lt_length_iff_exists (p := fun x : Dfl => decide (x.t ≠ t)) (l := d.fs)
  exact this.2 ⟨f, h1, by simp [h2]⟩
theorem renameD_fit (h : FitD nm d) (n m : ByteArray) : FitD nm (renameD nm d n m).1 := by
  unfold renameD
  split
  · exact h
  split
  · exact h
  rename_i h1 h2
  cases hg : getF d.fs n.data.toList with
  | none => exact h
  | some f =>
    obtain ⟨f1, f2⟩ := getF_fit h hg
    obtain ⟨g1, g2, g3⟩ := withF_fit (lessF_fit h n.data.toList) (f := ⟨m, f.d, f.ops⟩) ⟨by simpa [Dfl.t] using h2, f1.many, f1.bytes, f1.ops⟩ (.inr (by
      have h3 := lessF_less h hg
      have h4 := h.many
      show (lessF d.fs n.data.toList).length < 8
      omega))
    exact thenD_fit h g1 g2 g3
theorem removeD_fit (h : FitD nm d) (n : ByteArray) : FitD nm (removeD d n).1 := by
  unfold removeD
  split
  · exact h
  cases hg : getF d.fs n.data.toList with
  | none => exact h
  | some f =>
    have := lessF_fit h n.data.toList
    exact thenD_fit h this.many this.files this.rise
theorem keptT_max {keep : List Bool} {m : Nat} : ∀ {P : List Dop} {n : Nat} {s : Txt}, s.length ≤ m → (∀ o ∈ P, o.a + o.t.length ≤ m) → (keptT keep n s P).length ≤ m
  | [], _, _, hs, _ => hs
  | o :: P, n, s, hs, h => by
    have h1 := h o (List.mem_cons_self ..)
    unfold keptT
    refine keptT_max ?_ fun x hx => h x (List.mem_cons_of_mem _ hx)
    split
    · rw [layT_len]; omega
    · exact hs
theorem crashL_map (keep : List Bool) : ∀ (l : List Dfl) (n : Nat), (crashL keep n l).map Dfl.n = l.map Dfl.n
  | [], _ => rfl
  | f :: l, n => by unfold crashL; rw [List.map_cons, List.map_cons, crashL_map keep l]
theorem crashL_mem {keep : List Bool} : ∀ {l : List Dfl} {n : Nat} {x : Dfl}, x ∈ crashL keep n l → ∃ f ∈ l, ∃ k, x = ⟨f.n, strT (keptT keep k f.d.data.toList f.ops), []⟩
  | [], _, _, h => by cases h
  | f :: l, n, x, h => by
    unfold crashL at h
    rcases List.mem_cons.1 h with rfl | h
    · exact ⟨f, List.mem_cons_self .., n, rfl⟩
    · obtain ⟨g, hg, k, e⟩ := crashL_mem h
      exact ⟨g, List.mem_cons_of_mem _ hg, k, e⟩
theorem crashL_rise {keep : List Bool} : ∀ {l : List Dfl} {n : Nat}, l.Pairwise (fun x y => x.t < y.t) → (crashL keep n l).Pairwise fun x y => x.t < y.t
  | [], _, _ => List.Pairwise.nil
  | f :: l, n, h => by
    obtain ⟨h1, h2⟩ := List.pairwise_cons.1 h
    unfold crashL
    refine List.pairwise_cons.2 ⟨fun x hx => ?_, crashL_rise h2⟩
    obtain ⟨g, hg, k, rfl⟩ := crashL_mem hx
    exact h1 g hg
theorem crashD_fit (h : FitD nm d) (keep : List Bool) : FitD nm (crashD d keep) := by
  refine ⟨?_, show (-1 : Int) ≤ -1 by decide, show (-1 : Int) ≤ 1048576 by decide, fun e => rfl, fun x hx => ?_, crashL_rise h.rise⟩
  · have := congrArg List.length (crashL_map keep d.fs 0)
    rw [List.length_map, List.length_map] at this
    show (crashL keep 0 d.fs).length ≤ 8
    rw [this]; exact h.many
  · obtain ⟨f, hf, k, rfl⟩ := crashL_mem hx
    have hf := h.files f hf
    exact ⟨hf.name, Nat.zero_le _, by show (strT _).size ≤ _; rw [strT_size]; exact keptT_max (by rw [dsize]; exact hf.bytes) fun o ho => opOk_len (hf.ops o ho), fun o ho => (by cases ho)⟩
theorem getF_cons (x : Dfl) (l : List Dfl) (t : Txt) : getF (x :: l) t = if x.t = t then some x else getF l t := by
  unfold getF
  by_cases e : x.t = t
  · rw [if_pos e, List.find?_cons_of_pos (by simpa using e)]
  · rw [if_neg e, List.find?_cons_of_neg (by simpa using e)]
theorem opsL_max (h : FitD nm d) : opsL d.fs ≤ 1600 := by
  have : ∀ l : List Dfl, (∀ f ∈ l, f.ops.length ≤ 200) → opsL l ≤ 200 * l.length := fun l hl => by
    induction l with
    | nil => exact Nat.le_refl _
    | cons f l ih =>
      unfold opsL at ih ⊢
      rw [List.map_cons, List.sum_cons, List.length_cons]
      have := ih fun g hg => hl g (List.mem_cons_of_mem _ hg)
      have := hl f (List.mem_cons_self ..)
      omega
  have h1 := this d.fs fun f hf => (h.files f hf).many
  have := h.many
  omega
end
end Go.Proofs.YtalknbadakfppaaGreat
namespace Go.Proofs.YtalknbadakfppaaGreat
open Go.ChangeShapes Go.WideShapes Go.RowKit Go.Deep
def strCells (L : List ByteArray) : List Value := L.map Value.string
def IsStrs (w : World) (v : Value) (L : List ByteArray) : Prop :=
  L.length ≤ maxLen ∧ ∃ (a : Option Addr) (cap : Nat), v = .slice a L.length cap ∧ ((a = none → L = [] ∧ cap = 0) ∧ L.length ≤ cap) ∧ (0 < L.length → ∃ b off, a = some ⟨b, off, none⟩ ∧ b < w.heap.size ∧ ∀ i (h : i < L.length), w.cell? ⟨b, off + i, none⟩ = some (.string L[i]))
theorem strCells_len (L : List ByteArray) : (strCells L).length = L.length := List.length_map ..
theorem strCells_get {L : List ByteArray} {i : Nat} (h : i < L.length) : (strCells L)[i]? = some (.string L[i]) := by simp [strCells, h]
theorem strCells_app (L M : List ByteArray) : strCells (L ++ M) = strCells L ++ strCells M := List.map_append
theorem add_plain' (b o i : Nat) : (⟨b, o, none⟩ : Addr).add i = ⟨b, o + i, none⟩ := by unfold Addr.add; split <;> simp_all
theorem isStrs_nil (w : World) : IsStrs w (.slice none 0 0) [] := ⟨Nat.zero_le _, none, 0, rfl, ⟨fun _ => ⟨rfl, rfl⟩, Nat.le_refl _⟩, fun h => absurd h (by simp)⟩
theorem IsStrs.stays {w w' : World} {v : Value} {L : List ByteArray} (h : IsStrs w v L) (hb : Below w.heap.size w w') : IsStrs w' v L := by
  obtain ⟨h0, a, cap, h1, h2, h3⟩ := h
  refine ⟨h0, a, cap, h1, h2, fun hL => ?_⟩
  obtain ⟨b, off, e, hlt, hc⟩ := h3 hL
  exact ⟨b, off, e, Nat.lt_of_lt_of_le hlt hb.size, fun i hi => (hb.cell (p := ⟨b, off + i, none⟩) hlt).trans (hc i hi)⟩
theorem IsStrs.of_owns {w : World} {base : Nat} {e : TypeId} {v : Value} {L : List ByteArray} (h : w.ownsRow base e 1 v L.length (strCells L)) : IsStrs w v L := by
  have hlt := h.lt
  have hc := fun g hg => h.cells (g := g) hg
  rcases h.2 with ⟨rfl, h0⟩ | ⟨g, cap, cur, rfl, hb, hg, hle, hm, _⟩
  · obtain rfl := List.length_eq_zero_iff.1 h0
    exact isStrs_nil w
  · refine ⟨Nat.le_trans hle hm, some ⟨g, 0, none⟩, cap, rfl, ⟨fun h => (by cases h), hle⟩, fun _ => ⟨g, 0, rfl, (hlt g rfl).2, fun i hi => ?_⟩⟩
    have := hc g rfl i _ (strCells_get hi)
    rw [add_plain'] at this; exact this
theorem open_isStrs {H : Type} {enc : TypeId × Value → H} {P : Program} {w : World} {r : Reach} {b0 : Nat} {spare : Nat → Bool} {held : Bool} {t e : TypeId} {v : Value} {d : DataW H} {ps : List MemPlace}
    (ht : P.underlying t = some (.slice e)) (he : P.underlying e = some .string) (hc : P.cellsOf e = 1) (hval : Value.okWide P w r b0 t v) (h : DataW.Trod enc P w 0 spare held t v d ps) : ∃ L, IsStrs w v L ∧ ∀ s ∈ L, s.size ≤ maxLen := by
  obtain ⟨a0, len, cap, rfl⟩ := okWide_slice ht hval
  obtain ⟨fuel, hf⟩ := h
  rcases open_strings ht he hc hf with ⟨hcs, _⟩ | ⟨a, len', cap', ss, hcs, _, hl, hm, hz, _, hcell, hsz⟩
  · simp [Value.cells] at hcs
    obtain ⟨rfl, rfl, rfl⟩ := hcs
    exact ⟨[], isStrs_nil w, fun s hs => (by cases hs)⟩
  · simp [Value.cells] at hcs
    obtain ⟨rfl, rfl, rfl⟩ := hcs
    have hls : len ≤ ss.length := by rw [hz]; split <;> omega
    have hlen : (ss.take len).length = len := by rw [List.length_take]; omega
    refine ⟨ss.take len, ⟨by omega, some a, cap, by rw [hlen], ⟨fun h => (by cases h), by omega⟩, fun h0 => ?_⟩, fun s hs => hsz s (List.mem_of_mem_take hs)⟩
    rw [hlen] at h0
    have hc0 := hcell 0 (by omega)
    obtain ⟨b, off, spot⟩ := a
    have hspot : spot = none := by simpa [Addr.add] using World.cell?_spot hc0
    subst hspot
    refine ⟨b, off, rfl, ?_, fun i hi => ?_⟩
    · have := block_lt_of_cell hc0
      simpa [Addr.add] using this
    · rw [hlen] at hi
      have := hcell i (by omega)
      rw [add_plain'] at this
      rw [this]
      simp [List.getD, show i < ss.length by omega]
theorem grownBy_of_below {W W' : World} (h : Below W.heap.size W W') : W.grownBy W' none := ⟨h.os, h.tape, h.output, h.size, fun k hk _ => h.block k hk⟩
theorem wpList_append_strs {P : Program} {w : World} {ops : Array Oper} {rest : List Oper} {o : Oper} {a : Act} {Q : Exit → Act → World → Prop} (hgd : Region.wanted o (yielded ops a.tmps) = true) (s x : Operand) (t : TypeId)
    (ho : o.op = .call { callee := .builtin .append, args := #[s, x], argTypes := #[t, t] })
    (base : Nat) (e : TypeId) (i : TypeInfo) (z : Value) (bytes : Nat) (ht : P.underlying t = some (.slice e)) (hi : P.info? e = some i) (hz : i.zero = some z)
    (hsize : i.size = 1) (hby : i.bytes = bytes) (hzs : z.cells.size = 1)
    (v : Value) (M : List ByteArray) (hs : a.eval s = v) (hown : w.ownsRow base e 1 v M.length (strCells M)) (y : Value) (L : List ByteArray) (hx : a.eval x = y) (hL : IsStrs w y L)
    (h63 : M.length + L.length ≤ maxLen) (hbytes : (M.length + L.length) * bytes ≤ 140737488355328) (hbase : base ≤ w.heap.size)
    (h : ∀ v' w', w'.ownsRow base e 1 v' (M ++ L).length (strCells (M ++ L)) → w.grownBy w' v.ownBlock → wpList P ops Q rest (a.put o.dst v') w') : wpList P ops Q (o :: rest) a w := by
  obtain ⟨_, ad, cap, rfl, ⟨h0, _⟩, h1⟩ := hL
  refine BigFrame.wpList_want hgd fun K hK => ?_
  cases ad with
  | none =>
    obtain ⟨rfl, rfl⟩ := h0 rfl
    have hrun := run_append_owned_none (P := P) (w := w) base t o.type e i 1 ht hi v M.length (strCells M) hown
    unfold Oper.wp
    simp [execOp, ho, resolve, invoke, builtin, hs, hx, hrun, Result.andThen]
    exact hK _ _ (h v w (by simpa using hown) ⟨rfl, rfl, rfl, Nat.le_refl _, fun _ _ _ => rfl⟩)
  | some ad =>
    refine wp_append_own w s x t ho base e i z 1 bytes ht hi hz hsize hby hzs (by decide) v M.length (strCells M) hs hown ad L.length cap (strCells L) hx (by rw [strCells_len]; omega) ?_ ?_ h63 hbytes hbase ?_
    · intro j u hj
      have hjl : j < L.length := by
        have := (List.getElem?_eq_some_iff.1 hj).1
        rwa [strCells_len] at this
      rw [strCells_get hjl] at hj
      cases hj
      obtain ⟨b, off, e1, _, hc⟩ := h1 (by omega)
      cases e1
      rw [add_plain']; exact hc j hjl
    · intro u hu
      obtain ⟨s, _, rfl⟩ := List.mem_map.1 hu
      rfl
    · intro v' w' hown' hg _
      refine hK _ _ (h v' w' ?_ hg)
      rw [List.length_append, strCells_app]; exact hown'
end Go.Proofs.YtalknbadakfppaaGreat
namespace Go.Proofs.YtalknbadakfppaaGreat
open Go.RowKit
theorem run_slice_str {P : Program} {t : TypeId} (ht : P.underlying t = some .string) (s : ByteArray) (a b : Int) (h0 : 0 ≤ a) (h1 : a ≤ b) (h2 : b ≤ s.size) (w : World) :
    (Instr.slice t (.string s) (some (.int .i64 a)) (some (.int .i64 b)) none).run P w = .ok (.string (s.extract a.toNat b.toNat)) w := by
  have e2 : 0 ≤ b := Int.le_trans h0 h1
  have eb : ∀ (y : Nat) code, b ≤ y → (Instr.sliceBound (.int .i64 b) y code).run P w = .ok b.toNat w := fun y code hy => by
    simp [Instr.sliceBound, asIntOf, e2, go_sem]
    omega
  have ea : ∀ (y : Nat) code, a ≤ y → (Instr.sliceBound (.int .i64 a) y code).run P w = .ok a.toNat w := fun y code hy => by
    simp [Instr.sliceBound, asIntOf, h0, go_sem]
    omega
  simp [Instr.slice, run_underlying ht, Instr.sliceBounds, eb s.size _ h2, go_sem]
  omega
theorem run_slice_to {P : Program} {t : TypeId} (ht : P.underlying t = some .string) (s : ByteArray) (b : Nat) (h2 : b ≤ s.size) (w : World) :
    (Instr.slice t (.string s) none (some (.int .i64 (b : Int))) none).run P w = .ok (.string (s.extract 0 b)) w := by
  have eb : ∀ (y : Nat) code, b ≤ y → (Instr.sliceBound (.int .i64 (b : Int)) y code).run P w = .ok b w := fun y code hy => by
    simp [Instr.sliceBound, asIntOf, go_sem]
    omega
  simp [Instr.slice, run_underlying ht, Instr.sliceBounds, eb s.size _ h2, go_sem]
theorem run_slice_from {P : Program} {t : TypeId} (ht : P.underlying t = some .string) (s : ByteArray) (a : Nat) (h2 : a ≤ s.size) (w : World) :
    (Instr.slice t (.string s) (some (.int .i64 (a : Int))) none none).run P w = .ok (.string (s.extract a s.size)) w := by
  have ea : ∀ (y : Nat) code, a ≤ y → (Instr.sliceBound (.int .i64 (a : Int)) y code).run P w = .ok a w := fun y code hy => by
    simp [Instr.sliceBound, asIntOf, go_sem]
    omega
  simp [Instr.slice, run_underlying ht, Instr.sliceBounds, ea s.size _ h2, go_sem]
theorem below_step {a b c : World} (h : Below a.heap.size a b) (k : Below b.heap.size b c) : Below a.heap.size a c := h.trans (k.mono h.size)
end Go.Proofs.YtalknbadakfppaaGreat
set_option linter.unusedVariables false
namespace Go.Proofs.YtalknbadakfppaaGreat
open Go.RowKit
attribute [local go_sem] Oper.semAt_some
theorem ret_val {a b : Value} (h : a = b) : Ending.returned a = .returned b := by rw [h]
theorem less_eq (x y : ByteArray) : Op.bytesLess x.toList y.toList = decide (x.data.toList < y.data.toList) := by
  rw [Lib.toList_data, Lib.toList_data, bytesLess_eq]
theorem below_drewN {B : Nat} {a w : World} (h : Below B a w) (n : Nat) : Below B a (w.drewN n) := h.trans ⟨rfl, rfl, rfl, Nat.le_refl _, fun _ _ => rfl⟩
end Go.Proofs.YtalknbadakfppaaGreat
set_option linter.unusedVariables false
namespace Go.Proofs.YtalknbadakfppaaGreat
open Go.RowKit
theorem infoStr : (Tryz.prog.info? 9).map (fun i => (i.zero, i.size, i.bytes)) = some (some (.string ⟨#[]⟩), 1, 16) := by kernel_rfl
def strsOf (L : List (List UInt8)) : List ByteArray := L.map fun l => ⟨l.toArray⟩
def txts (L : List ByteArray) : List (List UInt8) := L.map (·.data.toList)
theorem strsOf_len (L : List (List UInt8)) : (strsOf L).length = L.length := List.length_map ..
theorem txts_len (L : List ByteArray) : (txts L).length = L.length := List.length_map ..
theorem strsOf_app (L M : List (List UInt8)) : strsOf (L ++ M) = strsOf L ++ strsOf M := List.map_append
theorem strsOf_txts (L : List ByteArray) : strsOf (txts L) = L := by simp [strsOf, txts, Function.comp_def]
theorem txts_strsOf (L : List (List UInt8)) : txts (strsOf L) = L := by simp [strsOf, txts, Function.comp_def]
theorem txts_get {L : List ByteArray} {i : Nat} (h : i < L.length) : (txts L)[i]'(by rw [txts_len]; exact h) = L[i].data.toList := by simp [txts]
def OwnTxt (W wr : World) (v : Value) (M : List (List UInt8)) : Prop := wr.ownsRow W.heap.size 9 1 v (strsOf M).length (strCells (strsOf M))
theorem OwnTxt.strs {W wr : World} {v : Value} {M : List (List UInt8)} (h : OwnTxt W wr v M) : IsStrs wr v (strsOf M) := IsStrs.of_owns h
theorem OwnTxt.stays {W a b : World} {v : Value} {M : List (List UInt8)} (h : OwnTxt W a v M) (hb : Below a.heap.size a b) : OwnTxt W b v M :=
  World.ownsRow.kept h (grownBy_of_below hb) (by cases hv : v.ownBlock <;> simp)
theorem wpList_append_all {ops : Array Oper} {rest : List Oper} {o : Oper} {a : Act} {W w0 : World} {Q : Exit → Act → World → Prop} (hgd : Region.wanted o (yielded ops a.tmps) = true) (s x : Operand)
    (ho : o.op = .call { callee := .builtin .append, args := #[s, x], argTypes := #[22, 22] })
    {v : Value} {M : List (List UInt8)} {y : Value} {L : List ByteArray} (hown : OwnTxt W w0 v M) (hb : Below W.heap.size W w0) (hL : IsStrs w0 y L) (hs : a.eval s = v) (hx : a.eval x = y) (hlen : M.length + L.length ≤ 1000000)
    (h : ∀ v' w', OwnTxt W w' v' (M ++ txts L) → Below W.heap.size W w' → wpList Tryz.prog ops Q rest (a.put o.dst v') w') :
    wpList Tryz.prog ops Q (o :: rest) a w0 := by
  obtain ⟨i0, hi, hz0, hz1, hz2⟩ := info_parts infoStr
  have hsz := hb.size
  refine wpList_append_strs hgd s x 22 ho W.heap.size 9 i0 (.string ⟨#[]⟩) 16 Tryz.underlying22 hi hz0 hz1 hz2 rfl v (strsOf M) hs hown y L hx hL ?_ ?_ hsz ?_
  · rw [strsOf_len]; unfold maxLen; omega
  · rw [strsOf_len]; omega
  · intro v' w' h1 h2
    refine h v' w' ?_ (hb.grown h2 hsz (fun j hj => (hown.lt j hj).1))
    unfold OwnTxt; rw [strsOf_app, strsOf_txts]; exact h1
def zeroDop : Dop := ⟨0, ⟨#[]⟩⟩
abbrev dopC (x : Dop) : List Value := [.int .i64 x.at_, .string x.d]
abbrev dopV (x : Dop) : Value := .agg #[.int .i64 x.at_, .string x.d]
def dopCells (L : List Dop) : List Value := L.flatMap dopC
def DopAt (w : World) (b o : Nat) (x : Dop) : Prop := w.cell? ⟨b, o, none⟩ = some (.int .i64 x.at_) ∧ w.cell? ⟨b, o + 1, none⟩ = some (.string x.d)
def IsOps (w : World) (v : Value) (L : List Dop) : Prop :=
  L.length ≤ maxLen ∧ ∃ (a : Option Addr) (cap : Nat), v = .slice a L.length cap ∧ ((a = none → L = [] ∧ cap = 0) ∧ L.length ≤ cap) ∧ (0 < L.length → ∃ b off, a = some ⟨b, off, none⟩ ∧ b < w.heap.size ∧ ∀ i (h : i < L.length), DopAt w b (off + i * 2) L[i])
theorem infoOp : (Tryz.prog.info? 59).map (fun i => (i.zero, i.size, i.bytes)) = some (some (dopV zeroDop), 2, 24) := by kernel_rfl
theorem dopCells_len (L : List Dop) : (dopCells L).length = L.length * 2 := by
  induction L with
  | nil => rfl
  | cons x L ih => show (dopC x ++ dopCells L).length = _; rw [List.length_append, ih, List.length_cons]; simp; omega
theorem dopCells_app (L M : List Dop) : dopCells (L ++ M) = dopCells L ++ dopCells M := List.flatMap_append
theorem dopCells_get {L : List Dop} {i j : Nat} (h : i < L.length) (hj : j < 2) : (dopCells L)[i * 2 + j]? = (dopC L[i])[j]? := by
  induction L generalizing i with
  | nil => simp at h
  | cons x L ih =>
    show (dopC x ++ dopCells L)[i * 2 + j]? = _
    cases i with
    | zero => rw [List.getElem?_append_left (by simp; omega)]; simp
    | succ i =>
      rw [List.getElem?_append_right (by simp; omega), show (i + 1) * 2 + j - (dopC x).length = i * 2 + j by simp; omega, ih (by simpa using h)]
      rfl
theorem dopCells_one {u : Value} {L : List Dop} (h : u ∈ dopCells L) : u.oneCell' = true := by
  obtain ⟨x, _, hx⟩ := List.mem_flatMap.1 h
  simp at hx
  rcases hx with rfl | rfl <;> rfl
theorem ops_nil (w : World) : IsOps w (.slice none 0 0) [] := ⟨Nat.zero_le _, none, 0, rfl, ⟨fun _ => ⟨rfl, rfl⟩, Nat.le_refl _⟩, fun h => absurd h (by simp)⟩
theorem DopAt.stays {w w' : World} {b o : Nat} {x : Dop} (h : DopAt w b o x) (hlt : b < w.heap.size) (hb : Below w.heap.size w w') : DopAt w' b o x :=
  ⟨(hb.cell (p := ⟨b, _, none⟩) hlt).trans h.1, (hb.cell (p := ⟨b, _, none⟩) hlt).trans h.2⟩
theorem IsOps.stays {w w' : World} {v : Value} {L : List Dop} (h : IsOps w v L) (hb : Below w.heap.size w w') : IsOps w' v L := by
  obtain ⟨h0, a, cap, h1, h2, h3⟩ := h
  refine ⟨h0, a, cap, h1, h2, fun hL => ?_⟩
  obtain ⟨b, off, e, hlt, hc⟩ := h3 hL
  exact ⟨b, off, e, Nat.lt_of_lt_of_le hlt hb.size, fun i hi => (hc i hi).stays hlt hb⟩
theorem IsOps.len {w : World} {v : Value} {L : List Dop} (h : IsOps w v L) : ∃ a cap, v = .slice a L.length cap := by
  obtain ⟨_, a, cap, e, _⟩ := h
  exact ⟨a, cap, e⟩
def DfAt (w : World) (b o : Nat) (x : Dfl) : Prop := ∃ u, w.cell? ⟨b, o, none⟩ = some (.string x.n) ∧ w.cell? ⟨b, o + 1, none⟩ = some (.string x.d) ∧ w.cell? ⟨b, o + 2, none⟩ = some u ∧ IsOps w u x.ops
def IsDfs (w : World) (v : Value) (L : List Dfl) : Prop :=
  L.length ≤ maxLen ∧ ∃ (a : Option Addr) (cap : Nat), v = .slice a L.length cap ∧ ((a = none → L = [] ∧ cap = 0) ∧ L.length ≤ cap) ∧ (0 < L.length → ∃ b off, a = some ⟨b, off, none⟩ ∧ b < w.heap.size ∧ ∀ i (h : i < L.length), DfAt w b (off + i * 3) L[i])
theorem dfs_nil (w : World) : IsDfs w (.slice none 0 0) [] := ⟨Nat.zero_le _, none, 0, rfl, ⟨fun _ => ⟨rfl, rfl⟩, Nat.le_refl _⟩, fun h => absurd h (by simp)⟩
theorem DfAt.stays {w w' : World} {b o : Nat} {x : Dfl} (h : DfAt w b o x) (hlt : b < w.heap.size) (hb : Below w.heap.size w w') : DfAt w' b o x := by
  obtain ⟨u, h0, h1, h2, h3⟩ := h
  exact ⟨u, (hb.cell (p := ⟨b, _, none⟩) hlt).trans h0, (hb.cell (p := ⟨b, _, none⟩) hlt).trans h1, (hb.cell (p := ⟨b, _, none⟩) hlt).trans h2, h3.stays hb⟩
theorem IsDfs.stays {w w' : World} {v : Value} {L : List Dfl} (h : IsDfs w v L) (hb : Below w.heap.size w w') : IsDfs w' v L := by
  obtain ⟨h0, a, cap, h1, h2, h3⟩ := h
  refine ⟨h0, a, cap, h1, h2, fun hL => ?_⟩
  obtain ⟨b, off, e, hlt, hc⟩ := h3 hL
  exact ⟨b, off, e, Nat.lt_of_lt_of_le hlt hb.size, fun i hi => (hc i hi).stays hlt hb⟩
theorem IsDfs.len {w : World} {v : Value} {L : List Dfl} (h : IsDfs w v L) : ∃ a cap, v = .slice a L.length cap := by
  obtain ⟨_, a, cap, e, _⟩ := h
  exact ⟨a, cap, e⟩
structure Dfr where
  n : ByteArray
  d : ByteArray
  a : Option Addr
  z : Nat
  c : Nat
def RowF (w : World) (r : Dfr) (x : Dfl) : Prop := r.n = x.n ∧ r.d = x.d ∧ IsOps w (.slice r.a r.z r.c) x.ops
theorem RowF.stays {w w' : World} {r : Dfr} {x : Dfl} (h : RowF w r x) (hb : Below w.heap.size w w') : RowF w' r x := ⟨h.1, h.2.1, h.2.2.stays hb⟩
def zeroDfr : Dfr := ⟨⟨#[]⟩, ⟨#[]⟩, none, 0, 0⟩
abbrev dfrC (x : Dfr) : List Value := [.string x.n, .string x.d, .slice x.a x.z x.c]
abbrev dfrV (x : Dfr) : Value := .agg #[.string x.n, .string x.d, .slice x.a x.z x.c]
def dfrCells (L : List Dfr) : List Value := L.flatMap dfrC
theorem infoDf : (Tryz.prog.info? 56).map (fun i => (i.zero, i.size, i.bytes)) = some (some (dfrV zeroDfr), 3, 56) := by kernel_rfl
theorem dfrCells_len (L : List Dfr) : (dfrCells L).length = L.length * 3 := by
  induction L with
  | nil => rfl
  | cons x L ih => show (dfrC x ++ dfrCells L).length = _; rw [List.length_append, ih, List.length_cons]; simp; omega
theorem dfrCells_app (L M : List Dfr) : dfrCells (L ++ M) = dfrCells L ++ dfrCells M := List.flatMap_append
theorem dfrCells_get {L : List Dfr} {i j : Nat} (h : i < L.length) (hj : j < 3) : (dfrCells L)[i * 3 + j]? = (dfrC L[i])[j]? := by
  induction L generalizing i with
  | nil => simp at h
  | cons x L ih =>
    show (dfrC x ++ dfrCells L)[i * 3 + j]? = _
    cases i with
    | zero => rw [List.getElem?_append_left (by simp; omega)]; simp
    | succ i =>
      rw [List.getElem?_append_right (by simp; omega), show (i + 1) * 3 + j - (dfrC x).length = i * 3 + j by simp; omega, ih (by simpa using h)]
      rfl
def OwnD (B : Nat) (w : World) (v : Value) (R : List Dfr) : Prop := w.ownsRow B 56 3 v R.length (dfrCells R)
theorem ownD_nil (B : Nat) (w : World) : OwnD B w (.slice none 0 0) [] := World.ownsRow_nil _ _ _ _
theorem OwnD.stays {B : Nat} {w w' : World} {v : Value} {L : List Dfr} (h : OwnD B w v L) (hb : Below w.heap.size w w') : OwnD B w' v L :=
  World.ownsRow.kept h (grownBy_of_below hb) (by cases hv : v.ownBlock <;> simp)
def RowsS (St : Dfr → Dfl → Prop) : List Dfr → List Dfl → Prop
  | [], [] => True
  | r :: R, x :: L => St r x ∧ RowsS St R L
  | _, _ => False
section
variable {St : Dfr → Dfl → Prop}
theorem RowsS.len : ∀ {R : List Dfr} {L : List Dfl}, RowsS St R L → R.length = L.length
  | [], [], _ => rfl
  | _ :: _, _ :: _, h => by rw [List.length_cons, List.length_cons, RowsS.len h.2]
  | [], _ :: _, h => h.elim
  | _ :: _, [], h => h.elim
theorem RowsS.get : ∀ {R : List Dfr} {L : List Dfl} (h : RowsS St R L) (i : Nat) (h1 : i < R.length) (h2 : i < L.length), St R[i] L[i]
  | _ :: _, _ :: _, h, 0, _, _ => h.1
  | _ :: _, _ :: _, h, i + 1, h1, h2 => RowsS.get h.2 i (by simpa using h1) (by simpa using h2)
  | [], [], _, i, h1, _ => absurd h1 (by simp)
  | [], _ :: _, h, _, _, _ => h.elim
  | _ :: _, [], h, _, _, _ => h.elim
theorem RowsS.snoc {r : Dfr} {x : Dfl} (hx : St r x) : ∀ {R : List Dfr} {L : List Dfl}, RowsS St R L → RowsS St (R ++ [r]) (L ++ [x])
  | [], [], _ => ⟨hx, trivial⟩
  | _ :: _, _ :: _, h => ⟨h.1, RowsS.snoc hx h.2⟩
  | [], _ :: _, h => h.elim
  | _ :: _, [], h => h.elim
def IsDfsS (St : Dfr → Dfl → Prop) (w : World) (v : Value) (L : List Dfl) : Prop :=
  L.length ≤ maxLen ∧ ∃ (a : Option Addr) (cap : Nat), v = .slice a L.length cap ∧ ((a = none → L = [] ∧ cap = 0) ∧ L.length ≤ cap) ∧ (0 < L.length → ∃ b off, a = some ⟨b, off, none⟩ ∧ b < w.heap.size ∧ ∀ i (h : i < L.length), ∃ r : Dfr, St r L[i] ∧ w.cell? ⟨b, off + i * 3, none⟩ = some (.string r.n) ∧ w.cell? ⟨b, off + i * 3 + 1, none⟩ = some (.string r.d) ∧ w.cell? ⟨b, off + i * 3 + 2, none⟩ = some (.slice r.a r.z r.c))
theorem IsDfsS.stays {w w' : World} {v : Value} {L : List Dfl} (h : IsDfsS St w v L) (hb : Below w.heap.size w w') : IsDfsS St w' v L := by
  obtain ⟨h0, a, cap, h1, h2, h3⟩ := h
  refine ⟨h0, a, cap, h1, h2, fun hL => ?_⟩
  obtain ⟨b, off, e, hlt, hc⟩ := h3 hL
  refine ⟨b, off, e, Nat.lt_of_lt_of_le hlt hb.size, fun i hi => ?_⟩
  obtain ⟨r, hr, c0, c1, c2⟩ := hc i hi
  exact ⟨r, hr, (hb.cell (p := ⟨b, _, none⟩) hlt).trans c0, (hb.cell (p := ⟨b, _, none⟩) hlt).trans c1, (hb.cell (p := ⟨b, _, none⟩) hlt).trans c2⟩
theorem IsDfs.toS {w : World} {v : Value} {L : List Dfl} (h : IsDfs w v L) (hs : ∀ r x, RowF w r x → St r x) : IsDfsS St w v L := by
  obtain ⟨h0, a, cap, h1, h2, h3⟩ := h
  refine ⟨h0, a, cap, h1, h2, fun hL => ?_⟩
  obtain ⟨b, off, e, hlt, hc⟩ := h3 hL
  refine ⟨b, off, e, hlt, fun i hi => ?_⟩
  obtain ⟨u, c0, c1, c2, c3⟩ := hc i hi
  obtain ⟨a1, cap1, rfl⟩ := c3.len
  exact ⟨⟨L[i].n, L[i].d, a1, L[i].ops.length, cap1⟩, hs _ _ ⟨rfl, rfl, c3⟩, c0, c1, c2⟩
theorem OwnD.is {B : Nat} {w : World} {v : Value} {R : List Dfr} {L : List Dfl} (h : OwnD B w v R) (hr : RowsS St R L) (hs : ∀ r x, St r x → RowF w r x) : IsDfs w v L := by
  have hlt := h.lt
  have hc := fun g hg => h.cells (g := g) hg
  have hl := hr.len
  rcases h.2 with ⟨rfl, h0⟩ | ⟨g, cap, cur, rfl, hbg, hg, hle, hm, _⟩
  · obtain rfl := List.length_eq_zero_iff.1 h0
    obtain rfl : L = [] := List.length_eq_zero_iff.1 (by rw [← hl]; rfl)
    exact dfs_nil w
  · rw [hl] at hle ⊢
    refine ⟨Nat.le_trans hle hm, some ⟨g, 0, none⟩, cap, rfl, ⟨fun h => (by cases h), hle⟩, fun _ => ⟨g, 0, rfl, (hlt g rfl).2, fun i hi => ?_⟩⟩
    have hi' : i < R.length := by omega
    obtain ⟨e1, e2, e3⟩ := hs _ _ (hr.get i hi' hi)
    have hh := fun j (hj : j < 3) u (hu : (dfrC R[i])[j]? = some u) => hc g rfl (i * 3 + j) u (by rw [dfrCells_get hi' hj]; exact hu)
    refine ⟨.slice R[i].a R[i].z R[i].c, ?_, ?_, ?_, e3⟩
    · have := hh 0 (by decide) _ rfl; rw [add_plain', e1] at this; exact this
    · have := hh 1 (by decide) _ rfl; rw [add_plain', e2] at this; exact this
    · have := hh 2 (by decide) _ rfl; rw [add_plain'] at this; exact this
end
def RetFs (St : Dfr → Dfl → Prop) (L : List Dfl) (w : World) (e : Ending) (w' : World) : Prop := ∃ v R, e = .returned v ∧ OwnD w.heap.size w' v R ∧ RowsS St R L ∧ Below w.heap.size w w'
theorem dfr_cell {w : World} {y : Dfr} {t : TypeId} : ∀ j u, (dfrC y)[j]? = some u → (w.alloc (.cells #[.string y.n, .string y.d, .slice y.a y.z y.c] t)).cell? ((⟨w.heap.size, 0, none⟩ : Addr).add j) = some u := by
  intro j u hj
  match j, hj with
  | 0, hj => simp at hj; subst hj; simp [Addr.add]
  | 1, hj => simp at hj; subst hj; simp [Addr.add]
  | 2, hj => simp at hj; subst hj; simp [Addr.add]
theorem wpList_append_dfr {ops : Array Oper} {rest : List Oper} {o : Oper} {a : Act} {B : Nat} {w0 : World} {Q : Exit → Act → World → Prop} (hgd : o.guard = none) (s x : Operand)
    (ho : o.op = .call { callee := .builtin .append, args := #[s, x], argTypes := #[26, 26] })
    {v : Value} {M : List Dfr} {y : Dfr} (hown : OwnD B w0 v M) (hBs : B ≤ w0.heap.size) (hs : a.eval s = v)
    (hx : a.eval x = .slice (some ⟨w0.heap.size, 0, none⟩) 1 1) (hlen : M.length ≤ 1000000)
    (h : ∀ v' w', OwnD B w' v' (M ++ [y]) → Below B w0 w' → wpList Tryz.prog ops Q rest (a.put o.dst v') w') :
    wpList Tryz.prog ops Q (o :: rest) a (w0.alloc (.cells #[.string y.n, .string y.d, .slice y.a y.z y.c] 56)) := by
  obtain ⟨i0, hi, hz0, hz1, hz2⟩ := info_parts infoDf
  refine wpList_append_own _ hgd s x 26 ho B 56 i0 (dfrV zeroDfr) 3 56 Tryz.underlying26 hi hz0 hz1 hz2 rfl (by decide) v M.length (dfrCells M) hs (World.ownsRow.alloc hown _) ⟨w0.heap.size, 0, none⟩ 1 1 (dfrC y) hx rfl dfr_cell ?_ ?_ ?_ ?_ ?_
  · intro u hu; simp at hu; rcases hu with rfl | rfl | rfl <;> rfl
  · unfold maxLen; omega
  · omega
  · simp; omega
  · intro v' w' hown' hg _
    refine h v' w' ?_ ?_
    · unfold OwnD
      rw [List.length_append, dfrCells_app]
      have : dfrCells [y] = dfrC y := List.append_nil _
      rw [this]; exact hown'
    · exact ((Below.refl B w0).alloc hBs _).grown hg (by simp; omega) (fun j hj => (World.ownsRow.lt hown j hj).1)
def dskV (v : Value) (d : Dsk) : Value := .agg #[v, .bool d.off, .int .i64 d.fuse]
end Go.Proofs.YtalknbadakfppaaGreat
set_option linter.unusedVariables false
namespace Go.Proofs.YtalknbadakfppaaGreat
open Go.ChangeShapes Go.WideShapes Go.ChangeAt Go.RowKit Go.Joins Go.Deep
def IsBls (w : World) (v : Value) (L : List Bool) : Prop :=
  L.length ≤ maxLen ∧ ∃ (a : Option Addr) (cap : Nat), v = .slice a L.length cap ∧ ((a = none → L = [] ∧ cap = 0) ∧ L.length ≤ cap) ∧ (0 < L.length → ∃ b off, a = some ⟨b, off, none⟩ ∧ b < w.heap.size ∧ ∀ i (h : i < L.length), w.cell? ⟨b, off + i, none⟩ = some (.bool L[i]))
theorem bls_nil (w : World) : IsBls w (.slice none 0 0) [] := ⟨Nat.zero_le _, none, 0, rfl, ⟨fun _ => ⟨rfl, rfl⟩, Nat.le_refl _⟩, fun h => absurd h (by simp)⟩
theorem IsBls.stays {w w' : World} {v : Value} {L : List Bool} (h : IsBls w v L) (hb : Below w.heap.size w w') : IsBls w' v L := by
  obtain ⟨h0, a, cap, h1, h2, h3⟩ := h
  refine ⟨h0, a, cap, h1, h2, fun hL => ?_⟩
  obtain ⟨b, off, e, hlt, hc⟩ := h3 hL
  exact ⟨b, off, e, Nat.lt_of_lt_of_le hlt hb.size, fun i hi => (hb.cell (p := ⟨b, _, none⟩) hlt).trans (hc i hi)⟩
set_option maxRecDepth 100000 in
theorem open_bools {H : Type} {enc : TypeId × Value → H} {W : World} {r : Reach} {b0 : Nat} {spare : Nat → Bool} {held : Bool} {v : Value} {d : DataW H} {ps : List MemPlace}
    (hval : Value.okWide Tryz.prog W r b0 23 v) (h : DataW.Trod enc Tryz.prog W 0 spare held 23 v d ps) : ∃ L, IsBls W v L := by
  obtain ⟨a0, len, cap, rfl⟩ := okWide_slice Tryz.underlying23 hval
  obtain ⟨fuel, hf⟩ := h
  have hC : Tryz.prog.cellsOf 4 = 1 := by kernel_rfl
  rcases open_slice Tryz.underlying23 hf with ⟨hcs, _⟩ | ⟨a, len', cap', m, n, D, Pl, hcs, _, hl, hm, hmm, _, hi⟩
  · simp [Value.cells] at hcs
    obtain ⟨rfl, rfl, rfl⟩ := hcs
    exact ⟨[], bls_nil W⟩
  · simp [Value.cells] at hcs
    obtain ⟨rfl, rfl, rfl⟩ := hcs
    have hlm : len ≤ m := by rw [hmm]; split <;> omega
    have hit : ∀ i, i < len → ∃ x : Bool, W.cell? (a.add i) = some (.bool x) := fun i him => by
      obtain ⟨cs, hc, ht⟩ := hi i (by omega)
      rw [hC] at hc
      obtain ⟨_, hcl, hat⟩ := World.cells?_some hc
      match cs, hcl with
      | [c0], _ =>
        obtain ⟨q, e, _⟩ := DataW.trod_bool Tryz.underlying4 ht
        simp at e
        subst e
        have := hat 0 (by decide)
        rw [Go.Deep.add_add, Nat.mul_one, Nat.add_zero] at this
        exact ⟨q, this⟩
    obtain ⟨f, hfx⟩ : ∃ f : Nat → Bool, ∀ i, i < len → W.cell? (a.add i) = some (.bool (f i)) := by
      refine ⟨fun i => if h : i < len then Classical.choose (hit i h) else false, fun i h => ?_⟩
      simp only [h, dif_pos]
      exact Classical.choose_spec (hit i h)
    refine ⟨(List.range len).map f, by simp; omega, some a, cap, by simp, ⟨fun h => (by cases h), by simpa using hl⟩, fun h0 => ?_⟩
    have h0' : 0 < len := by simpa using h0
    have hc0 := hfx 0 h0'
    obtain ⟨b, off, spot⟩ := a
    have hspot : spot = none := by simpa [Addr.add] using World.cell?_spot hc0
    subst hspot
    refine ⟨b, off, rfl, ?_, fun i hi => ?_⟩
    · have := block_lt_of_cell hc0
      simpa [Addr.add] using this
    · have hil : i < len := by simpa using hi
      have hg : ((List.range len).map f)[i] = f i := by simp
      rw [hg]
      have := hfx i hil
      rw [add_plain'] at this
      exact this
end Go.Proofs.YtalknbadakfppaaGreat
namespace Go.Proofs.YtalknbadakfppaaGreat
def vputF : Nat → Nat → List UInt8
  | 0, _ => []
  | k + 1, n => if n < 128 then [UInt8.ofNat n] else UInt8.ofNat (n % 128 + 128) :: vputF k (n / 128)
def vput (n : Nat) : List UInt8 := vputF 10 n
theorem vputF_lo {k n : Nat} (h : n < 128) : vputF (k + 1) n = [UInt8.ofNat n] := by simp [vputF, h]
theorem vputF_hi {k n : Nat} (h : 128 ≤ n) : vputF (k + 1) n = UInt8.ofNat (n % 128 + 128) :: vputF k (n / 128) := by
  simp [vputF, Nat.not_lt.2 h]
theorem vputF_len (k : Nat) : ∀ n, (vputF k n).length ≤ k := by
  induction k with
  | zero => intro n; simp [vputF]
  | succ k ih =>
    intro n
    by_cases h : n < 128
    · simp [vputF_lo h]
    · rw [vputF_hi (by omega)]; simp; exact ih _
theorem vputF_pos (k n : Nat) : 1 ≤ (vputF (k + 1) n).length := by
  by_cases h : n < 128
  · simp [vputF_lo h]
  · rw [vputF_hi (by omega)]; simp
theorem vput_len (n : Nat) : (vput n).length ≤ 10 := vputF_len 10 n
theorem vput_pos (n : Nat) : 1 ≤ (vput n).length := vputF_pos 9 n
def U64 (n : Nat) : Prop := n < 18446744073709551616
theorem U64.div {n : Nat} (h : U64 n) (k : Nat) : U64 (n / k) := Nat.lt_of_le_of_lt (Nat.div_le_self n k) h
theorem wraps_u64' (n : Int) (h₀ : 0 ≤ n) (h₁ : n < 2 ^ 64) : IntKind.u64.wrap n = n := by rw [IntKind.wrap_u64]; omega
theorem u64_and127 {r : Nat} (h : U64 r) : bits .and .u64 (r : Int) 127 = ((r % 128 : Nat) : Int) := by
  have := bits_mask .u64 64 (by decide) wraps_u64' 7 (by decide) (r : Int) (by omega) (by unfold U64 at h; omega)
  simpa using this
theorem low_byte {r : Nat} (h : U64 r) : bits .or .u8 (bits .and .u64 (r : Int) 127 % 256) 128 = ((UInt8.ofNat (r % 128 + 128)).toNat : Int) := by
  rw [u64_and127 h]
  have h2 : ((UInt8.ofNat (r % 128 + 128)).toNat : Int) = ((r % 128 : Nat) : Int) + 128 := by
    rw [UInt8.toNat_ofNat']; omega
  have h3 : ((r % 128 : Nat) : Int) % 256 = ((r % 128 : Nat) : Int) := by omega
  rw [h2, h3]
  have := bits_join_low .u8 8 (by decide) wraps_u8 7 ((r % 128 : Nat) : Int) 128 (by omega) (by omega) (by omega) (by decide) (by decide) (by decide)
  exact this
theorem last_byte {r : Nat} (h : r < 128) : ((UInt8.ofNat r).toNat : Int) = (r : Int) := by
  rw [UInt8.toNat_ofNat']; omega
def vtakeF (i a : Nat) : List UInt8 → Nat × Nat × Nat
  | [] => (0, 0, 1)
  | b :: t =>
    if i = 9 ∧ 1 < b.toNat then (0, 0, 4)
    else if 128 ≤ b.toNat then vtakeF (i + 1) (a + b.toNat % 128 * 2 ^ (7 * i)) t
    else if b.toNat = 0 ∧ 0 < i then (0, 0, 2)
    else (a + b.toNat * 2 ^ (7 * i), i + 1, 0)
def vtake (l : List UInt8) : Nat × Nat × Nat := vtakeF 0 0 l
def enF : Nat → List UInt8 → List (Fin 10 × UInt8)
  | _, [] => []
  | i, b :: t => if h : i < 10 then (⟨i, h⟩, b) :: enF (i + 1) t else []
theorem enF_length : ∀ (l : List UInt8) (i : Nat), (enF i l).length = min l.length (10 - i) := by
  intro l
  induction l with
  | nil => intro i; simp [enF]
  | cons b t ih =>
    intro i
    by_cases h : i < 10
    · simp [enF, h, ih]; omega
    · simp [enF, h]; omega
theorem enF_get : ∀ (l : List UInt8) (i j : Nat) (h : i + j < 10) (hj : j < l.length), (enF i l)[j]? = some (⟨i + j, h⟩, l[j]) := by
  intro l
  induction l with
  | nil => intro i j h hj; simp at hj
  | cons b t ih =>
    intro i j h hj
    rw [enF, dif_pos (by omega)]
    cases j with
    | zero => simp
    | succ j =>
      rw [List.getElem?_cons_succ, ih (i + 1) j (by omega) (by simpa using hj)]
      simp; omega
def orstep (a : Int) (x : Fin 10 × UInt8) : Int := bits .or .u64 a (IntKind.u64.wrap (bits .and .u8 x.2.toNat 127 * 2 ^ (7 * x.1.val)))
def accOf (pre : List (Fin 10 × UInt8)) : Int := pre.foldl orstep 0
theorem accOf_snoc (pre : List (Fin 10 × UInt8)) (x : Fin 10 × UInt8) : accOf (pre ++ [x]) = orstep (accOf pre) x := by simp [accOf]
def goesOn (x : Fin 10 × UInt8) : Prop := 128 ≤ x.2.toNat ∧ ¬ (x.1.val = 9 ∧ 1 < x.2.toNat)
def endsAt (x : Fin 10 × UInt8) : Prop := (x.1.val = 9 ∧ 1 < x.2.toNat) ∨ x.2.toNat < 128
def told (a : Int) (x : Fin 10 × UInt8) : Int × Int × Int :=
  if x.1.val = 9 ∧ 1 < x.2.toNat then (0, 0, 4) else if x.2.toNat = 0 ∧ 0 < x.1.val then (0, 0, 2) else (orstep a x, x.1.val + 1, 0)
theorem orstep_eq {a i : Nat} (ha : a < 2 ^ (7 * i)) (hi : i < 10) (b : UInt8) (h : ¬ (i = 9 ∧ 1 < b.toNat)) : orstep (a : Int) (⟨i, hi⟩, b) = ((a + b.toNat % 128 * 2 ^ (7 * i) : Nat) : Int) := by
  have hb : b.toNat < 256 := b.toNat_lt
  have e1 : bits .and .u8 (b.toNat : Int) 127 = ((b.toNat % 128 : Nat) : Int) := by rw [u8_and127 (x := (b.toNat : Int)) (by omega) (by omega)]; omega
  have hlim : b.toNat % 128 * 2 ^ (7 * i) < 2 ^ 64 := by
    by_cases h9 : i = 9
    · subst h9; have : b.toNat ≤ 1 := by omega
      have h2 : b.toNat % 128 ≤ 1 := by omega
      calc b.toNat % 128 * 2 ^ (7 * 9) ≤ 1 * 2 ^ (7 * 9) := Nat.mul_le_mul_right _ h2
        _ < 2 ^ 64 := by decide
    · have h8 : i ≤ 8 := by omega
      have h2 : b.toNat % 128 < 128 := by omega
      calc b.toNat % 128 * 2 ^ (7 * i) ≤ 127 * 2 ^ (7 * i) := Nat.mul_le_mul_right _ (by omega)
        _ ≤ 127 * 2 ^ (7 * 8) := Nat.mul_le_mul_left _ (Nat.pow_le_pow_right (by decide) (by omega))
        _ < 2 ^ 64 := by decide
  have ha64 : a < 2 ^ 64 := Nat.lt_of_lt_of_le ha (Nat.pow_le_pow_right (by decide) (by omega))
  have e2 : IntKind.u64.wrap (((b.toNat % 128 : Nat) : Int) * 2 ^ (7 * i)) = ((b.toNat % 128 * 2 ^ (7 * i) : Nat) : Int) := by
    have e3 : (((b.toNat % 128 : Nat) : Int) * 2 ^ (7 * i)) = ((b.toNat % 128 * 2 ^ (7 * i) : Nat) : Int) := by rw [Int.natCast_mul, Int.natCast_pow]; rfl
    rw [e3, IntKind.wrap_u64]
    clear e3; generalize b.toNat % 128 * 2 ^ (7 * i) = X at *; omega
  show bits .or .u64 (a : Int) (IntKind.u64.wrap (bits .and .u8 (b.toNat : Int) 127 * 2 ^ (7 * i))) = _
  rw [e1, e2, (bits_nat .u64 64 (by decide) wraps_u64' a (b.toNat % 128 * 2 ^ (7 * i)) ha64 hlim).2]
  congr 1
  rw [Nat.add_comm, Nat.mul_comm, Nat.or_comm, Nat.two_pow_add_eq_or_of_lt ha]
theorem acc_lt {a i : Nat} (ha : a < 2 ^ (7 * i)) (b : UInt8) : a + b.toNat % 128 * 2 ^ (7 * i) < 2 ^ (7 * (i + 1)) := by
  have h2 : b.toNat % 128 ≤ 127 := by omega
  have e : 2 ^ (7 * (i + 1)) = 2 ^ (7 * i) * 128 := by rw [show 7 * (i + 1) = 7 * i + 7 by omega, Nat.pow_add]
  have := Nat.mul_le_mul_right (2 ^ (7 * i)) h2
  rw [e]
  omega
theorem take_end_gen : ∀ (pre : List (Fin 10 × UInt8)) (l : List UInt8) (i a : Nat) (x : Fin 10 × UInt8), i < 10 → a < 2 ^ (7 * i) → pre ++ [x] <+: enF i l → (∀ y ∈ pre, goesOn y) → endsAt x →
    told (pre.foldl orstep (a : Int)) x = (((vtakeF i a l).1 : Int), ((vtakeF i a l).2.1 : Int), ((vtakeF i a l).2.2 : Int)) := by
  intro pre
  induction pre with
  | nil =>
    intro l i a x hi ha hp _ hx
    cases l with
    | nil => simp [enF] at hp
    | cons b t =>
      rw [enF, dif_pos hi] at hp
      obtain ⟨rfl, _⟩ := by simpa using hp
      simp only [endsAt] at hx
      by_cases h9 : i = 9 ∧ 1 < b.toNat
      · simp [told, vtakeF, h9]
      · have hb : b.toNat < 128 := by rcases hx with h | h; exact absurd h h9; exact h
        have hnb : ¬ 128 ≤ b.toNat := by omega
        by_cases h0 : b.toNat = 0 ∧ 0 < i
        · simp only [told, vtakeF]
          rw [if_neg h9, if_neg h9, if_neg hnb, if_pos h0, if_pos h0]; rfl
        · simp only [told, vtakeF]
          rw [if_neg h9, if_neg h9, if_neg hnb, if_neg h0, if_neg h0]
          have := orstep_eq ha hi b h9
          rw [Nat.mod_eq_of_lt hb] at this
          simp only [List.foldl_nil]
          rw [this]
          simp
  | cons y p ih =>
    intro l i a x hi ha hp hc hx
    cases l with
    | nil => simp [enF] at hp
    | cons b t =>
      rw [enF, dif_pos hi] at hp
      obtain ⟨rfl, hp'⟩ := by simpa using hp
      have hy := hc (⟨i, hi⟩, b) (by simp)
      obtain ⟨hy1, hy2⟩ := hy
      simp only at hy1 hy2
      have hi9 : i ≠ 9 := fun h => hy2 ⟨h, by omega⟩
      rw [List.foldl_cons, orstep_eq ha hi b hy2]
      have := ih t (i + 1) (a + b.toNat % 128 * 2 ^ (7 * i)) x (by omega) (acc_lt ha b) (by simpa using hp') (fun z hz => hc z (by simp [hz])) hx
      rw [this, vtakeF, if_neg hy2, if_pos hy1]
theorem take_done_gen : ∀ (l : List UInt8) (i a : Nat), i < 10 → (∀ y ∈ enF i l, goesOn y) → vtakeF i a l = (0, 0, 1) := by
  intro l
  induction l with
  | nil => intro i a _ _; rfl
  | cons b t ih =>
    intro i a hi hc
    rw [enF, dif_pos hi] at hc
    obtain ⟨h1, h2⟩ := hc (⟨i, hi⟩, b) (by simp)
    simp only at h1 h2
    have hi9 : i ≠ 9 := fun h => h2 ⟨h, by omega⟩
    rw [vtakeF, if_neg h2, if_pos h1]
    exact ih (i + 1) _ (by omega) (fun z hz => hc z (by simp [hz]))
theorem take_end {l : List UInt8} {pre : List (Fin 10 × UInt8)} {x : Fin 10 × UInt8} (hp : pre ++ [x] <+: enF 0 l) (hc : ∀ y ∈ pre, goesOn y) (hx : endsAt x) :
    told (accOf pre) x = (((vtake l).1 : Int), ((vtake l).2.1 : Int), ((vtake l).2.2 : Int)) := take_end_gen pre l 0 0 x (by decide) (by decide) hp hc hx
theorem take_done {l : List UInt8} (hc : ∀ y ∈ enF 0 l, goesOn y) : vtake l = (0, 0, 1) := take_done_gen l 0 0 (by decide) hc
theorem take_shift (b : UInt8) {i : Nat} (hi : i < 10) :
    Op.shift .shl .u64 (IntKind.u64.wrap (bits .and .u8 (b.toNat : Int) 127)) .i64 (IntKind.i64.wrap (7 * (i : Int))) = pure (.int .u64 (IntKind.u64.wrap (bits .and .u8 (b.toNat : Int) 127 * 2 ^ (7 * i)))) := by
  have hb : b.toNat < 256 := b.toNat_lt
  have e1 : bits .and .u8 (b.toNat : Int) 127 = ((b.toNat % 128 : Nat) : Int) := by rw [u8_and127 (x := (b.toNat : Int)) (by omega) (by omega)]; omega
  have e2 : IntKind.u64.wrap (((b.toNat % 128 : Nat) : Int)) = ((b.toNat % 128 : Nat) : Int) := by rw [IntKind.wrap_u64]; omega
  have e3 : IntKind.i64.wrap (7 * (i : Int)) = 7 * (i : Int) := by rw [IntKind.wrap_i64]; omega
  have e4 : (7 * (i : Int)).toNat = 7 * i := by omega
  rw [e1, e2, e3, shift_shl _ _ _ _ (by omega) (by simp [IntKind.bits]; omega), e4]
theorem U64.wrap {n : Nat} (h : U64 n) : IntKind.u64.wrap (n : Int) = (n : Int) := by rw [IntKind.wrap_u64]; unfold U64 at h; omega
theorem U64.wrap_div {n : Nat} (h : U64 n) (k : Nat) : IntKind.u64.wrap ((n : Int) / (k : Int)) = (n : Int) / (k : Int) := by
  have := (h.div k).wrap
  rwa [Int.natCast_ediv] at this
def refI (l : List UInt8) (i a : Nat) : Prop := i ≤ 9 ∧ i ≤ l.length ∧ a < 2 ^ (7 * i) ∧ vtake l = vtakeF i a (l.drop i)
theorem refI_zero (l : List UInt8) : refI l 0 0 := ⟨by omega, Nat.zero_le _, by decide, rfl⟩
theorem refI_short {l : List UInt8} {i a : Nat} (h : refI l i a) (hi : l.length ≤ i) : vtake l = (0, 0, 1) := by
  rw [h.2.2.2, List.drop_of_length_le hi]; rfl
theorem refI_drop {l : List UInt8} {i a : Nat} (h : refI l i a) (hi : i < l.length) : vtake l = vtakeF i a (l[i] :: l.drop (i + 1)) := by
  rw [h.2.2.2, List.drop_eq_getElem_cons hi]
theorem refI_range {l : List UInt8} {i a : Nat} (h : refI l i a) (hi : i < l.length) (hA : i = 9 ∧ 1 < l[i].toNat) : vtake l = (0, 0, 4) := by
  rw [refI_drop h hi, vtakeF, if_pos hA]
theorem refI_form {l : List UInt8} {i a : Nat} (h : refI l i a) (hi : i < l.length) (hA : ¬ (i = 9 ∧ 1 < l[i].toNat)) (hz : l[i].toNat = 0 ∧ 0 < i) : vtake l = (0, 0, 2) := by
  rw [refI_drop h hi, vtakeF, if_neg hA, if_neg (by omega), if_pos hz]
theorem refI_last {l : List UInt8} {i a : Nat} (h : refI l i a) (hi : i < l.length) (hA : ¬ (i = 9 ∧ 1 < l[i].toNat)) (hz : ¬ (l[i].toNat = 0 ∧ 0 < i)) (hc : l[i].toNat < 128) : vtake l = (a + l[i].toNat * 2 ^ (7 * i), i + 1, 0) := by
  rw [refI_drop h hi, vtakeF, if_neg hA, if_neg (by omega), if_neg hz]
theorem refI_on {l : List UInt8} {i a : Nat} (h : refI l i a) (hi : i < l.length) (hA : ¬ (i = 9 ∧ 1 < l[i].toNat)) (hc : 128 ≤ l[i].toNat) : refI l (i + 1) (a + l[i].toNat % 128 * 2 ^ (7 * i)) := by
  refine ⟨?_, hi, acc_lt h.2.2.1 _, ?_⟩
  · have := h.1; rcases Nat.lt_or_ge i 9 with h9 | h9
    · omega
    · exact absurd ⟨by omega, by omega⟩ hA
  · rw [refI_drop h hi, vtakeF, if_neg hA, if_pos hc]
theorem ref_sum {a i c : Nat} (ha : a < 2 ^ (7 * i)) (hi : i ≤ 9) (hA : ¬ (i = 9 ∧ 1 < c)) (hc : c < 256) :
    IntKind.u64.wrap ((a : Int) + IntKind.u64.wrap ((c : Int) % 128 * 2 ^ (7 * i))) = ((a + c % 128 * 2 ^ (7 * i) : Nat) : Int) ∧ a + c % 128 * 2 ^ (7 * i) < 18446744073709551616 := by
  have hlim : a + c % 128 * 2 ^ (7 * i) < 18446744073709551616 := by
    by_cases h9 : i = 9
    · subst h9
      have h2 : c % 128 ≤ 1 := by omega
      have := Nat.mul_le_mul_right (2 ^ (7 * 9)) h2
      omega
    · have h2 : c % 128 ≤ 127 := by omega
      have h3 : 2 ^ (7 * i) ≤ 2 ^ (7 * 8) := Nat.pow_le_pow_right (by decide) (by omega)
      have := Nat.mul_le_mul h2 h3
      omega
  refine ⟨?_, hlim⟩
  have e : ((c : Int) % 128 * 2 ^ (7 * i)) = ((c % 128 * 2 ^ (7 * i) : Nat) : Int) := by rw [Int.natCast_mul, Int.natCast_pow]; rfl
  rw [e, IntKind.wrap_u64, IntKind.wrap_u64]
  generalize c % 128 * 2 ^ (7 * i) = X at *
  omega
theorem take_put_gen : ∀ (k i a r : Nat) (t : List UInt8), i + k = 10 → r * 2 ^ (7 * i) < 18446744073709551616 → (0 < i → 0 < r) →
    vtakeF i a (vputF k r ++ t) = (a + r * 2 ^ (7 * i), i + (vputF k r).length, 0) := by
  intro k
  induction k with
  | zero =>
    intro i a r t hi hr h0
    obtain rfl : i = 10 := by omega
    have : 0 < r := h0 (by decide)
    omega
  | succ k ih =>
    intro i a r t hi hr h0
    have hi9 : i ≤ 9 := by omega
    have h9 : i = 9 → r ≤ 1 := by
      rintro rfl
      omega
    by_cases h : r < 128
    · have hb : (UInt8.ofNat r).toNat = r := by rw [UInt8.toNat_ofNat']; omega
      rw [vputF_lo h, List.singleton_append, vtakeF, hb, if_neg (fun hA => by have := h9 hA.1; omega), if_neg (by omega), if_neg (fun hz => by have := h0 hz.2; omega)]
      rfl
    · have hb : (UInt8.ofNat (r % 128 + 128)).toNat = r % 128 + 128 := by rw [UInt8.toNat_ofNat']; omega
      have e : 2 ^ (7 * (i + 1)) = 2 ^ (7 * i) * 128 := by rw [show 7 * (i + 1) = 7 * i + 7 by omega, Nat.pow_add]
      have hm : r / 128 * (2 ^ (7 * i) * 128) ≤ r * 2 ^ (7 * i) := by
        have := Nat.mul_le_mul_right (2 ^ (7 * i)) (Nat.div_mul_le_self r 128)
        calc r / 128 * (2 ^ (7 * i) * 128) = r / 128 * 128 * 2 ^ (7 * i) := by rw [Nat.mul_assoc, Nat.mul_comm 128]
          _ ≤ _ := this
      rw [vputF_hi (by omega), List.cons_append, vtakeF, hb, if_neg (fun hA => by have := h9 hA.1; omega), if_pos (by omega),
        ih (i + 1) _ (r / 128) t (by omega) (by rw [e]; omega) (fun _ => by omega)]
      have hs : a + (r % 128 + 128) % 128 * 2 ^ (7 * i) + r / 128 * 2 ^ (7 * (i + 1)) = a + r * 2 ^ (7 * i) := by
        have h1 : (r % 128 + 128) % 128 = r % 128 := by omega
        have h2 : r = r % 128 + r / 128 * 128 := by omega
        rw [h1, e]
        conv => rhs; rw [h2, Nat.add_mul, Nat.mul_assoc, Nat.mul_comm 128]
        omega
      rw [hs, List.length_cons]
      congr 2; omega
theorem take_put {n : Nat} (h : U64 n) (t : List UInt8) : vtake (vput n ++ t) = (n, (vput n).length, 0) := by
  unfold U64 at h
  have := take_put_gen 10 0 0 n t (by decide) (by simpa using h) (by simp)
  simpa [vtake, vput] using this
theorem put_take_gen : ∀ (l : List UInt8) (i a n j : Nat), i ≤ 9 → vtakeF i a l = (n, j, 0) →
    ∃ r, n = a + r * 2 ^ (7 * i) ∧ l.take (j - i) = vputF (10 - i) r ∧ i < j ∧ j ≤ i + l.length ∧ j ≤ 10 ∧ r * 2 ^ (7 * i) < 18446744073709551616 ∧ (0 < i → 0 < r) := by
  intro l
  induction l with
  | nil => intro i a n j _ h; simp [vtakeF] at h
  | cons b t ih =>
    intro i a n j hi h
    obtain ⟨k, hk⟩ : ∃ k, 10 - i = k + 1 := ⟨9 - i, by omega⟩
    have hb := b.toNat_lt
    rw [vtakeF] at h
    by_cases hA : i = 9 ∧ 1 < b.toNat
    · rw [if_pos hA] at h; simp at h
    · rw [if_neg hA] at h
      by_cases hc : 128 ≤ b.toNat
      · rw [if_pos hc] at h
        have hi8 : i ≤ 8 := by rcases Nat.lt_or_ge i 9 with h9 | h9; omega; exact absurd ⟨by omega, by omega⟩ hA
        obtain ⟨r, h1, h2, h3, h4, h5, h6, h7⟩ := ih (i + 1) _ n j (by omega) h
        have e : 2 ^ (7 * (i + 1)) = 2 ^ (7 * i) * 128 := by rw [show 7 * (i + 1) = 7 * i + 7 by omega, Nat.pow_add]
        have hr := h7 (by omega)
        have hsum : (b.toNat % 128 + r * 128) * 2 ^ (7 * i) = b.toNat % 128 * 2 ^ (7 * i) + r * 2 ^ (7 * (i + 1)) := by
          rw [Nat.add_mul, e, Nat.mul_assoc, Nat.mul_comm 128]
        have hlt : (b.toNat % 128 + r * 128) * 2 ^ (7 * i) < 18446744073709551616 := by
          -- r * 2^(7(i+1)) below 2^64 is a multiple of 2^(7(i+1)), and so is 2^64 less at most 2^(7(i+1))
          rw [hsum]
          have hdvd : 2 ^ (7 * (i + 1)) ∣ 18446744073709551616 := by
            rw [show (18446744073709551616 : Nat) = 2 ^ 64 by decide]
            exact Nat.pow_dvd_pow 2 (by omega)
          obtain ⟨q, hq⟩ := hdvd
          have hrq : r < q := by
            rw [hq, Nat.mul_comm r] at h6
            exact Nat.lt_of_mul_lt_mul_left h6
          have h8 : (r + 1) * 2 ^ (7 * (i + 1)) ≤ 18446744073709551616 := by
            rw [hq, Nat.mul_comm]; exact Nat.mul_le_mul_left _ hrq
          rw [Nat.add_mul, Nat.one_mul] at h8
          have h9 : b.toNat % 128 * 2 ^ (7 * i) < 2 ^ (7 * (i + 1)) := by
            rw [e, Nat.mul_comm (2 ^ (7 * i))]
            exact Nat.mul_lt_mul_of_pos_right (by omega) (Nat.two_pow_pos _)
          omega
        refine ⟨b.toNat % 128 + r * 128, ?_, ?_, by omega, by simp; omega, h5, hlt, fun _ => by omega⟩
        · rw [h1, hsum]; omega
        · have hj : j - i = (j - (i + 1)) + 1 := by omega
          rw [hj, List.take_succ_cons, h2, hk, vputF_hi (by omega)]
          have e1 : (b.toNat % 128 + r * 128) / 128 = r := by omega
          have e2 : (b.toNat % 128 + r * 128) % 128 + 128 = b.toNat := by omega
          rw [e1, e2, UInt8.ofNat_toNat]
          congr 2; omega
      · rw [if_neg hc] at h
        by_cases hz : b.toNat = 0 ∧ 0 < i
        · rw [if_pos hz] at h; simp at h
        · rw [if_neg hz] at h
          simp only [Prod.mk.injEq, and_true] at h
          obtain ⟨rfl, rfl⟩ := h
          refine ⟨b.toNat, rfl, ?_, by omega, by simp, by omega, ?_, fun h0 => ?_⟩
          · have : i + 1 - i = 1 := by omega
            rw [this, hk, vputF_lo (by omega), UInt8.ofNat_toNat]; rfl
          · by_cases h9 : i = 9
            · subst h9; omega
            · have h3 : 2 ^ (7 * i) ≤ 2 ^ (7 * 8) := Nat.pow_le_pow_right (by decide) (by omega)
              have := Nat.mul_le_mul (show b.toNat ≤ 127 by omega) h3
              omega
          · rcases Nat.eq_zero_or_pos b.toNat with h1 | h1
            · exact absurd ⟨h1, h0⟩ hz
            · exact h1
theorem put_take {l : List UInt8} {n j : Nat} (h : vtake l = (n, j, 0)) : l.take j = vput n ∧ 0 < j ∧ j ≤ l.length ∧ j ≤ 10 ∧ U64 n := by
  obtain ⟨r, h1, h2, h3, h4, h5, h6, _⟩ := put_take_gen l 0 0 n j (by decide) h
  simp at h1 h2 h4 h6
  subst h1
  exact ⟨h2, h3, h4, h5, h6⟩
theorem vtakeF_err : ∀ (l : List UInt8) (i a n j e : Nat), vtakeF i a l = (n, j, e) → e ≠ 0 → n = 0 ∧ j = 0 ∧ e ≤ 4 := by
  intro l
  induction l with
  | nil => intro i a n j e h _; simp [vtakeF] at h; omega
  | cons b t ih =>
    intro i a n j e h he
    rw [vtakeF] at h
    split at h
    · simp at h; omega
    · split at h
      · exact ih _ _ n j e h he
      · split at h
        · simp at h; omega
        · simp at h; omega
theorem vtake_err {l : List UInt8} {n j e : Nat} (h : vtake l = (n, j, e)) (he : e ≠ 0) : n = 0 ∧ j = 0 ∧ e ≤ 4 := vtakeF_err l 0 0 n j e h he
def vputText (l : List UInt8) : List UInt8 := if 65536 < l.length then [] else vput l.length ++ l
def vtakeText (l : List UInt8) : List UInt8 × Nat × Nat :=
  if (vtake l).2.2 ≠ 0 then ([], 0, (vtake l).2.2)
  else if 65536 < (vtake l).1 then ([], 0, 4)
  else if l.length < (vtake l).2.1 + (vtake l).1 then ([], 0, 1)
  else ((l.drop (vtake l).2.1).take (vtake l).1, (vtake l).2.1 + (vtake l).1, 0)
theorem takeText_putText {l : List UInt8} (h : l.length ≤ 65536) (t : List UInt8) : vtakeText (vputText l ++ t) = (l, (vputText l).length, 0) := by
  have hu : U64 l.length := by unfold U64; omega
  have e : vputText l = vput l.length ++ l := by rw [vputText, if_neg (by omega)]
  have hT : vtake (vputText l ++ t) = (l.length, (vput l.length).length, 0) := by rw [e, List.append_assoc, take_put hu]
  rw [vtakeText, hT, if_neg (by simp), if_neg (by simp; omega), if_neg (by rw [e]; simp), e]
  simp
theorem putText_takeText {l b : List UInt8} {m : Nat} (h : vtakeText l = (b, m, 0)) : m ≤ l.length ∧ vputText b = l.take m := by
  rw [vtakeText] at h
  split at h
  · rename_i he
    simp at h; exact absurd h.2.2 he
  · rename_i he
    split at h
    · simp at h
    · rename_i hn
      split at h
      · simp at h
      · rename_i hl
        simp only [Prod.mk.injEq, and_true] at h
        obtain ⟨rfl, rfl⟩ := h
        obtain ⟨n, k, e, hv⟩ : ∃ n k e, vtake l = (n, k, e) := ⟨_, _, _, rfl⟩
        rw [hv] at he hn hl ⊢
        simp only [ne_eq, Decidable.not_not] at he hn hl ⊢
        subst he
        obtain ⟨h1, h2, h3, h4, h5⟩ := put_take hv
        refine ⟨by omega, ?_⟩
        have hlen : ((l.drop k).take n).length = n := by simp; omega
        rw [vputText, if_neg (by omega), hlen, ← h1, List.take_add]
theorem takeText_err {l b : List UInt8} {m e : Nat} (h : vtakeText l = (b, m, e)) (he : e ≠ 0) : b = [] ∧ m = 0 := by
  rw [vtakeText] at h
  split at h
  · simp at h; exact ⟨h.1, h.2.1.symm⟩
  · split at h
    · simp at h; exact ⟨h.1, h.2.1.symm⟩
    · split at h
      · simp at h; exact ⟨h.1, h.2.1.symm⟩
      · simp at h; exact absurd h.2.2.symm he
def bitG (n : Nat) : Nat := if n % 2 = 1 then n / 2 ^^^ 2197175160 else n / 2
def bits4 (n : Nat) : Nat := bitG (bitG (bitG (bitG n)))
def bits8 (n : Nat) : Nat := bits4 (bits4 n)
def crcF (r : Nat) (l : List UInt8) : Nat := l.foldl (fun r b => bits8 (r ^^^ b.toNat)) r
def crcMore (c : Nat) (l : List UInt8) : Nat := 4294967295 - crcF (4294967295 - c) l
def U32 (n : Nat) : Prop := n < 4294967296
theorem xor_u32 {a b : Nat} (ha : U32 a) (hb : U32 b) : U32 (a ^^^ b) := by
  unfold U32 at *; exact Nat.xor_lt_two_pow (n := 32) ha hb
theorem bitG_lt {n : Nat} (h : U32 n) : U32 (bitG n) := by
  unfold bitG
  split
  · exact xor_u32 (by unfold U32 at *; omega) (by unfold U32; omega)
  · unfold U32 at *; omega
theorem bits4_lt {n : Nat} (h : U32 n) : U32 (bits4 n) := bitG_lt (bitG_lt (bitG_lt (bitG_lt h)))
theorem bits8_lt {n : Nat} (h : U32 n) : U32 (bits8 n) := bits4_lt (bits4_lt h)
theorem byte_u32 (b : UInt8) : U32 b.toNat := by have := b.toNat_lt; unfold U32; omega
theorem crcF_lt {r : Nat} (h : U32 r) (l : List UInt8) : U32 (crcF r l) := by
  induction l generalizing r with
  | nil => exact h
  | cons b l ih => exact ih (bits8_lt (xor_u32 h (byte_u32 b)))
theorem inv_lt (n : Nat) : U32 (4294967295 - n) := by unfold U32; omega
theorem crcMore_lt (c : Nat) (l : List UInt8) : U32 (crcMore c l) := inv_lt _
theorem xor_cancel {a b p : Nat} (h : a ^^^ p = b ^^^ p) : a = b := by
  have : (a ^^^ p) ^^^ p = (b ^^^ p) ^^^ p := by rw [h]
  rwa [Nat.xor_assoc, Nat.xor_assoc, Nat.xor_self, Nat.xor_zero, Nat.xor_zero] at this
theorem xor_eq {a b : Nat} (h : a ^^^ b = 0) : a = b := xor_cancel (p := b) (by rw [h, Nat.xor_self])
theorem bitG_xor (a b : Nat) : bitG (a ^^^ b) = bitG a ^^^ bitG b := by
  unfold bitG
  have hd : (a ^^^ b) / 2 = a / 2 ^^^ b / 2 := Nat.xor_div_two
  have hm : (a ^^^ b) % 2 = 1 ↔ ¬ (a % 2 = 1 ↔ b % 2 = 1) := by
    rw [Nat.xor_mod_two_eq_one]
  rw [hd]
  by_cases h1 : a % 2 = 1 <;> by_cases h2 : b % 2 = 1
  · rw [if_neg (by rw [hm]; simp [h1, h2]), if_pos h1, if_pos h2]
    rw [show ∀ x y p : Nat, (x ^^^ p) ^^^ (y ^^^ p) = x ^^^ y ^^^ (p ^^^ p) by intro x y p; ac_rfl]
    simp
  · rw [if_pos (by rw [hm]; simp [h1, h2]), if_pos h1, if_neg h2]; ac_rfl
  · rw [if_pos (by rw [hm]; simp [h1, h2]), if_neg h1, if_pos h2]; ac_rfl
  · rw [if_neg (by rw [hm]; simp [h1, h2]), if_neg h1, if_neg h2]
theorem bits4_xor (a b : Nat) : bits4 (a ^^^ b) = bits4 a ^^^ bits4 b := by unfold bits4; simp only [bitG_xor]
theorem bitG_even (n : Nat) : bitG (2 * n) = n := by unfold bitG; rw [if_neg (by omega)]; omega
theorem bits4_16 (n : Nat) : bits4 (16 * n) = n := by
  unfold bits4
  rw [show 16 * n = 2 * (2 * (2 * (2 * n))) by omega, bitG_even, bitG_even, bitG_even, bitG_even]
theorem bits8_256 (n : Nat) : bits8 (256 * n) = n := by
  unfold bits8
  rw [show 256 * n = 16 * (16 * n) by omega, bits4_16, bits4_16]
theorem split16 (n : Nat) : 16 * (n / 16) ^^^ n % 16 = n := by
  apply Nat.eq_of_testBit_eq
  intro i
  rw [Nat.testBit_xor, show (16 : Nat) = 2 ^ 4 by decide, Nat.testBit_two_pow_mul, Nat.testBit_mod_two_pow]
  by_cases h : 4 ≤ i
  · rw [Nat.testBit_div_two_pow]
    have : ¬ i < 4 := by omega
    simp [h, this]
  · have : i < 4 := by omega
    simp [h, this]
theorem half_step (n : Nat) : n / 16 ^^^ bits4 (n % 16) = bits4 n := by
  have h := bits4_xor (16 * (n / 16)) (n % 16)
  rw [split16, bits4_16] at h
  exact h.symm
theorem bitG_high {n : Nat} (h : U32 n) : bitG n / 2147483648 = n % 2 := by
  unfold bitG
  unfold U32 at h
  have hd : ∀ x : Nat, (x ^^^ 2197175160) / 2147483648 = x / 2147483648 ^^^ 2197175160 / 2147483648 := fun x => by
    rw [show (2147483648 : Nat) = 2 ^ 31 by decide, Nat.xor_div_two_pow]
  split
  · rw [hd, show n / 2 / 2147483648 = 0 by omega]
    simp; omega
  · omega
theorem bitG_inj {a b : Nat} (ha : U32 a) (hb : U32 b) (h : bitG a = bitG b) : a = b := by
  have hm : a % 2 = b % 2 := by rw [← bitG_high ha, ← bitG_high hb, h]
  have hd : a / 2 = b / 2 := by
    unfold bitG at h
    by_cases h1 : a % 2 = 1
    · rw [if_pos h1, if_pos (by omega)] at h
      exact xor_cancel h
    · rw [if_neg h1, if_neg (by omega)] at h; exact h
  omega
theorem bits4_inj {a b : Nat} (ha : U32 a) (hb : U32 b) (h : bits4 a = bits4 b) : a = b :=
  bitG_inj ha hb (bitG_inj (bitG_lt ha) (bitG_lt hb) (bitG_inj (bitG_lt (bitG_lt ha)) (bitG_lt (bitG_lt hb)) (bitG_inj (bitG_lt (bitG_lt (bitG_lt ha))) (bitG_lt (bitG_lt (bitG_lt hb))) h)))
theorem bits8_inj {a b : Nat} (ha : U32 a) (hb : U32 b) (h : bits8 a = bits8 b) : a = b :=
  bits4_inj ha hb (bits4_inj (bits4_lt ha) (bits4_lt hb) h)
theorem crcF_append (r : Nat) (a b : List UInt8) : crcF r (a ++ b) = crcF (crcF r a) b := List.foldl_append
theorem bits8_back {a z : Nat} (ha : U32 a) (hz : z < 16777216) (h : bits8 a = z) : a = 256 * z :=
  bits8_inj ha (by unfold U32; omega) (by rw [h, bits8_256])
theorem four {d0 d1 d2 d3 : Nat} (h0 : d0 < 256) (h1 : d1 < 256) (h2 : d2 < 256) (h3 : d3 < 256)
    (h : bits8 (bits8 (bits8 (bits8 d0 ^^^ d1) ^^^ d2) ^^^ d3) = 0) : d0 = 0 ∧ d1 = 0 ∧ d2 = 0 ∧ d3 = 0 := by
  have u : ∀ {x}, x < 256 → U32 x := fun h => by unfold U32; omega
  have e3 := bits8_back (xor_u32 (bits8_lt (xor_u32 (bits8_lt (xor_u32 (bits8_lt (u h0)) (u h1))) (u h2))) (u h3)) (by omega) h
  have e3' := xor_eq e3
  have e2 := bits8_back (xor_u32 (bits8_lt (xor_u32 (bits8_lt (u h0)) (u h1))) (u h2)) (by omega) e3'
  have e2' : bits8 (bits8 d0 ^^^ d1) = 256 * d3 ^^^ d2 := by rw [← e2, Nat.xor_assoc, Nat.xor_self, Nat.xor_zero]
  have l2 : 256 * d3 ^^^ d2 < 65536 := Nat.xor_lt_two_pow (n := 16) (by omega) (by omega)
  have e1 := bits8_back (xor_u32 (bits8_lt (u h0)) (u h1)) (by omega) e2'
  have e1' : bits8 d0 = 256 * (256 * d3 ^^^ d2) ^^^ d1 := by rw [← e1, Nat.xor_assoc, Nat.xor_self, Nat.xor_zero]
  have l1 : 256 * (256 * d3 ^^^ d2) ^^^ d1 < 16777216 := Nat.xor_lt_two_pow (n := 24) (by omega) (by omega)
  have e0 := bits8_back (u h0) l1 e1'
  have z1 : 256 * (256 * d3 ^^^ d2) ^^^ d1 = 0 := by omega
  have z1' := xor_eq z1
  have z2 : 256 * d3 ^^^ d2 = 0 := by omega
  have z2' := xor_eq z2
  omega
theorem inv_xor {n : Nat} (h : U32 n) : 4294967295 - n = 4294967295 ^^^ n := by
  unfold U32 at h
  have h1 := BitVec.toNat_not (x := BitVec.ofNat 32 n)
  rw [BitVec.not_def] at h1
  rw [BitVec.toNat_xor, BitVec.toNat_ofNat, BitVec.toNat_allOnes, Nat.mod_eq_of_lt (by omega)] at h1
  simpa using h1.symm
def le4 (c : Nat) : List UInt8 := [UInt8.ofNat c, UInt8.ofNat (c / 256), UInt8.ofNat (c / 65536), UInt8.ofNat (c / 16777216)]
end Go.Proofs.YtalknbadakfppaaGreat
set_option linter.unusedVariables false
namespace Go.Proofs.YtalknbadakfppaaGreat
def fwrap (l : List UInt8) : List UInt8 := if 65536 < l.length then [] else vputText l ++ le4 (crcMore 0 (vputText l))
def fopen (l : List UInt8) : List UInt8 × Nat × Nat :=
  if (vtakeText l).2.2 ≠ 0 then ([], 0, (vtakeText l).2.2)
  else if l.length < (vtakeText l).2.1 + 4 then ([], 0, 1)
  else if (l.drop (vtakeText l).2.1).take 4 ≠ le4 (crcMore 0 (l.take (vtakeText l).2.1)) then ([], 0, 3)
  else ((vtakeText l).1, (vtakeText l).2.1 + 4, 0)
theorem takeText_ok {l b : List UInt8} {m : Nat} (h : vtakeText l = (b, m, 0)) : 1 ≤ m ∧ b.length ≤ 65536 ∧ m ≤ l.length ∧ vputText b = l.take m := by
  obtain ⟨h1, h2⟩ := putText_takeText h
  have hb : b.length ≤ 65536 := by
    rw [vtakeText] at h
    split at h
    · rename_i he; simp at h; exact absurd h.2.2 he
    · split at h
      · simp at h
      · rename_i hn
        split at h
        · simp at h
        · simp only [Prod.mk.injEq, and_true] at h
          rw [← h.1, List.length_take]; omega
  refine ⟨?_, hb, h1, h2⟩
  have := congrArg List.length h2
  rw [List.length_take, vputText, if_neg (by omega), List.length_append] at this
  have := vput_pos b.length
  omega
theorem takeText_code {l b : List UInt8} {m e : Nat} (h : vtakeText l = (b, m, e)) : e ≤ 4 := by
  rw [vtakeText] at h
  split at h
  · rename_i he
    simp only [Prod.mk.injEq] at h
    have := (vtake_err (l := l) (n := (vtake l).1) (j := (vtake l).2.1) (e := (vtake l).2.2) rfl he).2.2
    omega
  · split at h
    · simp only [Prod.mk.injEq] at h; omega
    · split at h
      · simp only [Prod.mk.injEq] at h; omega
      · simp only [Prod.mk.injEq] at h; omega
theorem le4_len (c : Nat) : (le4 c).length = 4 := rfl
theorem fwrap_eq {l : List UInt8} (h : l.length ≤ 65536) : fwrap l = vputText l ++ le4 (crcMore 0 (vputText l)) := by rw [fwrap, if_neg (by omega)]
theorem putText_len {l : List UInt8} (h : l.length ≤ 65536) : l.length < (vputText l).length ∧ (vputText l).length ≤ l.length + 10 := by
  rw [vputText, if_neg (by omega), List.length_append]
  have := vput_len l.length
  have := vput_pos l.length
  omega
theorem fwrap_len {l : List UInt8} (h : l.length ≤ 65536) : l.length + 5 ≤ (fwrap l).length ∧ (fwrap l).length ≤ l.length + 14 := by
  rw [fwrap_eq h, List.length_append, le4_len]
  have := putText_len h
  omega
theorem fopen_fwrap {l : List UInt8} (h : l.length ≤ 65536) (t : List UInt8) : fopen (fwrap l ++ t) = (l, (fwrap l).length, 0) := by
  have e : fwrap l ++ t = vputText l ++ (le4 (crcMore 0 (vputText l)) ++ t) := by rw [fwrap_eq h, List.append_assoc]
  have hT : vtakeText (fwrap l ++ t) = (l, (vputText l).length, 0) := by rw [e, takeText_putText h]
  have hl : (fwrap l).length = (vputText l).length + 4 := by rw [fwrap_eq h, List.length_append, le4_len]
  rw [fopen, hT, if_neg (by simp), if_neg (by rw [List.length_append]; simp only; omega), if_neg (by rw [e, List.drop_left, List.take_left' (le4_len _), List.take_left]; simp), hl]
theorem fopen_ok {l t : List UInt8} {u : Nat} (h : fopen l = (t, u, 0)) : t.length ≤ 65536 ∧ u ≤ l.length ∧ l.take u = fwrap t ∧ 5 ≤ u := by
  rw [fopen] at h
  split at h
  · rename_i he; simp at h; exact absurd h.2.2 he
  · rename_i he
    split at h
    · simp at h
    · rename_i hl
      split at h
      · simp at h
      · rename_i hs
        obtain ⟨b, m, e, hv⟩ : ∃ b m e, vtakeText l = (b, m, e) := ⟨_, _, _, rfl⟩
        rw [hv] at he hl hs h
        simp only [ne_eq, Decidable.not_not] at he hl hs
        subst he
        simp only [Prod.mk.injEq, and_true] at h
        obtain ⟨rfl, rfl⟩ := h
        obtain ⟨h1, h2, h3, h4⟩ := takeText_ok hv
        refine ⟨h2, by omega, ?_, by omega⟩
        rw [List.take_add, hs, fwrap_eq h2, h4]
theorem fopen_err {l t : List UInt8} {u e : Nat} (h : fopen l = (t, u, e)) (he : e ≠ 0) : t = [] ∧ u = 0 ∧ e ≤ 4 := by
  have hc := takeText_code (l := l) (b := (vtakeText l).1) (m := (vtakeText l).2.1) (e := (vtakeText l).2.2) rfl
  rw [fopen] at h
  split at h
  · simp only [Prod.mk.injEq] at h
    exact ⟨h.1.symm, h.2.1.symm, by omega⟩
  · split at h
    · simp only [Prod.mk.injEq] at h; exact ⟨h.1.symm, h.2.1.symm, by omega⟩
    · split at h
      · simp only [Prod.mk.injEq] at h; exact ⟨h.1.symm, h.2.1.symm, by omega⟩
      · simp only [Prod.mk.injEq] at h; exact absurd h.2.2.symm he
def framesF : Nat → Nat → List UInt8 → List (List UInt8 × Nat)
  | 0, _, _ => []
  | n + 1, p, l => if (fopen (l.drop p)).2.2 ≠ 0 then [] else ((fopen (l.drop p)).1, p + (fopen (l.drop p)).2.1) :: framesF n (p + (fopen (l.drop p)).2.1) l
def frames (l : List UInt8) : List (List UInt8 × Nat) := framesF l.length 0 l
def endOf (fs : List (List UInt8 × Nat)) : Nat := (fs.getLast?.map (·.2)).getD 0
theorem endOf_snoc (fs : List (List UInt8 × Nat)) (t : List UInt8) (p : Nat) : endOf (fs ++ [(t, p)]) = p := by simp [endOf]
def scanI (l : List UInt8) (pre : List (List UInt8 × Nat)) (p : Nat) : Prop :=
  ∃ n, frames l = pre ++ framesF n p l ∧ l.length < p + 5 * n + 5 ∧ p = endOf pre ∧ p ≤ l.length ∧ 5 * pre.length ≤ p
theorem scanI_zero (l : List UInt8) : scanI l [] 0 := ⟨l.length, rfl, by omega, rfl, Nat.zero_le _, Nat.zero_le _⟩
theorem scanI_le {l : List UInt8} {pre : List (List UInt8 × Nat)} {p : Nat} (h : scanI l pre p) : p ≤ l.length := by
  obtain ⟨n, _, _, _, h, _⟩ := h; exact h
theorem scanI_pre {l : List UInt8} {pre : List (List UInt8 × Nat)} {p : Nat} (h : scanI l pre p) : pre <+: frames l := by
  obtain ⟨n, h1, _⟩ := h; rw [h1]; exact List.prefix_append _ _
theorem scanI_len {l : List UInt8} {pre : List (List UInt8 × Nat)} {p : Nat} (h : scanI l pre p) : 5 * pre.length ≤ l.length := by
  obtain ⟨n, _, _, _, h4, h5⟩ := h; omega
theorem scanI_step {l t : List UInt8} {pre : List (List UInt8 × Nat)} {p u : Nat} (h : scanI l pre p) (hv : fopen (l.drop p) = (t, u, 0)) : scanI l (pre ++ [(t, p + u)]) (p + u) := by
  obtain ⟨n, h1, h2, h3, h4, h5⟩ := h
  obtain ⟨_, g2, _, g4⟩ := fopen_ok hv
  rw [List.length_drop] at g2
  cases n with
  | zero => omega
  | succ n =>
    refine ⟨n, ?_, by omega, (endOf_snoc _ _ _).symm, by omega, by rw [List.length_append, List.length_singleton]; omega⟩
    rw [h1, framesF, hv, if_neg (by simp)]
    simp
theorem scanI_end {l t : List UInt8} {pre : List (List UInt8 × Nat)} {p u e : Nat} (h : scanI l pre p) (hv : fopen (l.drop p) = (t, u, e)) (he : e ≠ 0) : frames l = pre := by
  obtain ⟨n, h1, h2, h3, h4, h5⟩ := h
  cases n with
  | zero => rw [h1]; simp [framesF]
  | succ n => rw [h1, framesF, hv, if_pos he]; simp
theorem scanI_fin {l : List UInt8} {pre : List (List UInt8 × Nat)} {p : Nat} (h : scanI l pre p) (hf : frames l = pre) : endOf (frames l) = p := by
  rw [hf]; obtain ⟨n, _, _, h, _⟩ := h; exact h.symm
theorem scanI_over {l : List UInt8} {pre : List (List UInt8 × Nat)} {p : Nat} (h : scanI l pre p) (hp : l.length ≤ p) : frames l = pre := by
  obtain ⟨t, u, e, hv⟩ : ∃ t u e, fopen (l.drop p) = (t, u, e) := ⟨_, _, _, rfl⟩
  by_cases he : e = 0
  · subst he
    obtain ⟨_, g2, _, g4⟩ := fopen_ok hv
    rw [List.length_drop] at g2
    omega
  · exact scanI_end h hv he
theorem frames_exists (l : List UInt8) : ∃ p, scanI l (frames l) p := by
  have key : ∀ n p pre, l.length < p + n → scanI l pre p → ∃ q, scanI l (frames l) q := by
    intro n
    induction n with
    | zero => intro p pre h1 h2; have := scanI_le h2; omega
    | succ n ih =>
      intro p pre h1 h2
      obtain ⟨t, u, e, hv⟩ : ∃ t u e, fopen (l.drop p) = (t, u, e) := ⟨_, _, _, rfl⟩
      by_cases he : e = 0
      · subst he
        have := (fopen_ok hv).2.2.2
        exact ih _ _ (by omega) (scanI_step h2 hv)
      · rw [scanI_end h2 hv he]; exact ⟨p, h2⟩
  exact key (l.length + 1) 0 [] (by omega) (scanI_zero l)
def textsOf (l : List UInt8) : List (List UInt8) := (frames l).map (·.1)
def scanEnd (l : List UInt8) : Nat := endOf (frames l)
theorem scanEnd_le (l : List UInt8) : scanEnd l ≤ l.length := by
  obtain ⟨p, h⟩ := frames_exists l
  unfold scanEnd; rw [scanI_fin h rfl]; exact scanI_le h
theorem frames_len (l : List UInt8) : 5 * (frames l).length ≤ l.length := by
  obtain ⟨p, h⟩ := frames_exists l
  exact scanI_len h
theorem framesF_fuel : ∀ (n m p : Nat) (l : List UInt8), l.length < p + 5 * n + 5 → l.length < p + 5 * m + 5 → framesF n p l = framesF m p l
  | 0, 0, _, _, _, _ => rfl
  | 0, m + 1, p, l, h, _ => by
    rw [framesF, framesF]
    obtain ⟨t, u, e, hv⟩ : ∃ t u e, fopen (l.drop p) = (t, u, e) := ⟨_, _, _, rfl⟩
    rw [hv]
    by_cases he : e = 0
    · subst he
      have := fopen_ok hv
      rw [List.length_drop] at this
      omega
    · rw [if_pos he]
  | n + 1, 0, p, l, _, h => by
    rw [framesF, framesF]
    obtain ⟨t, u, e, hv⟩ : ∃ t u e, fopen (l.drop p) = (t, u, e) := ⟨_, _, _, rfl⟩
    rw [hv]
    by_cases he : e = 0
    · subst he
      have := fopen_ok hv
      rw [List.length_drop] at this
      omega
    · rw [if_pos he]
  | n + 1, m + 1, p, l, h1, h2 => by
    rw [framesF, framesF]
    obtain ⟨t, u, e, hv⟩ : ∃ t u e, fopen (l.drop p) = (t, u, e) := ⟨_, _, _, rfl⟩
    rw [hv]
    by_cases he : e = 0
    · subst he
      have := (fopen_ok hv).2.2.2
      simp only []
      rw [framesF_fuel n m (p + u) l (by omega) (by omega)]
    · rw [if_pos he, if_pos he]
theorem framesF_shift (a l : List UInt8) : ∀ (n p : Nat), framesF n (a.length + p) (a ++ l) = (framesF n p l).map fun f => (f.1, a.length + f.2)
  | 0, _ => rfl
  | n + 1, p => by
    rw [framesF, framesF]
    have e : (a ++ l).drop (a.length + p) = l.drop p := by rw [List.drop_append]; simp
    rw [e]
    by_cases he : (fopen (l.drop p)).2.2 = 0
    · rw [if_neg (by simpa using he), if_neg (by simpa using he), Nat.add_assoc, framesF_shift a l n]; rfl
    · rw [if_pos he, if_pos he]; rfl
theorem frames_wrap {t : List UInt8} (h : t.length ≤ 65536) (l : List UInt8) : frames (fwrap t ++ l) = (t, (fwrap t).length) :: (frames l).map fun f => (f.1, (fwrap t).length + f.2) := by
  have h5 := (fwrap_len h).1
  obtain ⟨N, hN⟩ : ∃ N, (fwrap t ++ l).length = N + 1 := ⟨(fwrap t ++ l).length - 1, by rw [List.length_append]; omega⟩
  unfold frames
  rw [hN, framesF, List.drop_zero, fopen_fwrap h, if_neg (by simp)]
  simp only [Nat.zero_add]
  have := framesF_shift (fwrap t) l N 0
  rw [Nat.add_zero] at this
  rw [List.length_append] at hN
  rw [this, framesF_fuel N l.length 0 l (by omega) (by omega)]
theorem endOf_cons (t : List UInt8) (k : Nat) : ∀ fs : List (List UInt8 × Nat), endOf ((t, k) :: fs.map fun f => (f.1, k + f.2)) = k + endOf fs
  | [] => by simp [endOf]
  | f :: fs => by
    unfold endOf
    rw [List.getLast?_cons, List.getLast?_cons, List.getLast?_map]
    cases h : fs.getLast? with
    | none =>
      rw [List.getLast?_eq_none_iff] at h
      subst h; simp
    | some g => simp [h, List.getLast?_cons]
def wraps (L : List (List UInt8)) : List UInt8 := (L.map fwrap).flatten
theorem wraps_len : ∀ {L : List (List UInt8)} {m : Nat}, (∀ t ∈ L, t.length ≤ m) → (wraps L).length ≤ (m + 14) * L.length
  | [], _, _ => by simp [wraps]
  | t :: L, m, h => by
    have ih := wraps_len (L := L) (m := m) (fun x hx => h x (List.mem_cons_of_mem _ hx))
    have ht := h t List.mem_cons_self
    have : (fwrap t).length ≤ m + 14 := by
      by_cases h6 : t.length ≤ 65536
      · have := (fwrap_len h6).2; omega
      · rw [fwrap, if_pos (by omega)]; simp
    have e : wraps (t :: L) = fwrap t ++ wraps L := rfl
    rw [e, List.length_append, List.length_cons, Nat.mul_succ]; omega
theorem textsOf_wraps : ∀ {L : List (List UInt8)}, (∀ t ∈ L, t.length ≤ 65536) → ∀ x : List UInt8, textsOf (wraps L ++ x) = L ++ textsOf x ∧ scanEnd (wraps L ++ x) = (wraps L).length + scanEnd x
  | [], _, x => by simp [wraps]
  | t :: L, h, x => by
    have e : wraps (t :: L) = fwrap t ++ wraps L := rfl
    obtain ⟨h1, h2⟩ := textsOf_wraps (L := L) (fun y hy => h y (List.mem_cons_of_mem _ hy)) x
    unfold textsOf at h1
    unfold scanEnd at h2
    unfold textsOf scanEnd
    rw [e, List.append_assoc, frames_wrap (h t List.mem_cons_self)]
    refine ⟨?_, ?_⟩
    · rw [List.map_cons, List.map_map, List.cons_append, ← h1]; rfl
    · rw [endOf_cons, h2, List.length_append]; omega
end Go.Proofs.YtalknbadakfppaaGreat
namespace Go.Proofs.YtalknbadakfppaaGreat
def nameB (l : List UInt8) : Bool := decide (1 ≤ l.length ∧ l.length ≤ 31 ∧ l ≠ [46] ∧ l ≠ [46, 46] ∧ (0 : UInt8) ∉ l ∧ (47 : UInt8) ∉ l)
theorem nameB_iff {l : List UInt8} : nameB l = true ↔ 1 ≤ l.length ∧ l.length ≤ 31 ∧ l ≠ [46] ∧ l ≠ [46, 46] ∧ (0 : UInt8) ∉ l ∧ (47 : UInt8) ∉ l := by simp [nameB]
theorem nameB_mk {l : List UInt8} (h : 1 ≤ l.length ∧ l.length ≤ 31 ∧ l ≠ [46] ∧ l ≠ [46, 46] ∧ (0 : UInt8) ∉ l ∧ (47 : UInt8) ∉ l) : nameB l = true := nameB_iff.2 h
theorem nameB_no {l : List UInt8} (h : ¬ (1 ≤ l.length ∧ l.length ≤ 31 ∧ l ≠ [46] ∧ l ≠ [46, 46] ∧ (0 : UInt8) ∉ l ∧ (47 : UInt8) ∉ l)) : nameB l = false := by
  rcases hb : nameB l with _ | _
  · rfl
  · exact absurd (nameB_iff.1 hb) h
end Go.Proofs.YtalknbadakfppaaGreat
namespace Go.Proofs.YtalknbadakfppaaGreat
open Go.RowKit
def Row (W : World) (B : Nat) (xs : Array Value) (T : TypeId) : Prop := W.heap[B]? = some (.cells xs T (0, 0))
theorem Row.cell {W : World} {B : Nat} {xs : Array Value} {T : TypeId} (h : Row W B xs T) (i : Nat) : W.cell? ⟨B, i, none⟩ = xs[i]? := cell_of_row W B i _ _ _ h
theorem Row.free {W : World} {B : Nat} {xs : Array Value} {T : TypeId} (h : Row W B xs T) (i : Nat) : W.frozen? ⟨B, i, none⟩ = false := frozen_of_row W B i _ _ h
theorem Row.lt {W : World} {B : Nat} {xs : Array Value} {T : TypeId} (h : Row W B xs T) : B < W.heap.size := (Array.getElem?_eq_some_iff.1 h).1
theorem Row.set {W : World} {B : Nat} {xs : Array Value} {T : TypeId} (h : Row W B xs T) (i : Nat) (v : Value) : Row (W.setCell ⟨B, i, none⟩ v) B (xs.setIfInBounds i v) T := heap_setCell_same W B i _ _ _ h
theorem Row.other {W : World} {B : Nat} {xs : Array Value} {T : TypeId} (h : Row W B xs T) (a : Addr) (v : Value) (hne : B ≠ a.block) : Row (W.setCell a v) B xs T := by
  unfold Row; rw [heap_setCell_other _ _ _ _ hne]; exact h
theorem Row.setRow {W : World} {B : Nat} {xs : Array Value} {T : TypeId} (h : Row W B xs T) (ys : Array Value) : Row (W.setRow B ys) B ys T := setRow_heap _ _ _ _ _ _ h
theorem Row.setRow_other {W : World} {B : Nat} {xs : Array Value} {T : TypeId} (h : Row W B xs T) (g : Nat) (ys : Array Value) (hne : B ≠ g) : Row (W.setRow g ys) B xs T := by
  unfold Row; rw [Go.setRow_other _ _ _ _ hne]; exact h
theorem Row.alloc {W : World} {B : Nat} {xs : Array Value} {T : TypeId} (h : Row W B xs T) (o : Obj) : Row (W.alloc o) B xs T := by
  show (W.heap.push o)[B]? = _; rw [Array.getElem?_push, if_neg (Nat.ne_of_lt h.lt)]; exact h
theorem Row.made (W : World) (xs : Array Value) (T : TypeId) : Row (W.alloc (.cells xs T)) W.heap.size xs T := heap_alloc_new _ _
theorem Row.below {W W' : World} {B b : Nat} {xs : Array Value} {T : TypeId} (h : Row W B xs T) (hb : Below b W W') (hlt : B < b) : Row W' B xs T := by
  unfold Row; rw [hb.block B hlt]; exact h
theorem Row.step {W W' : World} {B : Nat} {xs : Array Value} {T : TypeId} (h : Row W B xs T) (hb : Below W.heap.size W W') : Row W' B xs T := h.below hb h.lt
theorem Row.drew {W : World} {B : Nat} {xs : Array Value} {T : TypeId} (h : Row W B xs T) : Row W.drew B xs T := h
theorem Row.drewN {W : World} {B : Nat} {xs : Array Value} {T : TypeId} (h : Row W B xs T) (n : Nat) : Row (W.drewN n) B xs T := h
section
variable {P : Program}
theorem wpList_convert {ops : Array Oper} {rest : List Oper} {o : Oper} {a : Act} {w : World} {Q : Exit → Act → World → Prop} (hgd : o.guard = none) (t t' : TypeId) (x : Operand) (ho : o.op = .convert t t' x)
    (y v : Value) (w' : World) (hx : a.eval x = y) (hrun : (convert t t' y).run P w = .ok v w') (h : wpList P ops Q rest (a.put o.dst v) w') : wpList P ops Q (o :: rest) a w :=
  wpList_plain hgd fun _ hK => by
    unfold Oper.wp execOp
    simp only [ho, hx, Sem.run_bind, hrun, Result.andThen_ok, Sem.run_pure]
    exact hK _ _ h
theorem conv_row (src e dst : TypeId) (hs : P.underlying src = some (.slice e)) (he : P.underlying e = some (.int .u8)) (hd : P.underlying dst = some .string) (w : World) (B : Nat) (t : TypeId) (fr : Nat × Nat) (xs : List Int)
    (hg : w.heap[B]? = some (.cells (xs.map (Value.int .u8)).toArray t fr)) (n cap : Nat) (hn : xs.length = n) :
    (convert src dst (.slice (some ⟨B, 0, none⟩) n cap)).run P w = .ok (.string (strOfNums xs)) w :=
  run_convert_bytes_arg (P := P) w src e hs he B 0 n cap xs hn (fun i hi => by
    rw [Nat.zero_add, cell_of_row w B i _ _ _ hg]
    have hi' : i < xs.length := by omega
    simp [List.getD, List.getElem?_eq_getElem hi']) dst hd
end
theorem byte_mod (n : Nat) : UInt8.ofNat (n % 256) = UInt8.ofNat n := by
  apply UInt8.toNat_inj.1; simp
end Go.Proofs.YtalknbadakfppaaGreat
set_option linter.unusedVariables false
namespace Go.Proofs.YtalknbadakfppaaGreat
open Go.RowKit
theorem take_on (s : ByteArray) (k : Nat) (h : k < s.size) : s.data.toList.take (k + 1) = s.data.toList.take k ++ [s[k]] := by
  rw [List.take_succ_eq_append_getElem (by simpa using h)]; rfl
theorem take_all (s : ByteArray) (k : Nat) (h : s.size ≤ k) : s.data.toList.take k = s.data.toList := List.take_of_length_le (by simp; omega)
end Go.Proofs.YtalknbadakfppaaGreat
set_option linter.unusedVariables false
namespace Go.Proofs.YtalknbadakfppaaGreat
open Go.RowKit
attribute [local go_sem] Oper.semAt_some
theorem one_dot {s : ByteArray} : (s.toList == [46]) = decide (s.data.toList = [46]) := by rw [Lib.toList_data, Bool.eq_iff_iff]; simp
theorem two_dots {s : ByteArray} : (s.toList == [46, 46]) = decide (s.data.toList = [46, 46]) := by rw [Lib.toList_data, Bool.eq_iff_iff]; simp
def CleanTo (l : List UInt8) (k : Nat) : Prop := (0 : UInt8) ∉ l.take k ∧ (47 : UInt8) ∉ l.take k
theorem clean_zero (l : List UInt8) : CleanTo l 0 := ⟨by simp, by simp⟩
theorem clean_step {s : ByteArray} {k : Nat} (h : CleanTo s.data.toList k) (hk : k < s.size) (h0 : s[k] ≠ 0) (h47 : s[k] ≠ 47) : CleanTo s.data.toList (k + 1) := by
  unfold CleanTo; rw [take_on s k hk]
  exact ⟨fun hm => by rcases List.mem_append.1 hm with e | e; exact h.1 e; exact h0 (List.mem_singleton.1 e).symm, fun hm => by rcases List.mem_append.1 hm with e | e; exact h.2 e; exact h47 (List.mem_singleton.1 e).symm⟩
theorem clean_all {s : ByteArray} (h : CleanTo s.data.toList s.size) : (0 : UInt8) ∉ s.data.toList ∧ (47 : UInt8) ∉ s.data.toList := by
  unfold CleanTo at h; rwa [take_all s _ (Nat.le_refl _)] at h
theorem mem_at {s : ByteArray} {k : Nat} (hk : k < s.size) : s[k] ∈ s.data.toList := by
  show s.data[k] ∈ _
  simp
theorem byte_ne {u : UInt8} {n : Nat} (hn : n < 256) (h : u ≠ UInt8.ofNat n) : ((u.toNat : Int) == (n : Int)) = false := by
  rw [beq_eq_false_iff_ne]
  intro e
  have e2 : u.toNat = n := by exact_mod_cast e
  exact h (by rw [← e2]; simp)
set_option maxRecDepth 100000 in
set_option maxHeartbeats 1000000 in
theorem refName_any (s : ByteArray) (w : World) :
    Calls Tryz.prog 32 #[.string s] w fun e w' => e = .returned (.bool (nameB s.data.toList)) ∧ w = w' := by
  by_cases h0 : s.size = 0
  · have e0 : s.toList.isEmpty = true := by
      rw [Lib.toList_data]; have := Lib.size_eq s; cases h : s.data.toList with
      | nil => rfl
      | cons a t => rw [h] at this; simp at this; omega
    have HN : Hid (nameB s.data.toList = false) := nameB_no (fun hh => by rw [← Lib.size_eq] at hh; omega)
    clear h0
    go_enter Tryz.func32, Tryz.ntmps32
    go_wp2
    go_ret
    exact ⟨ret_val (congrArg Value.bool HN.out.symm), rfl⟩
  · have e0 : s.toList.isEmpty = false := by
      rw [Lib.toList_data]; have := Lib.size_eq s; cases h : s.data.toList with
      | nil => rw [h] at this; exact absurd this h0
      | cons a t => rfl
    by_cases h31 : 31 < s.size
    · have e1 : decide ((31 : Int) < (s.size : Int)) = true := decide_eq_true (by omega)
      have HN : Hid (nameB s.data.toList = false) := nameB_no (fun hh => by rw [← Lib.size_eq] at hh; omega)
      clear h0 h31
      go_enter Tryz.func32, Tryz.ntmps32
      go_wp2
      go_ret
      exact ⟨ret_val (congrArg Value.bool HN.out.symm), rfl⟩
    · have e1 : decide ((31 : Int) < (s.size : Int)) = false := decide_eq_false (by omega)
      by_cases hd : s.data.toList = [46]
      · have e2 : (s.toList == [46]) = true := by rw [one_dot]; exact decide_eq_true hd
        have HN : Hid (nameB s.data.toList = false) := nameB_no (fun hh => hh.2.2.1 hd)
        clear h0 h31 hd
        go_enter Tryz.func32, Tryz.ntmps32
        go_wp2
        go_ret
        exact ⟨ret_val (congrArg Value.bool HN.out.symm), rfl⟩
      · have e2 : (s.toList == [46]) = false := by rw [one_dot]; exact decide_eq_false hd
        by_cases hd2 : s.data.toList = [46, 46]
        · have e3 : (s.toList == [46, 46]) = true := by rw [two_dots]; exact decide_eq_true hd2
          have HN : Hid (nameB s.data.toList = false) := nameB_no (fun hh => hh.2.2.2.1 hd2)
          clear h0 h31 hd hd2
          go_enter Tryz.func32, Tryz.ntmps32
          go_wp2
          go_ret
          exact ⟨ret_val (congrArg Value.bool HN.out.symm), rfl⟩
        · have e3 : (s.toList == [46, 46]) = false := by rw [two_dots]; exact decide_eq_false hd2
          have HO := Lib.hid (show 1 ≤ s.data.toList.length ∧ s.data.toList.length ≤ 31 ∧ s.data.toList ≠ [46] ∧ s.data.toList ≠ [46, 46] from by rw [← Lib.size_eq]; exact ⟨by omega, by omega, hd, hd2⟩)
          clear h0 hd hd2
          go_enter Tryz.func32, Tryz.ntmps32
          go_wp2
          go_loop [3] (fun i => ∃ k : Nat, k ≤ s.size ∧ i = .int .i64 k ∧ CleanTo s.data.toList k) (fun i => s.size - (intOf i).toNat)
          case atStart => exact ⟨0, Nat.zero_le _, rfl, clean_zero _⟩
          case round =>
            obtain ⟨k, hk, rfl, hc⟩ := hrel
            have HC := Lib.hid hc; clear hc
            by_cases hlt : k < s.size
            · by_cases b0 : s[k] = 0
              · have c0 : ((s[k].toNat : Int) == 0) = true := by rw [b0]; rfl
                have HN : Hid (nameB s.data.toList = false) := nameB_no (fun hh => hh.2.2.2.2.1 (b0 ▸ mem_at hlt))
                clear b0
                go_wp2
                go_ret
                exact ⟨ret_val (congrArg Value.bool HN.out.symm), rfl⟩
              · have c0 : ((s[k].toNat : Int) == 0) = false := byte_ne (n := 0) (by decide) b0
                by_cases b47 : s[k] = 47
                · have c1 : ((s[k].toNat : Int) == 47) = true := by rw [b47]; rfl
                  have HN : Hid (nameB s.data.toList = false) := nameB_no (fun hh => hh.2.2.2.2.2 (b47 ▸ mem_at hlt))
                  clear b0 b47
                  go_wp2
                  go_ret
                  exact ⟨ret_val (congrArg Value.bool HN.out.symm), rfl⟩
                · have c1 : ((s[k].toNat : Int) == 47) = false := byte_ne (n := 47) (by decide) b47
                  have HS := Lib.hid (clean_step HC.out hlt b0 b47)
                  clear b0 b47
                  go_wp2
                  go_round
                  case rel => exact ⟨k + 1, by omega, by go_num, HS.out⟩
                  case measure => simp [intOf]; omega
            · obtain rfl : k = s.size := by omega
              have HN : Hid (nameB s.data.toList = true) := nameB_mk ⟨HO.out.1, HO.out.2.1, HO.out.2.2.1, HO.out.2.2.2, clean_all HC.out⟩
              go_wp2
              go_ret
              exact ⟨ret_val (congrArg Value.bool HN.out.symm), rfl⟩
end Go.Proofs.YtalknbadakfppaaGreat
set_option linter.unusedVariables false
namespace Go.Proofs.YtalknbadakfppaaGreat
def nLOG : ByteArray := ⟨#[108, 111, 103]⟩
def nNEW : ByteArray := ⟨#[108, 111, 103, 46, 110, 101, 119]⟩
def logB (d : Dsk) : Txt × Bool := readD d nLOG.data.toList
def FitR (L : List Txt) : Prop := (∀ t ∈ L, t.length ≤ 65536) ∧ (wraps L).length ≤ 65536
instance (L : List Txt) : Decidable (FitR L) := by unfold FitR; exact inferInstance
def appendD (d : Dsk) (L : List Txt) : Dsk × Int :=
  if scanEnd (logB d).1 ≠ (logB d).1.length then (d, 2) else if ¬ FitR L then (d, 4) else if L = [] then (d, 0)
  else if (writeD nameB d nLOG (scanEnd (logB d).1) (strT (wraps L))).2 ≠ 0 then writeD nameB d nLOG (scanEnd (logB d).1) (strT (wraps L))
  else syncD (writeD nameB d nLOG (scanEnd (logB d).1) (strT (wraps L))).1 nLOG
def andD (r : Dsk × Int) (f : Dsk → Dsk × Int) : Dsk × Int := if r.2 = 0 then f r.1 else r
def cutD (d : Dsk) : Dsk × Int :=
  andD (andD (andD (if (readD d nNEW.data.toList).2 = true then removeD d nNEW else (d, 0)) fun d => writeD nameB d nNEW 0 (strT ((logB d).1.take (scanEnd (logB d).1)))) fun d => syncD d nNEW) fun d => renameD nameB d nNEW nLOG
def trimD (d : Dsk) : Dsk × Int :=
  if scanEnd (logB d).1 = (logB d).1.length then (if (logB d).2 = true then syncD d nLOG else (d, 0)) else cutD d
theorem fwrap_ne {t : Txt} (h : t.length ≤ 65536) : fwrap t ≠ [] := fun e => by have := (fwrap_len h).1; rw [e] at this; simp at this
theorem wraps_cons (t : Txt) (L : List Txt) : wraps (t :: L) = fwrap t ++ wraps L := rfl
theorem wraps_app (L M : List Txt) : wraps (L ++ M) = wraps L ++ wraps M := by unfold wraps; rw [List.map_append, List.flatten_append]
theorem wraps_nil_iff {L : List Txt} (h : ∀ t ∈ L, t.length ≤ 65536) : wraps L = [] ↔ L = [] := by
  constructor
  · intro e
    cases L with
    | nil => rfl
    | cons t L =>
      rw [wraps_cons] at e
      exact absurd (List.append_eq_nil_iff.1 e).1 (fwrap_ne (h t (List.mem_cons_self ..)))
  · rintro rfl; rfl
theorem scan_wraps {L : List Txt} (h : ∀ t ∈ L, t.length ≤ 65536) : textsOf (wraps L) = L ∧ scanEnd (wraps L) = (wraps L).length := by
  have h1 := textsOf_wraps h []
  rw [List.append_nil] at h1
  have h2 : textsOf ([] : Txt) = [] := rfl
  have h3 : scanEnd ([] : Txt) = 0 := rfl
  rw [h2, h3, List.append_nil, Nat.add_zero] at h1
  exact h1
theorem framesF_take (l : Txt) : ∀ (n p : Nat), p ≤ l.length → (∀ t ∈ (framesF n p l).map (·.1), t.length ≤ 65536) ∧ ∃ q, p ≤ q ∧ q ≤ l.length ∧ ((framesF n p l).getLast?.map (·.2)).getD p = q ∧ (l.drop p).take (q - p) = wraps ((framesF n p l).map (·.1))
  | 0, p, hp => ⟨fun t h => (by cases h), p, Nat.le_refl _, hp, rfl, by rw [Nat.sub_self]; rfl⟩
  | n + 1, p, hp => by
    obtain ⟨t, u, e, hv⟩ : ∃ t u e, fopen (l.drop p) = (t, u, e) := ⟨_, _, _, rfl⟩
    unfold framesF
    rw [hv]
    by_cases he : e = 0
    · subst he
      obtain ⟨g1, g2, g3, _⟩ := fopen_ok hv
      rw [List.length_drop] at g2
      rw [if_neg (by simp)]
      obtain ⟨h1, q, h2, h3, h4, h5⟩ := framesF_take l n (p + u) (by omega)
      dsimp only
      refine ⟨fun x hx => ?_, q, by omega, h3, ?_, ?_⟩
      · rw [List.map_cons] at hx
        rcases List.mem_cons.1 hx with rfl | hx
        · exact g1
        · exact h1 x hx
      · rw [List.getLast?_cons]
        cases hg : (framesF n (p + u) l).getLast? with
        | none => rw [hg] at h4; simpa using h4
        | some a => rw [hg] at h4; simpa using h4
      · rw [List.map_cons, wraps_cons, ← h5, ← g3]
        have e1 : q - p = u + (q - (p + u)) := by omega
        rw [e1, List.take_add, List.drop_drop]
    · rw [if_pos he]
      exact ⟨fun t h => (by cases h), p, Nat.le_refl _, hp, rfl, by rw [Nat.sub_self]; rfl⟩
theorem scan_take (l : Txt) : (∀ t ∈ textsOf l, t.length ≤ 65536) ∧ l.take (scanEnd l) = wraps (textsOf l) := by
  obtain ⟨h1, q, _, _, h4, h5⟩ := framesF_take l l.length 0 (Nat.zero_le _)
  refine ⟨h1, ?_⟩
  have e : scanEnd l = q := h4
  rw [e]
  rw [List.drop_zero, Nat.sub_zero] at h5
  exact h5
def oneL (D : Txt) (P : List Dop) : List Dfl := [⟨nLOG, strT D, P⟩]
theorem name_log : nameB nLOG.data.toList = true := by kernel_rfl
theorem name_new : nameB nNEW.data.toList = true := by kernel_rfl
theorem get_one (D : Txt) (P : List Dop) : getF (oneL D P) nLOG.data.toList = some ⟨nLOG, strT D, P⟩ := by unfold oneL; rw [getF_cons, if_pos (show Dfl.t ⟨nLOG, strT D, P⟩ = nLOG.data.toList from rfl)]
theorem get_one_new (D : Txt) (P : List Dop) : getF (oneL D P) nNEW.data.toList = none := by
  unfold oneL
  rw [getF_cons, if_neg (show ¬ Dfl.t ⟨nLOG, strT D, P⟩ = nNEW.data.toList from by show ¬ nLOG.data.toList = nNEW.data.toList; decide)]; rfl
theorem with_one (D E : Txt) (P Q : List Dop) : withF (oneL D P) ⟨nLOG, strT E, Q⟩ = oneL E Q := by
  unfold oneL
  have e : Dfl.t ⟨nLOG, strT D, P⟩ = Dfl.t ⟨nLOG, strT E, Q⟩ := rfl
  show (if Dfl.t ⟨nLOG, strT D, P⟩ < Dfl.t ⟨nLOG, strT E, Q⟩ then _ else if Dfl.t ⟨nLOG, strT D, P⟩ = Dfl.t ⟨nLOG, strT E, Q⟩ then _ else _) = _
  rw [if_neg (by rw [e]; exact t_irrefl _), if_pos e]
def logF (D : Txt) (P : List Dop) (b : Bool) : List Dfl := if b = true then oneL D P else []
theorem get_logF (D : Txt) (P : List Dop) (b : Bool) : getF (logF D P b) nLOG.data.toList = if b = true then some ⟨nLOG, strT D, P⟩ else none := by
  unfold logF
  cases b with
  | false => rfl
  | true => exact get_one D P
theorem with_logF (D E : Txt) (P Q : List Dop) (b : Bool) : withF (logF D P b) ⟨nLOG, strT E, Q⟩ = oneL E Q := by
  unfold logF
  cases b with
  | false => rfl
  | true => exact with_one D E P Q
theorem read_logF (D : Txt) (P : List Dop) (b : Bool) (o : Bool) (fu : Int) : readD ⟨logF D P b, o, fu⟩ nLOG.data.toList = if b = true then (seenT D P, true) else ([], false) := by
  unfold readD
  dsimp only
  rw [get_logF]
  cases b with
  | false => rfl
  | true =>
    show (seenF ⟨nLOG, strT D, P⟩, true) = (seenT D P, true)
    unfold seenF; rw [show (Dfl.mk nLOG (strT D) P).d.data.toList = D from strT_txt D]
theorem thenD_un (fs fs' : List Dfl) : thenD ⟨fs, false, -1⟩ fs' = (⟨fs', false, -1⟩, 0) := rfl
theorem thenD_out (fs fs' : List Dfl) : thenD ⟨fs, false, 0⟩ fs' = (⟨fs, true, -1⟩, 13) := rfl
theorem thenD_more (fs fs' : List Dfl) (k : Nat) : thenD ⟨fs, false, ((k + 1 : Nat) : Int)⟩ fs' = (⟨fs', false, (k : Int)⟩, 0) := by
  have hp : powD ⟨fs, false, ((k + 1 : Nat) : Int)⟩ = (⟨fs, false, (k : Int)⟩, 0) := by
    unfold powD
    dsimp only
    rw [if_neg (show ¬ ((k + 1 : Nat) : Int) = 0 by omega), if_pos (show (0 : Int) < ((k + 1 : Nat) : Int) by omega)]
    have : ((k + 1 : Nat) : Int) - 1 = (k : Int) := by omega
    rw [this]
  unfold thenD
  rw [hp]; rfl
theorem write_logF {D : Txt} {b : Bool} (hb : b = false → D = []) {W : ByteArray} (hW : W.size ≠ 0) (hl : D.length + W.size ≤ 262144) (fu : Int) :
    writeD nameB ⟨logF D [] b, false, fu⟩ nLOG (D.length : Nat) W = thenD ⟨logF D [] b, false, fu⟩ (oneL D [⟨(D.length : Nat), W⟩]) := by
  have h1 : ¬ fullD ⟨logF D [] b, false, fu⟩ nLOG W := by
    unfold fullD
    dsimp only
    rw [get_logF]
    cases b with
    | false => show ¬ 8 ≤ ([] : List Dfl).length; decide
    | true => rintro ⟨_, h2⟩; exact absurd h2 (by show ¬ 200 ≤ ([] : List Dop).length; decide)
  have h2 : wroteF ⟨logF D [] b, false, fu⟩ nLOG (D.length : Nat) W = ⟨nLOG, strT D, [⟨(D.length : Nat), W⟩]⟩ := by
    unfold wroteF
    dsimp only
    rw [get_logF, if_neg hW]
    cases b with
    | false => rw [hb rfl]; rfl
    | true => rfl
  unfold writeD
  rw [if_neg (by simp), if_neg (by rw [name_log]; simp), if_neg (by omega), if_neg h1, h2, with_logF]
theorem sync_one (D : Txt) (P : List Dop) (fu : Int) : syncD ⟨oneL D P, false, fu⟩ nLOG = thenD ⟨oneL D P, false, fu⟩ (oneL (seenT D P) []) := by
  unfold syncD
  dsimp only
  rw [if_neg (by simp), get_one]
  dsimp only
  rw [with_one]
  unfold seenF
  rw [show (Dfl.mk nLOG (strT D) P).d.data.toList = D from strT_txt D]
theorem lay_end (D T : Txt) : layT D D.length T = D ++ T := by
  rw [layT_over (by omega), padT_in (Nat.le_refl _), List.take_length]
theorem seen_end (D : Txt) (W : ByteArray) : seenT D [⟨(D.length : Nat), W⟩] = D ++ W.data.toList := by
  show layT D (Dop.a ⟨(D.length : Nat), W⟩) W.data.toList = _
  have : Dop.a ⟨((D.length : Nat) : Int), W⟩ = D.length := by unfold Dop.a; simp
  rw [this, lay_end]
theorem crash_logF (D : Txt) (b o : Bool) (fu : Int) (keep : List Bool) : crashD ⟨logF D [] b, o, fu⟩ keep = ⟨logF D [] b, false, -1⟩ := by
  unfold crashD
  cases b with
  | false => rfl
  | true =>
    show (⟨[⟨nLOG, strT (keptT keep 0 (strT D).data.toList []), []⟩], false, -1⟩ : Dsk) = ⟨[⟨nLOG, strT D, []⟩], false, -1⟩
    rw [strT_txt]; rfl
theorem crash_one (D : Txt) (W : ByteArray) (o : Bool) (fu : Int) (keep : List Bool) : crashD ⟨oneL D [⟨(D.length : Nat), W⟩], o, fu⟩ keep = ⟨oneL (if keep.getD 0 false = true then D ++ W.data.toList else D) [], false, -1⟩ := by
  unfold crashD
  show (⟨[⟨nLOG, strT (keptT keep 0 (strT D).data.toList [⟨(D.length : Nat), W⟩]), []⟩], false, -1⟩ : Dsk) = _
  rw [strT_txt]
  unfold oneL
  congr 4
  unfold keptT
  have : Dop.a ⟨((D.length : Nat) : Int), W⟩ = D.length := by unfold Dop.a; simp
  rw [this, show Dop.t ⟨((D.length : Nat) : Int), W⟩ = W.data.toList from rfl, lay_end]
  rfl
def LightR (m : Nat) (L : List Txt) : Prop := (∀ t ∈ L, t.length ≤ 65536) ∧ (wraps L).length ≤ m
theorem light_of {L : List Txt} (h : ∀ t ∈ L, t.length ≤ 300) (hl : L.length ≤ 20) : LightR 6280 L := by
  refine ⟨fun t ht => Nat.le_trans (h t ht) (by decide), ?_⟩
  have := wraps_len h
  have h2 : (300 + 14) * L.length ≤ 314 * 20 := Nat.mul_le_mul_left _ hl
  omega
theorem LightR.fit {m : Nat} {L : List Txt} (h : LightR m L) (hm : m ≤ 65536) : FitR L := ⟨h.1, Nat.le_trans h.2 hm⟩
theorem LightR.app {m k : Nat} {L M : List Txt} (h : LightR m L) (g : LightR k M) : LightR (m + k) (L ++ M) := by
  refine ⟨fun t ht => ?_, ?_⟩
  · rcases List.mem_append.1 ht with ht | ht
    · exact h.1 t ht
    · exact g.1 t ht
  · rw [wraps_app, List.length_append]; have := h.2; have := g.2; omega
theorem logB_logF {R : List Txt} {b : Bool} (hb : b = false → R = []) (fu : Int) (o : Bool) : logB ⟨logF (wraps R) [] b, o, fu⟩ = (wraps R, b) := by
  unfold logB
  rw [read_logF]
  cases b with
  | false => rw [hb rfl]; rfl
  | true => rfl
theorem append_un {R L : List Txt} {b : Bool} {m k : Nat} (hb : b = false → R = []) (hR : LightR m R) (hL : LightR k L) (hk : k ≤ 65536) (hmk : m + k ≤ 262144) :
    appendD ⟨logF (wraps R) [] b, false, -1⟩ L = (⟨logF (wraps (R ++ L)) [] (b || !L.isEmpty), false, -1⟩, 0) := by
  unfold appendD
  rw [logB_logF hb, (scan_wraps hR.1).2, if_neg (by simp), if_neg (fun c => c (hL.fit hk))]
  by_cases he : L = []
  · rw [if_pos he, he]; simp
  · rw [if_neg he]
    have hne : (strT (wraps L)).size ≠ 0 := by
      rw [strT_size]; intro e
      exact he ((wraps_nil_iff hL.1).1 (List.length_eq_zero_iff.1 e))
    have hw := write_logF (D := wraps R) (b := b) (fun h => by rw [hb h]; rfl) hne (by rw [strT_size]; have := hR.2; have := hL.2; omega) (-1)
    rw [hw, thenD_un, if_neg (by simp), sync_one, thenD_un, seen_end, strT_txt, ← wraps_app]
    have : (b || !L.isEmpty) = true := by cases L with | nil => exact absurd rfl he | cons _ _ => simp
    rw [this]; rfl
theorem append_fuse {R L : List Txt} {b : Bool} {m k : Nat} (hb : b = false → R = []) (hR : LightR m R) (hL : LightR k L) (hk : k ≤ 65536) (hmk : m + k ≤ 262144) (fu : Nat) (keep : List Bool) :
    ∃ R' b', (b' = false → R' = []) ∧ crashD (appendD ⟨logF (wraps R) [] b, false, (fu : Int)⟩ L).1 keep = ⟨logF (wraps R') [] b', false, -1⟩ ∧ (R' = R ++ L ∨ (R' = R ∧ (appendD ⟨logF (wraps R) [] b, false, (fu : Int)⟩ L).2 ≠ 0)) := by
  unfold appendD
  rw [logB_logF hb, (scan_wraps hR.1).2, if_neg (by simp), if_neg (fun c => c (hL.fit hk))]
  by_cases he : L = []
  · rw [if_pos he, he]
    exact ⟨R, b, hb, crash_logF _ _ _ _ _, .inl (by simp)⟩
  · rw [if_neg he]
    have hne : (strT (wraps L)).size ≠ 0 := by
      rw [strT_size]; intro e
      exact he ((wraps_nil_iff hL.1).1 (List.length_eq_zero_iff.1 e))
    have hw := write_logF (D := wraps R) (b := b) (fun h => by rw [hb h]; rfl) hne (by rw [strT_size]; have := hR.2; have := hL.2; omega) (fu : Int)
    rw [hw]
    match fu with
    | 0 =>
      rw [show ((0 : Nat) : Int) = 0 from rfl, thenD_out, if_pos (by simp)]
      exact ⟨R, b, hb, crash_logF _ _ _ _ _, .inr ⟨rfl, by simp⟩⟩
    | 1 =>
      rw [thenD_more, if_neg (by simp), sync_one, show ((0 : Nat) : Int) = 0 from rfl, thenD_out]
      dsimp only
      rw [crash_one]
      by_cases hkp : keep.getD 0 false = true
      · rw [if_pos hkp, strT_txt, ← wraps_app]
        exact ⟨R ++ L, true, fun h => (by cases h), rfl, .inl rfl⟩
      · rw [if_neg hkp]
        exact ⟨R, true, fun h => (by cases h), rfl, .inr ⟨rfl, by simp⟩⟩
    | fu + 2 =>
      rw [thenD_more, if_neg (by simp), sync_one, thenD_more, seen_end, strT_txt, ← wraps_app]
      exact ⟨R ++ L, true, fun h => (by cases h), crash_logF (wraps (R ++ L)) true _ _ keep, .inl rfl⟩
theorem trim_un {R : List Txt} {b : Bool} {m : Nat} (hb : b = false → R = []) (hR : LightR m R) : trimD ⟨logF (wraps R) [] b, false, -1⟩ = (⟨logF (wraps R) [] b, false, -1⟩, 0) := by
  unfold trimD
  rw [logB_logF hb, if_pos (scan_wraps hR.1).2]
  cases b with
  | false => rfl
  | true =>
    rw [if_pos rfl]
    show syncD ⟨oneL (wraps R) [], false, -1⟩ nLOG = _
    rw [sync_one, thenD_un]; rfl
theorem trim_fuse {R : List Txt} {b : Bool} {m : Nat} (hb : b = false → R = []) (hR : LightR m R) (fu : Nat) (keep : List Bool) :
    (((trimD ⟨logF (wraps R) [] b, false, (fu : Int)⟩).2 = 0 → (trimD ⟨logF (wraps R) [] b, false, (fu : Int)⟩).1.fs = logF (wraps R) [] b)) ∧ crashD (trimD ⟨logF (wraps R) [] b, false, (fu : Int)⟩).1 keep = ⟨logF (wraps R) [] b, false, -1⟩ := by
  unfold trimD
  rw [logB_logF hb, if_pos (scan_wraps hR.1).2]
  cases b with
  | false => exact ⟨fun _ => rfl, rfl⟩
  | true =>
    rw [if_pos rfl]
    have hs : syncD ⟨logF (wraps R) [] true, false, (fu : Int)⟩ nLOG = thenD ⟨logF (wraps R) [] true, false, (fu : Int)⟩ (logF (wraps R) [] true) := sync_one _ _ _
    rw [hs]
    match fu with
    | 0 =>
      rw [show ((0 : Nat) : Int) = 0 from rfl, thenD_out]
      exact ⟨fun h => absurd h (by simp), crash_logF (wraps R) true _ _ keep⟩
    | fu + 1 =>
      rw [thenD_more]
      exact ⟨fun _ => rfl, crash_logF (wraps R) true _ _ keep⟩
def twoL (D : Txt) (P : List Dop) (E : Txt) (Q : List Dop) : List Dfl := [⟨nLOG, strT D, P⟩, ⟨nNEW, strT E, Q⟩]
theorem ne_log_new (D E : Txt) (P Q : List Dop) : ¬ Dfl.t ⟨nLOG, strT D, P⟩ = Dfl.t ⟨nNEW, strT E, Q⟩ := by show ¬ nLOG.data.toList = nNEW.data.toList; decide
theorem lt_log_new (D E : Txt) (P Q : List Dop) : Dfl.t ⟨nLOG, strT D, P⟩ < Dfl.t ⟨nNEW, strT E, Q⟩ := by show nLOG.data.toList < nNEW.data.toList; decide
theorem get_two (D E : Txt) (P Q : List Dop) : getF (twoL D P E Q) nNEW.data.toList = some ⟨nNEW, strT E, Q⟩ := by
  unfold twoL
  rw [getF_cons, if_neg (show ¬ Dfl.t ⟨nLOG, strT D, P⟩ = nNEW.data.toList from ne_log_new D E P Q), getF_cons, if_pos (show Dfl.t ⟨nNEW, strT E, Q⟩ = nNEW.data.toList from rfl)]
theorem with_one_new (D E : Txt) (P Q : List Dop) : withF (oneL D P) ⟨nNEW, strT E, Q⟩ = twoL D P E Q := by
  unfold oneL
  show (if Dfl.t ⟨nLOG, strT D, P⟩ < Dfl.t ⟨nNEW, strT E, Q⟩ then _ else _) = _
  rw [if_pos (lt_log_new D E P Q)]; rfl
theorem with_two_new (D E F : Txt) (P Q S : List Dop) : withF (twoL D P E Q) ⟨nNEW, strT F, S⟩ = twoL D P F S := by
  unfold twoL
  show (if Dfl.t ⟨nLOG, strT D, P⟩ < Dfl.t ⟨nNEW, strT F, S⟩ then _ :: (if Dfl.t ⟨nNEW, strT E, Q⟩ < Dfl.t ⟨nNEW, strT F, S⟩ then _ else if Dfl.t ⟨nNEW, strT E, Q⟩ = Dfl.t ⟨nNEW, strT F, S⟩ then _ else _) else _) = _
  have e : Dfl.t ⟨nNEW, strT E, Q⟩ = Dfl.t ⟨nNEW, strT F, S⟩ := rfl
  rw [if_pos (lt_log_new D F P S), if_neg (by rw [e]; exact t_irrefl _), if_pos e]
theorem less_two (D E : Txt) (P Q : List Dop) : lessF (twoL D P E Q) nNEW.data.toList = oneL D P := by
  unfold lessF twoL
  have h1 : (fun x : Dfl => decide (x.t ≠ nNEW.data.toList)) ⟨nLOG, strT D, P⟩ = true := decide_eq_true (show Dfl.t ⟨nLOG, strT D, P⟩ ≠ nNEW.data.toList from ne_log_new D E P Q)
  have h2 : ¬ (fun x : Dfl => decide (x.t ≠ nNEW.data.toList)) ⟨nNEW, strT E, Q⟩ = true := by simp [show Dfl.t ⟨nNEW, strT E, Q⟩ = nNEW.data.toList from rfl]
  rw [List.filter_cons_of_pos (p := fun x : Dfl => decide (x.t ≠ nNEW.data.toList)) h1, List.filter_cons_of_neg (p := fun x : Dfl => decide (x.t ≠ nNEW.data.toList)) h2]
  rfl
theorem cut_one (D : Txt) (P : List Dop) {T : Txt} (hT : T.length ≤ 262144) (h : (logB ⟨oneL D P, false, -1⟩).1.take (scanEnd (logB ⟨oneL D P, false, -1⟩).1) = T) : cutD ⟨oneL D P, false, -1⟩ = (⟨oneL T [], false, -1⟩, 0) := by
  have hn : readD ⟨oneL D P, false, -1⟩ nNEW.data.toList = ([], false) := by unfold readD; dsimp only; rw [get_one_new]
  have hg := get_one_new D P
  obtain ⟨Q, hQ1, hQ2⟩ : ∃ Q, wroteF ⟨oneL D P, false, -1⟩ nNEW 0 (strT T) = ⟨nNEW, strT [], Q⟩ ∧ seenT [] Q = T := by
    unfold wroteF
    dsimp only
    rw [hg]
    by_cases hs : (strT T).size = 0
    · rw [if_pos hs]
      rw [strT_size] at hs
      exact ⟨[], rfl, (List.length_eq_zero_iff.1 hs).symm⟩
    · rw [if_neg hs]
      refine ⟨[] ++ [⟨0, strT T⟩], rfl, ?_⟩
      have := seen_end [] (strT T)
      rw [strT_txt] at this
      exact this
  have hw : writeD nameB ⟨oneL D P, false, -1⟩ nNEW 0 (strT T) = (⟨twoL D P [] Q, false, -1⟩, 0) := by
    unfold writeD
    have h1 : ¬ fullD ⟨oneL D P, false, -1⟩ nNEW (strT T) := by
      unfold fullD
      dsimp only
      rw [hg]; show ¬ 8 ≤ 1; decide
    rw [if_neg (by simp), if_neg (by rw [name_new]; simp), if_neg (by rw [strT_size]; omega), if_neg h1, hQ1]
    dsimp only
    rw [with_one_new, thenD_un]
  have hs : syncD ⟨twoL D P [] Q, false, -1⟩ nNEW = (⟨twoL D P T [], false, -1⟩, 0) := by
    unfold syncD
    dsimp only
    rw [if_neg (by simp), get_two]
    dsimp only
    have e : seenF ⟨nNEW, strT [], Q⟩ = T := by unfold seenF; rw [show (Dfl.mk nNEW (strT []) Q).d.data.toList = [] from strT_txt []]; exact hQ2
    rw [e, with_two_new, thenD_un]
  have hr : renameD nameB ⟨twoL D P T [], false, -1⟩ nNEW nLOG = (⟨oneL T [], false, -1⟩, 0) := by
    unfold renameD
    dsimp only
    rw [if_neg (by simp), if_neg (by rw [name_log]; simp), get_two]
    dsimp only
    rw [less_two, with_one, thenD_un]
  unfold cutD
  rw [hn, if_neg (by simp)]
  unfold andD
  dsimp only
  rw [if_pos rfl, h, hw, if_pos rfl, hs, if_pos rfl, hr]
theorem write_torn {R : List Txt} {b : Bool} (hb : b = false → R = []) {t : ByteArray} (ht : t.size ≠ 0) (hl : (wraps R).length + t.size ≤ 262144) :
    writeD nameB ⟨logF (wraps R) [] b, false, -1⟩ nLOG ((wraps R).length : Nat) t = (⟨oneL (wraps R) [⟨((wraps R).length : Nat), t⟩], false, -1⟩, 0) := by
  rw [write_logF (fun h => by rw [hb h]; rfl) ht hl, thenD_un]
theorem logB_one (D : Txt) (P : List Dop) (o : Bool) (fu : Int) : logB ⟨oneL D P, o, fu⟩ = (seenT D P, true) := read_logF D P true o fu
theorem trim_torn (D : Txt) (P : List Dop) (hl : (seenT D P).length ≤ 262144) : trimD ⟨oneL D P, false, -1⟩ = (⟨oneL (wraps (textsOf (seenT D P))) [], false, -1⟩, 0) := by
  have hst := (scan_take (seenT D P)).2
  unfold trimD
  rw [logB_one]
  by_cases h : scanEnd (seenT D P) = (seenT D P).length
  · rw [if_pos h, if_pos rfl, sync_one, thenD_un, ← hst, h, List.take_length]
  · rw [if_neg h]
    exact cut_one D P (by rw [← hst, List.length_take]; omega) (by rw [logB_one]; exact hst)
end Go.Proofs.YtalknbadakfppaaGreat
set_option linter.unusedVariables false
namespace Go.Proofs.YtalknbadakfppaaGreat
open Go.RowKit Go.Shelf
theorem sizeBuilder : (Tryz.prog.info? 76).map (fun i => i.size) = some 2 := by kernel_rfl
theorem infoByte : (Tryz.prog.info? 5).map (fun i => (i.zero, i.size, i.bytes)) = some (some (.int .u8 0), 1, 1) := by kernel_rfl
theorem liesBuilder : liesAt Tryz.prog Tryz.prog.depth 76 (2 / Tryz.prog.cellsOf 76) 0 76 1 = true := by kernel_rfl
set_option maxHeartbeats 1000000 in
set_option maxRecDepth 100000 in
theorem copyCheck_used (b : Nat) (w : World) (h0 : w.cell? ⟨b, 0, none⟩ = some (.pointer (some ⟨b, 0, none⟩))) :
    Calls Tryz.prog 60 #[.pointer (some ⟨b, 0, none⟩)] w fun e w' => e = .returned (.tuple #[]) ∧ w' = w := by
  obtain ⟨j, hj, _⟩ := Option.map_eq_some_iff.1 sizeBuilder
  go_enter Tryz.func60, Tryz.ntmps60
  go_wp2
  rw [Lib.run_neq_ptr_same w _ Tryz.underlying73 hj]
  go_wp2
  go_end0
  exact ⟨rfl, rfl⟩
set_option maxHeartbeats 1000000 in
set_option maxRecDepth 100000 in
theorem copyCheck_fresh (b : Nat) (w : World) (h0 : w.cell? ⟨b, 0, none⟩ = some (.pointer none)) (hsh : w.shape? b = some (76, 2)) (hfz : w.frozen? ⟨b, 0, none⟩ = false) :
    Calls Tryz.prog 60 #[.pointer (some ⟨b, 0, none⟩)] w fun e w' => e = .returned (.tuple #[]) ∧ w' = w.setCell ⟨b, 0, none⟩ (.pointer (some ⟨b, 0, none⟩)) := by
  obtain ⟨j, hj, hjs⟩ := Option.map_eq_some_iff.1 sizeBuilder
  have hl := liesBuilder
  go_enter Tryz.func60, Tryz.ntmps60
  go_wp2
  rw [Lib.run_to_unsafe w ⟨b, 0, none⟩ Tryz.underlying73 Tryz.underlying124 hj (by rw [hjs]; decide) hsh (Nat.zero_lt_succ 1)]
  simp only [Result.andThen]
  rw [Oper.upon_value]
  go_wp2
  rw [run_callFunc_extern Tryz.func88 (by kernel_rfl) (by kernel_rfl) (by kernel_rfl) (e := Extern.AbiNoEscape.same) (by kernel_rfl)]
  rw [Lib.run_noEscape]
  simp only [Result.andThen]
  rw [Oper.upon_value]
  go_wp2
  rw [Lib.run_from_unsafe w ⟨b, 0, none⟩ Tryz.underlying124 Tryz.underlying73 hj hsh hl]
  simp only [Result.andThen]
  rw [Oper.upon_value]
  go_wp2
  go_end0
  exact ⟨rfl, rfl⟩
theorem copyCheck_k (B b : Nat) (bs : List Value) (w : World) (h : Lib.IsBuilderF 76 5 B b bs w) :
    Calls Tryz.prog 60 #[.pointer (some ⟨b, 0, none⟩)] w fun e w' => e = .returned (.tuple #[]) ∧ (Lib.BuilderAtF 76 5 B b (.pointer (some ⟨b, 0, none⟩)) bs w' ∧ Below B w w' ∧ Lib.OthersKept 5 (some b) w w') := by
  rcases h with h | h
  · refine (copyCheck_fresh b w h.cell0 h.shape h.frozen0).mono ?_
    rintro e w' ⟨rfl, rfl⟩
    exact ⟨rfl, h.used _, (Below.refl B w).setCell (p := ⟨b, 0, none⟩) h.1 _, (Lib.OthersKept.refl _ _ w).setCell ⟨b, 0, none⟩ rfl _⟩
  · refine (copyCheck_used b w h.cell0).mono ?_
    rintro e w' ⟨rfl, rfl⟩
    exact ⟨rfl, h, Below.refl B _, Lib.OthersKept.refl _ _ _⟩
set_option maxHeartbeats 2000000 in
set_option maxRecDepth 100000 in
theorem WriteByte_k (B b : Nat) (bs : List Value) (c : Int) (w : World) (h : Lib.IsBuilderF 76 5 B b bs w) (hlen : bs.length + 1 ≤ 140737488355328) (hBw : B ≤ w.heap.size) :
    Calls Tryz.prog 103 #[.pointer (some ⟨b, 0, none⟩), .int .u8 c] w fun e w' => e = .returned .nilIface ∧ (Lib.BuilderAtF 76 5 B b (.pointer (some ⟨b, 0, none⟩)) (bs ++ [.int .u8 c]) w' ∧ Below B w w' ∧ Lib.OthersKept 5 (some b) w w') := by
  obtain ⟨i0, hi, hz0, hz1, hz2⟩ := info_parts infoByte
  go_enter Tryz.func103, Tryz.ntmps103
  go_wp2_with (go_at_call 60; refine (copyCheck_k B b bs _ h).mono ?_)
  rintro e w1 ⟨rfl, h1, hb1, hk1⟩
  obtain ⟨hB, v, hbk, hown, hne⟩ := h1
  have c0 : w1.cell? ⟨b, 0, none⟩ = some (.pointer (some ⟨b, 0, none⟩)) := by rw [Lib.cell_of_heap hbk]; rfl
  have c1 : w1.cell? ⟨b, 1, none⟩ = some v := by rw [Lib.cell_of_heap hbk]; rfl
  go_wp2_with (at_builtin; refine wpList_append_ownF _ rfl _ _ 74 rfl B 5 i0 (.int .u8 0) 1 1 Tryz.underlying74 hi hz0 hz1 hz2 rfl (by decide) _ _ _ rfl (hown.alloc _) ⟨w1.heap.size, 0, none⟩ 1 1 [.int .u8 c] rfl rfl ?c1 ?c2 ?c3 ?c4 ?c5 ?_)
  case c1 =>
    intro j u hj
    match j, hj with
    | 0, hj => simp at hj; subst hj; simp [Addr.add]
  case c2 => intro u hu; simp at hu; subst hu; rfl
  case c3 => unfold maxLen; omega
  case c4 => omega
  case c5 => have := hb1.size; simp; omega
  intro v' w2 hown' hgrow _
  have hlt : b < w1.heap.size := (Array.getElem?_eq_some_iff.1 hbk).1
  have hb2 : w2.heap[b]? = some (.cells #[.pointer (some ⟨b, 0, none⟩), v] 76 (0, 0)) := by
    rw [hgrow.block b (by simp; omega) (fun e => hne e.symm), Lib.alloc_old w1 _ b hlt]
    exact hbk
  have d0 : w2.cell? ⟨b, 0, none⟩ = some (.pointer (some ⟨b, 0, none⟩)) := by rw [Lib.cell_of_heap hb2]; rfl
  have d1 : w2.cell? ⟨b, 1, none⟩ = some v := by rw [Lib.cell_of_heap hb2]; rfl
  have f1 : w2.frozen? ⟨b, 1, none⟩ = false := Lib.frozen_of_heap hb2 1
  obtain ⟨g, cap, rfl⟩ : ∃ g cap, v' = .slice (some ⟨g, 0, none⟩) (bs.length + 1) cap := by
    rcases hown'.2 with ⟨_, h0⟩ | ⟨g, cap, cur, fz, hv, _⟩
    · omega
    · exact ⟨g, cap, hv⟩
  go_wp2
  go_ret
  refine ⟨rfl, ?_, ?_, ((hk1.alloc _).grown hgrow (Lib.ownsRowF_kind (hown.alloc _))).setCell ⟨b, 1, none⟩ rfl _⟩
  · exact Lib.BuilderAtF.put (T := 76) (e := 5) hB hb2 (bs' := bs ++ [.int .u8 c]) (by simpa using hown') (by decide)
  · exact ((hb1.alloc (by have := hb1.size; omega) _).grown hgrow (by have := hb1.size; simp; omega) (fun k hk => (hown.lt k hk).1)).setCell (p := ⟨b, 1, none⟩) hB _
theorem cellsByte : Tryz.prog.cellsOf 5 = 1 := by kernel_rfl
set_option maxHeartbeats 2000000 in
set_option maxRecDepth 100000 in
theorem String_full_k (B b : Nat) (l : List UInt8) (w : World) (h : Lib.IsBuilderF 76 5 B b (Lib.byteCells l) w) (h0 : l ≠ []) :
    Calls Tryz.prog 41 #[.pointer (some ⟨b, 0, none⟩)] w fun e w' => e = .returned (.string ⟨l.toArray⟩) ∧ (Lib.IsBuilderF 76 5 B b (Lib.byteCells l) w' ∧ Below B w w' ∧ Lib.OthersKept 5 (some b) w w') := by
  obtain ⟨p, hp, hAt⟩ : ∃ p, (p = .pointer none ∨ p = .pointer (some ⟨b, 0, none⟩)) ∧ Lib.BuilderAtF 76 5 B b p (Lib.byteCells l) w := by
    rcases h with h | h
    · exact ⟨_, .inl rfl, h⟩
    · exact ⟨_, .inr rfl, h⟩
  obtain ⟨hB, v, hbk, hown, hne⟩ := hAt
  have hl0 : l.length ≠ 0 := by simpa using h0
  rw [Lib.byteCells_length] at hown
  obtain ⟨g, cap, cur, fz, rfl, hbg, hg, hfz, hnc, hcm, hcs, htake⟩ : ∃ g cap cur fz, v = .slice (some ⟨g, 0, none⟩) l.length cap ∧ B ≤ g ∧ w.heap[g]? = some (.cells cur 5 fz) ∧ fz.2 ≤ l.length * 1 ∧ l.length ≤ cap ∧ cap ≤ maxLen ∧ cur.size = cap * 1 ∧ cur.toList.take (l.length * 1) = Lib.byteCells l := by
    rcases hown.2 with ⟨_, hz⟩ | ⟨g, cap, cur, fz, hv, r⟩
    · exact absurd hz hl0
    · exact ⟨g, cap, cur, fz, hv, r⟩
  have c1 : w.drew.cell? ⟨b, 1, none⟩ = some (.slice (some ⟨g, 0, none⟩) l.length cap) := by
    have : w.drew.heap[b]? = some (.cells #[p, .slice (some ⟨g, 0, none⟩) l.length cap] 76 (0, 0)) := hbk
    rw [Lib.cell_of_heap this]; rfl
  have hSD : (Builtin.unsafeSliceData_ #[74] 94 #[.slice (some ⟨g, 0, none⟩) l.length cap]).run Tryz.prog w.drew = .ok (.pointer (some ⟨g, 0, none⟩)) w.drew :=
    Lib.run_unsafeSliceData_row _ _ _ _ _ _ (by omega)
  have hUS : (Builtin.unsafeString_ #[94, 3] 9 #[.pointer (some ⟨g, 0, none⟩), .int .i64 l.length]).run Tryz.prog w.drew = .ok (.string ⟨l.toArray⟩) (w.drew.freeze ⟨g, 0, none⟩ l.length) := by
    refine Lib.run_unsafeString_row w.drew 94 3 9 5 Tryz.underlying94 cellsByte g cur.size (by have hg' : w.drew.heap[g]? = some (.cells cur 5 fz) := hg; simp [World.shape?, hg']) l h0 (by omega) (by unfold maxLen at hcm; omega) ?_
    intro j x hx
    have := hown.cells (g := g) rfl j (.int .u8 x.toNat) (by simp [Lib.byteCells, hx])
    exact this
  have hkeep : Lib.IsBuilderF 76 5 B b (Lib.byteCells l) (w.drew.freeze ⟨g, 0, none⟩ l.length) := by
    have hA : Lib.BuilderAtF 76 5 B b p (Lib.byteCells l) w.drew := ⟨hB, _, hbk, by rw [Lib.byteCells_length]; exact hown, hne⟩
    have hF := hA.froze (g := g) (cap := cap) (by rw [Lib.byteCells_length]; exact c1)
    rw [Lib.byteCells_length] at hF
    rcases hp with rfl | rfl
    · exact .inl hF
    · exact .inr hF
  go_enter Tryz.func41, Tryz.ntmps41
  go_wp2
  go_region
  all_goals (go_wp2; go_ret; exact ⟨rfl, hkeep, Lib.below_freeze (Below.drew (Below.refl B w)) (p := ⟨g, 0, none⟩) hbg _, ((Lib.OthersKept.refl _ _ w).drew).freeze ⟨g, 0, none⟩ _ ⟨cur, fz, hg⟩⟩)
set_option maxHeartbeats 2000000 in
set_option maxRecDepth 100000 in
theorem String_nil_k (B b : Nat) (p : Value) (w : World) (hbk : w.heap[b]? = some (.cells #[p, .slice none 0 0] 76 (0, 0))) :
    Calls Tryz.prog 41 #[.pointer (some ⟨b, 0, none⟩)] w fun e w' => e = .returned (.string ⟨#[]⟩) ∧ Below B w w' := by
  have hUS : ∀ W q, (Builtin.unsafeString_ #[94, 3] 9 #[.pointer q, .int .i64 0]).run Tryz.prog W = .ok (.string .empty) W := fun W q => Lib.run_unsafeString_none W _ _ _ q
  have c1 : w.drew.cell? ⟨b, 1, none⟩ = some (.slice none 0 0) := by
    have : w.drew.heap[b]? = some (.cells #[p, .slice none 0 0] 76 (0, 0)) := hbk
    rw [Lib.cell_of_heap this]; rfl
  have hSD : (Builtin.unsafeSliceData_ #[74] 94 #[.slice none 0 0]).run Tryz.prog w.drew = .ok (.pointer none) w.drew := rfl
  go_enter Tryz.func41, Tryz.ntmps41
  go_wp2
  go_region
  all_goals (go_wp2; go_ret; exact ⟨rfl, Below.drew (Below.refl B w)⟩)
set_option maxHeartbeats 4000000 in
set_option maxRecDepth 100000 in
theorem stringslite_Clone (s : ByteArray) (w : World) (hlim : s.size ≤ 281474976710656) :
    Calls Tryz.prog 106 #[.string s] w fun e w' => e = .returned (.string s) ∧ Below w.heap.size w w' := by
  by_cases h0 : s.size = 0
  · have hs : s = ⟨#[]⟩ := by
      apply ByteArray.ext
      exact Array.eq_empty_of_size_eq_zero h0
    subst hs
    go_enter Tryz.func106, Tryz.ntmps106
    go_wp2
    go_ret
    exact ⟨rfl, Below.refl _ _⟩
  · obtain ⟨i0, hi, hz0, hz1, hz2⟩ := info_parts infoByte
    have hinfo : (Tryz.prog.info? 5).map (fun i => i.size) = some 1 := by rw [hi]; simp [hz1]
    obtain ⟨M, hM⟩ : ∃ M, M = madeCells (Value.int .u8 0).cells (((s.size : Nat) : Int).toNat * i0.size) := ⟨_, rfl⟩
    have hMs : M.size = s.size := by rw [hM, size_madeCells, hz1]; simp
    have hmk : ∀ W : World, (Instr.makeSlice 74 (.int .i64 (s.size : Int)) (.int .i64 (s.size : Int))).run Tryz.prog W = .ok (.slice (some ⟨W.heap.size, 0, none⟩) s.size s.size) (W.alloc (.cells M 5)) := fun W => by
      have h := run_make (P := Tryz.prog) W 74 5 i0 (.int .u8 0) Tryz.underlying74 hi hz0 .i64 .i64 (s.size : Int) (s.size : Int) (by omega) (by omega) (by rw [hz2]; omega) (by omega)
      rw [← hM] at h
      simpa using h
    clear hM
    have hcp := Lib.run_copy_row_string (P := Tryz.prog) (w.alloc (.cells M 5)) 74 9 3 5 w.heap.size 0 s.size s.size s M 5 Tryz.underlying74 hinfo (heap_alloc_new w _) (Nat.le_refl _) (by omega)
    obtain ⟨Y, hY⟩ : ∃ Y, Y = (M.toList.take 0 ++ Lib.byteCells s.data.toList ++ M.toList.drop (0 + s.size)).toArray := ⟨_, rfl⟩
    rw [← hY] at hcp
    have hYl : Y.toList = Lib.byteCells s.data.toList := by
      rw [hY, List.toList_toArray, List.take_zero, List.nil_append, List.drop_of_length_le (by rw [Array.length_toList]; omega), List.append_nil]
    have hYs : Y.size = s.size := by rw [← Array.length_toList, hYl, Lib.byteCells_length, ← Lib.size_eq]
    have hgY : ((w.alloc (.cells M 5)).setRow w.heap.size Y).heap[w.heap.size]? = some (.cells Y 5 (0, 0)) := setRow_heap _ _ M _ 5 (0, 0) (heap_alloc_new w _)
    have hne : s.data.toList ≠ [] := fun e => h0 (by rw [Lib.size_eq, e]; rfl)
    have hUS := Lib.run_unsafeString_row (P := Tryz.prog) ((w.alloc (.cells M 5)).setRow w.heap.size Y) 94 3 9 5 Tryz.underlying94 cellsByte w.heap.size Y.size (by unfold World.shape?; rw [hgY]) s.data.toList hne (by rw [← Lib.size_eq]; omega) (by rw [← Lib.size_eq]; omega)
      (fun j x hx => Lib.cells_of_row hgY Y.size j _ (by rw [List.take_of_length_le (by rw [Array.length_toList]; exact Nat.le_refl _), hYl]; simp [Lib.byteCells, hx]))
    rw [← Lib.size_eq] at hUS
    clear hY
    go_enter Tryz.func106, Tryz.ntmps106
    go_wp2
    go_ret
    have hb1 : Below w.heap.size w (w.alloc (.cells M 5)) := (Below.refl _ w).alloc (Nat.le_refl _) _
    have hb2 : Below w.heap.size (w.alloc (.cells M 5)) ((w.alloc (.cells M 5)).setRow w.heap.size Y) := ⟨rfl, rfl, rfl, by simp, fun k hk => setRow_other _ _ _ _ (by omega)⟩
    exact ⟨rfl, Lib.below_freeze (hb1.trans hb2) (p := ⟨w.heap.size, 0, none⟩) (Nat.le_refl _) _⟩
theorem Clone_any (s : ByteArray) (w : World) (hlim : s.size ≤ 281474976710656) :
    Calls Tryz.prog 91 #[.string s] w fun e w' => e = .returned (.string s) ∧ Below w.heap.size w w' := by
  go_enter Tryz.func91, Tryz.ntmps91
  go_wp2_with (go_at_call 106; refine (stringslite_Clone s w hlim).mono ?_; rintro e w' ⟨rfl, hb⟩)
  go_ret
  exact ⟨rfl, hb⟩
end Go.Proofs.YtalknbadakfppaaGreat
namespace Go.Proofs.YtalknbadakfppaaGreat
open Go.RowKit
theorem builderAtF_own {β : Type} (T e : TypeId) (B b : Nat) (p : Value) (bs : β → List Value) : Own (fun (s : β) W => Lib.BuilderAtF T e B b p (bs s) W) := by
  rintro s W W' row ⟨hB, v, hb, hown, hne⟩ hg hr
  have hlt := (Array.getElem?_eq_some_iff.1 hb).1
  refine ⟨hB, v, ?_, ?_, hne⟩
  · rw [hg.block b hlt ?_]
    · exact hb
    · intro h
      obtain ⟨o, ho, hc⟩ := hr b h.symm
      rw [hb] at ho; cases ho; cases hc
  · refine hown.kept hg ?_
    rcases hob : v.ownBlock with _ | g
    · exact .inl rfl
    · refine .inr fun h => ?_
      obtain ⟨o, ho, hc⟩ := hr g h.symm
      obtain ⟨c, fz, hg2⟩ := Lib.ownsRowF_kind hown g hob
      rw [hg2] at ho; cases ho; cases hc
theorem isBuilderF_own {β : Type} (T e : TypeId) (B b : Nat) (bs : β → List Value) : Own (fun (s : β) W => Lib.IsBuilderF T e B b (bs s) W) := by
  intro s W W' row h hg hr
  rcases h with h | h
  · exact .inl (builderAtF_own T e B b _ bs s W W' row h hg hr)
  · exact .inr (builderAtF_own T e B b _ bs s W W' row h hg hr)
theorem keeps_of_others {e : TypeId} {b : Nat} {W W' : World} (h : Lib.OthersKept e (some b) W W') (hs : W.heap.size ≤ W'.heap.size) (hb : ∃ o : Obj, W.heap[b]? = some o ∧ o.isCells = true) : KeepsOthers W W' := by
  refine ⟨hs, fun k o hk ho => h k o hk ?_ ?_⟩
  · intro hkb
    obtain ⟨o', ho', hc⟩ := hb
    cases hkb
    rw [hk] at ho'; cases ho'; rw [ho] at hc; cases hc
  · rintro c fz rfl
    cases ho
theorem isBuilderF_cells {T e : TypeId} {B b : Nat} {bs : List Value} {W : World} (h : Lib.IsBuilderF T e B b bs W) : ∃ o : Obj, W.heap[b]? = some o ∧ o.isCells = true := by
  rcases h with ⟨_, v, hb, _⟩ | ⟨_, v, hb, _⟩ <;> exact ⟨_, hb, rfl⟩
theorem boxed_keep {A B : World} {row : Option Nat} {b : Nat} {t : TypeId} {v : Value} (h : Boxed A b t v) (hg : A.grownBy B row) (hr : ∀ r, row = some r → ∃ o : Obj, A.heap[r]? = some o ∧ o.isCells = false) : Boxed B b t v := by
  refine h.kept hg fun e => ?_
  obtain ⟨o, ho, hc⟩ := hr b e.symm
  rw [show A.heap[b]? = _ from h] at ho; cases ho; cases hc
theorem boxed_set {W : World} {b b' : Nat} {t : TypeId} {v : Value} (h : Boxed W b t v) (v' : Value) (hne : b ≠ b') : Boxed (W.setCell ⟨b', 0, none⟩ v') b t v := by
  refine h.kept (grownBy_setCell' W b' v') (fun e => hne (by cases e; rfl))
theorem three_set {W : World} {b : Nat} {t0 t1 t2 : TypeId} {u0 u1 u2 : Value} (h0 : Boxed W b t0 u0) (h1 : Boxed W (b + 1) t1 u1) (h2 : Boxed W (b + 2) t2 u2) (v0 v1 v2 : Value) :
    let W' := ((W.setCell ⟨b, 0, none⟩ v0).setCell ⟨b + 1, 0, none⟩ v1).setCell ⟨b + 2, 0, none⟩ v2
    Boxed W' b t0 v0 ∧ Boxed W' (b + 1) t1 v1 ∧ Boxed W' (b + 2) t2 v2 ∧ KeepsOthers W W' ∧ Below b W W' := by
  refine ⟨?_, ?_, ?_, ?_, ?_⟩
  · exact boxed_set (boxed_set (h0.set v0) v1 (by omega)) v2 (by omega)
  · exact boxed_set ((boxed_set h1 v0 (by omega)).set v1) v2 (by omega)
  · exact (boxed_set (boxed_set h2 v0 (by omega)) v1 (by omega)).set v2
  · exact ((KeepsOthers.setCell _ _ _).trans (KeepsOthers.setCell _ _ _)).trans (KeepsOthers.setCell _ _ _)
  · exact ((((Below.refl b W).setCell (p := ⟨b, 0, none⟩) (Nat.le_refl _) v0)).setCell (p := ⟨b + 1, 0, none⟩) (by simp) v1).setCell (p := ⟨b + 2, 0, none⟩) (by simp) v2
end Go.Proofs.YtalknbadakfppaaGreat
set_option linter.unusedVariables false
namespace Go.Proofs.YtalknbadakfppaaGreat
open Go.RowKit
def left (v : Nat) (pre : List UInt8) (k r : Nat) : Prop := r < 128 ^ (k + 1) ∧ U64 r ∧ vput v = pre ++ vputF (k + 1) r
theorem left_step {v : Nat} {pre : List UInt8} {k r : Nat} (h : left v pre k r) (hr : 128 ≤ r) : left v (pre ++ [UInt8.ofNat (r % 128 + 128)]) (k - 1) (r / 128) := by
  obtain ⟨h1, h2, h3⟩ := h
  obtain ⟨j, rfl⟩ : ∃ j, k = j + 1 := by
    cases k with
    | zero => simp at h1; omega
    | succ j => exact ⟨j, rfl⟩
  refine ⟨?_, h2.div _, ?_⟩
  · rw [Nat.add_sub_cancel, Nat.div_lt_iff_lt_mul (by decide)]; rw [Nat.pow_succ] at h1; exact h1
  · rw [h3, vputF_hi hr]; simp
theorem left_pre {v : Nat} {pre : List UInt8} {k r : Nat} (h : left v pre k r) (hr : 128 ≤ r) : pre ++ [UInt8.ofNat (r % 128 + 128)] <+: vput v := by
  rw [(left_step h hr).2.2]; exact List.prefix_append _ _
theorem left_len {v : Nat} {pre : List UInt8} {k r : Nat} (h : left v pre k r) : pre.length ≤ 9 := by
  have h1 := vput_len v
  have h2 := vputF_pos k r
  rw [h.2.2, List.length_append] at h1
  omega
theorem left_end {v : Nat} {pre : List UInt8} {k r : Nat} (h : left v pre k r) (hr : r < 128) : vput v = pre ++ [UInt8.ofNat r] := by rw [h.2.2, vputF_lo hr]
theorem ownsRow_slice {w : World} {base : Nat} {e : TypeId} {v : Value} {n : Nat} {xs : List Value} (h : w.ownsRow base e 1 v (n + 1) xs) : ∃ g cap, v = .slice (some ⟨g, 0, none⟩) (n + 1) cap := by
  rcases h.2 with ⟨_, h0⟩ | ⟨g, cap, _, rfl, _⟩
  · omega
  · exact ⟨g, cap, rfl⟩
set_option maxRecDepth 100000 in
set_option maxHeartbeats 2000000 in
theorem refPut_any (v : Nat) (hv : U64 v) (w : World) :
    Calls Tryz.prog 100 #[.int .u64 v] w fun e w' => e = .returned (.string ⟨(vput v).toArray⟩) ∧ Below w.heap.size w w' := by
  obtain ⟨i0, hi, hz0, hz1, hz2⟩ := info_parts infoByte
  go_enter Tryz.func100, Tryz.ntmps100
  go_wp2
  go_loopw [0, 3] (fun t s wr => ∃ (pre : List UInt8) (k r : Nat), t = .int .u64 r ∧ left v pre k r ∧ wr.ownsRow w.heap.size 5 1 s pre.length (Lib.byteCells pre) ∧ Below w.heap.size w wr)
    (fun t s _ => (intOf t).toNat)
  case atStart => exact ⟨[], 9, v, rfl, ⟨by unfold U64 at hv; omega, hv, rfl⟩, World.ownsRow_nil _ _ _ _, Below.refl _ _⟩
  case round =>
    obtain ⟨pre, k, r, rfl, hl, hown, hB⟩ := hrel
    have hu : U64 r := hl.2.1
    have hp9 := left_len hl
    have hsz := hB.size
    by_cases h : 128 ≤ r
    · have hmod : (0 : Int) ≤ (r : Int) % 128 ∧ (r : Int) % 128 < 128 := by omega
      go_wp2_with (at_builtin; refine wpList_append_own _ rfl _ _ 74 rfl w.heap.size 5 i0 (.int .u8 0) 1 1 Tryz.underlying74 hi hz0 hz1 hz2 rfl (by decide) _ _ _ rfl (hown.alloc _) ⟨wr.heap.size, 0, none⟩ 1 1 [.int .u8 ((r : Int) % 128 + 128)] rfl rfl ?c1 ?c2 ?c3 ?c4 ?c5 ?_)
      case c1 =>
        intro j u hj
        match j, hj with
        | 0, hj => simp at hj; subst hj; simp [Addr.add]
      case c2 => intro u hu; simp at hu; subst hu; rfl
      case c3 => unfold maxLen; omega
      case c4 => omega
      case c5 => simp; omega
      intro v' w1 hown' hgrow _
      obtain ⟨g, cap, rfl⟩ := ownsRow_slice hown'
      have hb1 : Below w.heap.size w w1 := (hB.alloc hsz _).grown hgrow (by simp; omega) (fun j hj => (hown.lt j hj).1)
      have hown2 : w1.ownsRow w.heap.size 5 1 (.slice (some ⟨g, 0, none⟩) (pre.length + 1) cap) (pre ++ [UInt8.ofNat (r % 128 + 128)]).length (Lib.byteCells (pre ++ [UInt8.ofNat (r % 128 + 128)])) := by
        rw [Lib.byteCells_append, List.length_append]
        have e : Lib.byteCells [UInt8.ofNat (r % 128 + 128)] = [Value.int .u8 ((r : Int) % 128 + 128)] := by
          simp [Lib.byteCells]; omega
        rw [e]; exact hown'
      have hl2 := left_step hl h
      clear hown hown' hgrow
      have hwd := hu.wrap_div 128
      simp only [Int.cast_ofNat_Int] at hwd
      go_wp2
      go_roundw
      case rel => exact ⟨_, _, _, by go_num, hl2, hown2, hb1⟩
      case measure => simp [intOf]; omega
    · have hlt : r < 128 := by omega
      have hfin := left_end hl hlt
      have HF := Lib.hid hfin; clear hfin
      go_wp2_with (at_builtin; refine wpList_append_own _ rfl _ _ 74 rfl w.heap.size 5 i0 (.int .u8 0) 1 1 Tryz.underlying74 hi hz0 hz1 hz2 rfl (by decide) _ _ _ rfl (hown.alloc _) ⟨wr.heap.size, 0, none⟩ 1 1 [.int .u8 (r : Int)] rfl rfl ?c1 ?c2 ?c3 ?c4 ?c5 ?_)
      case c1 =>
        intro j u hj
        match j, hj with
        | 0, hj => simp at hj; subst hj; simp [Addr.add]
      case c2 => intro u hu; simp at hu; subst hu; rfl
      case c3 => unfold maxLen; omega
      case c4 => omega
      case c5 => simp; omega
      intro v' w1 hown' hgrow _
      obtain ⟨g, cap, rfl⟩ := ownsRow_slice hown'
      have hb1 : Below w.heap.size w w1 := (hB.alloc hsz _).grown hgrow (by simp; omega) (fun j hj => (hown.lt j hj).1)
      have hown2 : w1.ownsRow w.heap.size 5 1 (.slice (some ⟨g, 0, none⟩) (pre.length + 1) cap) (pre.length + 1) (Lib.byteCells (vput v)) := by
        have e : Lib.byteCells [UInt8.ofNat r] = [Value.int .u8 (r : Int)] := by
          simp [Lib.byteCells]; omega
        rw [HF.out, Lib.byteCells_append, e]; exact hown'
      have hlv : (vput v).length = pre.length + 1 := by rw [HF.out]; simp
      have hcv := run_convert_bytes_back (P := Tryz.prog) w1 74 9 5 ⟨g, 0, none⟩ cap (vput v) Tryz.underlying74 Tryz.underlying5 Tryz.underlying9
        (fun j hj => hown2.cells (g := g) rfl j _ (by simp [Lib.byteCells, hj]))
      rw [hlv] at hcv
      clear hown hown' hgrow hown2 hlv
      go_wp2
      go_ret
      exact ⟨rfl, hb1⟩
end Go.Proofs.YtalknbadakfppaaGreat
set_option linter.unusedVariables false
namespace Go.Proofs.YtalknbadakfppaaGreat
open Go.RowKit Go.Shelf
attribute [local go_sem] Oper.semAt_some
abbrev encB (c : UInt8) : Value := .int .u8 c.toNat
set_option maxHeartbeats 1000000 in
set_option maxRecDepth 100000 in
theorem numberBytes1_stops (F : Fence) (n : Nat) (hf : F.fn 112) (hro : F.round = none) (hn : 1 ≤ n) (Bn : Nat) (Kp : World → World → Prop) (v : Nat) (hv : U64 v) (w : World) (hB : Bn < w.heap.size)
    (hc : w.cell? ⟨Bn, 0, none⟩ = some (.int .u64 v)) :
    SeqStopsK F n Tryz.prog 112 #[.pointer (some ⟨Bn, 0, none⟩)] (fun c => #[encB c]) Kp (fun xs => xs = vput v) (fun pre => pre <+: vput v) (vput v).length w := fun l J Jx W hW hJ hJx hY h0 => by
  have hc1 : W.cell? ⟨Bn, 0, none⟩ = some (.int .u64 v) := (hW.cell (p := ⟨Bn, 0, none⟩) hB).trans hc
  refine callsIn_of_wp Tryz.func112 rfl hf ?_ hro
  simp only [Tryz.ntmps112, List.size_toArray, List.length_cons, List.length_nil, Nat.reduceAdd, Nat.reduceSub, Array.replicate_succ, Array.replicate_zero, List.push_toArray, List.append_toArray, List.nil_append, List.cons_append]
  gi_wp2
  gi_loopw [3] (fun p wr => ∃ (pre : List UInt8) (k r : Nat), p = .int .u64 r ∧ left v pre k r ∧ J pre wr)
    (fun p wr => (intOf p).toNat)
  case atStart =>
    exact ⟨[], 9, v, rfl, ⟨by unfold U64 at hv; omega, hv, rfl⟩, h0⟩
  case round =>
    obtain ⟨pre, k, r, rfl, hl, hJs⟩ := hrel
    have hu : U64 r := hl.2.1
    by_cases h : 128 ≤ r
    · have hY1 := hY pre (UInt8.ofNat (r % 128 + 128)) wr hJs (by rw [hl.2.2, vputF_hi h]; simp)
      obtain ⟨fn, tmps, assign, body, hy, hR⟩ := hY1
      simp only [encB] at hy
      rw [← low_byte hu] at hy
      clear hY
      gi_wp2
      refine hR.mono ?_
      rintro e W3 (⟨rfl, hJ3, hk3⟩ | ⟨rfl, hJx3⟩)
      · gi_wp2
        go_roundw
        case rel => 
          refine ⟨_, k - 1, r / 128, by go_num, left_step hl h, hJ3⟩
        case measure => simp [intOf]; omega
      · gi_wp2
        refine bodyPost_ret (results_none rfl _ _ _) rfl ?_
        exact ⟨⟨_, rfl⟩, .inr ⟨_, left_pre hl h, hJx3⟩⟩
    · have hlt : r < 128 := by omega
      have hY1 := hY pre (UInt8.ofNat r) wr hJs (by rw [hl.2.2, vputF_lo hlt]; simp)
      obtain ⟨fn, tmps, assign, body, hy, hR⟩ := hY1
      simp only [encB] at hy
      rw [last_byte hlt] at hy
      clear hY
      have hfin : vput v = pre ++ [UInt8.ofNat r] := by rw [hl.2.2, vputF_lo hlt]
      have Hfin := Lib.hid hfin; clear hfin
      gi_wp2
      refine hR.mono ?_
      rintro e W3 (⟨rfl, hJ3, hk3⟩ | ⟨rfl, hJx3⟩)
      · gi_wp2
        go_end0
        exact ⟨⟨_, rfl⟩, .inl ⟨_, Hfin.out.symm, hJ3⟩⟩
      · gi_wp2
        go_end0
        exact ⟨⟨_, rfl⟩, .inr ⟨_, by rw [Hfin.out]; exact List.prefix_refl _, hJx3⟩⟩
theorem numberBytes_any (v : Nat) (w : World) :
    Calls Tryz.prog 102 #[.int .u64 v] w fun e w' => e = .returned (.func (.func 112) #[] #[.pointer (some ⟨w.heap.size, 0, none⟩)]) ∧ w' = w.alloc (.cells #[.int .u64 v] 123) := by
  go_enter Tryz.func102, Tryz.ntmps102
  go_wp2
  go_ret
  exact ⟨rfl, rfl⟩
set_option maxRecDepth 100000 in
set_option maxHeartbeats 2000000 in
theorem Put_any (v : Nat) (hv : U64 v) (w : World) :
    Calls Tryz.prog 85 #[.int .u64 v] w fun e w' => e = .returned (.string ⟨(vput v).toArray⟩) ∧ Below w.heap.size w w' := by
  refine (callsIn_wide (n := 5)).1 ?_
  have hro : Fence.wide.round = none := rfl
  refine callsIn_of_wp_marks Tryz.func85 rfl trivial ?_ hro
  simp only [Tryz.ntmps85, List.size_toArray, List.length_cons, List.length_nil, Nat.reduceAdd, Nat.reduceSub, Array.replicate_succ, Array.replicate_zero, List.push_toArray, List.append_toArray, List.nil_append, List.cons_append]
  gi_wp2_with (refine ⟨trivial, ?_⟩; gi_at_call 102; refine (callsIn_wide.2 (numberBytes_any v _)).mono ?_; rintro e w' ⟨rfl, rfl⟩)
  have hc := (Boxed.new (w.alloc (.cells #[.pointer none, .slice none 0 0] 76)) 123 (.int .u64 v)).cell
  rw [World.size_alloc] at hc
  have hB0 : Below w.heap.size w ((w.alloc (.cells #[.pointer none, .slice none 0 0] 76)).alloc (.cells #[.int .u64 v] 123)) := ((Below.refl _ w).alloc (Nat.le_refl _) _).alloc (by simp) _
  have hI0 : Lib.IsBuilderF 76 5 w.heap.size w.heap.size [] ((w.alloc (.cells #[.pointer none, .slice none 0 0] 76)).alloc (.cells #[.int .u64 v] 123)) :=
    (Lib.IsBuilderF.of (Lib.fresh_isBuilder 76 5 w)).alloc _
  refine wpIn_rangeFunc_ownF hro (by decide) (gf := 112) (lb := #[.pointer (some ⟨w.heap.size + 1, 0, none⟩)]) rfl trivial (enters_of Tryz.func112 (by kernel_rfl) rfl)
    (numberBytes1_stops Fence.wide 4 trivial hro (by decide) (w.heap.size + 1) (Below w.heap.size) v hv _ (by simp) hc) belowK_t (belowK_b (by simp; omega)) (Below.refl _ _) (fun _ => rfl)
    (fun pre W => Lib.IsBuilderF 76 5 w.heap.size w.heap.size (Lib.byteCells pre) W ∧ Below w.heap.size w W)
    (fun _ _ _ => False)
    (OwnFrom.and (Own.from (isBuilderF_own 76 5 w.heap.size w.heap.size (fun pre : List UInt8 => Lib.byteCells pre)) _) (ownFrom_below (Nat.le_refl _) (by simp; omega)))
    (fun _ _ _ _ _ hs _ _ => hs)
    ⟨hI0, hB0⟩
    (fun x => { tmps := #[.int .u64 v, undef, .string { data := #[] }, .pointer (some ⟨w.heap.size, 0, none⟩), encB x, .int .u64 v, .func (.func 112) #[] #[.pointer (some ⟨w.heap.size + 1, 0, none⟩)], encB x, undef, undef, undef], defers := [] }) ?assign ?body ?done ?stop
  case assign =>
    intro l x W K hK
    gi_wp2
    exact hK
  case body =>
    rintro l pre x W ⟨hI, hB⟩ hlen
    have hl10 := vput_len v
    have hcc : (Lib.byteCells pre).length + 1 ≤ 140737488355328 := by rw [Lib.byteCells_length]; omega
    have hbw := hB.size
    gi_wp2_with (refine ⟨trivial, ?_⟩; gi_at_call 103; refine (CallsIn.inRound l (callsIn_wide.2 (WriteByte_k w.heap.size w.heap.size (Lib.byteCells pre) _ W hI hcc hbw))).mono ?_; rintro e w' ⟨rfl, hb', hbel, hoth⟩)
    refine ⟨keeps_of_others hoth hbel.size (isBuilderF_cells hI), hbel, .inr ?_, hB.trans hbel⟩
    rw [Lib.byteCells_append]; exact hb'
  case done =>
    rintro D xs W hD rfl ⟨hI, hB⟩ hK
    have hne : vput v ≠ [] := fun h => by have := vput_pos v; rw [h] at this; simp at this
    gi_wp2_with (refine ⟨trivial, ?_⟩; gi_at_call 41; refine (callsIn_wide.2 (String_full_k w.heap.size w.heap.size (vput v) W hI hne)).mono ?_; rintro e w' ⟨rfl, hI', hbel, hoth⟩)
    have hK' := hoth D _ hK (fun h => by cases h; obtain ⟨o, ho, hc⟩ := isBuilderF_cells hI; rw [hK] at ho; cases ho; cases hc) (fun _ _ h => by cases h)
    refine ⟨by simp, .inl ⟨_, _, rfl, run_takeDeferred hK', ?_⟩⟩
    exact ⟨_, results_tmp rfl _ _ _, rfl, (hB.trans hbel).trans (belowK_b (w := w) (Nat.le_refl _) w' D _ _ (by simp at hD; omega) hK' rfl rfl)⟩
  case stop =>
    rintro D c pre W _ _ h _
    exact h.elim
theorem firstBytes_any (s : ByteArray) (w : World) :
    Calls Tryz.prog 118 #[.string s] w fun e w' => e = .returned (.func (.func 126) #[] #[.pointer (some ⟨w.heap.size, 0, none⟩)]) ∧ w' = w.alloc (.cells #[.string s] 9) := by
  go_enter Tryz.func118, Tryz.ntmps118
  go_wp2
  go_ret
  exact ⟨rfl, rfl⟩
abbrev encE (x : Fin 10 × UInt8) : Array Value := #[.int .i64 (x.1.val : Nat), .int .u8 x.2.toNat]
def KeepsBox (B : Nat) (t : TypeId) (v : Value) (W W' : World) : Prop := Boxed W B t v → Boxed W' B t v
theorem upTo_succ {l : List UInt8} {k : Nat} (h1 : k < 10) (h2 : k < l.length) : (enF 0 l).take (k + 1) = (enF 0 l).take k ++ [(⟨k, h1⟩, l[k])] := by
  have hg := enF_get l 0 k (by omega) h2
  have hlt : k < (enF 0 l).length := by rw [enF_length]; omega
  rw [List.take_succ_eq_append_getElem hlt]
  congr 2
  rw [List.getElem?_eq_getElem hlt] at hg
  simpa using hg
theorem upTo_succ' {s : ByteArray} {k : Nat} (h1 : k < 10) (h2 : k < s.size) : (enF 0 s.data.toList).take (k + 1) = (enF 0 s.data.toList).take k ++ [(⟨k, h1⟩, s[k]'h2)] :=
  upTo_succ (l := s.data.toList) h1 h2
set_option maxHeartbeats 1000000 in
set_option maxRecDepth 100000 in
theorem firstBytes1_stops (F : Fence) (n : Nat) (hf : F.fn 126) (hro : F.round = none) (hn : 1 ≤ n) (Bn : Nat) (s : ByteArray) (hs : s.size ≤ maxLen) (w : World) (hB : Boxed w Bn 9 (.string s)) :
    SeqStopsK F n Tryz.prog 126 #[.pointer (some ⟨Bn, 0, none⟩)] encE (KeepsBox Bn 9 (.string s)) (fun xs => xs = enF 0 s.data.toList) (fun pre => pre <+: enF 0 s.data.toList) (enF 0 s.data.toList).length w := fun l J Jx W hW hJ hJx hY h0 => by
  unfold maxLen at hs
  have hb1 : Boxed W Bn 9 (.string s) := (hW.block Bn hB.lt).trans hB
  have hc1 := hb1.cell
  have HS := Lib.hid (Lib.size_eq s)
  refine callsIn_of_wp Tryz.func126 rfl hf ?_ hro
  simp only [Tryz.ntmps126, List.size_toArray, List.length_cons, List.length_nil, Nat.reduceAdd, Nat.reduceSub, Array.replicate_succ, Array.replicate_zero, List.push_toArray, List.append_toArray, List.nil_append, List.cons_append]
  gi_wp2
  gi_loopw [7] (fun p wr => ∃ k : Nat, k ≤ s.size ∧ k ≤ 10 ∧ p = .int .i64 k ∧ J ((enF 0 s.data.toList).take k) wr ∧ Boxed wr Bn 9 (.string s))
    (fun p wr => 10 - (intOf p).toNat)
  case atStart =>
    exact ⟨0, Nat.zero_le _, Nat.zero_le _, rfl, h0, hb1⟩
  case round =>
    obtain ⟨k, hk1, hk2, rfl, hJs, hbx⟩ := hrel
    by_cases hlt : k < s.size ∧ k < 10
    · obtain ⟨hlt1, hlt2⟩ := hlt
      have hup := upTo_succ' hlt2 hlt1
      have hY1 := hY _ (⟨k, hlt2⟩, s[k]'hlt1) wr hJs (by rw [List.length_take, enF_length, ← HS.out]; omega)
      rw [← hup] at hY1
      have HUP := Lib.hid hup; clear hup
      obtain ⟨fn, tmps, assign, body, hy, hR⟩ := hY1
      simp only [encE] at hy
      have hcx := hbx.cell
      clear hY
      gi_wp2
      refine hR.mono ?_
      rintro e W3 (⟨rfl, hJ3, hk3⟩ | ⟨rfl, hJx3⟩)
      · gi_wp2
        go_roundw
        case rel => exact ⟨k + 1, by omega, by omega, by go_num, hJ3, hk3 hbx⟩
        case measure => simp [intOf]; omega
      · gi_wp2
        refine bodyPost_ret (results_none rfl _ _ _) rfl ?_
        exact ⟨⟨_, rfl⟩, .inr ⟨_, List.take_prefix _ _, hJx3⟩⟩
    · have hmin : ¬ ((k : Int) < min (s.size : Int) 10) := by omega
      have hall : (enF 0 s.data.toList).take k = enF 0 s.data.toList := List.take_of_length_le (by rw [enF_length, ← HS.out]; omega)
      have HALL := Lib.hid hall; clear hall hY
      gi_wp2
      go_end0
      exact ⟨⟨_, rfl⟩, .inl (by rw [← HALL.out]; exact hJs)⟩
def takeI (b : Nat) (pre : List (Fin 10 × UInt8)) (W : World) : Prop :=
  (∀ y ∈ pre, goesOn y) ∧ Boxed W b 123 (.int .u64 0) ∧ Boxed W (b + 1) 3 (.int .i64 0) ∧ Boxed W (b + 2) 31 (.int .i64 0) ∧ Boxed W (b + 3) 123 (.int .u64 (accOf pre))
def takeX (b : Nat) (pre : List (Fin 10 × UInt8)) (W : World) : Prop :=
  ∃ p x, pre = p ++ [x] ∧ (∀ y ∈ p, goesOn y) ∧ endsAt x ∧ Boxed W b 123 (.int .u64 (told (accOf p) x).1) ∧ Boxed W (b + 1) 3 (.int .i64 (told (accOf p) x).2.1) ∧ Boxed W (b + 2) 31 (.int .i64 (told (accOf p) x).2.2)
theorem takeI_own (b : Nat) : Own (takeI b) := fun s A B row hs hg hr =>
  ⟨hs.1, boxed_keep hs.2.1 hg hr, boxed_keep hs.2.2.1 hg hr, boxed_keep hs.2.2.2.1 hg hr, boxed_keep hs.2.2.2.2 hg hr⟩
theorem takeX_own (b : Nat) : Own (takeX b) := by
  rintro s A B row ⟨p, x, h1, h2, h3, h4, h5, h6⟩ hg hr
  exact ⟨p, x, h1, h2, h3, boxed_keep h4 hg hr, boxed_keep h5 hg hr, boxed_keep h6 hg hr⟩
theorem takeOnV {b : Nat} {pre : List (Fin 10 × UInt8)} {x : Fin 10 × UInt8} {W : World} (hgo : ∀ y ∈ pre, goesOn y) (hx : goesOn x)
    (b0 : Boxed W b 123 (.int .u64 0)) (b1 : Boxed W (b + 1) 3 (.int .i64 0)) (b2 : Boxed W (b + 2) 31 (.int .i64 0)) (b3 : Boxed W (b + 3) 123 (.int .u64 (accOf pre))) :
    takeI b (pre ++ [x]) (W.setCell ⟨b + 3, 0, none⟩ (.int .u64 (orstep (accOf pre) x))) := by
  refine ⟨fun y hy => ?_, boxed_set b0 _ (by omega), boxed_set b1 _ (by omega), boxed_set b2 _ (by omega), ?_⟩
  · rcases List.mem_append.1 hy with h | h
    · exact hgo y h
    · obtain rfl := List.mem_singleton.1 h; exact hx
  · rw [accOf_snoc]; exact b3.set _
theorem told_eq {t q : Int × Int × Int} (h : t = q) : Ending.returned (.tuple #[.int .u64 t.1, .int .i64 t.2.1, .int .i64 t.2.2]) = .returned (.tuple #[.int .u64 q.1, .int .i64 q.2.1, .int .i64 q.2.2]) := by rw [h]
set_option maxRecDepth 100000 in
set_option maxHeartbeats 4000000 in
theorem Take_any (s : ByteArray) (hs : s.size ≤ maxLen) (w : World) :
    Calls Tryz.prog 110 #[.string s] w fun e w' => e = .returned (.tuple #[.int .u64 ((vtake s.data.toList).1 : Nat), .int .i64 ((vtake s.data.toList).2.1 : Nat), .int .i64 ((vtake s.data.toList).2.2 : Nat)]) ∧ Below w.heap.size w w' := by
  refine (callsIn_wide (n := 5)).1 ?_
  have hro : Fence.wide.round = none := rfl
  refine callsIn_of_wp_marks Tryz.func110 rfl trivial ?_ hro
  simp only [Tryz.ntmps110, List.size_toArray, List.length_cons, List.length_nil, Nat.reduceAdd, Nat.reduceSub, Array.replicate_succ, Array.replicate_zero, List.push_toArray, List.append_toArray, List.nil_append, List.cons_append]
  gi_wp2_with (refine ⟨trivial, ?_⟩; gi_at_call 118; refine (callsIn_wide.2 (firstBytes_any s _)).mono ?_; rintro e w' ⟨rfl, rfl⟩)
  have hB0 : Below w.heap.size w (((((w.alloc (.cells #[.int .u64 0] 123)).alloc (.cells #[.int .i64 0] 3)).alloc (.cells #[.int .i64 0] 31)).alloc (.cells #[.int .u64 0] 123)).alloc (.cells #[.string s] 9)) :=
    (((((Below.refl _ w).alloc (Nat.le_refl _) _).alloc (by simp) _).alloc (by simp; omega) _).alloc (by simp; omega) _).alloc (by simp; omega) _
  have hs0 := Boxed.new ((((w.alloc (.cells #[.int .u64 0] 123)).alloc (.cells #[.int .i64 0] 3)).alloc (.cells #[.int .i64 0] 31)).alloc (.cells #[.int .u64 0] 123)) 9 (.string s)
  have hI0 : takeI w.heap.size [] (((((w.alloc (.cells #[.int .u64 0] 123)).alloc (.cells #[.int .i64 0] 3)).alloc (.cells #[.int .i64 0] 31)).alloc (.cells #[.int .u64 0] 123)).alloc (.cells #[.string s] 9)) := by
    have h0 := ((((Boxed.new w 123 (.int .u64 0)).alloc (.cells #[.int .i64 0] 3)).alloc (.cells #[.int .i64 0] 31)).alloc (.cells #[.int .u64 0] 123)).alloc (.cells #[.string s] 9)
    have h1 := (((Boxed.new (w.alloc (.cells #[.int .u64 0] 123)) 3 (.int .i64 0)).alloc (.cells #[.int .i64 0] 31)).alloc (.cells #[.int .u64 0] 123)).alloc (.cells #[.string s] 9)
    have h2 := ((Boxed.new ((w.alloc (.cells #[.int .u64 0] 123)).alloc (.cells #[.int .i64 0] 3)) 31 (.int .i64 0)).alloc (.cells #[.int .u64 0] 123)).alloc (.cells #[.string s] 9)
    have h3 := (Boxed.new (((w.alloc (.cells #[.int .u64 0] 123)).alloc (.cells #[.int .i64 0] 3)).alloc (.cells #[.int .i64 0] 31)) 123 (.int .u64 0)).alloc (.cells #[.string s] 9)
    simp only [World.size_alloc] at h0 h1 h2 h3
    exact ⟨by simp, h0, h1, h2, h3⟩
  simp only [World.size_alloc] at hs0
  have hs0' : Boxed (((((w.alloc (.cells #[.int .u64 0] 123)).alloc (.cells #[.int .i64 0] 3)).alloc (.cells #[.int .i64 0] 31)).alloc (.cells #[.int .u64 0] 123)).alloc (.cells #[.string s] 9)) (w.heap.size + 4) 9 (.string s) := hs0
  refine wpIn_rangeFunc_ownF hro (by decide) (gf := 126) (lb := #[.pointer (some ⟨w.heap.size + 4, 0, none⟩)]) rfl trivial (enters_of Tryz.func126 (by kernel_rfl) rfl)
    (firstBytes1_stops Fence.wide 4 trivial hro (by decide) (w.heap.size + 4) s hs _ hs0') (fun h k => fun x => k (h x)) (fun W l o o' hl h _ _ hb => hb.kept (grownBy_putObj' W l o') (fun e => by cases e; simp at hl; omega)) (Below.refl _ _) (fun _ => rfl)
    (fun pre W => takeI w.heap.size pre W ∧ Below w.heap.size w W)
    (fun c pre W => (c = .ret ∧ takeX w.heap.size pre W) ∧ Below w.heap.size w W)
    (OwnFrom.and (Own.from (takeI_own _) _) (ownFrom_below (Nat.le_refl _) (by simp; omega)))
    (fun c => OwnFrom.and (Own.from (fun s A B row hs hg hr => ⟨hs.1, takeX_own _ s A B row hs.2 hg hr⟩) _) (ownFrom_below (Nat.le_refl _) (by simp; omega)))
    ⟨hI0, hB0⟩
    (fun x => { tmps := #[.string s, undef, .pointer (some ⟨w.heap.size, 0, none⟩), .pointer (some ⟨w.heap.size + 1, 0, none⟩), .pointer (some ⟨w.heap.size + 2, 0, none⟩), .pointer (some ⟨w.heap.size + 3, 0, none⟩), .int .i64 (x.1.val : Nat), .int .u8 x.2.toNat, .string s, .func (.func 126) #[] #[.pointer (some ⟨w.heap.size + 4, 0, none⟩)], .int .i64 (x.1.val : Nat), .int .u8 x.2.toNat, undef, undef, undef, undef, undef, undef, undef, undef, undef, undef, undef, undef, undef, undef, undef, undef, undef, undef, undef, undef, undef, undef, undef, undef, undef], defers := [] }) ?assign ?body ?done ?stop
  case assign =>
    intro l x W K hK
    gi_wp2
    exact hK
  case body =>
    rintro l pre ⟨⟨i, hi⟩, b⟩ W ⟨⟨hgo, b0, b1, b2, b3⟩, hB⟩ hlen
    have c0 := b0.cell; have c1 := b1.cell; have c2 := b2.cell; have c3 := b3.cell
    have f0 := b0.frozen; have f1 := b1.frozen; have f2 := b2.frozen; have f3 := b3.frozen
    have hbb : b.toNat < 256 := b.toNat_lt
    clear hB0 hs0 hs0' hI0
    by_cases hA : i = 9 ∧ 1 < b.toNat
    · obtain ⟨h9, h1⟩ := hA
      have h9' : (((i : Nat) : Int) == 9) = true := by rw [h9]; rfl
      have H9 := Lib.hid h9; clear h9
      gi_wp2
      obtain ⟨q0, q1, q2, q3, q4⟩ := three_set b0 b1 b2 (.int .u64 0) (.int .i64 0) (.int .i64 4)
      have ht : told (accOf pre) (⟨i, hi⟩, b) = (0, 0, 4) := by simp only [told]; rw [if_pos ⟨H9.out, h1⟩]
      exact ⟨q3, ⟨rfl, pre, _, rfl, hgo, .inl ⟨H9.out, h1⟩, by rw [ht]; exact q0, by rw [ht]; exact q1, by rw [ht]; exact q2⟩, hB.trans q4⟩
    · have hAw : (((i : Nat) : Int) == 9) = false ∨ ((((i : Nat) : Int) == 9) = true ∧ b.toNat ≤ 1) := by
        by_cases h9 : i = 9
        · right; exact ⟨by rw [h9]; rfl, by omega⟩
        · left; exact beq_eq_false_iff_ne.2 (by omega)
      have HA := Lib.hid hA; clear hA
      have hsh := take_shift b hi
      gi_upto_region 5 with fail
      dsimp only
      gi_cut [17] from 12 (fun s17 wx => s17 = .bool false ∧ W = wx)
      case first =>
        rcases hAw with h9' | ⟨h9', hb1⟩
        · gi_wp2; gi_meet; exact ⟨rfl, rfl⟩
        · have hng : ¬ (1 : Int) < (b.toNat : Int) := by omega
          have hd : decide ((1 : Int) < (b.toNat : Int)) = false := decide_eq_false hng
          gi_wp2; gi_meet; exact ⟨by simp, rfl⟩
      case rest =>
        obtain ⟨rfl, rfl⟩ := hcut
        clear hAw
        gi_upto_region 7 with fail
        gi_cut [] from 12 (fun wx => wx = (W.setCell ⟨w.heap.size + 3, 0, none⟩ (.int .u64 (orstep (accOf pre) (⟨i, hi⟩, b)))).drew)
        case first =>
          gi_region
          all_goals (gi_wp2; gi_meet; exact rfl)
        case rest =>
          subst hcut
          clear hsh
          have hon : 128 ≤ b.toNat → takeI w.heap.size (pre ++ [(⟨i, hi⟩, b)]) ((W.setCell ⟨w.heap.size + 3, 0, none⟩ (.int .u64 (orstep (accOf pre) (⟨i, hi⟩, b)))).drew) := fun h128 => takeOnV (b := w.heap.size) (x := (⟨i, hi⟩, b)) hgo ⟨h128, HA.out⟩ b0 b1 b2 b3
          have e0 : Boxed ((W.setCell ⟨w.heap.size + 3, 0, none⟩ (.int .u64 (orstep (accOf pre) (⟨i, hi⟩, b)))).drew) w.heap.size 123 (.int .u64 0) := boxed_set b0 _ (by omega)
          have e1 : Boxed ((W.setCell ⟨w.heap.size + 3, 0, none⟩ (.int .u64 (orstep (accOf pre) (⟨i, hi⟩, b)))).drew) (w.heap.size + 1) 3 (.int .i64 0) := boxed_set b1 _ (by omega)
          have e2 : Boxed ((W.setCell ⟨w.heap.size + 3, 0, none⟩ (.int .u64 (orstep (accOf pre) (⟨i, hi⟩, b)))).drew) (w.heap.size + 2) 31 (.int .i64 0) := boxed_set b2 _ (by omega)
          have e3 : Boxed ((W.setCell ⟨w.heap.size + 3, 0, none⟩ (.int .u64 (orstep (accOf pre) (⟨i, hi⟩, b)))).drew) (w.heap.size + 3) 123 (.int .u64 (orstep (accOf pre) (⟨i, hi⟩, b))) := b3.set _
          have hk : KeepsOthers W ((W.setCell ⟨w.heap.size + 3, 0, none⟩ (.int .u64 (orstep (accOf pre) (⟨i, hi⟩, b)))).drew) := (KeepsOthers.setCell _ _ _).trans (KeepsOthers.drew _)
          have hbl : Below w.heap.size W ((W.setCell ⟨w.heap.size + 3, 0, none⟩ (.int .u64 (orstep (accOf pre) (⟨i, hi⟩, b)))).drew) := Below.drew ((Below.refl w.heap.size W).setCell (p := ⟨w.heap.size + 3, 0, none⟩) (by simp) _)
          have hbx : KeepsBox (w.heap.size + 4) 9 (.string s) W ((W.setCell ⟨w.heap.size + 3, 0, none⟩ (.int .u64 (orstep (accOf pre) (⟨i, hi⟩, b)))).drew) := fun hx => boxed_set hx _ (by omega)
          generalize (W.setCell ⟨w.heap.size + 3, 0, none⟩ (.int .u64 (orstep (accOf pre) (⟨i, hi⟩, b)))).drew = W1 at *
          clear b0 b1 b2 b3 c0 c1 c2 c3 f0 f1 f2 f3
          have c0 := e0.cell; have c1 := e1.cell; have c2 := e2.cell; have c3 := e3.cell
          have f0 := e0.frozen; have f1 := e1.frozen; have f2 := e2.frozen; have f3 := e3.frozen
          by_cases h128 : 128 ≤ b.toNat
          · have hon' := hon h128
            clear hon
            gi_wp2
            exact ⟨hk, hbx, hon', hB.trans hbl⟩
          · have hge : ¬ (128 : Int) ≤ (b.toNat : Int) := by omega
            have hend : endsAt (⟨i, hi⟩, b) := .inr (by show b.toNat < 128; omega)
            clear hon
            by_cases h0 : b.toNat = 0 ∧ 0 < i
            · have hz' : ((b.toNat : Int) == 0) = true := by rw [h0.1]; rfl
              have hi0 : (0 : Int) < (i : Int) := by omega
              have ht : told (accOf pre) (⟨i, hi⟩, b) = (0, 0, 2) := by simp only [told]; rw [if_neg HA.out, if_pos h0]
              have HT := Lib.hid ht
              obtain ⟨q0, q1, q2, q3, q4⟩ := three_set e0 e1 e2 (.int .u64 0) (.int .i64 0) (.int .i64 2)
              clear ht h0
              gi_wp2
              exact ⟨hk.trans q3, ⟨rfl, pre, _, rfl, hgo, hend, by rw [HT.out]; exact q0, by rw [HT.out]; exact q1, by rw [HT.out]; exact q2⟩, hB.trans (hbl.trans q4)⟩
            · have ht : told (accOf pre) (⟨i, hi⟩, b) = (orstep (accOf pre) (⟨i, hi⟩, b), (i : Int) + 1, 0) := by simp only [told]; rw [if_neg HA.out, if_neg h0]
              have HT := Lib.hid ht
              obtain ⟨q0, q1, q2, q3, q4⟩ := three_set e0 e1 e2 (.int .u64 (orstep (accOf pre) (⟨i, hi⟩, b))) (.int .i64 ((i : Int) + 1)) (.int .i64 0)
              have hw : (((b.toNat : Int) == 0) = false) ∨ (((b.toNat : Int) == 0) = true ∧ ¬ (0 : Int) < (i : Int)) := by
                by_cases hz : b.toNat = 0
                · right; exact ⟨by rw [hz]; rfl, by omega⟩
                · left; exact beq_eq_false_iff_ne.2 (by omega)
              clear ht h0
              rcases hw with hw | ⟨hw, hw2⟩
              all_goals
                gi_wp2
                exact ⟨hk.trans q3, ⟨rfl, pre, _, rfl, hgo, hend, by rw [HT.out]; exact q0, by rw [HT.out]; exact q1, by rw [HT.out]; exact q2⟩, hB.trans (hbl.trans q4)⟩
  case done =>
    rintro D xs W hD rfl ⟨⟨hgo, b0, b1, b2, b3⟩, hB⟩ hK
    have c0 := b0.cell; have c1 := b1.cell; have c2 := b2.cell
    have f0 := b0.frozen; have f1 := b1.frozen; have f2 := b2.frozen
    obtain ⟨q0, q1, q2, q3, q4⟩ := three_set b0 b1 b2 (.int .u64 0) (.int .i64 0) (.int .i64 1)
    have HT := Lib.hid (take_done hgo)
    clear hB0 hs0 hs0' hI0 hgo
    gi_wp2
    have hK' := q3.same D _ hK rfl
    refine ⟨by simp, .inl ⟨_, _, rfl, run_takeDeferred hK', ?_⟩⟩
    have d0 := cell_kept q0.cell (grownBy_putObj' _ D (.deferred none)) (fun r e => by cases e; exact ⟨_, hK', rfl⟩)
    have d1 := cell_kept q1.cell (grownBy_putObj' _ D (.deferred none)) (fun r e => by cases e; exact ⟨_, hK', rfl⟩)
    have d2 := cell_kept q2.cell (grownBy_putObj' _ D (.deferred none)) (fun r e => by cases e; exact ⟨_, hK', rfl⟩)
    refine ⟨.tuple #[.int .u64 0, .int .i64 0, .int .i64 1], ?_, by rw [HT.out]; rfl, ((hB.trans q4).trans (belowK_b (w := w) (Nat.le_refl _) _ D _ _ (by simp at hD; omega) hK' rfl rfl))⟩
    simp [results, Tryz.f110, go_sem, d0, d1, d2]
  case stop =>
    rintro D c pre W hD hpre ⟨⟨rfl, p, x, hpx, hgo, hend, q0, q1, q2⟩, hB⟩ hK
    have HT := Lib.hid (take_end (by rw [← hpx]; exact hpre) hgo hend)
    clear hB0 hs0 hs0' hI0 hgo hend hpre hpx
    gi_wp2
    refine ⟨by simp, .inl ⟨_, _, rfl, run_takeDeferred hK, ?_⟩⟩
    have d0 := cell_kept q0.cell (grownBy_putObj' _ D (.deferred none)) (fun r e => by cases e; exact ⟨_, hK, rfl⟩)
    have d1 := cell_kept q1.cell (grownBy_putObj' _ D (.deferred none)) (fun r e => by cases e; exact ⟨_, hK, rfl⟩)
    have d2 := cell_kept q2.cell (grownBy_putObj' _ D (.deferred none)) (fun r e => by cases e; exact ⟨_, hK, rfl⟩)
    refine ⟨.tuple #[.int .u64 (told (accOf p) x).1, .int .i64 (told (accOf p) x).2.1, .int .i64 (told (accOf p) x).2.2], ?_, told_eq HT.out, (hB.trans (belowK_b (w := w) (Nat.le_refl _) W D _ _ (by simp at hD; omega) hK rfl rfl))⟩
    clear HT
    generalize told (accOf p) x = y at *
    simp [results, Tryz.f110, go_sem, d0, d1, d2]
end Go.Proofs.YtalknbadakfppaaGreat
set_option linter.unusedVariables false
namespace Go.Proofs.YtalknbadakfppaaGreat
open Go.RowKit
theorem bytes_append (a : List UInt8) (s : ByteArray) : (⟨a.toArray⟩ : ByteArray) ++ s = ⟨(a ++ s.data.toList).toArray⟩ := by
  apply ByteArray.ext
  rw [ByteArray.data_append]
  simp
set_option maxRecDepth 100000 in
theorem PutText_any (s : ByteArray) (hs : s.size ≤ maxLen) (w : World) :
    Calls Tryz.prog 58 #[.string s] w fun e w' => e = .returned (.string ⟨(vputText s.data.toList).toArray⟩) ∧ Below w.heap.size w w' := by
  have hsm : s.size ≤ 9223372036854775807 := by unfold maxLen at hs; omega
  have HS := Lib.hid (Lib.size_eq s)
  by_cases h : s.size ≤ 65536
  · have hu : U64 s.size := by unfold U64; omega
    have hv : vputText s.data.toList = vput s.size ++ s.data.toList := by rw [vputText, if_neg (by rw [← HS.out]; omega), ← HS.out]
    have HV := Lib.hid hv; clear hv
    have hl := vput_len s.size
    have hsum : ¬ 9223372036854775807 < (vput s.size).length + s.size := by omega
    go_enter Tryz.func58, Tryz.ntmps58
    go_wp2_with (go_at_call 85; refine (Put_any _ hu _).mono ?_; rintro e w' ⟨rfl, hb⟩)
    go_ret
    exact ⟨by rw [HV.out]; exact congrArg (fun x => Ending.returned (.string x)) (bytes_append _ s), hb⟩
  · have hv : vputText s.data.toList = [] := by rw [vputText, if_pos (by rw [← HS.out]; omega)]
    have HV := Lib.hid hv; clear hv
    go_enter Tryz.func58, Tryz.ntmps58
    go_wp2
    go_ret
    exact ⟨by rw [HV.out]; rfl, Below.refl _ _⟩
set_option maxRecDepth 100000 in
theorem refPutText_any (s : ByteArray) (hs : s.size ≤ maxLen) (w : World) :
    Calls Tryz.prog 82 #[.string s] w fun e w' => e = .returned (.string ⟨(vputText s.data.toList).toArray⟩) ∧ Below w.heap.size w w' := by
  have hsm : s.size ≤ 9223372036854775807 := by unfold maxLen at hs; omega
  have HS := Lib.hid (Lib.size_eq s)
  by_cases h : s.size ≤ 65536
  · have hu : U64 s.size := by unfold U64; omega
    have hv : vputText s.data.toList = vput s.size ++ s.data.toList := by rw [vputText, if_neg (by rw [← HS.out]; omega), ← HS.out]
    have HV := Lib.hid hv; clear hv
    have hl := vput_len s.size
    have hsum : ¬ 9223372036854775807 < (vput s.size).length + s.size := by omega
    go_enter Tryz.func82, Tryz.ntmps82
    go_wp2_with (go_at_call 100; refine (refPut_any _ hu _).mono ?_; rintro e w' ⟨rfl, hb⟩)
    go_ret
    exact ⟨by rw [HV.out]; exact congrArg (fun x => Ending.returned (.string x)) (bytes_append _ s), hb⟩
  · have hv : vputText s.data.toList = [] := by rw [vputText, if_pos (by rw [← HS.out]; omega)]
    have HV := Lib.hid hv; clear hv
    go_enter Tryz.func82, Tryz.ntmps82
    go_wp2
    go_ret
    exact ⟨by rw [HV.out]; rfl, Below.refl _ _⟩
theorem takeText_of {l : List UInt8} {n k e : Nat} (h : vtake l = (n, k, e)) :
    vtakeText l = if e ≠ 0 then ([], 0, e) else if 65536 < n then ([], 0, 4) else if l.length < k + n then ([], 0, 1) else ((l.drop k).take n, k + n, 0) := by
  rw [vtakeText, h]
theorem three_of {a b c d e f : Value} (h1 : b = e ∧ c = f) (h : a = d) : Ending.returned (.tuple #[a, b, c]) = .returned (.tuple #[d, e, f]) := by rw [h, h1.1, h1.2]
theorem piece_eq (s : ByteArray) (k n : Nat) : Value.string (s.extract k (k + n)) = .string ⟨((s.data.toList.drop k).take n).toArray⟩ := by
  rw [Lib.extract_eq]; congr 4; omega
theorem run_slice_nat {P : Program} {t : TypeId} (ht : P.underlying t = some .string) (s : ByteArray) (k n : Nat) (h : k + n ≤ s.size) (w : World) :
    (Instr.slice t (.string s) (some (.int .i64 (k : Int))) (some (.int .i64 ((k : Int) + (n : Int)))) none).run P w = .ok (.string (s.extract k (k + n))) w := by
  have := run_slice_str ht s k ((k : Int) + n) (by omega) (by omega) (by omega) w
  rw [this]; congr 3 <;> omega
set_option maxRecDepth 100000 in
set_option maxHeartbeats 1000000 in
theorem TakeText_any (s : ByteArray) (hs : s.size ≤ maxLen) (w : World) :
    Calls Tryz.prog 98 #[.string s] w fun e w' => e = .returned (.tuple #[.string ⟨(vtakeText s.data.toList).1.toArray⟩, .int .i64 ((vtakeText s.data.toList).2.1 : Nat), .int .i64 ((vtakeText s.data.toList).2.2 : Nat)]) ∧ Below w.heap.size w w' := by
  have hsm : s.size ≤ 9223372036854775807 := by unfold maxLen at hs; omega
  have HS := Lib.hid (Lib.size_eq s)
  have hc := Take_any s hs w
  obtain ⟨n, k, e, hv⟩ : ∃ n k e, vtake s.data.toList = (n, k, e) := ⟨_, _, _, rfl⟩
  rw [hv] at hc
  have HV := Lib.hid (takeText_of hv)
  by_cases he : e = 0
  · subst he
    obtain ⟨h1, h2, h3, h4, h5⟩ := put_take hv
    clear h1
    rw [← HS.out] at h3
    by_cases hn : n ≤ 65536
    · by_cases hl : s.size < k + n
      · have HR := Lib.hid (show vtakeText s.data.toList = ([], 0, 1) by rw [HV.out, if_neg (by simp), if_neg (by omega), if_pos (by rw [← HS.out]; exact hl)])
        clear hv
        go_enter Tryz.func98, Tryz.ntmps98
        go_wp2_with (go_at_call 110; refine hc.mono ?_; rintro e w' ⟨rfl, hb⟩)
        go_ret3
        exact ⟨by rw [HR.out]; rfl, hb⟩
      · have HR := Lib.hid (show vtakeText s.data.toList = ((s.data.toList.drop k).take n, k + n, 0) by rw [HV.out, if_neg (by simp), if_neg (by omega), if_neg (by rw [← HS.out]; exact hl)])
        clear hv
        have hpc : (s.extract k (k + n)).size ≤ 281474976710656 := by rw [ByteArray.size_extract]; omega
        have hsl := fun W => run_slice_nat (P := Tryz.prog) Tryz.underlying9 s k n (by omega) W
        go_enter Tryz.func98, Tryz.ntmps98
        go_wp2_with (first | (go_at_call 110; refine hc.mono ?_; rintro e w' ⟨rfl, hb⟩) | (go_at_call 91; refine (Clone_any _ _ hpc).mono ?_; rintro e w2 ⟨rfl, hb2⟩))
        go_ret3
        exact ⟨by rw [HR.out]; exact three_of ⟨congrArg (Value.int .i64) (Int.natCast_add k n).symm, rfl⟩ (piece_eq s k n), hb.trans (hb2.mono hb.size)⟩
    · have HR := Lib.hid (show vtakeText s.data.toList = ([], 0, 4) by rw [HV.out, if_neg (by simp), if_pos (by omega)])
      clear hv
      have hn' : (65536 : Int) < (n : Int) := by omega
      go_enter Tryz.func98, Tryz.ntmps98
      go_wp2_with (go_at_call 110; refine hc.mono ?_; rintro e w' ⟨rfl, hb⟩)
      go_ret3
      exact ⟨by rw [HR.out]; rfl, hb⟩
  · obtain ⟨rfl, rfl, he4⟩ := vtake_err hv he
    have HR := Lib.hid (show vtakeText s.data.toList = ([], 0, e) by rw [HV.out, if_pos he])
    clear hv
    have he' : (!((e : Int) == 0)) = true := by simp; omega
    have he2 : ((e : Int) != 0) = true := by simp; omega
    go_enter Tryz.func98, Tryz.ntmps98
    go_wp2_with (go_at_call 110; refine hc.mono ?_; rintro e w' ⟨rfl, hb⟩)
    go_ret3
    exact ⟨by rw [HR.out]; rfl, hb⟩
set_option maxRecDepth 100000 in
set_option maxHeartbeats 2000000 in
theorem refTake_any (s : ByteArray) (hs : s.size ≤ maxLen) (w : World) :
    Calls Tryz.prog 111 #[.string s] w fun e w' => e = .returned (.tuple #[.int .u64 ((vtake s.data.toList).1 : Nat), .int .i64 ((vtake s.data.toList).2.1 : Nat), .int .i64 ((vtake s.data.toList).2.2 : Nat)]) ∧ w' = w := by
  have hsm : s.size ≤ 9223372036854775807 := by unfold maxLen at hs; omega
  have HS := Lib.hid (Lib.size_eq s)
  go_enter Tryz.func111, Tryz.ntmps111
  go_wp2
  go_loop [5, 6] (fun t p => ∃ a i : Nat, t = .int .u64 a ∧ p = .int .i64 i ∧ refI s.data.toList i a) (fun _ p => 10 - (intOf p).toNat)
  case atStart => exact ⟨0, 0, rfl, rfl, refI_zero _⟩
  case round =>
    obtain ⟨a, i, rfl, rfl, hI⟩ := hrel
    have hi9 : i ≤ 9 := hI.1
    by_cases hlt : i < s.size
    · have hb : s[i].toNat < 256 := s[i].toNat_lt
      have hil : i < s.data.toList.length := by rw [← HS.out]; exact hlt
      have hbe : s.data.toList[i] = s[i] := rfl
      by_cases hA : i = 9 ∧ 1 < s[i].toNat
      · have h9 : ((i : Int) == 9) = true := by rw [hA.1]; rfl
        have h1 : (1 : Int) < (s[i].toNat : Int) := by omega
        have HV := Lib.hid (refI_range hI hil hA)
        clear hA hbe hI
        go_wp2
        go_ret3
        exact ⟨by rw [HV.out]; rfl, rfl⟩
      · have hAw : (((i : Nat) : Int) == 9) = false ∨ ((((i : Nat) : Int) == 9) = true ∧ ¬ (1 : Int) < (s[i].toNat : Int)) := by
          by_cases h9 : i = 9
          · right; exact ⟨by rw [h9]; rfl, by omega⟩
          · left; exact beq_eq_false_iff_ne.2 (by omega)
        obtain ⟨hsum, hlim⟩ := ref_sum (c := s[i].toNat) hI.2.2.1 hi9 hA hb
        obtain ⟨X, hX⟩ : ∃ X, X = a + s[i].toNat % 128 * 2 ^ (7 * i) := ⟨_, rfl⟩
        rw [← hX] at hsum hlim
        have HX := Lib.hid hX; clear hX hlim
        by_cases hc : s[i].toNat < 128
        · by_cases hz : s[i].toNat = 0 ∧ 0 < i
          · have hz1 : ((s[i].toNat : Int) == 0) = true := by rw [hz.1]; rfl
            have hz2 : (0 : Int) < (i : Int) := by omega
            have HV := Lib.hid (refI_form hI hil hA hz)
            clear hz hA hI hbe
            rcases hAw with h9 | ⟨h9, h91⟩
            all_goals
              go_wp2
              go_ret3
              exact ⟨by rw [HV.out]; rfl, rfl⟩
          · have hzw : (((s[i].toNat : Int) == 0) = false) ∨ (((s[i].toNat : Int) == 0) = true ∧ ¬ (0 : Int) < (i : Int)) := by
              by_cases h0 : s[i].toNat = 0
              · right; exact ⟨by rw [h0]; rfl, by omega⟩
              · left; exact beq_eq_false_iff_ne.2 (by omega)
            have hv : vtake s.data.toList = (X, i + 1, 0) := by
              rw [refI_last hI hil hA hz hc, HX.out, hbe, Nat.mod_eq_of_lt hc]
            have HV := Lib.hid hv
            clear hv hz hA hI hbe
            rcases hAw with h9 | ⟨h9, h91⟩ <;> rcases hzw with hz | ⟨hz, hz1⟩
            all_goals
              go_wp2
              go_ret3
              exact ⟨by rw [HV.out]; rfl, rfl⟩
        · have hc' : ¬ (s[i].toNat : Int) < 128 := by omega
          have hon := refI_on hI hil hA (by rw [hbe]; omega)
          rw [hbe, ← HX.out] at hon
          have hi8 : i ≤ 8 := by have := hon.1; omega
          have h9 : ((i : Int) == 9) = false := beq_eq_false_iff_ne.2 (by omega)
          clear hAw hA hI hbe
          go_wp2
          go_round
          case rel => exact ⟨X, i + 1, rfl, by go_num, hon⟩
          case measure => simp [intOf]; omega
    · have hge : (s.size : Int) ≤ (i : Int) := by omega
      have HV := Lib.hid (refI_short hI (by rw [← HS.out]; omega))
      clear hI
      go_wp2
      go_ret3
      exact ⟨by rw [HV.out]; rfl, rfl⟩
end Go.Proofs.YtalknbadakfppaaGreat
namespace Go.Proofs.YtalknbadakfppaaGreat
open Go.RowKit
set_option maxRecDepth 100000 in
set_option maxHeartbeats 1000000 in
theorem refTakeText_any (s : ByteArray) (hs : s.size ≤ maxLen) (w : World) :
    Calls Tryz.prog 99 #[.string s] w fun e w' => e = .returned (.tuple #[.string ⟨(vtakeText s.data.toList).1.toArray⟩, .int .i64 ((vtakeText s.data.toList).2.1 : Nat), .int .i64 ((vtakeText s.data.toList).2.2 : Nat)]) ∧ w' = w := by
  have hsm : s.size ≤ 9223372036854775807 := by unfold maxLen at hs; omega
  have HS := Lib.hid (Lib.size_eq s)
  have hc := refTake_any s hs w
  obtain ⟨n, k, e, hv⟩ : ∃ n k e, vtake s.data.toList = (n, k, e) := ⟨_, _, _, rfl⟩
  rw [hv] at hc
  have HV := Lib.hid (takeText_of hv)
  by_cases he : e = 0
  · subst he
    obtain ⟨h1, h2, h3, h4, h5⟩ := put_take hv
    clear h1
    rw [← HS.out] at h3
    by_cases hn : n ≤ 65536
    · by_cases hl : s.size < k + n
      · have HR := Lib.hid (show vtakeText s.data.toList = ([], 0, 1) by rw [HV.out, if_neg (by simp), if_neg (by omega), if_pos (by rw [← HS.out]; exact hl)])
        clear hv
        go_enter Tryz.func99, Tryz.ntmps99
        go_wp2_with (go_at_call 111; refine hc.mono ?_; rintro e w' ⟨rfl, rfl⟩)
        go_ret3
        exact ⟨by rw [HR.out]; rfl, rfl⟩
      · have HR := Lib.hid (show vtakeText s.data.toList = ((s.data.toList.drop k).take n, k + n, 0) by rw [HV.out, if_neg (by simp), if_neg (by omega), if_neg (by rw [← HS.out]; exact hl)])
        clear hv
        have hsl := fun W => run_slice_nat (P := Tryz.prog) Tryz.underlying9 s k n (by omega) W
        go_enter Tryz.func99, Tryz.ntmps99
        go_wp2_with (go_at_call 111; refine hc.mono ?_; rintro e w' ⟨rfl, rfl⟩)
        go_ret3
        exact ⟨by rw [HR.out]; exact three_of ⟨congrArg (Value.int .i64) (Int.natCast_add k n).symm, rfl⟩ (piece_eq s k n), rfl⟩
    · have HR := Lib.hid (show vtakeText s.data.toList = ([], 0, 4) by rw [HV.out, if_neg (by simp), if_pos (by omega)])
      clear hv
      have hn' : (65536 : Int) < (n : Int) := by omega
      go_enter Tryz.func99, Tryz.ntmps99
      go_wp2_with (go_at_call 111; refine hc.mono ?_; rintro e w' ⟨rfl, rfl⟩)
      go_ret3
      exact ⟨by rw [HR.out]; rfl, rfl⟩
  · obtain ⟨rfl, rfl, he4⟩ := vtake_err hv he
    have HR := Lib.hid (show vtakeText s.data.toList = ([], 0, e) by rw [HV.out, if_pos he])
    clear hv
    have he' : (!((e : Int) == 0)) = true := by simp; omega
    have he2 : ((e : Int) != 0) = true := by simp; omega
    go_enter Tryz.func99, Tryz.ntmps99
    go_wp2_with (go_at_call 111; refine hc.mono ?_; rintro e w' ⟨rfl, rfl⟩)
    go_ret3
    exact ⟨by rw [HR.out]; rfl, rfl⟩
end Go.Proofs.YtalknbadakfppaaGreat
set_option linter.unusedVariables false
namespace Go.Proofs.YtalknbadakfppaaGreat
open Go.RowKit
theorem ret_int {k : IntKind} {a b : Int} (h : a = b) : Ending.returned (.int k a) = .returned (.int k b) := by rw [h]
theorem and1 (n : Nat) (h : U32 n) : bits .and .u32 (n : Int) 1 = ((n % 2 : Nat) : Int) := by
  have := u32_and_nat n 1 h (by decide)
  rw [nat_mask1] at this; exact this
theorem and15 (n : Nat) (h : U32 n) : bits .and .u32 (n : Int) 15 = ((n % 16 : Nat) : Int) := by
  have := u32_and_nat n 15 h (by decide)
  rw [nat_mask4] at this; exact this
def halfI (x : Int) : Int := bits .xor .u32 (x / 16) ((bits4 (bits .and .u32 x 15).toNat : Nat) : Int)
theorem halfI_eq (n : Nat) (h : U32 n) : halfI n = ((bits4 n : Nat) : Int) := by
  unfold halfI
  rw [and15 n h, show ((n % 16 : Nat) : Int).toNat = n % 16 from Int.toNat_natCast _, show (n : Int) / 16 = ((n / 16 : Nat) : Int) by omega,
    u32_xor_nat _ _ (by unfold U32 at h; omega) (bits4_lt (by unfold U32; omega)), half_step]
theorem ret_val_Crw {k : IntKind} {a b : Int} (h : a = b) : Value.int k a = .int k b := by rw [h]
set_option maxRecDepth 100000 in
set_option maxHeartbeats 1000000 in
theorem bitGone_any (n : Nat) (hn : U32 n) (w : World) : Calls Tryz.prog 127 #[.int .u32 n] w fun e w' => e = .returned (.int .u32 (bitG n)) ∧ w = w' := by
  have hn' : n < 4294967296 := hn
  by_cases h : n % 2 = 1
  · have hb : (bits .and .u32 (n : Int) 1 == 1) = true := by rw [and1 n hn, h]; rfl
    have H := Lib.hid h; clear h
    go_enter Tryz.func127, Tryz.ntmps127
    go_wp2
    go_ret
    refine ⟨ret_int ?_, rfl⟩
    rw [show (n : Int) / 2 = ((n / 2 : Nat) : Int) by omega]
    unfold bitG
    rw [if_pos H.out]
    exact u32_xor_nat (n / 2) 2197175160 (by omega) (by decide)
  · have hb : (bits .and .u32 (n : Int) 1 == 1) = false := by rw [and1 n hn, show n % 2 = 0 by omega]; rfl
    have H := Lib.hid h; clear h
    go_enter Tryz.func127, Tryz.ntmps127
    go_wp2
    go_ret
    refine ⟨ret_int ?_, rfl⟩
    unfold bitG
    rw [if_neg H.out]
    omega
set_option maxRecDepth 100000 in
set_option maxHeartbeats 1000000 in
theorem step_any (B : Nat) (r b : Nat) (hr : U32 r) (hb : b < 256) (w : World) (hc : ∀ h : Nat, h < 16 → w.cell? ⟨B, h, none⟩ = some (.int .u32 (bits4 h))) :
    Calls Tryz.prog 120 #[.int .u32 r, .int .u8 b, .pointer (some ⟨B, 0, none⟩)] w fun e w' => e = .returned (.int .u32 (bits8 (r ^^^ b))) ∧ w = w' := by
  have hr' : r < 4294967296 := hr
  have ex : bits .xor .u32 (r : Int) (b : Int) = ((r ^^^ b : Nat) : Int) := u32_xor_nat r b hr (by omega)
  have hx := xor_u32 hr (show U32 b by unfold U32; omega)
  have h4 := bits4_lt hx
  have e1 := halfI_eq (r ^^^ b) hx
  have e2 := halfI_eq (bits4 (r ^^^ b)) h4
  have i1 : 0 ≤ bits .and .u32 (bits .xor .u32 (r : Int) (b : Int)) 15 ∧ bits .and .u32 (bits .xor .u32 (r : Int) (b : Int)) 15 < 16 := by
    rw [ex, and15 _ hx]; omega
  have i2 : 0 ≤ bits .and .u32 (halfI (bits .xor .u32 (r : Int) (b : Int))) 15 ∧ bits .and .u32 (halfI (bits .xor .u32 (r : Int) (b : Int))) 15 < 16 := by
    rw [ex, e1, and15 _ h4]; omega
  unfold halfI at i2
  have EX := Lib.hid ex; have E1 := Lib.hid e1; have E2 := Lib.hid e2
  clear ex e1 e2
  go_enter Tryz.func120, Tryz.ntmps120
  go_wp2
  go_ret
  refine ⟨ret_int ?_, rfl⟩
  show halfI (halfI (bits .xor .u32 (r : Int) (b : Int))) = _
  rw [EX.out, E1.out, E2.out]; rfl
theorem crcF_snoc (r : Nat) (l : List UInt8) (b : UInt8) : crcF r (l ++ [b]) = bits8 (crcF r l ^^^ b.toNat) := by
  rw [crcF_append]; rfl
theorem take_snoc (s : ByteArray) (k : Nat) (h : k < s.size) : s.data.toList.take (k + 1) = s.data.toList.take k ++ [s[k]] := by
  rw [List.take_succ_eq_append_getElem (by simpa using h)]; rfl
set_option maxRecDepth 100000 in
set_option maxHeartbeats 1000000 in
theorem fold_any (B : Nat) (r : Nat) (hr : U32 r) (s : ByteArray) (hs : s.size ≤ maxLen) (w : World) (hc : ∀ h : Nat, h < 16 → w.cell? ⟨B, h, none⟩ = some (.int .u32 (bits4 h))) :
    Calls Tryz.prog 113 #[.int .u32 r, .string s, .func (.func 120) #[] #[.pointer (some ⟨B, 0, none⟩)]] w
      fun e w' => e = .returned (.int .u32 (crcF r s.data.toList)) ∧ w = w' := by
  unfold maxLen at hs
  have HC := Lib.hid hc; clear hc
  go_enter Tryz.func113, Tryz.ntmps113
  go_wp2
  go_loop [0, 10] (fun x i => ∃ k : Nat, k ≤ s.size ∧ i = .int .i64 k ∧ x = .int .u32 (crcF r (s.data.toList.take k))) (fun _ i => s.size - (intOf i).toNat)
  case atStart => exact ⟨0, Nat.zero_le _, rfl, rfl⟩
  case round =>
    obtain ⟨k, hk, rfl, rfl⟩ := hrel
    by_cases hlt : k < s.size
    · have hd := crcF_lt hr (s.data.toList.take k)
      have e : crcF r (s.data.toList.take (k + 1)) = bits8 (crcF r (s.data.toList.take k) ^^^ s[k].toNat) := by rw [take_snoc s k hlt, crcF_snoc]
      have E := Lib.hid e; clear e
      have hu := s[k].toNat_lt
      go_wp2_with fail
      refine (step_any B _ _ hd hu _ HC.out).mono ?_
      rintro e w1 ⟨rfl, rfl⟩
      go_wp2
      go_round
      case rel => exact ⟨k + 1, by omega, by go_num, by rw [E.out]⟩
      case measure => simp [intOf]; omega
    · go_wp2
      go_ret
      exact ⟨ret_int (by rw [List.take_of_length_le (by simp; omega)]), rfl⟩
def tabRow (k : Nat) : Array Value := ((List.range 16).map fun h => Value.int .u32 (if h < k then ((bits4 h : Nat) : Int) else 0)).toArray
theorem tabRow_size (k : Nat) : (tabRow k).size = 16 := by simp [tabRow]
theorem tabRow_get (k h : Nat) (hh : h < 16) : (tabRow k)[h]? = some (.int .u32 (if h < k then ((bits4 h : Nat) : Int) else 0)) := by
  simp [tabRow, hh]
theorem tabRow_set (k : Nat) (hk : k < 16) : (tabRow k).setIfInBounds k (.int .u32 ((bits4 k : Nat) : Int)) = tabRow (k + 1) := by
  apply Array.ext_getElem?
  intro i
  rw [Array.getElem?_setIfInBounds, tabRow_size]
  by_cases h : i < 16
  · rw [tabRow_get _ _ h, tabRow_get _ _ h]
    by_cases e : k = i
    · subst e; simp [hk]
    · rw [if_neg e]
      by_cases hi : i < k
      · rw [if_pos hi, if_pos (by omega)]
      · rw [if_neg hi, if_neg (by omega)]
  · rw [Array.getElem?_eq_none (by rw [tabRow_size]; omega), Array.getElem?_eq_none (by rw [tabRow_size]; omega)]
    by_cases e : k = i
    · omega
    · rw [if_neg e]
def bitN : Nat → Nat → Nat
  | 0, n => n
  | j + 1, n => bitG (bitN j n)
theorem bitN_lt (j : Nat) {n : Nat} (h : U32 n) : U32 (bitN j n) := by
  induction j with
  | zero => exact h
  | succ j ih => exact bitG_lt ih
def TabAt (w : World) (B : Nat) (k : Nat) (W : World) : Prop := W.heap[B]? = some (.cells (tabRow k) 165 (0, 0)) ∧ W.heap[B - 1]? = some (.cells (tabRow 0) 165 (0, 0)) ∧ Below w.heap.size w W ∧ W.heap.size = w.heap.size + 2 ∧ B = w.heap.size + 1
theorem TabAt.cell {w W : World} {B k : Nat} (h : TabAt w B k W) (i : Nat) (hi : i < 16) : W.cell? ⟨B, i, none⟩ = some (.int .u32 (if i < k then ((bits4 i : Nat) : Int) else 0)) := by
  rw [cell_of_row W B i _ _ _ h.1, tabRow_get _ _ hi]
theorem TabAt.free {w W : World} {B k : Nat} (h : TabAt w B k W) (i : Nat) : W.frozen? ⟨B, i, none⟩ = false := frozen_of_row W B i _ _ h.1
theorem TabAt.set {w W : World} {B k : Nat} (h : TabAt w B k W) (hk : k < 16) : TabAt w B (k + 1) (W.setCell ⟨B, k, none⟩ (.int .u32 ((bits4 k : Nat) : Int))) := by
  obtain ⟨h1, h2, h3, h4, h5⟩ := h
  refine ⟨?_, ?_, h3.setCell (by show w.heap.size ≤ B; omega) _, by simp [h4], h5⟩
  · rw [heap_setCell_same W B k _ _ _ h1, tabRow_set k hk]
  · rw [heap_setCell_other _ _ _ _ (by show B - 1 ≠ B; omega)]; exact h2
theorem TabAt.init (w : World) (o : Obj) (ho : o = .cells (tabRow 0) 165) : TabAt w (w.heap.size + 1) 0 ((w.alloc o).alloc o) := by
  subst ho
  refine ⟨heap_alloc2_new _ _ _, ?_, ((Below.refl _ _).alloc (Nat.le_refl _) _).alloc (by simp) _, by simp, rfl⟩
  exact heap_alloc2_old _ _ _
set_option maxRecDepth 100000 in
set_option maxHeartbeats 1000000 in
theorem halfTable_any (w : World) :
    Calls Tryz.prog 119 #[] w fun e w' => e = .returned (.agg (tabRow 16)) ∧ Below w.heap.size w w' := by
  have H0 := TabAt.init w _ rfl
  obtain ⟨B, hB⟩ : ∃ B, B = w.heap.size + 1 := ⟨_, rfl⟩
  rw [← hB] at H0
  go_enter Tryz.func119, Tryz.ntmps119
  go_wp2
  go_loopw [4] (fun i wr => ∃ k : Nat, k ≤ 16 ∧ i = .int .i64 k ∧ TabAt w (w.heap.size + 1) k wr) (fun i _ => 16 - (intOf i).toNat)
  case atStart => exact ⟨0, by omega, rfl, TabAt.init w _ rfl⟩
  case round =>
    obtain ⟨k, hk, rfl, hT⟩ := hrel
    obtain ⟨wo, rfl⟩ : ∃ wo : World, wo = wr := ⟨_, rfl⟩
    have HT := Lib.hid hT; clear hT
    by_cases hlt : k < 16
    · have hbk : decide ((k : Int) < 16) = true := by simpa using (show (k : Int) < 16 by omega)
      go_wp2
      go_loop [3, 9] (fun x i => ∃ j : Nat, j ≤ 4 ∧ i = .int .i64 j ∧ x = .int .u32 (bitN j k)) (fun _ i => 4 - (intOf i).toNat)
      case atStart => exact ⟨0, by omega, rfl, by go_num⟩
      case round =>
        obtain ⟨j, hj, rfl, rfl⟩ := hrel
        have hu := bitN_lt j (show U32 k by unfold U32; omega)
        by_cases hjl : j < 4
        · have hbj : decide ((j : Int) < 4) = true := by simpa using (show (j : Int) < 4 by omega)
          go_wp2_with (go_at_call 127; refine (bitGone_any _ hu _).mono ?_; rintro e w1 ⟨rfl, rfl⟩)
          go_round
          case rel => exact ⟨j + 1, by omega, by go_num, rfl⟩
          case measure => simp [intOf]; omega
        · obtain rfl : j = 4 := by omega
          have hc := HT.out.cell k hlt
          have hf := HT.out.free k
          go_wp2
          go_roundw
          case rel => exact ⟨k + 1, by omega, by go_num, HT.out.set hlt⟩
          case measure => simp [intOf]; omega
    · obtain rfl : k = 16 := by omega
      have hz : tabRow 16 = tabRow 16 := rfl
      go_wp2_with (first
        | refine wpList_load_row rfl 165 _ rfl (w.heap.size + 1) rfl 165 (tabRow 16) (0, 0) _ HT.out.1 Tryz.underlying165 rfl (by rw [tabRow_size]; kernel_rfl) ?_
        | refine wpList_store_row rfl 165 _ _ rfl w.heap.size (tabRow 16) rfl rfl 165 (tabRow 0) HT.out.2.1 (by rw [tabRow_size]; kernel_rfl) (by rw [tabRow_size, tabRow_size]) (by simp [tabRow, Value.oneCell']) ?_)
      refine bodyPost_ret (v := .agg (tabRow 16)) (results_cell_row rfl _ _ w.heap.size 165 (tabRow 16) (0, 0) _ rfl (setRow_heap _ _ _ _ _ _ HT.out.2.1) Tryz.underlying165 rfl (by rw [tabRow_size]; kernel_rfl)) rfl ⟨rfl, below_setRow HT.out.2.2.1 (Nat.le_refl _) _⟩
def StepMade (w : World) (e : Ending) (w' : World) : Prop :=
  ∃ B : Nat, e = .returned (.func (.func 120) #[] #[.pointer (some ⟨B, 0, none⟩)]) ∧ w'.heap[B]? = some (.cells (tabRow 16) 165 (0, 0)) ∧ Below w.heap.size w w'
set_option maxRecDepth 100000 in
set_option maxHeartbeats 1000000 in
theorem byteStep_any (w : World) : Calls Tryz.prog 114 #[] w (StepMade w) := by
  go_enter Tryz.func114, Tryz.ntmps114
  go_wp2_with fail
  refine (halfTable_any _).mono ?_
  rintro e w1 ⟨rfl, hb1⟩
  go_wp2_with (refine wpList_store_row rfl 165 _ _ rfl w1.heap.size (tabRow 16) rfl rfl 165 (tabRow 0) (heap_alloc_new _ _) (by rw [tabRow_size]; kernel_rfl) (by rw [tabRow_size, tabRow_size]) (by simp [tabRow, Value.oneCell']) ?_)
  go_ret
  exact ⟨w1.heap.size, rfl, setRow_heap _ _ (tabRow 0) _ _ _ (heap_alloc_new _ _), below_setRow (hb1.alloc hb1.size _) hb1.size _⟩
theorem tab_cells {B : Nat} {W : World} (h : W.heap[B]? = some (.cells (tabRow 16) 165 (0, 0))) : ∀ i : Nat, i < 16 → W.cell? ⟨B, i, none⟩ = some (.int .u32 (bits4 i)) := fun i hi => by
  rw [cell_of_row W B i _ _ _ h, tabRow_get _ _ hi, if_pos hi]
theorem not32 (n : Nat) (h : U32 n) : bits .xor .u32 IntKind.u32.max (n : Int) = ((4294967295 - n : Nat) : Int) := by
  have := u32_xor_nat 4294967295 n (by decide) h
  rw [inv_xor h]; exact this
set_option maxRecDepth 100000 in
set_option maxHeartbeats 1000000 in
theorem More_any (c : Nat) (hc : U32 c) (s : ByteArray) (hs : s.size ≤ maxLen) (w : World) :
    Calls Tryz.prog 104 #[.int .u32 c, .string s] w fun e w' => e = .returned (.int .u32 (crcMore c s.data.toList)) ∧ Below w.heap.size w w' := by
  have hf := crcF_lt (inv_lt c) s.data.toList
  go_enter Tryz.func104, Tryz.ntmps104
  go_wp2_with fail
  refine (byteStep_any _).mono ?_
  rintro e w1 ⟨B, rfl, hB, hb1⟩
  have HB := Lib.hid hB; clear hB
  go_wp2_with fail
  rw [not32 c hc]
  refine (fold_any B _ (inv_lt c) s hs _ (tab_cells HB.out)).mono ?_
  rintro e w2 ⟨rfl, rfl⟩
  go_wp2
  go_ret
  exact ⟨ret_int (not32 _ hf), hb1⟩
set_option maxRecDepth 100000 in
set_option maxHeartbeats 1000000 in
theorem Sum_any (s : ByteArray) (hs : s.size ≤ maxLen) (w : World) :
    Calls Tryz.prog 87 #[.string s] w fun e w' => e = .returned (.int .u32 (crcMore 0 s.data.toList)) ∧ Below w.heap.size w w' := by
  go_enter Tryz.func87, Tryz.ntmps87
  go_wp2_with fail
  refine (More_any 0 (by unfold U32; omega) s hs _).mono ?_
  rintro e w1 ⟨rfl, hb⟩
  go_wp2
  go_ret
  exact ⟨rfl, hb⟩
set_option maxRecDepth 100000 in
set_option maxHeartbeats 1000000 in
theorem refMore_any (c : Nat) (hc : U32 c) (s : ByteArray) (hs : s.size ≤ maxLen) (w : World) :
    Calls Tryz.prog 101 #[.int .u32 c, .string s] w fun e w' => e = .returned (.int .u32 (crcMore c s.data.toList)) ∧ w = w' := by
  unfold maxLen at hs
  have hc' : c < 4294967296 := hc
  have hi : ((4294967295 - c : Nat) : Int) = 4294967295 - (c : Int) := by omega
  have HI := Lib.hid hi; clear hi
  go_enter Tryz.func101, Tryz.ntmps101
  go_wp2
  go_loop [0, 5] (fun x i => ∃ k : Nat, k ≤ s.size ∧ i = .int .i64 k ∧ x = .int .u32 (crcF (4294967295 - c) (s.data.toList.take k))) (fun _ i => s.size - (intOf i).toNat)
  case atStart => exact ⟨0, Nat.zero_le _, rfl, ret_val_Crw HI.out.symm⟩
  case round =>
    obtain ⟨k, hk, rfl, rfl⟩ := hrel
    by_cases hlt : k < s.size
    · have hbk : decide ((k : Int) < (s.size : Int)) = true := by simpa using (show (k : Int) < s.size by omega)
      have hd := crcF_lt (inv_lt c) (s.data.toList.take k)
      have hx := xor_u32 hd (byte_u32 s[k])
      have e : crcF (4294967295 - c) (s.data.toList.take (k + 1)) = bits8 (crcF (4294967295 - c) (s.data.toList.take k) ^^^ s[k].toNat) := by rw [take_snoc s k hlt, crcF_snoc]
      have e2 := u32_xor_nat _ _ hd (byte_u32 s[k])
      have hsb := s[k].toNat_lt
      have E := Lib.hid e; have E2 := Lib.hid e2; clear e e2
      go_wp2
      go_loop [0, 6] (fun x i => ∃ j : Nat, j ≤ 8 ∧ i = .int .i64 j ∧ x = .int .u32 (bitN j (crcF (4294967295 - c) (s.data.toList.take k) ^^^ s[k].toNat))) (fun _ i => 8 - (intOf i).toNat)
      case atStart => exact ⟨0, by omega, rfl, ret_val_Crw E2.out⟩
      case round =>
        obtain ⟨j, hj, rfl, rfl⟩ := hrel
        have hu := bitN_lt j hx
        obtain ⟨n, hn⟩ : ∃ n, n = bitN j (crcF (4294967295 - c) (s.data.toList.take k) ^^^ s[k].toNat) := ⟨_, rfl⟩
        rw [← hn] at hu ⊢
        have hu' : n < 4294967296 := hu
        have HN := Lib.hid hn; clear hn
        by_cases hjl : j < 8
        · have hbj : decide ((j : Int) < 8) = true := by simpa using (show (j : Int) < 8 by omega)
          by_cases h2 : n % 2 = 1
          · have hb2 : ((n : Int) % 2 == 1) = true := by rw [show (n : Int) % 2 = 1 by omega]; rfl
            have H2 := Lib.hid h2; clear h2
            go_wp2
            go_round
            case rel => exact ⟨j + 1, by omega, by go_num, ret_val_Crw (by rw [bitN, ← HN.out, bitG, if_pos H2.out, show (n : Int) / 2 = ((n / 2 : Nat) : Int) by omega]; exact u32_xor_nat (n / 2) 2197175160 (by omega) (by decide))⟩
            case measure => simp [intOf]; omega
          · have hb2 : ((n : Int) % 2 == 1) = false := by rw [show (n : Int) % 2 = 0 by omega]; rfl
            have H2 := Lib.hid h2; clear h2
            go_wp2
            go_round
            case rel => exact ⟨j + 1, by omega, by go_num, ret_val_Crw (by rw [bitN, ← HN.out, bitG, if_neg H2.out]; omega)⟩
            case measure => simp [intOf]; omega
        · obtain rfl : j = 8 := by omega
          go_wp2
          go_round
          case rel => exact ⟨k + 1, by omega, by go_num, by rw [E.out, HN.out]; rfl⟩
          case measure => simp [intOf]; omega
    · have hd := crcF_lt (inv_lt c) s.data.toList
      unfold U32 at hd
      have e : crcF (4294967295 - c) (s.data.toList.take k) = crcF (4294967295 - c) s.data.toList := by rw [List.take_of_length_le (by simp; omega)]
      rw [e]
      clear e
      go_wp2
      go_ret
      exact ⟨ret_int (by unfold crcMore; omega), rfl⟩
set_option maxRecDepth 100000 in
set_option maxHeartbeats 1000000 in
theorem refSum_any (s : ByteArray) (hs : s.size ≤ maxLen) (w : World) :
    Calls Tryz.prog 84 #[.string s] w fun e w' => e = .returned (.int .u32 (crcMore 0 s.data.toList)) ∧ w = w' := by
  go_enter Tryz.func84, Tryz.ntmps84
  go_wp2_with fail
  refine (refMore_any 0 (by unfold U32; omega) s hs _).mono ?_
  rintro e w1 ⟨rfl, rfl⟩
  go_wp2
  go_ret
  exact ⟨rfl, rfl⟩
theorem le4_str (c : Nat) (hc : U32 c) : strOfNums [(c : Int) % 256, (c : Int) / 256 % 256, (c : Int) / 65536 % 256, (c : Int) / 16777216] = ⟨(le4 c).toArray⟩ := by
  unfold strOfNums le4
  simp only [List.map_cons, List.map_nil]
  rw [show ((c : Int) % 256).toNat = c % 256 by omega, show ((c : Int) / 256 % 256).toNat = c / 256 % 256 by omega, show ((c : Int) / 65536 % 256).toNat = c / 65536 % 256 by omega, show ((c : Int) / 16777216).toNat = c / 16777216 by omega]
  rw [byte_mod, byte_mod, byte_mod]
set_option maxRecDepth 100000 in
set_option maxHeartbeats 1000000 in
theorem refBytes_any (c : Nat) (hc : U32 c) (w : World) :
    Calls Tryz.prog 83 #[.int .u32 c] w fun e w' => e = .returned (.string ⟨(le4 c).toArray⟩) ∧ Below w.heap.size w w' := by
  have hc' : c < 4294967296 := hc
  go_enter Tryz.func83, Tryz.ntmps83
  go_wp2_with (refine wpList_convert rfl _ _ (.tmp 14) rfl _ _ _ rfl (conv_row 74 5 9 Tryz.underlying74 Tryz.underlying5 Tryz.underlying9 _ w.heap.size 5 (0, 0) [(c : Int) % 256, (c : Int) / 256 % 256, (c : Int) / 65536 % 256, (c : Int) / 16777216] (heap_alloc_new _ _) 4 4 rfl) ?_)
  go_ret
  exact ⟨by rw [le4_str c hc]; rfl, (Below.refl _ _).alloc (Nat.le_refl _) _⟩
set_option maxRecDepth 100000 in
set_option maxHeartbeats 2000000 in
theorem Bytes_any (c : Nat) (hc : U32 c) (w : World) :
    Calls Tryz.prog 86 #[.int .u32 c] w fun e w' => e = .returned (.string ⟨(le4 c).toArray⟩) ∧ Below w.heap.size w w' := by
  have hc' : c < 4294967296 := hc
  go_enter Tryz.func86, Tryz.ntmps86
  go_wp2
  refine wp_loop_rounds 5 ?_; rw [rounds_succ]
  go_wp2
  rw [rounds_succ]
  go_wp2
  rw [rounds_succ]
  go_wp2
  rw [rounds_succ]
  go_wp2
  rw [rounds_succ]
  go_wp2_with (refine wpList_convert rfl _ _ (.tmp 16) rfl _ _ _ rfl (conv_row 74 5 9 Tryz.underlying74 Tryz.underlying5 Tryz.underlying9 _ w.heap.size 150 (0, 0) [(c : Int) % 256, (c : Int) / 256 % 256, (c : Int) / 65536 % 256, (c : Int) / 16777216] (heap_alloc_new _ _) 4 4 rfl) ?_)
  go_ret
  exact ⟨by rw [le4_str c hc]; rfl, (Below.refl _ _).alloc (Nat.le_refl _) _⟩
theorem size_mk_Frw (l : List UInt8) : (⟨l.toArray⟩ : ByteArray).size = l.length := by simp [ByteArray.size]
set_option maxRecDepth 100000 in
theorem bodySum_any (s : ByteArray) (hs : s.size ≤ maxLen) (w : World) :
    Calls Tryz.prog 59 #[.string s] w fun e w' => e = .returned (.string ⟨(le4 (crcMore 0 s.data.toList)).toArray⟩) ∧ Below w.heap.size w w' := by
  go_enter Tryz.func59, Tryz.ntmps59
  go_wp2_with fail
  refine (Sum_any s hs _).mono ?_
  rintro e w1 ⟨rfl, hb1⟩
  go_wp2_with fail
  refine (Bytes_any _ (crcMore_lt _ _) _).mono ?_
  rintro e w2 ⟨rfl, hb2⟩
  go_wp2
  go_ret
  exact ⟨rfl, below_step hb1 hb2⟩
theorem app_mk (a b : List UInt8) : (⟨a.toArray⟩ : ByteArray) ++ ⟨b.toArray⟩ = ⟨(a ++ b).toArray⟩ := by rw [bytes_append]
set_option maxRecDepth 100000 in
theorem Wrap_any (s : ByteArray) (hs : s.size ≤ maxLen) (w : World) :
    Calls Tryz.prog 38 #[.string s] w fun e w' => e = .returned (.string ⟨(fwrap s.data.toList).toArray⟩) ∧ Below w.heap.size w w' := by
  have hsm : s.size ≤ 9223372036854775807 := by unfold maxLen at hs; omega
  have HS := Lib.hid (Lib.size_eq s)
  by_cases h : s.size ≤ 65536
  · have HV := Lib.hid (fwrap_eq (l := s.data.toList) (by rw [← HS.out]; exact h))
    have hp := (putText_len (l := s.data.toList) (by rw [← HS.out]; exact h)).2
    rw [← HS.out] at hp
    obtain ⟨t, ht⟩ : ∃ t, t = vputText s.data.toList := ⟨_, rfl⟩
    have hP := fun w => PutText_any s hs w
    rw [← ht] at hP hp
    have HP := Lib.hid hP; have HT := Lib.hid ht
    have hl : (⟨t.toArray⟩ : ByteArray).size ≤ maxLen := by rw [size_mk_Frw]; unfold maxLen; omega
    have hsum : ¬ 9223372036854775807 < t.length + 4 := by omega
    have hB := fun w => bodySum_any ⟨t.toArray⟩ hl w
    have HB := Lib.hid hB
    clear hP hB ht
    go_enter Tryz.func38, Tryz.ntmps38
    go_wp2_with fail
    refine (HP.out _).mono ?_
    rintro e w1 ⟨rfl, hb1⟩
    go_wp2_with fail
    refine (HB.out _).mono ?_
    rintro e w2 ⟨rfl, hb2⟩
    go_wp2
    go_ret
    exact ⟨by rw [HV.out, ← HT.out]; exact congrArg (fun x => Ending.returned (.string x)) (app_mk _ _), below_step hb1 hb2⟩
  · have hv : fwrap s.data.toList = [] := by rw [fwrap, if_pos (by rw [← HS.out]; omega)]
    have HV := Lib.hid hv; clear hv
    go_enter Tryz.func38, Tryz.ntmps38
    go_wp2
    go_ret
    exact ⟨by rw [HV.out]; rfl, Below.refl _ _⟩
set_option maxRecDepth 100000 in
theorem refWrap_any (s : ByteArray) (hs : s.size ≤ maxLen) (w : World) :
    Calls Tryz.prog 57 #[.string s] w fun e w' => e = .returned (.string ⟨(fwrap s.data.toList).toArray⟩) ∧ Below w.heap.size w w' := by
  have hsm : s.size ≤ 9223372036854775807 := by unfold maxLen at hs; omega
  have HS := Lib.hid (Lib.size_eq s)
  by_cases h : s.size ≤ 65536
  · have HV := Lib.hid (fwrap_eq (l := s.data.toList) (by rw [← HS.out]; exact h))
    have hp := (putText_len (l := s.data.toList) (by rw [← HS.out]; exact h)).2
    have hp0 := (putText_len (l := s.data.toList) (by rw [← HS.out]; exact h)).1
    rw [← HS.out] at hp hp0
    obtain ⟨t, ht⟩ : ∃ t, t = vputText s.data.toList := ⟨_, rfl⟩
    have hP := fun w => refPutText_any s hs w
    rw [← ht] at hP hp hp0
    have HP := Lib.hid hP; have HT := Lib.hid ht
    have hl : (⟨t.toArray⟩ : ByteArray).size ≤ maxLen := by rw [size_mk_Frw]; unfold maxLen; omega
    have hsum : ¬ 9223372036854775807 < t.length + 4 := by omega
    have hne : t ≠ [] := fun e => by rw [e] at hp0; simp at hp0
    have hne2 : t.isEmpty = false := by simpa using hne
    have hB := fun w => refSum_any ⟨t.toArray⟩ hl w
    have hB2 := fun w => refBytes_any (crcMore 0 t) (crcMore_lt _ _) w
    have HB := Lib.hid hB
    have HB2 := Lib.hid hB2
    clear hP hB hB2 ht
    go_enter Tryz.func57, Tryz.ntmps57
    go_wp2_with fail
    refine (HP.out _).mono ?_
    rintro e w1 ⟨rfl, hb1⟩
    go_wp2_with fail
    refine (HB.out _).mono ?_
    rintro e w2 ⟨rfl, rfl⟩
    go_wp2_with fail
    refine (HB2.out _).mono ?_
    rintro e w2 ⟨rfl, hb2⟩
    go_wp2
    go_ret
    exact ⟨by rw [HV.out, ← HT.out]; exact congrArg (fun x => Ending.returned (.string x)) (app_mk _ _), below_step hb1 hb2⟩
  · have hv : fwrap s.data.toList = [] := by rw [fwrap, if_pos (by rw [← HS.out]; omega)]
    have hq : vputText s.data.toList = [] := by rw [vputText, if_pos (by rw [← HS.out]; omega)]
    have hP := fun w => refPutText_any s hs w
    rw [hq] at hP
    have HP := Lib.hid hP
    have HV := Lib.hid hv; clear hv hq hP
    go_enter Tryz.func57, Tryz.ntmps57
    go_wp2_with fail
    refine (HP.out _).mono ?_
    rintro e w1 ⟨rfl, hb1⟩
    go_wp2
    go_ret
    exact ⟨by rw [HV.out]; rfl, hb1⟩
theorem str_ne {x y : ByteArray} (h : x ≠ y) : (x.toList == y.toList) = false ∧ (x.toList != y.toList) = true := by
  have h1 : (x.toList == y.toList) = false := (Lib.bytes_beq_false_iff x y).2 h
  exact ⟨h1, by simp [bne, h1]⟩
theorem data_eq {a b : ByteArray} : a = b ↔ a.data.toList = b.data.toList := by
  constructor
  · intro h; rw [h]
  · intro h; apply ByteArray.ext; exact Array.toList_inj.1 h
theorem fopen_of {l b : List UInt8} {k e : Nat} (h : vtakeText l = (b, k, e)) :
    fopen l = if e ≠ 0 then ([], 0, e) else if l.length < k + 4 then ([], 0, 1) else if (l.drop k).take 4 ≠ le4 (crcMore 0 (l.take k)) then ([], 0, 3) else (b, k + 4, 0) := by
  rw [fopen, h]
set_option maxRecDepth 100000 in
set_option maxHeartbeats 1000000 in
theorem Open_any (s : ByteArray) (hs : s.size ≤ maxLen) (w : World) :
    Calls Tryz.prog 80 #[.string s] w fun e w' => e = .returned (.tuple #[.string ⟨(fopen s.data.toList).1.toArray⟩, .int .i64 ((fopen s.data.toList).2.1 : Nat), .int .i64 ((fopen s.data.toList).2.2 : Nat)]) ∧ Below w.heap.size w w' := by
  have hsm : s.size ≤ 9223372036854775807 := by unfold maxLen at hs; omega
  have HS := Lib.hid (Lib.size_eq s)
  have hc := fun w => TakeText_any s hs w
  obtain ⟨b, k, e, hv⟩ : ∃ b k e, vtakeText s.data.toList = (b, k, e) := ⟨_, _, _, rfl⟩
  rw [hv] at hc
  have HC := Lib.hid hc; clear hc
  have HV := Lib.hid (fopen_of hv)
  by_cases he : e = 0
  · subst he
    obtain ⟨h1, h2, h3, h4⟩ := takeText_ok hv
    rw [← HS.out] at h3
    clear hv h4
    have hd1 := fun W => run_slice_to (P := Tryz.prog) Tryz.underlying9 s k h3 W
    have hd2 := fun W => run_slice_from (P := Tryz.prog) Tryz.underlying9 s k h3 W
    have hx : (s.extract k s.size).size = s.size - k := by rw [ByteArray.size_extract]; omega
    by_cases hl : s.size < k + 4
    · have HR := Lib.hid (show fopen s.data.toList = ([], 0, 1) by rw [HV.out, if_neg (by simp), if_pos (by rw [← HS.out]; exact hl)])
      go_enter Tryz.func80, Tryz.ntmps80
      go_wp2_with fail
      refine (HC.out _).mono ?_
      rintro e w1 ⟨rfl, hb1⟩
      go_wp2_with fail
      go_quiet (fail)
      go_wp2
      go_ret3
      exact ⟨by rw [HR.out]; rfl, below_drewN hb1 _⟩
    · obtain ⟨bd, hbd⟩ : ∃ x, x = s.extract 0 k := ⟨_, rfl⟩
      obtain ⟨bh, hbh⟩ : ∃ x, x = s.extract k s.size := ⟨_, rfl⟩
      rw [← hbd] at hd1
      rw [← hbh] at hd2 hx
      have hbl : bd.size ≤ maxLen := by rw [hbd, ByteArray.size_extract]; unfold maxLen; omega
      have hB := fun W => bodySum_any bd hbl W
      obtain ⟨sm, hsm4⟩ : ∃ x : ByteArray, x = ⟨(le4 (crcMore 0 bd.data.toList)).toArray⟩ := ⟨_, rfl⟩
      rw [← hsm4] at hB
      have hA : bh.extract 0 4 = sm ↔ (s.data.toList.drop k).take 4 = le4 (crcMore 0 (s.data.toList.take k)) := by
        rw [data_eq, hsm4, hbd, hbh, Lib.extract_data, Lib.extract_to_end, Lib.extract_data]
        simp
      have HB := Lib.hid hB
      have hgt : (4 : Int) ≤ (bh.size : Int) := by omega
      clear hB hsm4 hbd hbh hx
      by_cases hq : bh.extract 0 4 = sm
      · have HR := Lib.hid (show fopen s.data.toList = (b, k + 4, 0) by rw [HV.out, if_neg (by simp), if_neg (by rw [← HS.out]; exact hl), if_neg (fun e => e (hA.1 hq))])
        have q1 : ((bh.extract 0 4).toList == sm.toList) = true := by rw [hq]; exact beq_self_eq_true _
        clear hA hq
        go_enter Tryz.func80, Tryz.ntmps80
        go_wp2_with fail
        refine (HC.out _).mono ?_
        rintro e w1 ⟨rfl, hb1⟩
        go_wp2_with fail
        go_quiet (fail)
        go_wp2_with fail
        refine wp_region_quiet_below (by kernel_rfl) (by kernel_rfl) ?_
        repeat (first | go_big_quiet_step ((exact Calls.regrown_of (HB.out _))) | quiet_step ((exact Calls.regrown_of (HB.out _))))
        refine wpQuiet_nil ?_
        intro wq hwq
        have hb2 : Below (w1.drewN nq).heap.size (w1.drewN nq) wq := by obtain ⟨p, rfl⟩ := hwq; exact below_regrown _ _ _
        clear hwq
        go_wp2
        go_ret3
        exact ⟨by rw [HR.out]; rfl, below_step (below_drewN hb1 nq) hb2⟩
      · obtain ⟨q1, q2⟩ := str_ne hq
        have HR := Lib.hid (show fopen s.data.toList = ([], 0, 3) by rw [HV.out, if_neg (by simp), if_neg (by rw [← HS.out]; exact hl), if_pos (fun e => hq (hA.2 e))])
        clear hA hq
        go_enter Tryz.func80, Tryz.ntmps80
        go_wp2_with fail
        refine (HC.out _).mono ?_
        rintro e w1 ⟨rfl, hb1⟩
        go_wp2_with fail
        go_quiet (fail)
        go_wp2_with fail
        refine wp_region_quiet_below (by kernel_rfl) (by kernel_rfl) ?_
        repeat (first | go_big_quiet_step ((exact Calls.regrown_of (HB.out _))) | quiet_step ((exact Calls.regrown_of (HB.out _))))
        refine wpQuiet_nil ?_
        intro wq hwq
        have hb2 : Below (w1.drewN nq).heap.size (w1.drewN nq) wq := by obtain ⟨p, rfl⟩ := hwq; exact below_regrown _ _ _
        clear hwq
        go_wp2
        go_ret3
        exact ⟨by rw [HR.out]; rfl, below_step (below_drewN hb1 nq) hb2⟩
  · obtain ⟨rfl, rfl⟩ := takeText_err hv he
    have HR := Lib.hid (show fopen s.data.toList = ([], 0, e) by rw [HV.out, if_pos he])
    have he' : (!((e : Int) == 0)) = true := by simp; omega
    have he2 : ((e : Int) != 0) = true := by simp; omega
    clear hv
    go_enter Tryz.func80, Tryz.ntmps80
    go_wp2_with fail
    refine (HC.out _).mono ?_
    rintro e w1 ⟨rfl, hb1⟩
    go_wp2
    go_ret3
    exact ⟨by rw [HR.out]; rfl, hb1⟩
set_option maxRecDepth 100000 in
set_option maxHeartbeats 1000000 in
theorem refOpen_any (s : ByteArray) (hs : s.size ≤ maxLen) (w : World) :
    Calls Tryz.prog 81 #[.string s] w fun e w' => e = .returned (.tuple #[.string ⟨(fopen s.data.toList).1.toArray⟩, .int .i64 ((fopen s.data.toList).2.1 : Nat), .int .i64 ((fopen s.data.toList).2.2 : Nat)]) ∧ Below w.heap.size w w' := by
  have hsm : s.size ≤ 9223372036854775807 := by unfold maxLen at hs; omega
  have HS := Lib.hid (Lib.size_eq s)
  have hc := fun w => refTakeText_any s hs w
  obtain ⟨b, k, e, hv⟩ : ∃ b k e, vtakeText s.data.toList = (b, k, e) := ⟨_, _, _, rfl⟩
  rw [hv] at hc
  have HC := Lib.hid hc; clear hc
  have HV := Lib.hid (fopen_of hv)
  by_cases he : e = 0
  · subst he
    obtain ⟨h1, h2, h3, h4⟩ := takeText_ok hv
    rw [← HS.out] at h3
    clear hv h4
    have hd1 := fun W => run_slice_to (P := Tryz.prog) Tryz.underlying9 s k h3 W
    by_cases hl : s.size < k + 4
    · have HR := Lib.hid (show fopen s.data.toList = ([], 0, 1) by rw [HV.out, if_neg (by simp), if_pos (by rw [← HS.out]; exact hl)])
      go_enter Tryz.func81, Tryz.ntmps81
      go_wp2_with fail
      refine (HC.out _).mono ?_
      rintro e w1 ⟨rfl, rfl⟩
      go_wp2
      go_ret3
      exact ⟨by rw [HR.out]; rfl, Below.refl _ _⟩
    · obtain ⟨bd, hbd⟩ : ∃ x, x = s.extract 0 k := ⟨_, rfl⟩
      rw [← hbd] at hd1
      have hbl : bd.size ≤ maxLen := by rw [hbd, ByteArray.size_extract]; unfold maxLen; omega
      have hB := fun W => refSum_any bd hbl W
      have hB2 := fun W => refBytes_any (crcMore 0 bd.data.toList) (crcMore_lt _ _) W
      obtain ⟨sm, hsm4⟩ : ∃ x : ByteArray, x = ⟨(le4 (crcMore 0 bd.data.toList)).toArray⟩ := ⟨_, rfl⟩
      rw [← hsm4] at hB2
      have hd3 := fun W => run_slice_str (P := Tryz.prog) Tryz.underlying9 s (k : Int) ((k : Int) + 4) (by omega) (by omega) (by omega) W
      rw [show ((k : Int) + 4).toNat = k + 4 by omega, show ((k : Int)).toNat = k by omega] at hd3
      have hA : s.extract k (k + 4) = sm ↔ (s.data.toList.drop k).take 4 = le4 (crcMore 0 (s.data.toList.take k)) := by
        rw [data_eq, hsm4, hbd, Lib.extract_data, Lib.extract_data]
        simp
      have HB := Lib.hid hB
      have HB2 := Lib.hid hB2
      have hw4 : IntKind.i64.wrap ((k : Int) + 4) = (k : Int) + 4 := IntWalk.i64_in _ (by omega)
      clear hB hsm4 hbd hB2
      by_cases hq : s.extract k (k + 4) = sm
      · have HR := Lib.hid (show fopen s.data.toList = (b, k + 4, 0) by rw [HV.out, if_neg (by simp), if_neg (by rw [← HS.out]; exact hl), if_neg (fun e => e (hA.1 hq))])
        have q1 : ((s.extract k (k + 4)).toList == sm.toList) = true := by rw [hq]; exact beq_self_eq_true _
        clear hA hq
        go_enter Tryz.func81, Tryz.ntmps81
        go_wp2_with fail
        refine (HC.out _).mono ?_
        rintro e w1 ⟨rfl, rfl⟩
        go_wp2_with fail
        refine wp_region_quiet_below (by kernel_rfl) (by kernel_rfl) ?_
        repeat (first | go_big_quiet_step ((first | (go_at_call 84; exact Calls.regrown_of ((HB.out _).mono fun _ _ ⟨he, hw⟩ => ⟨he, hw ▸ Below.refl _ _⟩)) | exact Calls.regrown_of (HB2.out _))) | quiet_step ((first | (go_at_call 84; exact Calls.regrown_of ((HB.out _).mono fun _ _ ⟨he, hw⟩ => ⟨he, hw ▸ Below.refl _ _⟩)) | exact Calls.regrown_of (HB2.out _))))
        refine wpQuiet_nil ?_
        intro wq hwq
        have hb2 : Below w1.heap.size w1 wq := by obtain ⟨p, rfl⟩ := hwq; exact below_regrown _ _ _
        clear hwq
        go_wp2
        go_ret3
        exact ⟨by rw [HR.out]; rfl, hb2⟩
      · obtain ⟨q1, q2⟩ := str_ne hq
        have HR := Lib.hid (show fopen s.data.toList = ([], 0, 3) by rw [HV.out, if_neg (by simp), if_neg (by rw [← HS.out]; exact hl), if_pos (fun e => hq (hA.2 e))])
        clear hA hq
        go_enter Tryz.func81, Tryz.ntmps81
        go_wp2_with fail
        refine (HC.out _).mono ?_
        rintro e w1 ⟨rfl, rfl⟩
        go_wp2_with fail
        refine wp_region_quiet_below (by kernel_rfl) (by kernel_rfl) ?_
        repeat (first | go_big_quiet_step ((first | (go_at_call 84; exact Calls.regrown_of ((HB.out _).mono fun _ _ ⟨he, hw⟩ => ⟨he, hw ▸ Below.refl _ _⟩)) | exact Calls.regrown_of (HB2.out _))) | quiet_step ((first | (go_at_call 84; exact Calls.regrown_of ((HB.out _).mono fun _ _ ⟨he, hw⟩ => ⟨he, hw ▸ Below.refl _ _⟩)) | exact Calls.regrown_of (HB2.out _))))
        refine wpQuiet_nil ?_
        intro wq hwq
        have hb2 : Below w1.heap.size w1 wq := by obtain ⟨p, rfl⟩ := hwq; exact below_regrown _ _ _
        clear hwq
        go_wp2
        go_ret3
        exact ⟨by rw [HR.out]; rfl, hb2⟩
  · obtain ⟨rfl, rfl⟩ := takeText_err hv he
    have HR := Lib.hid (show fopen s.data.toList = ([], 0, e) by rw [HV.out, if_pos he])
    have he' : (!((e : Int) == 0)) = true := by simp; omega
    have he2 : ((e : Int) != 0) = true := by simp; omega
    clear hv
    go_enter Tryz.func81, Tryz.ntmps81
    go_wp2_with fail
    refine (HC.out _).mono ?_
    rintro e w1 ⟨rfl, rfl⟩
    go_wp2
    go_ret3
    exact ⟨by rw [HR.out]; rfl, Below.refl _ _⟩
end Go.Proofs.YtalknbadakfppaaGreat

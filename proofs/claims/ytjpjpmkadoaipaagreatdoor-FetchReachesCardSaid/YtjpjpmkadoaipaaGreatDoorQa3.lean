/-
  Texts put together: contracts and laws that this seat's proofs share.
-/
import Derived.Test.YtjpjpmkadoaipaaGreatDoorQa2
import Derived.Test.YtjpjpmkadoaipaaGreatDoorQa0
import Derived.Lib.Hide
import Derived.WalkKit
import Derived.LaidEql
import Derived.Stop.Asserts
import Derived.RowKitTokens
import Derived.BigQuiet
import Derived.RegionTactic
import Derived.BigRegion
import Derived.IntWalk
import Derived.Deep.QuietTactic
import Derived.Lib.QuietBelow
import Derived.Lib.Bytealg
import Derived.Lib.SliceRun
import Derived.Test.YtjpjpmkadoaipaaGreatDoorQa1
import Derived.Shelf.Strings.Builder2
import Derived.WalkSmall
import Derived.Shelf.Sort.Plain
import Derived.Shelf.Slices.CompactS
import Derived.Shelf.Slices.In.SortNone
import Derived.Sort.OwnSorted
import Derived.Lib.OwnBridge
import Derived.Shelf.RegionOpenPlain
import Derived.Shelf.Abstract
import Derived.LoopTactic
import Derived.Outline
import Derived.Laws.BitsAllLaws
import Derived.Below
import Derived.Laws.Rows
import Derived.Laws.CopyOwn
import Derived.Test.YtjpjpmkadoaipaaGreatDoorProg
import Derived.Great.BuildSlice
import Derived.StillTailTactics
import Derived.Deep.MidRow
import Derived.Laws.CopyRow
import Derived.Lib.BufferWrite
import Derived.Lib.SlBuf
import Derived.Deep.LoopGhost
import Derived.Laws.AppendOwn
import Derived.Laws.IdiomStrings
import Derived.OwnWalk
set_option linter.unusedVariables false
namespace Go.Proofs.YtjpjpmkadoaipaaGreatDoor
open Go.RowKit
attribute [local go_sem] Oper.semAt_some
def smallT (c : List UInt8 → Nat) (I : List It) : Bool := I.all fun x => decide ((pcs c x.b).length ≤ 1024)
theorem smallT_no {c : List UInt8 → Nat} {I : List It} {k : Nat} (hk : k < I.length) (h : ¬ (pcs c I[k].b).length ≤ 1024) : smallT c I = false := by
 rw [← Bool.not_eq_true]
 intro hc
 exact h (of_decide_eq_true (List.all_eq_true.1 hc _ (List.getElem_mem hk)))
theorem smallT_step {c : List UInt8 → Nat} {I : List It} {k : Nat} (hk : k < I.length) (h : smallT c (I.take k) = true) (h2 : (pcs c I[k].b).length ≤ 1024) : smallT c (I.take (k + 1)) = true := by
 unfold smallT at h ⊢
 rw [List.take_succ_eq_append_getElem hk, List.all_append, h]; simpa using h2
set_option maxRecDepth 100000 in
set_option maxHeartbeats 8000000 in
theorem rSmallT_any (mn av b mx : Nat) (hF : FitAt mn av mx b) (iv : Value) (I : List It) (w : World) (hi : IsItems w iv I) (hs : ∀ x ∈ I, x.c.size ≤ 100000) :
  Calls Tryz.prog 45 #[pV mn av mx, iv] w fun e w' => e = .returned (.bool (smallT (cutN mn b mx) I)) ∧ Below w.heap.size w w' := by
 have CP := Lib.hid (fun s hs W => refPieces_any mn av b mx hF s hs W)
 obtain ⟨c, hc⟩ : ∃ c, c = cutN mn b mx := ⟨_, rfl⟩
 rw [← hc] at CP ⊢
 obtain ⟨V, hV⟩ : ∃ V, V = w.alloc (.cells #[.int .i64 mn, .int .i64 av, .int .i64 mx] 23) := ⟨_, rfl⟩
 have hbV : Below w.heap.size w V := by rw [hV]; exact (Below.refl _ _).alloc (Nat.le_refl _) _
 have hR0 : Row V w.heap.size #[.int .i64 mn, .int .i64 av, .int .i64 mx] 23 := by rw [hV]; exact Row.made _ _ _
 have HV := Lib.hid hV; have HR0 := Lib.hid hR0; have HB0 := Lib.hid hbV; have HS := Lib.hid hs
 have HI := Lib.hid (hi.stays hbV)
 obtain ⟨hm, a1, cap1, rfl, _, _⟩ := hi
 have hmm : I.length ≤ 9223372036854775807 := by unfold maxLen at hm; omega
 clear hV hbV hR0 hs hc hF hm
 go_enter Tryz.func45, Tryz.ntmps45
 go_wp2_with fail
 rw [← HV.out]
 go_loopw [5] (fun i wr => ∃ (k : Nat), k ≤ I.length ∧ i = .int .i64 k ∧ smallT c (I.take k) = true ∧ Below V.heap.size V wr) (fun i _ => I.length - (intOf i).toNat)
 case atStart => exact ⟨0, Nat.zero_le _, rfl, rfl, Below.refl _ _⟩
 case round =>
  obtain ⟨k, hk, rfl, hS, hB⟩ := hrel
  have HSM := Lib.hid hS; clear hS
  by_cases hlt : k < I.length
  ·obtain ⟨_, _, _, e, _, hc⟩ := HI.out.stays hB
   cases e
   obtain ⟨b1, off, rfl, hbl, g⟩ := hc (by omega)
   obtain ⟨c0, c1, c2, c3⟩ := g k hlt
   clear g hc
   have hbk : decide ((k : Int) < (I.length : Int)) = true := by simpa using (show (k : Int) < I.length by omega)
   have hno := smallT_no (c := c) hlt
   have hst := smallT_step hlt HSM.out
   have hxs := HS.out _ (List.getElem_mem hlt)
   obtain ⟨x, hx⟩ : ∃ x, I[k]'hlt = x := ⟨_, rfl⟩
   rw [hx] at c0 c1 c2 c3 hno hst hxs
   clear hx
   have HR := Lib.hid (HR0.out.step hB)
   have p0 := HR.out.cell 0; have p1 := HR.out.cell 1; have p2 := HR.out.cell 2
   simp only [List.getElem?_toArray, List.getElem?_cons_zero, List.getElem?_cons_succ] at p0 p1 p2
   have C := Lib.hid (CP.out x.c hxs)
   rw [show x.c.data.toList = x.b from rfl] at C
   have HNO := Lib.hid hno; have HST := Lib.hid hst
   clear hno hst
   go_wp2_with fail
   go_still_tail 6, (by kernel_rfl)
   change wpList _ _ _ _ _ wr.drew
   go_wp2_with fail
   refine (C.out _).mono ?_
   rintro e w4 ⟨v4, rfl, hv4, hb4⟩
   have hB4 := below_step hB ((Below.refl wr.heap.size wr).drew.trans hb4)
   obtain ⟨_, a4, cap4, rfl, _, _⟩ := hv4
   clear p0 p1 p2 c0 c1 c2 c3 hb4
   have hsl : (strsOf (pcs c x.b)).length = (pcs c x.b).length := strsOf_len _
   obtain ⟨n, hn⟩ : ∃ n, n = (pcs c x.b).length := ⟨_, rfl⟩
   rw [hsl, ← hn]
   rw [← hn] at HNO HST
   clear hsl hn
   by_cases h1024 : n ≤ 1024
   ·have hq : decide ((1024 : Int) < (n : Int)) = false := by simp; omega
    have HST2 := Lib.hid (HST.out h1024)
    clear h1024
    go_wp2_with fail
    go_roundw
    case rel => exact ⟨k + 1, by omega, by go_num, HST2.out, hB4⟩
    case measure => simp [intOf]; omega
   ·have hq : decide ((1024 : Int) < (n : Int)) = true := by simp; omega
    have HN := Lib.hid (HNO.out h1024)
    clear h1024
    go_wp2
    go_ret
    exact ⟨by rw [HN.out]; rfl, below_step HB0.out hB4⟩
  ·have HN : Hid (smallT c I = true) := Lib.hid (by have := HSM.out; rwa [List.take_of_length_le (by omega)] at this)
   have hge : decide ((k : Int) < (I.length : Int)) = false := by simp; omega
   go_wp2
   go_ret
   exact ⟨by rw [HN.out]; rfl, below_step HB0.out hB⟩
end Go.Proofs.YtjpjpmkadoaipaaGreatDoor
set_option linter.unusedVariables false
namespace Go.Proofs.YtjpjpmkadoaipaaGreatDoor
theorem sum_add {α : Type} (f g : α → Nat) : ∀ L : List α, (L.map fun x => f x + g x).sum = (L.map f).sum + (L.map g).sum
 | [] => rfl
 | x :: L => by simp only [List.map_cons, List.sum_cons, sum_add f g L]; omega
theorem sum_le {α : Type} {f g : α → Nat} : ∀ {L : List α}, (∀ x ∈ L, f x ≤ g x) → (L.map f).sum ≤ (L.map g).sum
 | [], _ => Nat.le_refl _
 | x :: L, h => by
  have h1 := h x (by simp)
  have h2 := sum_le fun y hy => h y (List.mem_cons_of_mem x hy)
  simp only [List.map_cons, List.sum_cons]; omega
theorem sum_zero {α : Type} : ∀ L : List α, (L.map fun _ => 0).sum = 0
 | [] => rfl
 | _ :: L => by simp only [List.map_cons, List.sum_cons, sum_zero L]
theorem sum_swap {α β : Type} (f : α → β → Nat) (M : List β) : ∀ L : List α, (L.map fun x => (M.map fun y => f x y).sum).sum = (M.map fun y => (L.map fun x => f x y).sum).sum
 | [] => by simp only [List.map_nil, List.sum_nil]; exact (sum_zero M).symm
 | x :: L => by
  simp only [List.map_cons, List.sum_cons]
  rw [sum_swap f M L, ← sum_add]
theorem sum_mem {α : Type} {f : α → Nat} {x : α} : ∀ {L : List α}, x ∈ L → f x ≤ (L.map f).sum
 | y :: L, h => by
  simp only [List.map_cons, List.sum_cons]
  rcases List.mem_cons.1 h with rfl | h
  ·omega
  ·have := sum_mem (f := f) h; omega
def wI (x : It) : Nat := x.b.length + 1
def inP (A B : List (List UInt8)) : Bool := decide (A.length < B.length ∧ B.take A.length = A)
def beg (A B : List (List UInt8)) : Bool := decide (A.length ≤ B.length ∧ B.take A.length = A)
def wBelow (I : List It) (A : List (List UInt8)) : Nat := (I.map fun y => if inP A (cs y.t) then wI y else 0).sum
theorem below_self {I : List It} {x : It} (hx : x ∈ I) : wI x + wBelow I (cs x.t) ≤ (I.map fun y => if beg (cs x.t) (cs y.t) then wI y else 0).sum := by
 have h1 : (I.map fun y => if beg (cs x.t) (cs y.t) then wI y else 0).sum = (I.map fun y => (if cs y.t = cs x.t then wI y else 0) + if inP (cs x.t) (cs y.t) then wI y else 0).sum := by
  congr 1
  refine List.map_congr_left fun y _ => ?_
  by_cases h2 : cs y.t = cs x.t
  ·have hb : beg (cs x.t) (cs y.t) = true := decide_eq_true ⟨by rw [h2]; exact Nat.le_refl _, by rw [h2, List.take_length]⟩
   have hp : inP (cs x.t) (cs y.t) = false := decide_eq_false fun h => by have := h.1; rw [h2] at this; omega
   rw [hb, hp, if_pos h2]; simp
  ·by_cases h3 : inP (cs x.t) (cs y.t) = true
   ·have h4 := of_decide_eq_true h3
    have hb : beg (cs x.t) (cs y.t) = true := decide_eq_true ⟨Nat.le_of_lt h4.1, h4.2⟩
    rw [hb, h3, if_neg h2]; simp
   ·have hb : beg (cs x.t) (cs y.t) = false := decide_eq_false fun h => by
     rcases Nat.lt_or_ge (cs x.t).length (cs y.t).length with h5 | h5
     ·exact h3 (decide_eq_true ⟨h5, h.2⟩)
     ·have := h.2
      rw [List.take_of_length_le h5] at this
      exact h2 this
    rw [hb, if_neg h2]
    have : inP (cs x.t) (cs y.t) = false := by simpa using h3
    rw [this]; simp
 rw [h1, sum_add]
 have h6 := sum_mem (f := fun y => if cs y.t = cs x.t then wI y else 0) hx
 rw [if_pos rfl] at h6
 unfold wBelow
 omega
theorem one_only {I : List It} (F : TFit I) (d : List UInt8) (y : It) : ((inD I d).map fun x => if beg (cs x.t) (cs y.t) then wI y else 0).sum ≤ if inP (cs d) (cs y.t) then wI y else 0 := by
 have key : ∀ X : List It, (∀ x ∈ X, x ∈ inD I d) → Rise X → (X.map fun x => if beg (cs x.t) (cs y.t) then wI y else 0).sum ≤ if inP (cs d) (cs y.t) then wI y else 0 := by
  intro X
  induction X with
  | nil => intro _ _; exact Nat.zero_le _
  | cons x X ih =>
   intro hX hr
   obtain ⟨hr1, hr2⟩ := rise_cons.1 hr
   have hx := mem_inD.1 (hX x (by simp))
   have ex := (dir_iff (F.path x hx.1)).1 hx.2
   simp only [List.map_cons, List.sum_cons]
   by_cases hb : beg (cs x.t) (cs y.t) = true
   ·have h1 := of_decide_eq_true hb
    have hp : inP (cs d) (cs y.t) = true := decide_eq_true (by
     have h2 := h1.1
     rw [ex, List.length_append] at h2
     refine ⟨by simp at h2; omega, ?_⟩
     have h3 := congrArg (List.take (cs d).length) h1.2
     rw [List.take_take, ex] at h3
     rw [List.length_append, List.take_left] at h3
     rwa [Nat.min_eq_left (by omega)] at h3)
    have hz : (X.map fun x => if beg (cs x.t) (cs y.t) then wI y else 0).sum = 0 := by
     have : X.map (fun x => if beg (cs x.t) (cs y.t) then wI y else 0) = X.map fun _ => 0 := List.map_congr_left fun u hu => by
      refine if_neg fun hbu => ?_
      have hu2 := mem_inD.1 (hX u (List.mem_cons_of_mem _ hu))
      have eu := (dir_iff (F.path u hu2.1)).1 hu2.2
      have h4 := of_decide_eq_true hbu
      have hl : (cs u.t).length = (cs x.t).length := by rw [eu, ex]; simp
      have he : cs u.t = cs x.t := by rw [← h4.2, ← h1.2, hl]
      have := hr1 u hu
      rw [cs_inj he, order_self] at this
      cases this
     rw [this]; exact sum_zero X
    rw [hz, if_pos hb, if_pos hp]; omega
   ·rw [if_neg hb, Nat.zero_add]
    exact ih (fun u hu => hX u (List.mem_cons_of_mem _ hu)) hr2
 exact key _ (fun x hx => hx) (rise_filter F.rise _)
theorem flat_len {α β : Type} (f : α → List β) : ∀ L : List α, (L.flatMap f).length = (L.map fun x => (f x).length).sum
 | [] => rfl
 | x :: L => by rw [List.flatMap_cons, List.length_append, flat_len f L]; simp
theorem seqF_len {c : List UInt8 → Nat} {I : List It} (R : ReadyT c I) (x : It) : (seqF c x.b).length ≤ wI x := by
 obtain ⟨mn, mx, H, _⟩ := R.cut
 unfold seqF wI
 have := pcs_len H.pos x.b.length x.b (Nat.le_refl _)
 simp; omega
theorem seqD_len {c : List UInt8 → Nat} {I : List It} (R : ReadyT c I) : ∀ (k : Nat) (d : List UInt8), (seqD c I k d).length ≤ 1 + wBelow I (cs d)
 | 0, d => by show 1 ≤ _; omega
 | k + 1, d => by
  show (((inD I d).flatMap fun x => if x.d then seqD c I k x.t else seqF c x.b) ++ [dirN c I (k + 1) d]).length ≤ _
  rw [List.length_append, flat_len]
  have h1 : ((inD I d).map fun x => (if x.d then seqD c I k x.t else seqF c x.b).length).sum ≤ ((inD I d).map fun x => (I.map fun y => if beg (cs x.t) (cs y.t) then wI y else 0).sum).sum := sum_le fun x hx => by
   refine Nat.le_trans ?_ (below_self (mem_inD.1 hx).1)
   cases x.d
   ·have := seqF_len R x; simp; omega
   ·have := seqD_len R k x.t
    have h2 : 1 ≤ wI x := by unfold wI; omega
    simp; omega
  rw [sum_swap] at h1
  have h3 : (I.map fun y => ((inD I d).map fun x => if beg (cs x.t) (cs y.t) then wI y else 0).sum).sum ≤ wBelow I (cs d) := sum_le fun y _ => one_only R.fit d y
  simp only [List.length_singleton]
  omega
theorem wBelow_le (I : List It) (A : List (List UInt8)) : wBelow I A ≤ sizeT I + I.length := by
 unfold wBelow sizeT
 have h1 : (I.map fun y => if inP A (cs y.t) then wI y else 0).sum ≤ (I.map fun y => y.c.size + 1).sum := sum_le fun y _ => by
  have : wI y = y.c.size + 1 := by unfold wI It.b; rw [Lib.size_eq]
  split <;> omega
 rw [sum_add] at h1
 have h2 : (I.map fun _ => 1).sum = I.length := by
  have : ∀ L : List It, (L.map fun _ => 1).sum = L.length := fun L => by induction L with
   | nil => rfl
   | cons x L ih => simp only [List.map_cons, List.sum_cons, ih, List.length_cons]; omega
  exact this I
 omega
theorem seqT_len {c : List UInt8 → Nat} {I : List It} (R : ReadyT c I) : (seqT c I).length ≤ 70000 := by
 have h1 := seqD_len R 9 []
 have h2 := wBelow_le I (cs [])
 have h3 := R.fit.size
 have h4 := R.fit.len
 unfold seqT
 omega
end Go.Proofs.YtjpjpmkadoaipaaGreatDoor
set_option linter.unusedVariables false
namespace Go.Proofs.YtjpjpmkadoaipaaGreatDoor
open Go.RowKit
attribute [local go_sem] Oper.semAt_some
def RdyAt (mn av mx : Int) (I : List It) : Prop := ∃ m a x b : Nat, mn = m ∧ av = a ∧ mx = x ∧ FitAt m a x b ∧ ReadyT (cutN m b x) I
noncomputable def rdyB (mn av mx : Int) (I : List It) : Bool := @decide (RdyAt mn av mx I) (Classical.propDecidable _)
theorem rdyB_yes {mn av mx : Int} {I : List It} (h : RdyAt mn av mx I) : rdyB mn av mx I = true := @decide_eq_true _ (Classical.propDecidable _) h
theorem rdyB_no {mn av mx : Int} {I : List It} (h : ¬ RdyAt mn av mx I) : rdyB mn av mx I = false := @decide_eq_false _ (Classical.propDecidable _) h
theorem rdyB_iff {mn av mx : Int} {I : List It} : rdyB mn av mx I = true ↔ RdyAt mn av mx I := ⟨fun h => @of_decide_eq_true _ (Classical.propDecidable _) h, rdyB_yes⟩
theorem pow_one {b b' : Nat} (h : (2 ^ b : Nat) = 2 ^ b') : b = b' := by
 rcases Nat.lt_trichotomy b b' with e | e | e
 ·have := Nat.pow_lt_pow_right (a := 2) (by decide) e; omega
 ·exact e
 ·have := Nat.pow_lt_pow_right (a := 2) (by decide) e; omega
theorem fitAt_one {m a x b b' : Nat} (h : FitAt m a x b) (h' : FitAt m a x b') : b = b' := by
 have h1 := h.h7; have h2 := h'.h7
 exact pow_one (by exact_mod_cast h1.symm.trans h2)
theorem cut_fit {m a x b : Nat} (h : FitAt m a x b) : ∃ mn mx, CutOk mn mx (cutN m b x) ∧ mx ≤ 4096 :=
 ⟨m, x, cutN_ok (by have := h.h1; omega) (by have := h.h2; have := h.h3; omega), by have := h.h4; omega⟩
theorem rdy_nofit {mn av mx : Int} {I : List It} (h : fitB_Cdm mn av mx = false) : rdyB mn av mx I = false := rdyB_no fun ⟨m, a, x, b, h1, h2, h3, hf, _⟩ => by
 subst h1 h2 h3; exact fitB_not h b hf
theorem rdy_notree {mn av mx : Int} {I : List It} (h : fitT I = false) : rdyB mn av mx I = false := rdyB_no fun ⟨m, a, x, b, h1, h2, h3, hf, hr⟩ => by
 rw [fitT_yes hr.fit] at h; cases h
theorem rdy_small {m a x b : Nat} {I : List It} (hf : FitAt m a x b) (ht : fitT I = true) : rdyB m a x I = smallT (cutN m b x) I := by
 cases hs : smallT (cutN m b x) I
 ·refine rdyB_no fun ⟨m', a', x', b', h1, h2, h3, hf', hr⟩ => ?_
  have e1 : m = m' := by exact_mod_cast h1
  have e2 : a = a' := by exact_mod_cast h2
  have e3 : x = x' := by exact_mod_cast h3
  subst e1 e2 e3
  obtain rfl := fitAt_one hf hf'
  have : smallT (cutN m b x) I = true := List.all_eq_true.2 fun y hy => decide_eq_true (hr.few y hy)
  rw [hs] at this; cases this
 ·exact rdyB_yes ⟨m, a, x, b, rfl, rfl, rfl, hf, fitT_iff.1 ht, cut_fit hf, fun y hy => of_decide_eq_true (List.all_eq_true.1 hs y hy)⟩
set_option maxRecDepth 100000 in
set_option maxHeartbeats 4000000 in
theorem rReady_any (mn av mx : Int) (iv : Value) (I : List It) (w : World) (hi : IsItems w iv I) (hf : fewB I = true) :
  Calls Tryz.prog 22 #[pV mn av mx, iv] w fun e w' => e = .returned (.bool (rdyB mn av mx I)) ∧ Below w.heap.size w w' := by
 obtain ⟨V, hV⟩ : ∃ V, V = w.alloc (.cells #[.int .i64 mn, .int .i64 av, .int .i64 mx] 23) := ⟨_, rfl⟩
 have hbV : Below w.heap.size w V := by rw [hV]; exact (Below.refl _ _).alloc (Nat.le_refl _) _
 have hR0 : Row V w.heap.size #[.int .i64 mn, .int .i64 av, .int .i64 mx] 23 := by rw [hV]; exact Row.made _ _ _
 have HV := Lib.hid hV; have HR0 := Lib.hid hR0; have HB0 := Lib.hid hbV
 have HI := Lib.hid (hi.stays hbV)
 have hsz : ∀ x ∈ I, x.c.size ≤ 100000 := fun x hx => by have := (few_mem hf x hx).2; omega
 have C1 := Lib.hid (refFit_any_Cdw mn av mx)
 have C2 := Lib.hid (fun W (hb : Below V.heap.size V W) => rFit_any_Tif iv I W (HI.out.stays hb) hf)
 have p0 := hR0.cell 0; have p1 := hR0.cell 1; have p2 := hR0.cell 2
 simp only [List.getElem?_toArray, List.getElem?_cons_zero, List.getElem?_cons_succ] at p0 p1 p2
 have HS := Lib.hid hsz
 obtain ⟨_, a1, cap1, rfl, _, _⟩ := hi
 clear hV hbV hR0 hf hsz
 rcases h1 : fitB_Cdm mn av mx with _ | _
 ·have HN := Lib.hid (rdy_nofit (I := I) h1)
  rw [h1] at C1
  clear h1
  go_enter Tryz.func22, Tryz.ntmps22
  go_wp2_with fail
  rw [← HV.out]
  go_wp2_with fail
  refine (C1.out _).mono ?_
  rintro e w1 ⟨rfl, hb1⟩
  go_wp2
  go_ret
  exact ⟨by rw [HN.out]; rfl, below_step HB0.out hb1⟩
 ·obtain ⟨b, hb⟩ := fitB_true_Cdm h1
  rcases h2 : fitT I with _ | _
  ·have HN := Lib.hid (rdy_notree (mn := mn) (av := av) (mx := mx) h2)
   rw [h1] at C1; rw [h2] at C2
   clear h1 h2
   go_enter Tryz.func22, Tryz.ntmps22
   go_wp2_with fail
   rw [← HV.out]
   go_wp2_with fail
   refine (C1.out _).mono ?_
   rintro e w1 ⟨rfl, hb1⟩
   clear p0 p1 p2
   go_wp2_with fail
   refine (C2.out _ hb1).mono ?_
   rintro e w2 ⟨rfl, hb2⟩
   go_wp2
   go_ret
   exact ⟨by rw [HN.out]; rfl, below_step HB0.out (below_step hb1 hb2)⟩
  ·obtain ⟨m, rfl⟩ : ∃ m : Nat, mn = m := ⟨mn.toNat, by have := hb.h1; omega⟩
   obtain ⟨a, rfl⟩ : ∃ a : Nat, av = a := ⟨av.toNat, by have := hb.h1; have := hb.h2; omega⟩
   obtain ⟨x, rfl⟩ : ∃ x : Nat, mx = x := ⟨mx.toNat, by have := hb.h1; have := hb.h2; have := hb.h3; omega⟩
   have HN := Lib.hid (rdy_small hb h2)
   have C3 := Lib.hid (fun W (hbw : Below V.heap.size V W) => rSmallT_any m a b x hb (.slice a1 I.length cap1) I W (HI.out.stays hbw) HS.out)
   rw [← HN.out] at C3
   rw [h1] at C1; rw [h2] at C2
   clear h1 h2 hb
   go_enter Tryz.func22, Tryz.ntmps22
   go_wp2_with fail
   rw [← HV.out]
   go_wp2_with fail
   refine (C1.out _).mono ?_
   rintro e w1 ⟨rfl, hb1⟩
   clear p0 p1 p2
   go_wp2_with fail
   refine (C2.out _ hb1).mono ?_
   rintro e w2 ⟨rfl, hb2⟩
   have hb3 := below_step hb1 hb2
   have hR2 := HR0.out.step hb3
   have p0 := hR2.cell 0; have p1 := hR2.cell 1; have p2 := hR2.cell 2
   simp only [List.getElem?_toArray, List.getElem?_cons_zero, List.getElem?_cons_succ] at p0 p1 p2
   clear hb1 hb2 hR2
   go_wp2_with fail
   refine (C3.out _ hb3).mono ?_
   rintro e w4 ⟨rfl, hb4⟩
   go_wp2
   go_ret
   exact ⟨rfl, below_step HB0.out (below_step hb3 hb4)⟩
def fewT (mn av mx : Int) (I : List It) : Prop := I.length ≤ 70 ∧ sizeT I ≤ 6000 ∧ (∀ x ∈ I, x.p.size ≤ 400) ∧ RdyAt mn av mx I
noncomputable def fewTB (mn av mx : Int) (I : List It) : Bool := @decide (fewT mn av mx I) (Classical.propDecidable _)
theorem fewTB_yes {mn av mx : Int} {I : List It} (h : fewT mn av mx I) : fewTB mn av mx I = true := @decide_eq_true _ (Classical.propDecidable _) h
theorem fewTB_no {mn av mx : Int} {I : List It} (h : ¬ fewT mn av mx I) : fewTB mn av mx I = false := @decide_eq_false _ (Classical.propDecidable _) h
theorem fewTB_iff {mn av mx : Int} {I : List It} : fewTB mn av mx I = true ↔ fewT mn av mx I := ⟨fun h => @of_decide_eq_true _ (Classical.propDecidable _) h, fewTB_yes⟩
set_option maxRecDepth 100000 in
set_option maxHeartbeats 8000000 in
theorem fewT13_any (mn av mx : Int) (iv : Value) (I : List It) (w : World) (hi : IsItems w iv I) (hz : ∀ x ∈ I, x.c.size ≤ 281474976710656) :
  Calls Tryz.prog 7 #[pV mn av mx, iv] w fun e w' => e = .returned (.bool (fewTB mn av mx I)) ∧ Below w.heap.size w w' := by
 obtain ⟨V, hV⟩ : ∃ V, V = w.alloc (.cells #[.int .i64 mn, .int .i64 av, .int .i64 mx] 23) := ⟨_, rfl⟩
 have hbV : Below w.heap.size w V := by rw [hV]; exact (Below.refl _ _).alloc (Nat.le_refl _) _
 have hR0 : Row V w.heap.size #[.int .i64 mn, .int .i64 av, .int .i64 mx] 23 := by rw [hV]; exact Row.made _ _ _
 have HV := Lib.hid hV; have HR0 := Lib.hid hR0; have HB0 := Lib.hid hbV
 have HI := Lib.hid (hi.stays hbV)
 have CR := Lib.hid (fun W (hb : Below V.heap.size V W) (hf : fewB I = true) => rReady_any mn av mx iv I W (HI.out.stays hb) hf)
 have HZ := Lib.hid hz
 obtain ⟨hm, a1, cap1, rfl, _, _⟩ := hi
 have hmm : I.length ≤ 9223372036854775807 := by unfold maxLen at hm; omega
 clear hV hbV hR0 hm hz
 by_cases h70 : I.length ≤ 70
 ·have q70 : decide ((70 : Int) < (I.length : Int)) = false := by simp; omega
  go_enter Tryz.func7, Tryz.ntmps7
  go_wp2_with fail
  rw [← HV.out]
  go_loopw [5, 13] (fun n i wr => ∃ (k s : Nat), k ≤ I.length ∧ i = .int .i64 k ∧ n = .int .i64 s ∧ s = sizeT (I.take k) ∧ s ≤ 6000 ∧ (∀ x ∈ I.take k, x.p.size ≤ 400) ∧ Below V.heap.size V wr) (fun _ i _ => I.length - (intOf i).toNat)
  case atStart => exact ⟨0, 0, Nat.zero_le _, rfl, rfl, rfl, by omega, fun _ h => (by simp at h), Below.refl _ _⟩
  case round =>
   obtain ⟨k, s, hk, rfl, rfl, hs, hs6, hp, hB⟩ := hrel
   have HS := Lib.hid hs; have HP := Lib.hid hp
   clear hs hp
   by_cases hlt : k < I.length
   ·obtain ⟨_, _, _, e, _, hc⟩ := HI.out.stays hB
    cases e
    obtain ⟨b1, off, rfl, hbl, g⟩ := hc (by omega)
    obtain ⟨c0, c1, c2, c3⟩ := g k hlt
    clear g hc
    have hbk : decide ((k : Int) < (I.length : Int)) = true := by simpa using (show (k : Int) < I.length by omega)
    have hcut := fewer_len I k hlt
    have hsub := sizeT_take I (k + 1)
    have hmem : I[k]'hlt ∈ I := List.getElem_mem hlt
    have htk : I.take (k + 1) = I.take k ++ [I[k]'hlt] := List.take_succ_eq_append_getElem hlt
    obtain ⟨x, hx⟩ : ∃ x, I[k]'hlt = x := ⟨_, rfl⟩
    rw [hx] at c0 c1 c2 c3 hcut hmem htk
    have hba := (Below.refl wr.heap.size wr).alloc (Nat.le_refl _) (.cells #[.string x.p, .bool x.d, .bool x.e, .string x.c] 52)
    have hB2 := below_step hB hba
    have HCUT := Lib.hid hcut; have HSUB := Lib.hid hsub; have HMEM := Lib.hid hmem; have HTK := Lib.hid htk
    clear hx hcut hsub hmem htk hba
    by_cases h6 : 6000 < s + x.c.size
    ·have HN : Hid (fewTB mn av mx I = false) := Lib.hid (fewTB_no fun h => by have := h.2.1; have := HSUB.out; have := HCUT.out; have := HS.out; omega)
     have q6 : decide ((6000 : Int) < (s : Int) + (x.c.size : Int)) = true := decide_eq_true (by omega)
     have hbig := HZ.out x HMEM.out
     have hsum : IntKind.i64.wrap ((s : Int) + (x.c.size : Int)) = (s : Int) + (x.c.size : Int) := IntWalk.i64_in _ (by omega)
     go_wp2
     go_ret
     exact ⟨by rw [HN.out]; rfl, below_step HB0.out hB2⟩
    ·have q6 : decide ((6000 : Int) < (s : Int) + (x.c.size : Int)) = false := decide_eq_false (by omega)
     have hsum : IntKind.i64.wrap ((s : Int) + (x.c.size : Int)) = (s : Int) + (x.c.size : Int) := IntWalk.i64_in _ (by omega)
     by_cases h400 : x.p.size ≤ 400
     ·have q4 : decide ((400 : Int) < (x.p.size : Int)) = false := by simp; omega
      go_wp2
      go_roundw
      case rel => exact ⟨k + 1, s + x.c.size, by omega, by go_num, by go_num, by rw [HCUT.out, ← HS.out], by omega, fun u hu => by
       rw [HTK.out] at hu
       rcases List.mem_append.1 hu with h | h
       ·exact HP.out u h
       ·rw [List.mem_singleton.1 h]; exact h400, hB2⟩
      case measure => simp [intOf]; omega
     ·have q4 : decide ((400 : Int) < (x.p.size : Int)) = true := by simp; omega
      have HN : Hid (fewTB mn av mx I = false) := Lib.hid (fewTB_no fun h => h400 (h.2.2.1 x HMEM.out))
      go_wp2
      go_ret
      exact ⟨by rw [HN.out]; rfl, below_step HB0.out hB2⟩
   ·have hge : decide ((k : Int) < (I.length : Int)) = false := by simp; omega
    have htk : I.take k = I := List.take_of_length_le (by omega)
    have hs1 := HS.out
    have hp1 := HP.out
    rw [htk] at hs1 hp1
    have hfb : fewB I = true := few_mk h70 (fun x hx => ⟨hp1 x hx, by
     have : x.c.size ≤ sizeT I := sum_mem (f := fun y : It => y.c.size) hx
     omega⟩)
    have HF : Hid (rdyB mn av mx I = fewTB mn av mx I) := Lib.hid (by
     cases hr : rdyB mn av mx I
     ·exact (fewTB_no fun h => by rw [rdyB_yes h.2.2.2] at hr; cases hr).symm
     ·exact (fewTB_yes ⟨h70, by omega, hp1, rdyB_iff.1 hr⟩).symm)
    have C := Lib.hid (CR.out wr hB hfb)
    rw [HF.out] at C
    have hR2 := HR0.out.step hB
    have p0 := hR2.cell 0; have p1 := hR2.cell 1; have p2 := hR2.cell 2
    simp only [List.getElem?_toArray, List.getElem?_cons_zero, List.getElem?_cons_succ] at p0 p1 p2
    clear hs1 hp1 hfb htk hR2
    go_wp2_with fail
    refine C.out.mono ?_
    rintro e w4 ⟨rfl, hb4⟩
    go_wp2
    go_ret
    exact ⟨rfl, below_step HB0.out (below_step hB hb4)⟩
 ·have q70 : decide ((70 : Int) < (I.length : Int)) = true := by simp; omega
  have HN : Hid (fewTB mn av mx I = false) := Lib.hid (fewTB_no fun h => h70 h.1)
  go_enter Tryz.func7, Tryz.ntmps7
  go_wp2_with fail
  rw [← HV.out]
  go_wp2
  go_ret
  exact ⟨by rw [HN.out]; rfl, HB0.out⟩
end Go.Proofs.YtjpjpmkadoaipaaGreatDoor
set_option linter.unusedVariables false
namespace Go.Proofs.YtjpjpmkadoaipaaGreatDoor
open Go.ChangeShapes Go.WideShapes Go.ChangeAt Go.RowKit Go.Joins
set_option maxRecDepth 100000 in
theorem open_params {H : Type} {enc : TypeId × Value → H} {W : World} {r : Reach} {b0 : Nat} {base : Nat} {spare : Nat → Bool} {held : Bool} {v : Value} {d : DataW H} {p : List MemPlace}
  (hv : Value.okWide Tryz.prog W r b0 23 v) (h : DataW.Trod enc Tryz.prog W base spare held 23 v d p) : ∃ mn av mx : Int, v = pV mn av mx := by
 obtain ⟨v0, v1, v2, y0, y1, y2, n, rfl, _, _, h0, h1, h2⟩ := open_agg3 Tryz.underlying23 (by kernel_rfl) (by kernel_rfl) hv h
 obtain ⟨a, ha, _, _⟩ := DataW.trod_int Tryz.underlying3 h0
 obtain ⟨b, hb, _, _⟩ := DataW.trod_int Tryz.underlying3 h1
 obtain ⟨c, hc, _, _⟩ := DataW.trod_int Tryz.underlying3 h2
 simp only [List.cons.injEq, and_true] at ha hb hc
 subst ha hb hc
 exact ⟨a, b, c, rfl⟩
end Go.Proofs.YtjpjpmkadoaipaaGreatDoor
set_option linter.unusedVariables false
namespace Go.Proofs.YtjpjpmkadoaipaaGreatDoor
open Go.RowKit Go.Extern.Stop Go.Stop Go.Extern
abbrev errK (k : Int) : Value := .iface 30 (.int .i64 k)
abbrev faultV (s : ByteArray) (k : Int) : Value := .iface 99 (.agg #[.string s, errK k])
theorem errnoType (v : Value) (w : World) : (ReflectliteType.typeOf #[.iface 30 v]).run Tryz.prog w = .ok (.iface 146 (.agg #[.pointer (some ⟨2, 30, none⟩)])) w := by kernel_rfl
theorem errnoComparable (w : World) : ((ReflectliteType.method fun t => do Rtype.noPackHeld "Comparable" t; (fun a => Value.bool a.comparable) <$> typeInfo t) #[.agg #[.pointer (some ⟨2, 30, none⟩)]]).run Tryz.prog w = .ok (.bool true) w := by kernel_rfl
theorem methodComparable (n : Nat) (v : Value) (w : World) : (Go.method (n + 1) 146 v "Comparable").run Tryz.prog w = .ok (221, v) w := by kernel_rfl
theorem noIsF (v : Value) (xT : TypeId) (w : World) : (Instr.typeAssert (.iface 99 v) xT 148 true).run Tryz.prog w = .ok (.tuple #[.nilIface, .bool false]) w := run_typeAssert_lacksB Tryz.underlying148 (by kernel_rfl) (by kernel_rfl) v xT w
theorem hasUnwrapF (v : Value) (xT : TypeId) (w : World) : (Instr.typeAssert (.iface 99 v) xT 151 true).run Tryz.prog w = .ok (.tuple #[.iface 99 v, .bool true]) w := run_typeAssert_hasB Tryz.underlying151 (by kernel_rfl) v xT w
theorem noIsK (v : Value) (xT : TypeId) (w : World) : (Instr.typeAssert (.iface 30 v) xT 148 true).run Tryz.prog w = .ok (.tuple #[.nilIface, .bool false]) w := run_typeAssert_lacksB Tryz.underlying148 (by kernel_rfl) (by kernel_rfl) v xT w
theorem noUnwrapK (v : Value) (xT : TypeId) (w : World) : (Instr.typeAssert (.iface 30 v) xT 151 true).run Tryz.prog w = .ok (.tuple #[.nilIface, .bool false]) w := run_typeAssert_lacksB Tryz.underlying151 (by kernel_rfl) (by kernel_rfl) v xT w
theorem noUnwrapsK (v : Value) (xT : TypeId) (w : World) : (Instr.typeAssert (.iface 30 v) xT 153 true).run Tryz.prog w = .ok (.tuple #[.nilIface, .bool false]) w := run_typeAssert_lacksB Tryz.underlying153 (by kernel_rfl) (by kernel_rfl) v xT w
theorem methodUnwrapF (n : Nat) (v : Value) (w : World) : (Go.method (n + 1) 99 v "Unwrap").run Tryz.prog w = .ok (216, v) w := by kernel_rfl
theorem errnoEq (a b : Int) (w : World) : (binOp .eql 59 (errK a) (errK b)).run Tryz.prog w = .ok (.bool (a == b)) w := by kernel_rfl
theorem is_nil_any (k : Int) (w : World) : Calls Tryz.prog 31 #[.nilIface, errK k] w fun e w' => e = .returned (.bool false) ∧ w' = w := by
 have hn := run_eql_iface_nil_left (P := Tryz.prog) w 30 (.int .i64 k) Tryz.underlying59
 go_enter Tryz.func31, Tryz.ntmps31
 go_wp2
 go_ret
 exact ⟨rfl, rfl⟩
set_option maxRecDepth 100000 in
set_option maxHeartbeats 2000000 in
theorem is_fault (s : ByteArray) (a b : Int) (w : World) : Calls Tryz.prog 31 #[faultV s a, errK b] w fun e w' => e = .returned (.bool (a == b)) ∧ Below w.heap.size w w' := by
 have h8 := @run_callFunc_extern Tryz.prog 59 _ ReflectliteType.typeOf Tryz.func59 (by kernel_rfl) (by kernel_rfl) (by kernel_rfl) (by kernel_rfl)
 have h32 := @run_callFunc_extern Tryz.prog 221 _ (ReflectliteType.method fun t => do Rtype.noPackHeld "Comparable" t; pure (.bool (← typeInfo t).comparable)) Tryz.func221 (by kernel_rfl) (by kernel_rfl) (by kernel_rfl) (by kernel_rfl)
 have tT := errnoType
 have cT := errnoComparable
 have mR := methodComparable
 have n1 := noIsF
 have n2 := hasUnwrapF
 have n3 := noIsK
 have n4 := noUnwrapK
 have n5 := noUnwrapsK
 have n6 := methodUnwrapF
 have eq1 := errnoEq a b
 have HB := Lib.hid ((Below.refl w.heap.size w).alloc (Nat.le_refl _) (.cells #[.string s, errK a] 99))
 have hty := run_eql_iface_types (P := Tryz.prog) 99 30 (.agg #[.string s, errK a]) (.int .i64 b) Tryz.underlying59 (by decide) w
 go_enter Tryz.func31, Tryz.ntmps31
 by_cases h : a = b
 ·subst h
  have hb : (a == a) = true := beq_self_eq_true a
  rw [hb] at eq1 ⊢
  go_wp2
  refine wp_loop_rounds 2 ?_
  rw [rounds_succ]
  go_wp2
  rw [rounds_succ]
  go_wp2
  go_ret
  exact ⟨rfl, HB.out⟩
 ·have hb : (a == b) = false := beq_eq_false_iff_ne.2 h
  rw [hb] at eq1 ⊢
  clear h
  go_wp2
  refine wp_loop_rounds 2 ?_
  rw [rounds_succ]
  go_wp2
  rw [rounds_succ]
  go_wp2
  go_ret
  exact ⟨rfl, HB.out⟩
end Go.Proofs.YtjpjpmkadoaipaaGreatDoor
set_option linter.unusedVariables false
namespace Go.Proofs.YtjpjpmkadoaipaaGreatDoor
open Go.RowKit
attribute [local go_sem] Oper.semAt_some
theorem wrong_at0 (w : World) : (Instr.index 94 (.agg #[.int .i64 5, .int .i64 11, .int .i64 2, .int .i64 10, .int .i64 8, .int .i64 9, .int .i64 4]) (.int .i64 0)).run Tryz.prog w = .ok (.int .i64 5) w := by kernel_rfl
theorem wrong_at1 (w : World) : (Instr.index 94 (.agg #[.int .i64 5, .int .i64 11, .int .i64 2, .int .i64 10, .int .i64 8, .int .i64 9, .int .i64 4]) (.int .i64 1)).run Tryz.prog w = .ok (.int .i64 11) w := by kernel_rfl
theorem wrong_at2 (w : World) : (Instr.index 94 (.agg #[.int .i64 5, .int .i64 11, .int .i64 2, .int .i64 10, .int .i64 8, .int .i64 9, .int .i64 4]) (.int .i64 2)).run Tryz.prog w = .ok (.int .i64 2) w := by kernel_rfl
theorem wrong_at3 (w : World) : (Instr.index 94 (.agg #[.int .i64 5, .int .i64 11, .int .i64 2, .int .i64 10, .int .i64 8, .int .i64 9, .int .i64 4]) (.int .i64 3)).run Tryz.prog w = .ok (.int .i64 10) w := by kernel_rfl
theorem wrong_at4 (w : World) : (Instr.index 94 (.agg #[.int .i64 5, .int .i64 11, .int .i64 2, .int .i64 10, .int .i64 8, .int .i64 9, .int .i64 4]) (.int .i64 4)).run Tryz.prog w = .ok (.int .i64 8) w := by kernel_rfl
theorem wrong_at5 (w : World) : (Instr.index 94 (.agg #[.int .i64 5, .int .i64 11, .int .i64 2, .int .i64 10, .int .i64 8, .int .i64 9, .int .i64 4]) (.int .i64 5)).run Tryz.prog w = .ok (.int .i64 9) w := by kernel_rfl
theorem wrong_at6 (w : World) : (Instr.index 94 (.agg #[.int .i64 5, .int .i64 11, .int .i64 2, .int .i64 10, .int .i64 8, .int .i64 9, .int .i64 4]) (.int .i64 6)).run Tryz.prog w = .ok (.int .i64 4) w := by kernel_rfl
def wrongs : List Int := [5, 11, 2, 10, 8, 9, 4]
set_option maxRecDepth 100000 in
set_option maxHeartbeats 8000000 in
theorem fnumber_any (s : ByteArray) (k : Int) (hk : k ∈ wrongs) (w : World) : Calls Tryz.prog 26 #[faultV s k] w fun e w' => e = .returned (.int .i64 k) ∧ Below w.heap.size w w' := by
 have C := fun b W => Lib.hid (is_fault s k b W)
 have HK := Lib.hid hk
 clear hk
 go_enter Tryz.func26, Tryz.ntmps26
 go_wp2
 go_loopw [6] (fun i wr => ∃ m : Nat, m < 7 ∧ i = .int .i64 m ∧ k ∉ wrongs.take m ∧ Below w.heap.size w wr) (fun i _ => 7 - (intOf i).toNat)
 case atStart => exact ⟨0, by omega, rfl, by simp, Below.refl _ _⟩
 case round =>
  obtain ⟨m, hm, rfl, hn, hb⟩ := hrel
  have HN := Lib.hid hn; have HB := Lib.hid hb
  clear hn hb
  obtain rfl | rfl | rfl | rfl | rfl | rfl | rfl : m = 0 ∨ m = 1 ∨ m = 2 ∨ m = 3 ∨ m = 4 ∨ m = 5 ∨ m = 6 := by omega
  ·have ix := wrong_at0
   have C1 := C 5
   by_cases he : k = 5
   ·have h1 : (k == 5) = true := beq_iff_eq.2 he
    rw [h1] at C1
    clear h1
    have HE := Lib.hid he
    clear he
    go_wp2_with fail
    with_reducible refine (C1 _).out.mono ?_
    rintro e w1 ⟨rfl, hb1⟩
    have HB1 := Lib.hid (below_step HB.out hb1)
    clear hb1
    go_wp2
    go_ret
    exact ⟨by rw [HE.out]; rfl, HB1.out⟩
   ·have h1 : (k == 5) = false := beq_eq_false_iff_ne.2 he
    rw [h1] at C1
    clear h1
    have HE := Lib.hid he
    clear he
    go_wp2_with fail
    with_reducible refine (C1 _).out.mono ?_
    rintro e w1 ⟨rfl, hb1⟩
    have HB1 := Lib.hid (below_step HB.out hb1)
    clear hb1
    go_wp2
    go_roundw
    case rel => exact ⟨1, by omega, by go_num, by
     have a := HN.out; have b := HE.out
     simp [wrongs] at a b ⊢
     omega, HB1.out⟩
    case measure => simp [intOf]
  ·have ix := wrong_at1
   have C1 := C 11
   by_cases he : k = 11
   ·have h1 : (k == 11) = true := beq_iff_eq.2 he
    rw [h1] at C1
    clear h1
    have HE := Lib.hid he
    clear he
    go_wp2_with fail
    with_reducible refine (C1 _).out.mono ?_
    rintro e w1 ⟨rfl, hb1⟩
    have HB1 := Lib.hid (below_step HB.out hb1)
    clear hb1
    go_wp2
    go_ret
    exact ⟨by rw [HE.out]; rfl, HB1.out⟩
   ·have h1 : (k == 11) = false := beq_eq_false_iff_ne.2 he
    rw [h1] at C1
    clear h1
    have HE := Lib.hid he
    clear he
    go_wp2_with fail
    with_reducible refine (C1 _).out.mono ?_
    rintro e w1 ⟨rfl, hb1⟩
    have HB1 := Lib.hid (below_step HB.out hb1)
    clear hb1
    go_wp2
    go_roundw
    case rel => exact ⟨2, by omega, by go_num, by
     have a := HN.out; have b := HE.out
     simp [wrongs] at a b ⊢
     omega, HB1.out⟩
    case measure => simp [intOf]
  ·have ix := wrong_at2
   have C1 := C 2
   by_cases he : k = 2
   ·have h1 : (k == 2) = true := beq_iff_eq.2 he
    rw [h1] at C1
    clear h1
    have HE := Lib.hid he
    clear he
    go_wp2_with fail
    with_reducible refine (C1 _).out.mono ?_
    rintro e w1 ⟨rfl, hb1⟩
    have HB1 := Lib.hid (below_step HB.out hb1)
    clear hb1
    go_wp2
    go_ret
    exact ⟨by rw [HE.out]; rfl, HB1.out⟩
   ·have h1 : (k == 2) = false := beq_eq_false_iff_ne.2 he
    rw [h1] at C1
    clear h1
    have HE := Lib.hid he
    clear he
    go_wp2_with fail
    with_reducible refine (C1 _).out.mono ?_
    rintro e w1 ⟨rfl, hb1⟩
    have HB1 := Lib.hid (below_step HB.out hb1)
    clear hb1
    go_wp2
    go_roundw
    case rel => exact ⟨3, by omega, by go_num, by
     have a := HN.out; have b := HE.out
     simp [wrongs] at a b ⊢
     omega, HB1.out⟩
    case measure => simp [intOf]
  ·have ix := wrong_at3
   have C1 := C 10
   by_cases he : k = 10
   ·have h1 : (k == 10) = true := beq_iff_eq.2 he
    rw [h1] at C1
    clear h1
    have HE := Lib.hid he
    clear he
    go_wp2_with fail
    with_reducible refine (C1 _).out.mono ?_
    rintro e w1 ⟨rfl, hb1⟩
    have HB1 := Lib.hid (below_step HB.out hb1)
    clear hb1
    go_wp2
    go_ret
    exact ⟨by rw [HE.out]; rfl, HB1.out⟩
   ·have h1 : (k == 10) = false := beq_eq_false_iff_ne.2 he
    rw [h1] at C1
    clear h1
    have HE := Lib.hid he
    clear he
    go_wp2_with fail
    with_reducible refine (C1 _).out.mono ?_
    rintro e w1 ⟨rfl, hb1⟩
    have HB1 := Lib.hid (below_step HB.out hb1)
    clear hb1
    go_wp2
    go_roundw
    case rel => exact ⟨4, by omega, by go_num, by
     have a := HN.out; have b := HE.out
     simp [wrongs] at a b ⊢
     omega, HB1.out⟩
    case measure => simp [intOf]
  ·have ix := wrong_at4
   have C1 := C 8
   by_cases he : k = 8
   ·have h1 : (k == 8) = true := beq_iff_eq.2 he
    rw [h1] at C1
    clear h1
    have HE := Lib.hid he
    clear he
    go_wp2_with fail
    with_reducible refine (C1 _).out.mono ?_
    rintro e w1 ⟨rfl, hb1⟩
    have HB1 := Lib.hid (below_step HB.out hb1)
    clear hb1
    go_wp2
    go_ret
    exact ⟨by rw [HE.out]; rfl, HB1.out⟩
   ·have h1 : (k == 8) = false := beq_eq_false_iff_ne.2 he
    rw [h1] at C1
    clear h1
    have HE := Lib.hid he
    clear he
    go_wp2_with fail
    with_reducible refine (C1 _).out.mono ?_
    rintro e w1 ⟨rfl, hb1⟩
    have HB1 := Lib.hid (below_step HB.out hb1)
    clear hb1
    go_wp2
    go_roundw
    case rel => exact ⟨5, by omega, by go_num, by
     have a := HN.out; have b := HE.out
     simp [wrongs] at a b ⊢
     omega, HB1.out⟩
    case measure => simp [intOf]
  ·have ix := wrong_at5
   have C1 := C 9
   by_cases he : k = 9
   ·have h1 : (k == 9) = true := beq_iff_eq.2 he
    rw [h1] at C1
    clear h1
    have HE := Lib.hid he
    clear he
    go_wp2_with fail
    with_reducible refine (C1 _).out.mono ?_
    rintro e w1 ⟨rfl, hb1⟩
    have HB1 := Lib.hid (below_step HB.out hb1)
    clear hb1
    go_wp2
    go_ret
    exact ⟨by rw [HE.out]; rfl, HB1.out⟩
   ·have h1 : (k == 9) = false := beq_eq_false_iff_ne.2 he
    rw [h1] at C1
    clear h1
    have HE := Lib.hid he
    clear he
    go_wp2_with fail
    with_reducible refine (C1 _).out.mono ?_
    rintro e w1 ⟨rfl, hb1⟩
    have HB1 := Lib.hid (below_step HB.out hb1)
    clear hb1
    go_wp2
    go_roundw
    case rel => exact ⟨6, by omega, by go_num, by
     have a := HN.out; have b := HE.out
     simp [wrongs] at a b ⊢
     omega, HB1.out⟩
    case measure => simp [intOf]
  ·have ix := wrong_at6
   have C1 := C 4
   by_cases he : k = 4
   ·have h1 : (k == 4) = true := beq_iff_eq.2 he
    rw [h1] at C1
    clear h1
    have HE := Lib.hid he
    clear he
    go_wp2_with fail
    with_reducible refine (C1 _).out.mono ?_
    rintro e w1 ⟨rfl, hb1⟩
    have HB1 := Lib.hid (below_step HB.out hb1)
    clear hb1
    go_wp2
    go_ret
    exact ⟨by rw [HE.out]; rfl, HB1.out⟩
   ·have h1 : (k == 4) = false := beq_eq_false_iff_ne.2 he
    rw [h1] at C1
    clear h1
    have HE := Lib.hid he
    clear he
    go_wp2_with fail
    with_reducible refine (C1 _).out.mono ?_
    rintro e w1 ⟨rfl, hb1⟩
    have HB1 := Lib.hid (below_step HB.out hb1)
    clear hb1
    exact absurd HK.out (by
     have a := HN.out; have b := HE.out
     simp [wrongs] at a b ⊢
     omega)
end Go.Proofs.YtjpjpmkadoaipaaGreatDoor
set_option linter.unusedVariables false
namespace Go.Proofs.YtjpjpmkadoaipaaGreatDoor
open Go.RowKit Go.Sort
attribute [local go_sem] Oper.semAt_some
def ordB (x y : List UInt8) : Int := if x < y then -1 else if y < x then 1 else 0
theorem compare_ordB : ∀ a b : List UInt8, Lib.compareBytes a b = ordB a b
 | [], [] => rfl
 | [], _ :: _ => by unfold ordB Lib.compareBytes; rw [if_pos (List.nil_lt_cons _ _)]
 | _ :: _, [] => by unfold ordB Lib.compareBytes; rw [if_neg (List.not_lt_nil _), if_pos (List.nil_lt_cons _ _)]
 | a :: l, b :: m => by
  have ih := compare_ordB l m
  unfold Lib.compareBytes
  rw [ih]
  unfold ordB
  simp only [List.cons_lt_cons_iff]
  by_cases h : a < b
  ·rw [if_pos h, if_pos (.inl h)]
  ·by_cases h2 : b < a
   ·have hne : a ≠ b := fun e => by subst e; exact h h2
    rw [if_neg h, if_pos h2, if_neg (by rintro (x | x); exact h x; exact hne x.1), if_pos (.inl h2)]
   ·obtain rfl : a = b := by
     have h3 := UInt8.not_lt.1 h; have h4 := UInt8.not_lt.1 h2
     exact UInt8.le_antisymm h4 h3
    rw [if_neg h, if_neg h2]
    simp [h]
theorem ordB_lt {x y : List UInt8} (h : x < y) : ordB x y = -1 := if_pos h
theorem ordB_neg (x y : List UInt8) : decide (ordB x y < 0) = decide (x < y) := by
 unfold ordB
 by_cases h : x < y
 ·simp [h]
 ·rw [if_neg h]
  by_cases h2 : y < x
  ·simp [h, h2]
  ·simp [h, h2]
set_option maxRecDepth 100000 in
theorem CompareString_any (a b : ByteArray) (w : World) :
  Calls Tryz.prog 143 #[.string a, .string b] w fun e w' => e = .returned (.int .i64 (ordB a.data.toList b.data.toList)) ∧ w = w' := by
 rw [← compare_ordB]
 go_enter Tryz.func143, Tryz.ntmps143
 go_wp2
 rw [run_callFunc_extern Tryz.func165 (by kernel_rfl) (by kernel_rfl) (by kernel_rfl) (e := Extern.BytealgCompare.compare) (by kernel_rfl), Lib.run_compareString]
 simp only [Result.andThen]
 rw [Oper.upon_value]
 go_wp2
 go_ret
 exact ⟨rfl, rfl⟩
set_option maxRecDepth 100000 in
theorem strCompare_any (a b : ByteArray) (w : World) :
  Calls Tryz.prog 114 #[.string a, .string b] w fun e w' => e = .returned (.int .i64 (ordB a.data.toList b.data.toList)) ∧ w = w' := by
 have C := Lib.hid (CompareString_any a b)
 go_enter Tryz.func114, Tryz.ntmps114
 go_wp2_with fail
 with_reducible refine (C.out _).mono ?_
 rintro e w1 ⟨rfl, rfl⟩
 go_wp2
 go_ret
 exact ⟨rfl, rfl⟩
theorem place1_any (x : Ob) (s : ByteArray) (w : World) :
  Calls Tryz.prog 113 #[obV x, .string s] w fun e w' => e = .returned (.int .i64 (ordB x.t s.data.toList)) ∧ Below w.heap.size w w' := by
 have C := Lib.hid (strCompare_any x.k s)
 rw [show x.k.data.toList = x.t from rfl] at C
 have hb0 := (Below.refl w.heap.size w).alloc (Nat.le_refl _) (.cells #[.string x.k, .string x.r] 43)
 go_enter Tryz.func113, Tryz.ntmps113
 go_wp2_with fail
 refine (C.out _).mono ?_
 rintro e w1 ⟨rfl, rfl⟩
 go_wp2
 go_ret
 exact ⟨rfl, hb0⟩
def cntO (L : List Ob) (t : List UInt8) : Nat := (L.takeWhile fun y => decide (y.t < t)).length
theorem cntO_le (L : List Ob) (t : List UInt8) : cntO L t ≤ L.length := by
 unfold cntO
 exact (List.takeWhile_sublist _).length_le
theorem cntO_cons (x : Ob) (L : List Ob) (t : List UInt8) : cntO (x :: L) t = if x.t < t then cntO L t + 1 else 0 := by
 unfold cntO
 by_cases h : x.t < t
 ·simp [h]
 ·simp [h]
theorem cntO_at : ∀ {L : List Ob}, RiseO L → ∀ (t : List UInt8) (i : Nat) (h : i < L.length), L[i].t < t ↔ i < cntO L t
 | [], _, _, i, h => absurd h (by simp)
 | x :: L, hr, t, i, h => by
  obtain ⟨h1, h2⟩ := List.pairwise_cons.1 hr
  rw [cntO_cons]
  cases i with
  | zero =>
   by_cases hx : x.t < t
   ·simp [hx]
   ·simp [hx]
  | succ i =>
   have hi : i < L.length := by simpa using h
   have ih := cntO_at h2 t i hi
   show L[i].t < t ↔ _
   by_cases hx : x.t < t
   ·rw [if_pos hx, ih]; omega
   ·rw [if_neg hx]
    exact ⟨fun e => absurd (l_trans (h1 _ (List.getElem_mem hi)) e) hx, fun e => absurd e (by omega)⟩
theorem getO_at {L : List Ob} (hr : RiseO L) (t : List UInt8) : (∃ h : cntO L t < L.length, L[cntO L t].t = t ∧ getO L t = some L[cntO L t]) ∨ (getO L t = none ∧ ∀ h : cntO L t < L.length, L[cntO L t].t ≠ t ∧ ¬ L[cntO L t].t < t) := by
 by_cases h : cntO L t < L.length
 ·have h1 : ¬ L[cntO L t].t < t := fun e => by have := (cntO_at hr t _ h).1 e; omega
  by_cases h2 : L[cntO L t].t = t
  ·exact .inl ⟨h, h2, (getO_some hr).2 ⟨List.getElem_mem h, h2⟩⟩
  ·refine .inr ⟨getO_none.2 fun x hx e => ?_, fun _ => ⟨h2, h1⟩⟩
   obtain ⟨i, hi, ex⟩ := List.getElem_of_mem hx
   subst ex
   rcases Nat.lt_trichotomy i (cntO L t) with c | c | c
   ·have := (cntO_at hr t i hi).2 c
    rw [e] at this; exact l_irrefl _ this
   ·subst c; exact h2 e
   ·have := List.pairwise_iff_getElem.1 hr _ _ h hi c
    rw [e] at this; exact h1 this
 ·refine .inr ⟨getO_none.2 fun x hx e => ?_, fun h' => absurd h' h⟩
  obtain ⟨i, hi, ex⟩ := List.getElem_of_mem hx
  subst ex
  have := (cntO_at hr t i hi).2 (by omega)
  rw [e] at this; exact l_irrefl _ this
set_option maxRecDepth 100000 in
set_option maxHeartbeats 4000000 in
theorem oSearch_any (v : Value) (L : List Ob) (s : ByteArray) (w : World) (h : IsObs w v L) (hr : RiseO L) (h70 : L.length ≤ 1000000) :
  Calls Tryz.prog 112 #[v, .string s, .func (.func 113) #[] #[]] w fun e w' => e = .returned (.tuple #[.int .i64 (cntO L s.data.toList), .bool (getO L s.data.toList).isSome]) ∧ Below w.heap.size w w' := by
 have HI := Lib.hid h
 have P := Lib.hid (fun x w => place1_any x s w)
 obtain ⟨hm, a, cap, rfl, _, hc⟩ := h
 clear hc
 obtain ⟨t, ht⟩ : ∃ t, t = s.data.toList := ⟨_, rfl⟩
 rw [← ht] at P ⊢
 clear ht hm
 have HAT := Lib.hid (fun i (hi : i < L.length) => cntO_at hr t i hi)
 have HF := Lib.hid (getO_at hr t)
 have hcl := cntO_le L t
 obtain ⟨n, hn⟩ : ∃ n, n = cntO L t := ⟨_, rfl⟩
 rw [← hn] at hcl HAT ⊢
 have HF2 : Hid ((∃ h : n < L.length, L[n].t = t ∧ getO L t = some L[n]) ∨ (getO L t = none ∧ ∀ h : n < L.length, L[n].t ≠ t ∧ ¬ L[n].t < t)) := Lib.hid (by subst hn; exact HF.out)
 clear hn HF hr
 go_enter Tryz.func112, Tryz.ntmps112
 go_wp2
 go_loopw [9, 10] (fun i j wr => ∃ lo hi : Nat, i = .int .i64 lo ∧ j = .int .i64 hi ∧ lo ≤ n ∧ n ≤ hi ∧ hi ≤ L.length ∧ Below w.heap.size w wr) (fun i j _ => (intOf j).toNat - (intOf i).toNat)
 case atStart => exact ⟨0, L.length, rfl, rfl, Nat.zero_le _, hcl, Nat.le_refl _, Below.refl _ _⟩
 case round =>
  obtain ⟨lo, hi, rfl, rfl, hlo, hhi, hL, hB⟩ := hrel
  by_cases hlt : lo < hi
  ·have hmid : (lo + hi) / 2 < L.length := by omega
   obtain ⟨_, _, _, e, _, hc⟩ := HI.out.stays hB
   cases e
   obtain ⟨b, off, rfl, _, g⟩ := hc (by omega)
   obtain ⟨c0, c1⟩ := g ((lo + hi) / 2) hmid
   clear g hc
   have hat := HAT.out _ hmid
   obtain ⟨x, hx⟩ : ∃ x, x = L[(lo + hi) / 2] := ⟨_, rfl⟩
   rw [← hx] at c0 c1 hat
   clear hx
   have P1 := Lib.hid (P.out x)
   by_cases ho : x.t < t
   ·have hm := hat.1 ho
    rw [ordB_lt ho] at P1
    clear ho hat
    go_wp2_with fail
    refine (P1.out _).mono ?_
    rintro e w1 ⟨rfl, hb⟩
    have hB1 := below_step hB hb
    clear hb
    go_wp2
    go_roundw
    case rel => exact ⟨(lo + hi) / 2 + 1, hi, by go_num, rfl, by omega, hhi, hL, hB1⟩
    case measure => simp [intOf]; omega
   ·have hm : n ≤ (lo + hi) / 2 := by
     rcases Nat.lt_or_ge ((lo + hi) / 2) n with e | e
     ·exact absurd (hat.2 e) ho
     ·exact e
    obtain ⟨o, hoo⟩ : ∃ o, o = ordB x.t t := ⟨_, rfl⟩
    have h0 : decide (o < 0) = false := by rw [hoo, ordB_neg]; exact decide_eq_false ho
    rw [← hoo] at P1
    clear ho hat hoo
    go_wp2_with fail
    refine (P1.out _).mono ?_
    rintro e w1 ⟨rfl, hb⟩
    have hB1 := below_step hB hb
    clear hb
    go_wp2
    go_roundw
    case rel => exact ⟨lo, (lo + hi) / 2, rfl, by go_num, hlo, hm, by omega, hB1⟩
    case measure => simp [intOf]; omega
  ·obtain rfl : lo = n := by omega
   have hnlh : ¬ lo < hi := hlt
   clear hlt hlo hhi
   by_cases hlt : lo < L.length
   ·have hbk : decide ((lo : Int) < (L.length : Int)) = true := decide_eq_true (by omega)
    obtain ⟨_, _, _, e, _, hc⟩ := HI.out.stays hB
    cases e
    obtain ⟨b, off, rfl, _, g⟩ := hc (by omega)
    obtain ⟨c0, c1⟩ := g lo hlt
    clear g hc
    have hF := HF2.out
    obtain ⟨x, hx⟩ : ∃ x, x = L[lo] := ⟨_, rfl⟩
    have hF' : (x.t = t ∧ getO L t = some x) ∨ (getO L t = none ∧ x.t ≠ t) := by
     rcases hF with ⟨h, h1, h2⟩ | ⟨h1, h2⟩
     ·exact .inl ⟨by rw [hx]; exact h1, by rw [hx]; exact h2⟩
     ·exact .inr ⟨h1, by rw [hx]; exact (h2 hlt).1⟩
    rw [← hx] at c0 c1
    clear hx hF
    have P1 := Lib.hid (P.out x)
    rcases hF' with ⟨h1, h2⟩ | ⟨h1, h2⟩
    ·have HV : Hid ((getO L t).isSome = true) := Lib.hid (by rw [h2]; rfl)
     rw [show ordB x.t t = 0 by rw [h1]; unfold ordB; simp [l_irrefl]] at P1
     clear h1 h2
     go_wp2_with fail
     refine (P1.out _).mono ?_
     rintro e w1 ⟨rfl, hb⟩
     have hB1 := below_step hB hb
     clear hb
     go_wp2
     go_ret2
     exact ⟨by rw [HV.out]; rfl, hB1⟩
    ·have HV : Hid ((getO L t).isSome = false) := Lib.hid (by rw [h1]; rfl)
     obtain ⟨o, hoo⟩ : ∃ o, o = ordB x.t t := ⟨_, rfl⟩
     have ho : (o == 0) = false := beq_eq_false_iff_ne.2 (by
      rw [hoo]; unfold ordB
      by_cases c : x.t < t
      ·rw [if_pos c]; decide
      ·rw [if_neg c]
       by_cases c2 : t < x.t
       ·rw [if_pos c2]; decide
       ·exact absurd (l_tri _ _ c c2) h2)
     rw [← hoo] at P1
     clear h1 h2 hoo
     go_wp2_with fail
     refine (P1.out _).mono ?_
     rintro e w1 ⟨rfl, hb⟩
     have hB1 := below_step hB hb
     clear hb
     go_wp2
     go_ret2
     exact ⟨by rw [HV.out]; rfl, hB1⟩
   ·have hbk : decide ((lo : Int) < (L.length : Int)) = false := decide_eq_false (by omega)
    have HV : Hid ((getO L t).isSome = false) := Lib.hid (by
     rcases HF2.out with ⟨h, _⟩ | ⟨h1, _⟩
     ·exact absurd h hlt
     ·rw [h1]; rfl)
    go_wp2
    go_ret2
    exact ⟨by rw [HV.out]; rfl, hB⟩
theorem oPlace_any (v : Value) (L : List Ob) (s : ByteArray) (w : World) (h : IsObs w v L) (hr : RiseO L) (h70 : L.length ≤ 1000000) :
  Calls Tryz.prog 81 #[v, .string s] w fun e w' => e = .returned (.tuple #[.int .i64 (cntO L s.data.toList), .bool (getO L s.data.toList).isSome]) ∧ Below w.heap.size w w' := by
 have C := Lib.hid (oSearch_any v L s w h hr h70)
 go_enter Tryz.func81, Tryz.ntmps81
 go_wp2_with fail
 refine C.out.mono ?_
 rintro e w1 ⟨rfl, hb⟩
 go_wp2
 go_ret2
 exact ⟨rfl, hb⟩
set_option maxRecDepth 100000 in
set_option maxHeartbeats 2000000 in
theorem pGet_any (v : Value) (L : List Ob) (s : ByteArray) (w : World) (h : IsObs w v L) (hr : RiseO L) (h70 : L.length ≤ 1000000) :
  Calls Tryz.prog 57 #[v, .string s] w fun e w' => e = .returned (.tuple #[.string (gotO L s.data.toList), .bool (getO L s.data.toList).isSome]) ∧ Below w.heap.size w w' := by
 have C := Lib.hid (oPlace_any v L s w h hr h70)
 have HI := Lib.hid h
 have hF := getO_at hr s.data.toList
 obtain ⟨hm, a, cap, rfl, _, hc⟩ := h
 have hmm : L.length ≤ 9223372036854775807 := by unfold maxLen at hm; omega
 clear hc hr hm
 obtain ⟨t, ht⟩ : ∃ t, t = s.data.toList := ⟨_, rfl⟩
 rw [← ht] at C hF ⊢
 clear ht
 rcases hF with ⟨hlt, h1, h2⟩ | ⟨h1, h2⟩
 ·have HV : Hid ((getO L t).isSome = true) := Lib.hid (by rw [h2]; rfl)
  have HG := Lib.hid (gotO_some h2)
  rw [HV.out] at C
  obtain ⟨n, hn⟩ : ∃ n, n = cntO L t := ⟨_, rfl⟩
  obtain ⟨x, hx⟩ : ∃ x, x = L[cntO L t] := ⟨_, rfl⟩
  have HXX : Hid (∀ h : n < L.length, L[n] = x) := Lib.hid (fun h => by rw [hx]; congr 1)
  rw [← hx] at HG
  rw [← hn] at C hlt
  clear hn hx h1 h2
  go_enter Tryz.func57, Tryz.ntmps57
  go_wp2_with fail
  refine C.out.mono ?_
  rintro e w1 ⟨rfl, hb⟩
  obtain ⟨_, _, _, e, _, hc⟩ := HI.out.stays hb
  cases e
  obtain ⟨b, off, rfl, _, g⟩ := hc (by omega)
  obtain ⟨c0, c1⟩ := g n hlt
  rw [HXX.out hlt] at c0 c1
  clear g hc
  have hnl : (n : Int) < (L.length : Int) := by omega
  go_wp2
  go_ret2
  exact ⟨by rw [HG.out, HV.out]; rfl, hb⟩
 ·have HV : Hid ((getO L t).isSome = false) := Lib.hid (by rw [h1]; rfl)
  have HG := Lib.hid (gotO_none h1)
  rw [HV.out] at C
  obtain ⟨n, hn⟩ : ∃ n, n = cntO L t := ⟨_, rfl⟩
  rw [← hn] at C
  clear hn h1 h2
  go_enter Tryz.func57, Tryz.ntmps57
  go_wp2_with fail
  refine C.out.mono ?_
  rintro e w1 ⟨rfl, hb⟩
  go_wp2
  go_ret2
  exact ⟨by rw [HG.out, HV.out]; rfl, hb⟩
end Go.Proofs.YtjpjpmkadoaipaaGreatDoor
set_option linter.unusedVariables false
namespace Go.Proofs.YtjpjpmkadoaipaaGreatDoor
open Go.RowKit
attribute [local go_sem] Oper.semAt_some
theorem rWriteF_any (n : Nd) (pv ev : Value) (w : World) (hp : IsParts w pv n.ps) (he : IsEntries w ev n.es) (hf : fitN n = true) :
  Calls Tryz.prog 66 #[ndV n pv ev] w fun e w' => e = .returned (.string ⟨(wrN n).toArray⟩) ∧ Below w.heap.size w w' := by
 rw [wrN_fit hf]
 obtain ⟨kd, d, ps, es⟩ := n
 rcases fit_kinds hf with h | h | h <;> simp only at h <;> subst h
 ·obtain ⟨_, _, h3, h4⟩ := fit1 rfl hf
  simp only at h3 h4; subst h3 h4
  exact rWrite1 d pv ev w hp he hf
 ·obtain ⟨h1, h2, _, _⟩ := fit2 rfl hf
  simp only at h1 h2; subst h1 h2
  exact rWrite2 ps pv ev w hp he hf
 ·obtain ⟨h1, h2, _, _⟩ := fit3 rfl hf
  simp only at h1 h2; subst h1 h2
  exact rWrite3 es pv ev w hp he hf
set_option maxRecDepth 100000 in
set_option maxHeartbeats 1000000 in
theorem rWrite_any (n : Nd) (pv ev : Value) (w : World) (hp : IsParts w pv n.ps) (he : IsEntries w ev n.es) :
  Calls Tryz.prog 66 #[ndV n pv ev] w fun e w' => e = .returned (.string ⟨(wrN n).toArray⟩) ∧ Below w.heap.size w w' := by
 rcases hf : fitN n with _ | _
 ·have HN := Lib.hid (wrN_un hf)
  obtain ⟨_, a1, cap1, hv1, _, _⟩ := id hp
  obtain ⟨_, a2, cap2, hv2, _, _⟩ := id he
  subst hv1 hv2
  have hb0 := (Below.refl w.heap.size w).alloc (Nat.le_refl _) (.cells #[.int .i64 n.kd, .string n.d, .slice a1 n.ps.length cap1, .slice a2 n.es.length cap2] 71)
  have RF := Lib.hid (rFit_any n _ _ _ (hp.stays hb0) (he.stays hb0))
  rw [hf] at RF
  clear hf hp he
  go_enter Tryz.func66, Tryz.ntmps66
  go_wp2_with fail
  refine RF.out.mono ?_
  rintro e w1 ⟨rfl, hb1⟩
  go_wp2
  go_ret
  exact ⟨by rw [HN.out]; rfl, below_step hb0 hb1⟩
 ·exact rWriteF_any n pv ev w hp he hf
def keysP (L : List Pt) : List Txt := L.map (·.k.data.toList)
def keysE (L : List En) : List Txt := L.map (·.k.data.toList)
def kidsN (n : Nd) : List Txt := keysP n.ps ++ keysE n.es
theorem keysP_step {L : List Pt} {k : Nat} (hk : k < L.length) : keysP (L.take (k + 1)) = keysP (L.take k) ++ [L[k].k.data.toList] := by
 unfold keysP; rw [List.take_succ_eq_append_getElem hk, List.map_append]; rfl
theorem keysE_step {L : List En} {k : Nat} (hk : k < L.length) : keysE (L.take (k + 1)) = keysE (L.take k) ++ [L[k].k.data.toList] := by
 unfold keysE; rw [List.take_succ_eq_append_getElem hk, List.map_append]; rfl
theorem wpList_append_txt2 {ops : Array Oper} {rest : List Oper} {o : Oper} {a : Act} {W w0 : World} {z : Nat} {Q : Exit → Act → World → Prop} (hgd : o.guard = none) (s x : Operand)
  (ho : o.op = .call { callee := .builtin .append, args := #[s, x], argTypes := #[33, 33] })
  {v : Value} {M : List (List UInt8)} {y : ByteArray} (hown : OwnTxt W w0 v M) (hb : Below W.heap.size W w0) (hz : z = w0.heap.size) (hs : a.eval s = v)
  (hx : a.eval x = .slice (some ⟨z, 0, none⟩) 1 1) (hlen : M.length ≤ 1000000)
  (h : ∀ v' w', OwnTxt W w' v' (M ++ [y.data.toList]) → Below W.heap.size W w' → wpList Tryz.prog ops Q rest (a.put o.dst v') w') :
  wpList Tryz.prog ops Q (o :: rest) a (w0.alloc (.cells #[.string y] 9)) := by
 subst hz
 exact wpList_append_txt hgd s x ho hown hb hs hx hlen h
theorem keysP_len (L : List Pt) : (keysP L).length = L.length := List.length_map ..
theorem keysE_len (L : List En) : (keysE L).length = L.length := List.length_map ..
end Go.Proofs.YtjpjpmkadoaipaaGreatDoor
set_option linter.unusedVariables false
namespace Go.Proofs.YtjpjpmkadoaipaaGreatDoor
open Go.RowKit Go.Shelf
set_option maxHeartbeats 2000000 in
set_option maxRecDepth 100000 in
theorem WriteString_k_Bus (B b : Nat) (bs : List Value) (s : ByteArray) (w : World) (h : Lib.IsBuilderF 168 5 B b bs w) (hlen : bs.length + s.size ≤ 140737488355328) (hBw : B ≤ w.heap.size) :
  Calls Tryz.prog 99 #[.pointer (some ⟨b, 0, none⟩), .string s] w fun e w' => e = .returned (.tuple #[.int .i64 s.size, .nilIface]) ∧ (Lib.BuilderAtF 168 5 B b (.pointer (some ⟨b, 0, none⟩)) (bs ++ Lib.strCells s) w' ∧ Below B w w' ∧ Lib.OthersKept 5 (some b) w w') := by
 obtain ⟨i0, hi, hz0, hz1, hz2⟩ := info_parts infoByte
 go_enter Tryz.func99, Tryz.ntmps99
 go_wp2_with (go_at_call 136; refine (copyCheck_k B b bs _ h).mono ?_)
 rintro e w1 ⟨rfl, h1, hb1, hk1⟩
 obtain ⟨hB, v, hbk, hown, hne⟩ := h1
 have c0 : w1.cell? ⟨b, 0, none⟩ = some (.pointer (some ⟨b, 0, none⟩)) := by rw [Lib.cell_of_heap hbk]; rfl
 have c1 : w1.cell? ⟨b, 1, none⟩ = some v := by rw [Lib.cell_of_heap hbk]; rfl
 go_wp2_with (at_builtin; refine Lib.wpList_append_own_stringF _ rfl _ _ 113 9 rfl B 5 i0 Tryz.underlying113 Tryz.underlying9 hi hz0 hz1 hz2 _ _ _ rfl hown s rfl ?c3 ?c4 ?c5 ?_)
 case c3 => unfold maxLen; omega
 case c4 => omega
 case c5 => have := hb1.size; omega
 intro v' w2 hown' hgrow _
 have hlt : b < w1.heap.size := (Array.getElem?_eq_some_iff.1 hbk).1
 have hb2 : w2.heap[b]? = some (.cells #[.pointer (some ⟨b, 0, none⟩), v] 168 (0, 0)) := by
  rw [hgrow.block b hlt (fun e => hne e.symm)]
  exact hbk
 have d0 : w2.cell? ⟨b, 0, none⟩ = some (.pointer (some ⟨b, 0, none⟩)) := by rw [Lib.cell_of_heap hb2]; rfl
 have d1 : w2.cell? ⟨b, 1, none⟩ = some v := by rw [Lib.cell_of_heap hb2]; rfl
 have f1 : w2.frozen? ⟨b, 1, none⟩ = false := Lib.frozen_of_heap hb2 1
 obtain ⟨ao, n', cap, rfl⟩ : ∃ ao n' cap, v' = .slice ao n' cap := by
  rcases hown'.2 with ⟨hv, _⟩ | ⟨g, cap, cur, fz, hv, _⟩
  ·exact ⟨_, _, _, hv⟩
  ·exact ⟨_, _, _, hv⟩
 go_wp2
 go_ret2
 refine ⟨rfl, ?_, ?_, (hk1.grown hgrow (Lib.ownsRowF_kind hown)).setCell ⟨b, 1, none⟩ rfl _⟩
 ·exact Lib.BuilderAtF.put (T := 168) (e := 5) hB hb2 (bs' := bs ++ Lib.strCells s) (by simpa [Lib.strCells_length] using hown') (by decide)
 ·exact (hb1.grown hgrow (by have := hb1.size; omega) (fun k hk => (hown.lt k hk).1)).setCell (p := ⟨b, 1, none⟩) hB _
theorem size_mk (l : List UInt8) : (⟨l.toArray⟩ : ByteArray).size = l.length := by simp [ByteArray.size]
theorem builder_step {T e : TypeId} {B b : Nat} {bs : List Value} {w w' : World} (h : Lib.IsBuilderF T e B b bs w) (hb : Below w.heap.size w w') : Lib.IsBuilderF T e B b bs w' := by
 have hg : w.grownBy w' none := ⟨hb.os, hb.tape, hb.output, hb.size, fun k hk _ => hb.block k hk⟩
 have key : ∀ p, Lib.BuilderAtF T e B b p bs w → Lib.BuilderAtF T e B b p bs w' := by
  rintro p ⟨hB, v, hbk, hown, hne⟩
  refine ⟨hB, v, ?_, hown.kept hg ?_, hne⟩
  ·rw [hb.block b (Array.getElem?_eq_some_iff.1 hbk).1]; exact hbk
  ·cases hv : v.ownBlock with
   | none => exact .inl rfl
   | some g => exact .inr (by simp)
 exact h.imp (key _) (key _)
end Go.Proofs.YtjpjpmkadoaipaaGreatDoor
set_option linter.unusedVariables false
namespace Go.Proofs.YtjpjpmkadoaipaaGreatDoor
open Go.RowKit Go.Sort
attribute [local go_sem] Oper.semAt_some
theorem strCells_enc (M : List Txt) : strCells (strsOf M) = M.map encStr := by simp [strCells, strsOf, Function.comp_def]
theorem OwnTxt.enc {W wr : World} {v : Value} {M : List Txt} (h : OwnTxt W wr v M) : wr.ownsRow W.heap.size 9 1 v M.length (M.map encStr) := by
 unfold OwnTxt at h; rw [strsOf_len, strCells_enc] at h; exact h
theorem ownTxt_of {W wr : World} {v : Value} {M : List Txt} {n : Nat} (h : wr.ownsRow W.heap.size 9 1 v n (M.map encStr)) (hn : n = M.length) : OwnTxt W wr v M := by
 subst hn; unfold OwnTxt; rw [strsOf_len, strCells_enc]; exact h
theorem Sort_own (W wr : World) (v : Value) (M : List Txt) (h : OwnTxt W wr v M) (hb : Below W.heap.size W wr) (hlen : M.length ≤ 1000000) :
  Calls Tryz.prog 54 #[v] wr fun e w' => e = .returned (.tuple #[]) ∧ OwnTxt W w' v (M.mergeSort fun x y => decide (x ≤ y)) ∧ Below W.heap.size W w' := by
 have h0 := h.enc
 rcases h0.2 with ⟨rfl, hn⟩ | ⟨g, cap, cur, rfl, hbase, hbk, h1, h2, h3, h4⟩
 ·obtain rfl := List.length_eq_zero_iff.1 hn
  have C := Any.slices_Sort_string_none Tryz.lays190 none 0 wr
  change Calls Tryz.prog 54 _ _ _ at C
  refine C.mono ?_
  rintro e w' ⟨rfl, rfl⟩
  exact ⟨rfl, by simpa using h, hb⟩
 ·have hg : g < wr.heap.size := (Array.getElem?_eq_some_iff.1 hbk).1
  have C := Any.slices_Sort_string Tryz.lays190 g 0 cap M wr (holds_of_block hbk (by simpa using h4)) hg (by omega)
  change Calls Tryz.prog 54 _ _ _ at C
  refine C.mono ?_
  rintro e w' ⟨rfl, n, os, rfl⟩
  refine ⟨rfl, ownTxt_of (ownsRow_sorted (n := n) (os := os) (ts := M.mergeSort fun x y => decide (x ≤ y)) (by simp) hbase hbk h1 h2 h3) (by simp), hb.grown (grownBy_sorted _) hb.size (fun j hj => by cases hj; exact hbase)⟩
theorem Compact_own (W wr : World) (v : Value) (M : List Txt) (h : OwnTxt W wr v M) (hb : Below W.heap.size W wr) (hlen : M.length ≤ 1000000) :
  Calls Tryz.prog 55 #[v] wr fun e w' => ∃ v', e = .returned v' ∧ OwnTxt W w' v' (Lib.compact M) ∧ Below W.heap.size W w' := by
 have h0 := h.enc
 have hle := Lib.compact_length_le M
 rcases h0.2 with ⟨rfl, hn⟩ | ⟨g, cap, cur, rfl, hbase, hbk, h1, h2, h3, h4⟩
 ·obtain rfl := List.length_eq_zero_iff.1 hn
  have C := Any.slices_Compact_string_empty Tryz.lays194 none 0 wr
  change Calls Tryz.prog 55 _ _ _ at C
  refine C.mono ?_
  rintro e w' ⟨rfl, rfl⟩
  exact ⟨_, rfl, by rw [show Lib.compact ([] : List Txt) = [] from rfl]; exact h, hb⟩
 ·have C := Any.slices_Compact_string Tryz.lays194 g 0 cap M wr (holds_of_block hbk (by simpa using h4)) (by omega) h1
  change Calls Tryz.prog 55 _ _ _ at C
  refine C.mono ?_
  rintro e w' ⟨rfl, q, rfl⟩
  have hc := Lib.ownsRow_putRow (q := q) (k := (Lib.compact M).length) (ys := Lib.compact M ++ List.replicate (M.length - (Lib.compact M).length) []) h0 (by simp; omega) (by omega)
  rw [List.take_left] at hc
  exact ⟨_, rfl, ownTxt_of hc rfl, Lib.below_putRow hb hbase⟩
def KeepTo (l : List Txt) (k : Nat) : List Txt := (l.take k).filter isK
theorem keepTo_step {l : List Txt} {k : Nat} (hk : k < l.length) : KeepTo l (k + 1) = if l[k].length = 32 then KeepTo l k ++ [l[k]] else KeepTo l k := by
 unfold KeepTo
 rw [List.take_succ_eq_append_getElem hk, List.filter_append]
 by_cases h : l[k].length = 32 <;> simp [h, isK]
theorem keepTo_len (l : List Txt) (k : Nat) : (KeepTo l k).length ≤ k := by
 have h2 := List.length_filter_le isK (l.take k)
 have h3 := List.length_take_le k l
 unfold KeepTo; omega
def RetOwn (w : World) (M : List Txt) (e : Ending) (w' : World) : Prop := ∃ v, e = .returned v ∧ OwnTxt w w' v M ∧ Below w.heap.size w w'
set_option maxRecDepth 100000 in
set_option maxHeartbeats 2000000 in
theorem Of_own (v : Value) (L : List ByteArray) (w : World) (hv : IsStrs w v L) (hL : L.length ≤ 800000) :
  Calls Tryz.prog 28 #[v] w (RetOwn w (ofL (txts L))) := by
 obtain ⟨hm, a, cap, rfl, _, hc⟩ := hv
 have HC := Lib.hid hc
 clear hc hm
 go_enter Tryz.func28, Tryz.ntmps28
 go_wp2
 go_loopw [3, 8] (fun o i wr => ∃ k : Nat, k ≤ L.length ∧ i = .int .i64 k ∧ OwnTxt w wr o (KeepTo (txts L) k) ∧ Below w.heap.size w wr) (fun _ i _ => L.length - (intOf i).toNat)
 case atStart => exact ⟨0, Nat.zero_le _, rfl, ownTxt_nil _, Below.refl _ _⟩
 case round =>
  obtain ⟨k, hk, rfl, hO, hB⟩ := hrel
  have HO := Lib.hid hO
  clear hO
  by_cases hlt : k < L.length
  ·obtain ⟨b1, o1, rfl, hbl, g1⟩ := HC.out (by omega)
   have q1 := g1 k hlt
   rw [← hB.cell (p := ⟨b1, o1 + k, none⟩) hbl] at q1
   clear g1
   have hst := keepTo_step (l := txts L) (k := k) (by rw [txts_len]; exact hlt)
   rw [txts_get hlt] at hst
   obtain ⟨y, hy⟩ : ∃ y, y = L[k] := ⟨_, rfl⟩
   rw [← hy] at q1 hst
   clear hy
   rw [← Lib.size_eq] at hst
   have hol : (KeepTo (txts L) k).length ≤ 1000000 := by have := keepTo_len (txts L) k; omega
   have hK := Lib.hid (isKey_any y)
   have hbk : decide ((k : Int) < (L.length : Int)) = true := by simpa using (show (k : Int) < L.length by omega)
   by_cases h32 : y.size = 32
   ·rw [if_pos h32] at hst
    have h32b : (((y.size : Nat) : Int) == 32) = true := by rw [h32]; rfl
    rw [h32b] at hK
    have HST := Lib.hid hst
    clear h32 hst
    go_wp2_with (first | ((with_reducible refine (hK.out _).mono ?_); rintro e w1 ⟨rfl, rfl⟩) | (at_builtin; refine wpList_append_txt rfl _ _ rfl HO.out hB rfl rfl hol ?_))
    intro v' w2 hown' hb2
    go_wp2
    go_roundw
    case rel => exact ⟨k + 1, by omega, by go_num, by rw [HST.out]; exact hown', hb2⟩
    case measure => simp [intOf]; omega
   ·rw [if_neg h32] at hst
    have HST := Lib.hid hst; clear hst
    have h32b : (((y.size : Nat) : Int) == 32) = false := by simp; omega
    rw [h32b] at hK
    clear h32
    go_wp2_with ((with_reducible refine (hK.out _).mono ?_); rintro e w1 ⟨rfl, rfl⟩)
    go_roundw
    case rel => exact ⟨k + 1, by omega, by go_num, by rw [HST.out]; exact HO.out, hB⟩
    case measure => simp [intOf]; omega
  ·have hE : KeepTo (txts L) k = (txts L).filter isK := by
    unfold KeepTo
    rw [List.take_of_length_le (by rw [txts_len]; omega)]
   have hll : ((txts L).filter isK).length ≤ 1000000 := by have := List.length_filter_le isK (txts L); rw [txts_len] at this; omega
   have hO := HO.out
   rw [hE] at hO
   have C1 := Lib.hid (Sort_own w wr u3 _ hO hB hll)
   have C2 := Lib.hid (fun w1 (h : OwnTxt w w1 u3 (((txts L).filter isK).mergeSort fun x y => decide (x ≤ y))) (hb : Below w.heap.size w w1) => Compact_own w w1 u3 _ h hb (by simpa using hll))
   have hge : decide ((k : Int) < (L.length : Int)) = false := by simp; omega
   clear hE hll hO HO
   go_wp2_with fail
   refine C1.out.mono ?_
   rintro e w1 ⟨rfl, hO1, hb1⟩
   have C3 := Lib.hid (C2.out w1 hO1 hb1)
   clear hO1
   go_wp2_with fail
   refine C3.out.mono ?_
   rintro e w2 ⟨v2, rfl, hO2, hb2⟩
   have HO2 := Lib.hid hO2
   clear hO2
   go_wp2
   go_ret
   exact ⟨v2, rfl, HO2.out, hb2⟩
end Go.Proofs.YtjpjpmkadoaipaaGreatDoor
set_option linter.unusedVariables false
namespace Go.Proofs.YtjpjpmkadoaipaaGreatDoor
open Go.RowKit
attribute [local go_sem] Oper.semAt_some
theorem OwnTxt.low_Ned {W W' wr : World} {v : Value} {M : List Txt} (h : OwnTxt W wr v M) (hb : W'.heap.size ≤ W.heap.size) : OwnTxt W' wr v M :=
 ⟨h.1, h.2.imp id fun ⟨g, cap, cur, h3, h4, h5⟩ => ⟨g, cap, cur, h3, Nat.le_trans hb h4, h5⟩⟩
set_option maxRecDepth 100000 in
set_option maxHeartbeats 2000000 in
theorem pKids_own (n : Nd) (pv ev : Value) (w : World) (hp : IsParts w pv n.ps) (he : IsEntries w ev n.es) (hl : n.ps.length + n.es.length ≤ 100000) :
  Calls Tryz.prog 33 #[ndV n pv ev] w (RetOwn w (ofL (kidsN n))) := by
 have HP := Lib.hid hp; have HE := Lib.hid he
 obtain ⟨_, a1, cap1, hv1, _, _⟩ := hp
 obtain ⟨_, a2, cap2, hv2, _, _⟩ := he
 subst hv1 hv2
 have hb0 := (Below.refl w.heap.size w).alloc (Nat.le_refl _) (.cells #[.int .i64 n.kd, .string n.d, .slice a1 n.ps.length cap1, .slice a2 n.es.length cap2] 71)
 obtain ⟨V, hV⟩ : ∃ V, V = w.alloc (.cells #[.int .i64 n.kd, .string n.d, .slice a1 n.ps.length cap1, .slice a2 n.es.length cap2] 71) := ⟨_, rfl⟩
 rw [← hV] at hb0
 have HX : Hid (NdBox V w.heap.size n (.slice a1 n.ps.length cap1) (.slice a2 n.es.length cap2)) := Lib.hid (by rw [hV]; exact ndBox_new w n _ _ _)
 have HBV := Lib.hid hb0
 have HB0 := Lib.hid (Below.refl V.heap.size V)
 have HO0 : Hid (OwnTxt V V (.slice none 0 0) (keysP (n.ps.take 0))) := Lib.hid (ownTxt_nil V)
 replace HP := Lib.hid (HP.out.stays hb0); replace HE := Lib.hid (HE.out.stays hb0)
 have HV := Lib.hid hV
 obtain ⟨x0, x1, x2, x3⟩ := HX.out.cells
 clear hb0 hV
 go_enter Tryz.func33, Tryz.ntmps33
 go_wp2_with fail
 rw [← HV.out]
 go_wp2
 go_loopw [3, 11] (fun v i wr => ∃ k : Nat, k ≤ n.ps.length ∧ i = .int .i64 k ∧ OwnTxt V wr v (keysP (n.ps.take k)) ∧ Below V.heap.size V wr) (fun _ i _ => n.ps.length - (intOf i).toNat)
 case atStart => exact ⟨0, Nat.zero_le _, rfl, HO0.out, HB0.out⟩
 case round =>
  clear x0 x1 x2 x3
  obtain ⟨k, hk, rfl, hO, hB⟩ := hrel
  have HO := Lib.hid hO; have HB := Lib.hid hB
  obtain ⟨x0, x1, x2, x3⟩ := (HX.out.stays hB).cells
  have hsz := hB.size
  by_cases hlt : k < n.ps.length
  ·obtain ⟨_, _, _, e, _, hc⟩ := HP.out.stays hB
   cases e
   obtain ⟨b, off, rfl, hbl, g⟩ := hc (by omega)
   obtain ⟨u0, u1⟩ := g k hlt
   clear g hc hO hB
   have hbk : decide ((k : Int) < (n.ps.length : Int)) = true := by simpa using (show (k : Int) < n.ps.length by omega)
   have HST := Lib.hid (keysP_step hlt)
   obtain ⟨x, hx⟩ : ∃ x, x = n.ps[k] := ⟨_, rfl⟩
   rw [← hx] at u0 u1 HST
   clear hx
   have hol : (keysP (n.ps.take k)).length ≤ 1000000 := by rw [keysP_len, List.length_take]; omega
   have hba := (Below.refl wr.heap.size wr).alloc (Nat.le_refl _) (.cells #[.string x.k, .int .i64 x.n] 109)
   have HZ2 : Hid (wr.heap.size + 1 = (wr.alloc (.cells #[.string x.k, .int .i64 x.n] 109)).heap.size) := Lib.hid (by simp)
   have HO2 := Lib.hid (HO.out.stays hba)
   have HB2 := Lib.hid (below_step HB.out hba)
   clear hba
   go_wp2_with (at_builtin; refine wpList_append_txt2 rfl _ _ rfl HO2.out HB2.out HZ2.out rfl rfl hol ?_)
   intro v' w6 hown6 hb6
   have HO6 := Lib.hid hown6; have HB6 := Lib.hid hb6
   clear hown6 hb6 x0 x1 x2 x3
   go_wp2
   go_roundw
   case rel => exact ⟨k + 1, by omega, by go_num, by rw [HST.out]; first | exact HO6.out | (rw [← List.append_assoc]; exact HO6.out) | (rw [List.append_assoc]; exact HO6.out), HB6.out⟩
   case measure => simp [intOf]; omega
  ·have hke : n.ps.take k = n.ps := List.take_of_length_le (by omega)
   rw [hke] at HO
   have HO1 : Hid (OwnTxt V wr _ (keysP n.ps ++ keysE (n.es.take 0))) := Lib.hid (by
    have e : keysP n.ps ++ keysE (n.es.take 0) = keysP n.ps := by rw [List.take_zero]; exact List.append_nil _
    rw [e]; exact HO.out)
   clear hO hB hke HO
   go_wp2
   go_loopw [3, 24] (fun v i wr => ∃ k : Nat, k ≤ n.es.length ∧ i = .int .i64 k ∧ OwnTxt V wr v (keysP n.ps ++ keysE (n.es.take k)) ∧ Below V.heap.size V wr) (fun _ i _ => n.es.length - (intOf i).toNat)
   case atStart => exact ⟨0, Nat.zero_le _, rfl, HO1.out, HB.out⟩
   case round =>
    clear x0 x1 x2 x3
    obtain ⟨k, hk, rfl, hO, hB⟩ := hrel
    have HO := Lib.hid hO; have HB := Lib.hid hB
    obtain ⟨x0, x1, x2, x3⟩ := (HX.out.stays hB).cells
    have hsz := hB.size
    by_cases hlt : k < n.es.length
    ·obtain ⟨_, _, _, e, _, hc⟩ := HE.out.stays hB
     cases e
     obtain ⟨b, off, rfl, hbl, g⟩ := hc (by omega)
     obtain ⟨u0, u1, u2, u3⟩ := g k hlt
     clear g hc hO hB
     have hbk : decide ((k : Int) < (n.es.length : Int)) = true := by simpa using (show (k : Int) < n.es.length by omega)
     have HST := Lib.hid (keysE_step hlt)
     obtain ⟨x, hx⟩ : ∃ x, x = n.es[k] := ⟨_, rfl⟩
     rw [← hx] at u0 u1 u2 u3 HST
     clear hx
     have hol : (keysP n.ps ++ keysE (n.es.take k)).length ≤ 1000000 := by rw [List.length_append, keysP_len, keysE_len, List.length_take]; omega
     have hba := (Below.refl wr.heap.size wr).alloc (Nat.le_refl _) (.cells #[.string x.m, .int .i64 x.kd, .bool x.x, .string x.k] 89)
     have HZ2 : Hid (wr.heap.size + 1 = (wr.alloc (.cells #[.string x.m, .int .i64 x.kd, .bool x.x, .string x.k] 89)).heap.size) := Lib.hid (by simp)
     have HO2 := Lib.hid (HO.out.stays hba)
     have HB2 := Lib.hid (below_step HB.out hba)
     clear hba
     go_wp2_with (at_builtin; refine wpList_append_txt2 rfl _ _ rfl HO2.out HB2.out HZ2.out rfl rfl hol ?_)
     intro v' w6 hown6 hb6
     have HO6 := Lib.hid hown6; have HB6 := Lib.hid hb6
     clear hown6 hb6 x0 x1 x2 x3
     go_wp2
     go_roundw
     case rel => exact ⟨k + 1, by omega, by go_num, by rw [HST.out]; first | exact HO6.out | (rw [← List.append_assoc]; exact HO6.out) | (rw [List.append_assoc]; exact HO6.out), HB6.out⟩
     case measure => simp [intOf]; omega
    ·have hke : n.es.take k = n.es := List.take_of_length_le (by omega)
     rw [hke] at HO
     have hkl : (kidsN n).length ≤ 100000 := by unfold kidsN; rw [List.length_append, keysP_len, keysE_len]; exact hl
     have OF := Lib.hid (Of_own _ _ _ HO.out.strs (by rw [strsOf_len]; show (kidsN n).length ≤ _; omega))
     rw [txts_strsOf] at OF
     clear hO hke
     go_wp2_with fail
     refine OF.out.mono ?_
     rintro e w8 ⟨v8, rfl, hs8, hb8⟩
     have HS := Lib.hid (hs8.low_Ned (W' := w) (Nat.le_trans HBV.out.size hB.size)); have HB8 := Lib.hid (below_step HBV.out (below_step hB hb8))
     obtain ⟨_, a8, c8, hv8, _, _⟩ := hs8.strs
     clear hs8
     subst hv8
     clear hb8 hB
     go_wp2
     go_ret
     exact ⟨_, rfl, HS.out, HB8.out⟩
def few1 (L : List ByteArray) : Prop := L.length ≤ 200 ∧ ∀ s ∈ L, s.size ≤ 200
instance (L : List ByteArray) : Decidable (few1 L) := by unfold few1; infer_instance
def JoinTo (a b : List Txt) (k : Nat) : List Txt := (b.take k).foldl addL a
theorem joinTo_step {a b : List Txt} {k : Nat} (hk : k < b.length) : JoinTo a b (k + 1) = addL (JoinTo a b k) b[k] := by
 unfold JoinTo
 rw [List.take_succ_eq_append_getElem hk, List.foldl_append]; rfl
theorem joinTo_len (a b : List Txt) (k : Nat) : (JoinTo a b k).length ≤ a.length + k := by
 have h1 := adds_len (b.take k) a
 have h3 := List.length_take_le k b
 unfold JoinTo; omega
set_option maxRecDepth 100000 in
set_option maxHeartbeats 2000000 in
theorem refJoin_any_Kef (u v : Value) (K L : List ByteArray) (w : World) (hu : IsStrs w u K) (hv : IsStrs w v L) (hL : K.length + L.length ≤ 800000) :
  Calls Tryz.prog 21 #[u, v] w (RetStrs w (refJoinL (txts K) (txts L))) := by
 have HU := Lib.hid hu
 obtain ⟨hm, a, cap, rfl, _, hc⟩ := hv
 have HC := Lib.hid hc
 clear hc hm hu
 go_enter Tryz.func21, Tryz.ntmps21
 go_wp2_with (at_builtin; refine wpList_append_all rfl _ _ rfl (ownTxt_nil w) (Below.refl _ _) HU.out rfl rfl (by simp; omega) ?_)
 intro v0 w0 hown0 hb0
 have HO0 : Hid (IsStrs w0 v0 (strsOf (JoinTo (txts K) (txts L) 0))) := Lib.hid (by have := hown0.strs; simpa [JoinTo] using this)
 clear hown0
 go_wp2
 go_loopw [5, 6] (fun o i wr => ∃ k : Nat, k ≤ L.length ∧ i = .int .i64 k ∧ IsStrs wr o (strsOf (JoinTo (txts K) (txts L) k)) ∧ Below w.heap.size w wr) (fun _ i _ => L.length - (intOf i).toNat)
 case atStart => exact ⟨0, Nat.zero_le _, rfl, HO0.out, hb0⟩
 case round =>
  obtain ⟨k, hk, rfl, hO, hB⟩ := hrel
  have HO := Lib.hid hO
  clear hO HO0 hb0
  by_cases hlt : k < L.length
  ·obtain ⟨b1, o1, rfl, hbl, g1⟩ := HC.out (by omega)
   have q1 := g1 k hlt
   rw [← hB.cell (p := ⟨b1, o1 + k, none⟩) hbl] at q1
   clear g1
   have hst := joinTo_step (a := txts K) (b := txts L) (k := k) (by rw [txts_len]; exact hlt)
   rw [txts_get hlt] at hst
   obtain ⟨y, hy⟩ : ∃ y, y = L[k] := ⟨_, rfl⟩
   rw [← hy] at q1 hst
   clear hy
   have hbk : decide ((k : Int) < (L.length : Int)) = true := by simpa using (show (k : Int) < L.length by omega)
   have CA := refAdd_any _ (strsOf (JoinTo (txts K) (txts L) k)) y wr HO.out (by rw [strsOf_len]; have := joinTo_len (txts K) (txts L) k; rw [txts_len] at this; omega)
   rw [txts_strsOf, ← hst] at CA
   have HA := Lib.hid CA; clear CA hst
   go_wp2_with fail
   refine (HA.out).mono ?_
   rintro e w1 ⟨v1, rfl, hv1, hb1⟩
   have HV1 := Lib.hid hv1; clear hv1
   go_wp2
   go_roundw
   case rel => exact ⟨k + 1, by omega, by go_num, HV1.out, below_step hB hb1⟩
   case measure => simp [intOf]; omega
  ·have hE : JoinTo (txts K) (txts L) k = refJoinL (txts K) (txts L) := by
    unfold JoinTo refJoinL
    rw [List.take_of_length_le (by rw [txts_len]; omega)]
   have HE := Lib.hid hE; clear hE
   have hge : decide ((k : Int) < (L.length : Int)) = false := by simp; omega
   go_wp2
   go_ret
   exact ⟨u5, rfl, by rw [← HE.out]; exact HO.out, hB⟩
def lenOf_Keh : Value → Nat
 | .slice _ n _ => n
 | _ => 0
theorem IsStrs.lenOf {w : World} {v : Value} {L : List ByteArray} (h : IsStrs w v L) : lenOf_Keh v = L.length := by
 obtain ⟨_, a, cap, rfl, _⟩ := h; rfl
end Go.Proofs.YtjpjpmkadoaipaaGreatDoor
set_option linter.unusedVariables false
namespace Go.Proofs.YtjpjpmkadoaipaaGreatDoor
open Go.RowKit
set_option maxRecDepth 100000 in
set_option maxHeartbeats 1000000 in
theorem size43 : (Tryz.prog.info? 156).map (·.size) = some 64 := by kernel_rfl
theorem size24 : (Tryz.prog.info? 117).map (·.size) = some 8 := by kernel_rfl
theorem zero43 : (Tryz.prog.info? 156).bind (fun i => i.zero.map (·.cells)) = some (zrow 64) := by kernel_rfl
theorem zero24 : (Tryz.prog.info? 117).bind (fun i => i.zero.map (·.cells)) = some (zrow 8) := by kernel_rfl
def kint : List Int := [1116352408, 1899447441, 3049323471, 3921009573, 961987163, 1508970993, 2453635748, 2870763221, 3624381080, 310598401, 607225278, 1426881987, 1925078388, 2162078206, 2614888103, 3248222580, 3835390401, 4022224774, 264347078, 604807628, 770255983, 1249150122, 1555081692, 1996064986, 2554220882, 2821834349, 2952996808, 3210313671, 3336571891, 3584528711, 113926993, 338241895, 666307205, 773529912, 1294757372, 1396182291, 1695183700, 1986661051, 2177026350, 2456956037, 2730485921, 2820302411, 3259730800, 3345764771, 3516065817, 3600352804, 4094571909, 275423344, 430227734, 506948616, 659060556, 883997877, 958139571, 1322822218, 1537002063, 1747873779, 1955562222, 2024104815, 2227730452, 2361852424, 2428436474, 2756734187, 3204031479, 3329325298]
theorem kint_eq : (kint.map (Value.int .u32)).toArray = numV ktab := by kernel_rfl
theorem ktab_len : ktab.length = 64 := rfl
set_option maxRecDepth 100000 in
set_option maxHeartbeats 1000000 in
theorem constants_any (w : World) : Calls Tryz.prog 171 #[] w fun e w' => e = .returned (.agg (numV ktab)) ∧ Below w.heap.size w w' := by
 go_enter Tryz.func171, Tryz.ntmps171
 go_wp2_with (first
  | refine wpList_alloc_zero rfl _ rfl _ zero43 ?_
  | (refine Great.wpList_buildFlatArr rfl 156 115 64 _ rfl .u32 kint Tryz.underlying156 (by kernel_rfl) (by kernel_rfl) (by kernel_rfl) ?_; rw [kint_eq])
  | refine wpList_store_row rfl 156 _ _ rfl w.heap.size (numV ktab) rfl rfl 156 (zrow 64) (heap_alloc_new _ _) (by rw [numV_size]; exact size43) (by rw [numV_size]; kernel_rfl) (numV_one _) ?_)
 refine bodyPost_ret (v := .agg (numV ktab)) (results_cell_row rfl _ _ w.heap.size 156 (numV ktab) (0, 0) _ rfl (setRow_heap _ _ (zrow 64) _ _ _ (heap_alloc_new _ _)) Tryz.underlying156 rfl (by rw [numV_size]; kernel_rfl)) rfl ⟨rfl, below_setRow ((Below.refl _ _).alloc (Nat.le_refl _) _) (Nat.le_refl _) _⟩
set_option maxRecDepth 100000 in
set_option maxHeartbeats 1000000 in
theorem refConstants_any (w : World) : Calls Tryz.prog 88 #[] w fun e w' => e = .returned (.agg (numV ktab)) ∧ Below w.heap.size w w' := by
 go_enter Tryz.func88, Tryz.ntmps88
 go_wp2_with (first
  | refine wpList_alloc_zero rfl _ rfl _ zero43 ?_
  | (refine Great.wpList_buildFlatArr rfl 156 115 64 _ rfl .u32 kint Tryz.underlying156 (by kernel_rfl) (by kernel_rfl) (by kernel_rfl) ?_; rw [kint_eq])
  | refine wpList_store_row rfl 156 _ _ rfl w.heap.size (numV ktab) rfl rfl 156 (zrow 64) (heap_alloc_new _ _) (by rw [numV_size]; exact size43) (by rw [numV_size]; kernel_rfl) (numV_one _) ?_)
 refine bodyPost_ret (v := .agg (numV ktab)) (results_cell_row rfl _ _ w.heap.size 156 (numV ktab) (0, 0) _ rfl (setRow_heap _ _ (zrow 64) _ _ _ (heap_alloc_new _ _)) Tryz.underlying156 rfl (by rw [numV_size]; kernel_rfl)) rfl ⟨rfl, below_setRow ((Below.refl _ _).alloc (Nat.le_refl _) _) (Nat.le_refl _) _⟩
set_option maxRecDepth 100000 in
set_option maxHeartbeats 1000000 in
theorem First_any (w : World) : Calls Tryz.prog 94 #[] w fun e w' => e = .returned (.agg (numV first.list)) ∧ Below w.heap.size w w' := by
 go_enter Tryz.func94, Tryz.ntmps94
 go_wp2_with (first
  | refine wpList_alloc_zero rfl _ rfl _ zero24 ?_
  | refine wpList_store_row rfl 117 _ _ rfl w.heap.size (numV first.list) rfl rfl 117 (zrow 8) (heap_alloc_new _ _) (by rw [numV_size]; exact size24) (by rw [numV_size]; kernel_rfl) (numV_one _) ?_)
 refine bodyPost_ret (v := .agg (numV first.list)) (results_cell_row rfl _ _ w.heap.size 117 (numV first.list) (0, 0) _ rfl (setRow_heap _ _ (zrow 8) _ _ _ (heap_alloc_new _ _)) Tryz.underlying117 rfl (by rw [numV_size]; kernel_rfl)) rfl ⟨rfl, below_setRow ((Below.refl _ _).alloc (Nat.le_refl _) _) (Nat.le_refl _) _⟩
set_option maxRecDepth 100000 in
set_option maxHeartbeats 1000000 in
theorem refFirst_any (w : World) : Calls Tryz.prog 63 #[] w fun e w' => e = .returned (.agg (numV first.list)) ∧ Below w.heap.size w w' := by
 go_enter Tryz.func63, Tryz.ntmps63
 go_wp2_with (first
  | refine wpList_alloc_zero rfl _ rfl _ zero24 ?_
  | refine wpList_store_row rfl 117 _ _ rfl w.heap.size (numV first.list) rfl rfl 117 (zrow 8) (heap_alloc_new _ _) (by rw [numV_size]; exact size24) (by rw [numV_size]; kernel_rfl) (numV_one _) ?_)
 refine bodyPost_ret (v := .agg (numV first.list)) (results_cell_row rfl _ _ w.heap.size 117 (numV first.list) (0, 0) _ rfl (setRow_heap _ _ (zrow 8) _ _ _ (heap_alloc_new _ _)) Tryz.underlying117 rfl (by rw [numV_size]; kernel_rfl)) rfl ⟨rfl, below_setRow ((Below.refl _ _).alloc (Nat.le_refl _) _) (Nat.le_refl _) _⟩
end Go.Proofs.YtjpjpmkadoaipaaGreatDoor
set_option linter.unusedVariables false
set_option pp.maxSteps 200000
namespace Go.Proofs.YtjpjpmkadoaipaaGreatDoor
open Go.RowKit
set_option maxRecDepth 100000 in
set_option maxHeartbeats 1000000 in
theorem rotr_int (x n : Nat) (hx : x < 4294967296) (h0 : 1 ≤ n) (h1 : n ≤ 31) : bits .or .u32 ((x : Int) / 2 ^ n) ((x : Int) * 2 ^ (32 - n) % 4294967296) = (rotr x n : Nat) := by
 have e1 : (x : Int) / 2 ^ n = ((x / 2 ^ n : Nat) : Int) := by rw [Int.natCast_ediv, Int.natCast_pow]; rfl
 have e2 : (x : Int) * 2 ^ (32 - n) % 4294967296 = ((x * 2 ^ (32 - n) % 4294967296 : Nat) : Int) := by rw [Int.natCast_emod, Int.natCast_mul, Int.natCast_pow]; rfl
 rw [e1, e2, u32_or_nat _ _ (Nat.lt_of_le_of_lt (Nat.div_le_self _ _) hx) (Nat.mod_lt _ (by decide))]; rfl
theorem or32_comm (a b : Nat) (ha : a < 4294967296) (hb : b < 4294967296) : bits .or .u32 (a : Int) (b : Int) = bits .or .u32 (b : Int) (a : Int) := by
 rw [u32_or_nat _ _ ha hb, u32_or_nat _ _ hb ha, Nat.or_comm]
theorem rotl_int (x n m : Nat) (hx : x < 4294967296) (hm : n + m = 32) (h0 : 1 ≤ n) (h1 : n ≤ 31) : bits .or .u32 ((x : Int) * 2 ^ m % 4294967296) ((x : Int) / 2 ^ (32 - m)) = (rotr x n : Nat) := by
 have e1 : (x : Int) / 2 ^ n = ((x / 2 ^ n : Nat) : Int) := by rw [Int.natCast_ediv, Int.natCast_pow]; rfl
 have e2 : (x : Int) * 2 ^ m % 4294967296 = ((x * 2 ^ m % 4294967296 : Nat) : Int) := by rw [Int.natCast_emod, Int.natCast_mul, Int.natCast_pow]; rfl
 rw [show 32 - m = n by omega, e1, e2, or32_comm _ _ (Nat.mod_lt _ (by decide)) (Nat.lt_of_le_of_lt (Nat.div_le_self _ _) hx), ← e1, ← e2, show m = 32 - n by omega]
 exact rotr_int x n hx h0 h1
theorem neg31 (n m : Nat) (hm : n + m = 32) (h0 : 1 ≤ n) (h1 : n ≤ 31) : bits .and .u64 (IntKind.u64.wrap (-(n : Int))) 31 = (m : Int) := by
 have e : IntKind.u64.wrap (-(n : Int)) = ((18446744073709551616 - n : Nat) : Int) := by
  show (-(n : Int)) % 18446744073709551616 = _
  omega
 have h := u64_and_nat (18446744073709551616 - n) 31 (by omega) (by decide)
 rw [nat_mask5] at h
 rw [e]
 exact h.trans (by omega)
theorem rot_any (x n : Nat) (hx : x < 4294967296) (h0 : 1 ≤ n) (h1 : n ≤ 31) (w : World) : Calls Tryz.prog 89 #[.int .u32 x, .int .u64 n] w fun e w' => e = .returned (.int .u32 (rotr x n)) ∧ w = w' := by
 go_enter Tryz.func89, Tryz.ntmps89
 go_wp2
 go_ret
 exact ⟨congrArg (fun z => Ending.returned (.int .u32 z)) (rotr_int x n hx h0 h1), rfl⟩
set_option maxRecDepth 100000 in
set_option maxHeartbeats 1000000 in
theorem down_any (x n : Nat) (hx : x < 4294967296) (h0 : 1 ≤ n) (h1 : n ≤ 31) (w : World) : Calls Tryz.prog 172 #[.int .u32 x, .int .i64 n] w fun e w' => e = .returned (.int .u32 (rotr x n)) ∧ w = w' := by
 obtain ⟨m, hm⟩ : ∃ m, n + m = 32 := ⟨32 - n, by omega⟩
 have HM := Lib.hid hm
 have e := neg31 n m hm h0 h1
 have hm1 : 1 ≤ m := by omega
 have hm2 : m ≤ 31 := by omega
 clear hm
 go_enter Tryz.func172, Tryz.ntmps172
 go_wp2
 go_ret
 exact ⟨congrArg (fun z => Ending.returned (.int .u32 z)) (rotl_int x n m hx HM.out h0 h1), rfl⟩
theorem down_z (x : Nat) (z : Int) (hx : x < 4294967296) (h : 1 ≤ z ∧ z ≤ 31) (w : World) : Calls Tryz.prog 172 #[.int .u32 x, .int .i64 z] w fun e w' => e = .returned (.int .u32 (rotr x z.toNat)) ∧ w = w' := by
 have := down_any x z.toNat hx (by omega) (by omega) w
 rwa [show ((z.toNat : Nat) : Int) = z by omega] at this
theorem rot_z (x : Nat) (z : Int) (hx : x < 4294967296) (h : 1 ≤ z ∧ z ≤ 31) (w : World) : Calls Tryz.prog 89 #[.int .u32 x, .int .u64 z] w fun e w' => e = .returned (.int .u32 (rotr x z.toNat)) ∧ w = w' := by
 have := rot_any x z.toNat hx (by omega) (by omega) w
 rwa [show ((z.toNat : Nat) : Int) = z by omega] at this
theorem xor3_int (a b c : Nat) (ha : a < 4294967296) (hb : b < 4294967296) (hc : c < 4294967296) : bits .xor .u32 (bits .xor .u32 (a : Int) (b : Int)) (c : Int) = ((a ^^^ b ^^^ c : Nat) : Int) := by
 rw [u32_xor_nat _ _ ha hb, u32_xor_nat _ _ (xor_lt ha hb) hc]
theorem sg0_int (x : Nat) (h : x < 4294967296) : bits .xor .u32 (bits .xor .u32 (rotr x 7 : Nat) (rotr x 18 : Nat)) ((x : Int) / 8) = (sg0 x : Nat) := by
 rw [show (x : Int) / 8 = ((x / 8 : Nat) : Int) by omega, xor3_int _ _ _ (rotr_lt _ h) (rotr_lt _ h) (by omega)]; rfl
theorem sg1_int (x : Nat) (h : x < 4294967296) : bits .xor .u32 (bits .xor .u32 (rotr x 17 : Nat) (rotr x 19 : Nat)) ((x : Int) / 1024) = (sg1 x : Nat) := by
 rw [show (x : Int) / 1024 = ((x / 1024 : Nat) : Int) by omega, xor3_int _ _ _ (rotr_lt _ h) (rotr_lt _ h) (by omega)]; rfl
theorem ad4_int (a b c d : Nat) : ((a : Int) + b + c + d) % 4294967296 = (ad (ad (ad a b) c) d : Nat) := by unfold ad; omega
theorem or3_int (a b c d : Nat) (ha : a < 256) (hb : b < 256) (hc : c < 256) (hd : d < 256) :
  bits .or .u32 (bits .or .u32 (bits .or .u32 ((a : Int) % 4294967296 * 16777216 % 4294967296) ((b : Int) % 4294967296 * 65536 % 4294967296)) ((c : Int) % 4294967296 * 256 % 4294967296)) ((d : Int) % 4294967296) =
   ((a * 16777216 % 4294967296 ||| b * 65536 % 4294967296 ||| c * 256 % 4294967296 ||| d : Nat) : Int) := by
 have e1 : (a : Int) % 4294967296 * 16777216 % 4294967296 = ((a * 16777216 % 4294967296 : Nat) : Int) := by omega
 have e2 : (b : Int) % 4294967296 * 65536 % 4294967296 = ((b * 65536 % 4294967296 : Nat) : Int) := by omega
 have e3 : (c : Int) % 4294967296 * 256 % 4294967296 = ((c * 256 % 4294967296 : Nat) : Int) := by omega
 have e4 : (d : Int) % 4294967296 = ((d : Nat) : Int) := by omega
 have l1 : a * 16777216 % 4294967296 < 4294967296 := Nat.mod_lt _ (by decide)
 have l2 : b * 65536 % 4294967296 < 4294967296 := Nat.mod_lt _ (by decide)
 have l3 : c * 256 % 4294967296 < 4294967296 := Nat.mod_lt _ (by decide)
 rw [e1, e2, e3, e4, u32_or_nat _ _ l1 l2, u32_or_nat _ _ (or_lt l1 l2) l3, u32_or_nat _ _ (or_lt (or_lt l1 l2) l3) (by omega)]
set_option maxRecDepth 100000 in
set_option maxHeartbeats 1000000 in
theorem spread_any (l : List UInt8) (hl : l.length = 64) (w : World) : Calls Tryz.prog 157 #[.agg (bytV l)] w fun e w' => e = .returned (.agg (numV (wlist (fun i => (l.getD i 0).toNat) 64))) ∧ Below w.heap.size w w' := by
 obtain ⟨L, hL⟩ : ∃ L : Nat → Nat, L = fun i => (l.getD i 0).toNat := ⟨_, rfl⟩
 have HL := Lib.hid hL
 have hl8 : ∀ i, L i < 256 := fun i => by rw [hL]; exact UInt8.toNat_lt _
 rw [← hL]
 clear hL
 go_enter Tryz.func157, Tryz.ntmps157
 go_wp2_with (first
  | refine wpList_alloc_zero rfl _ rfl _ zero43 ?_)
 go_loopw [11, 4, 5] (fun i _ _ wr => ∃ k : Nat, k ≤ 16 ∧ i = .int .i64 k ∧ Row wr w.heap.size (bytV l) 119 ∧ Row wr (w.heap.size + 1) (zrow 64) 156 ∧ Row wr (w.heap.size + 1 + 1) (numV (wrow L k)) 156 ∧ Below w.heap.size w wr) (fun i _ _ _ => 16 - (intOf i).toNat)
 case atStart => 
  refine ⟨0, by omega, rfl, ?_, ?_, ?_, ?_⟩
  ·exact ((Row.made _ _ _).alloc _).alloc _
  ·have := (Row.made (w.alloc (.cells (bytV l) 119)) (zrow 64) 156).alloc (.cells (zrow 64) 156)
   simpa using this
  ·show Row _ _ (zrow 64) _
   have := Row.made ((w.alloc (.cells (bytV l) 119)).alloc (.cells (zrow 64) 156)) (zrow 64) 156
   simpa using this
  ·exact (((Below.refl _ _).alloc (Nat.le_refl _) _).alloc (by simp) _).alloc (by simp; omega) _
 case round =>
  obtain ⟨k, hk, rfl, hB, hZ, hR, hb⟩ := hrel
  by_cases hlt : k < 16
  ·have hbk : decide ((k : Int) < 16) = true := by simpa using (show (k : Int) < 16 by omega)
   have c0 : wr.cell? ⟨w.heap.size, k * 4, none⟩ = some (.int .u8 (L (k * 4))) := by rw [hB.cell, bytV_get _ _ (by omega), HL.out]
   have c1 : wr.cell? ⟨w.heap.size, k * 4 + 1, none⟩ = some (.int .u8 (L (k * 4 + 1))) := by rw [hB.cell, bytV_get _ _ (by omega), HL.out]
   have c2 : wr.cell? ⟨w.heap.size, k * 4 + 2, none⟩ = some (.int .u8 (L (k * 4 + 2))) := by rw [hB.cell, bytV_get _ _ (by omega), HL.out]
   have c3 : wr.cell? ⟨w.heap.size, k * 4 + 3, none⟩ = some (.int .u8 (L (k * 4 + 3))) := by rw [hB.cell, bytV_get _ _ (by omega), HL.out]
   have cf := hR.free k
   have cr : wr.cell? ⟨w.heap.size + 1 + 1, k, none⟩ = some (.int .u32 0) := by
    rw [hR.cell, numV_get _ _ (by rw [wrow_len _ _ (by omega)]; omega), wrow, List.getD_eq_getElem?_getD, List.getElem?_append_right (by rw [wlist_len]; exact Nat.le_refl _), List.getElem?_replicate]
    split <;> rfl
   have t0 : ((k : Int) * 4).toNat = k * 4 := by omega
   have t1 : ((k : Int) * 4 + 1).toNat = k * 4 + 1 := by omega
   have t2 : ((k : Int) * 4 + 2).toNat = k * 4 + 2 := by omega
   have t3 : ((k : Int) * 4 + 3).toNat = k * 4 + 3 := by omega
   have s1 : IntKind.i64.wrap ((k : Int) * 4 + 1) = (k : Int) * 4 + 1 := IntWalk.i64_in _ (by omega)
   have s2 : IntKind.i64.wrap ((k : Int) * 4 + 2) = (k : Int) * 4 + 2 := IntWalk.i64_in _ (by omega)
   have s3 : IntKind.i64.wrap ((k : Int) * 4 + 3) = (k : Int) * 4 + 3 := IntWalk.i64_in _ (by omega)
   have b0 : (0 : Int) ≤ (k : Int) * 4 ∧ (k : Int) * 4 < 64 := by omega
   have b1 : (0 : Int) ≤ (k : Int) * 4 + 1 ∧ (k : Int) * 4 + 1 < 64 := by omega
   have b2 : (0 : Int) ≤ (k : Int) * 4 + 2 ∧ (k : Int) * 4 + 2 < 64 := by omega
   have b3 : (0 : Int) ≤ (k : Int) * 4 + 3 ∧ (k : Int) * 4 + 3 < 64 := by omega
   have b4 : (0 : Int) ≤ (k : Int) ∧ (k : Int) < 64 := by omega
   have HB := Lib.hid hB; have HR := Lib.hid hR; have HZ := Lib.hid hZ
   clear hB hR hZ
   go_wp2_with fail
   go_still_tail 27, (by kernel_rfl)
   change wpList _ _ _ _ _ wr.drew
   clear t0 t1 t2 t3 s1 s2 s3 b0 b1 b2 b3 c0 c1 c2 c3
   go_wp2
   go_roundw
   case rel => 
    refine ⟨k + 1, by omega, by go_num, ?_, ?_, ?_, ?_⟩
    ·exact (Row.drew HB.out).other _ _ (by show w.heap.size ≠ w.heap.size + 1 + 1; omega)
    ·exact (Row.drew HZ.out).other _ _ (by show w.heap.size + 1 ≠ w.heap.size + 1 + 1; omega)
    ·have := (Row.drew HR.out).set k (.int .u32 (lead L k : Nat))
     rw [numV_set, ← nxt_lead L (wlist L k) k hlt, wrow_set L k (by omega), nxt_lead L (wlist L k) k hlt] at this
     rw [or3_int _ _ _ _ (hl8 _) (hl8 _) (hl8 _) (hl8 _)]
     exact this
    ·exact (hb.drew).setCell (by show w.heap.size ≤ w.heap.size + 1 + 1; omega) _
   case measure => simp [intOf]; omega
  ·have hk16 : k = 16 := by omega
   have hR' : Row wr (w.heap.size + 1 + 1) (numV (wrow L 16)) 156 := by rw [← hk16]; exact hR
   have hbk : decide ((k : Int) < 16) = false := by rw [hk16]; rfl
   clear hR hk16 hlt hk
   have hR := hR'
   clear hR'
   have HB := Lib.hid hB; have HR := Lib.hid hR; have HZ := Lib.hid hZ
   clear hB hR hZ
   go_wp2_with fail
   go_loopw [6] (fun i wr => ∃ k : Nat, 16 ≤ k ∧ k ≤ 64 ∧ i = .int .i64 k ∧ Row wr (w.heap.size + 1) (zrow 64) 156 ∧ Row wr (w.heap.size + 1 + 1) (numV (wrow L k)) 156 ∧ Below w.heap.size w wr) (fun i _ => 64 - (intOf i).toNat)
   case atStart => exact ⟨16, by omega, by omega, rfl, HZ.out, HR.out, hb⟩
   case round =>
    clear HB HR HZ hb
    obtain ⟨k, hk0, hk, rfl, hZ, hR, hb⟩ := hrel
    by_cases hlt : k < 64
    ·have hbk : decide ((k : Int) < 64) = true := by simpa using (show (k : Int) < 64 by omega)
     have hm := wlist_mem L hl8 k
     obtain ⟨x, hx⟩ : ∃ x, x = (wlist L k).getD (k - 15) 0 := ⟨_, rfl⟩
     obtain ⟨y, hy⟩ : ∃ y, y = (wlist L k).getD (k - 2) 0 := ⟨_, rfl⟩
     obtain ⟨p, hp⟩ : ∃ y, y = (wlist L k).getD (k - 16) 0 := ⟨_, rfl⟩
     obtain ⟨q, hq⟩ : ∃ y, y = (wlist L k).getD (k - 7) 0 := ⟨_, rfl⟩
     have lx : x < 4294967296 := by rw [hx]; exact getD_lt hm _
     have ly : y < 4294967296 := by rw [hy]; exact getD_lt hm _
     have lp : p < 4294967296 := by rw [hp]; exact getD_lt hm _
     have lq : q < 4294967296 := by rw [hq]; exact getD_lt hm _
     have cc : ∀ j, j < k → wr.cell? ⟨w.heap.size + 1 + 1, j, none⟩ = some (.int .u32 ((wlist L k).getD j 0 : Nat)) := fun j hj => by
      rw [hR.cell, numV_get _ _ (by rw [wrow_len _ _ hk]; omega), wrow_get _ _ _ hj]
     have c15 := cc (k - 15) (by omega)
     have c2 := cc (k - 2) (by omega)
     have c16 := cc (k - 16) (by omega)
     have c7 := cc (k - 7) (by omega)
     rw [← hx] at c15; rw [← hy] at c2; rw [← hp] at c16; rw [← hq] at c7
     have cf := hR.free k
     have cr : ∃ v, wr.cell? ⟨w.heap.size + 1 + 1, k, none⟩ = some v := by
      rw [hR.cell, numV_get _ _ (by rw [wrow_len _ _ hk]; omega)]
      exact ⟨_, rfl⟩
     obtain ⟨v, cr⟩ := cr
     clear cc hm
     have HV := Lib.hid (nxt_on L (wlist L k) k hk0)
     have HX := Lib.hid hx; have HY := Lib.hid hy; have HP := Lib.hid hp; have HQ := Lib.hid hq
     clear hx hy hp hq
     have t1 : ((k : Int) - 15).toNat = k - 15 := by omega
     have t2 : ((k : Int) - 2).toNat = k - 2 := by omega
     have t3 : ((k : Int) - 16).toNat = k - 16 := by omega
     have t4 : ((k : Int) - 7).toNat = k - 7 := by omega
     have s1 : IntKind.i64.wrap ((k : Int) - 15) = (k : Int) - 15 := IntWalk.i64_in _ (by omega)
     have s2 : IntKind.i64.wrap ((k : Int) - 2) = (k : Int) - 2 := IntWalk.i64_in _ (by omega)
     have s3 : IntKind.i64.wrap ((k : Int) - 16) = (k : Int) - 16 := IntWalk.i64_in _ (by omega)
     have s4 : IntKind.i64.wrap ((k : Int) - 7) = (k : Int) - 7 := IntWalk.i64_in _ (by omega)
     have b1 : (0 : Int) ≤ (k : Int) - 15 ∧ (k : Int) - 15 < 64 := by omega
     have b2 : (0 : Int) ≤ (k : Int) - 2 ∧ (k : Int) - 2 < 64 := by omega
     have b3 : (0 : Int) ≤ (k : Int) - 16 ∧ (k : Int) - 16 < 64 := by omega
     have b4 : (0 : Int) ≤ (k : Int) - 7 ∧ (k : Int) - 7 < 64 := by omega
     have b6 : (16 : Int) ≤ (k : Int) := by omega
     have b7 : (7 : Int) ≤ (k : Int) := by omega
     have b8 : (k : Int) - 16 < 64 := by omega
     have b9 : (k : Int) - 7 < 64 := by omega
     have b10 : (0 : Int) ≤ (k : Int) - 16 := by omega
     have b11 : (0 : Int) ≤ (k : Int) - 7 := by omega
     have b5 : (0 : Int) ≤ (k : Int) ∧ (k : Int) < 64 := by omega
     have HR := Lib.hid hR; have HZ := Lib.hid hZ
     clear hR hZ
     have HL8 := Lib.hid hl8; clear hl8
     go_wp2_with fail
     go_quiet (fail)
     go_wp2_with (go_at_call 172; refine (down_z _ _ (by assumption) (by decide) _).mono ?_; rintro e w1 ⟨rfl, rfl⟩)
     obtain ⟨W2, hW2⟩ : ∃ W2, W2 = wr.drewN nq := ⟨_, rfl⟩
     rw [← hW2]
     have d16 : W2.cell? ⟨w.heap.size + 1 + 1, k - 16, none⟩ = some (.int .u32 p) := by rw [hW2]; exact c16
     have d7 : W2.cell? ⟨w.heap.size + 1 + 1, k - 7, none⟩ = some (.int .u32 q) := by rw [hW2]; exact c7
     have df : W2.frozen? ⟨w.heap.size + 1 + 1, k, none⟩ = false := by rw [hW2]; exact cf
     have dr : W2.cell? ⟨w.heap.size + 1 + 1, k, none⟩ = some v := by rw [hW2]; exact cr
     have HR2 : Hid (Row W2 (w.heap.size + 1 + 1) (numV (wrow L k)) 156) := Lib.hid (by rw [hW2]; exact HR.out)
     have HZ2 : Hid (Row W2 (w.heap.size + 1) (zrow 64) 156) := Lib.hid (by rw [hW2]; exact HZ.out)
     have hb2 : Below w.heap.size w W2 := by rw [hW2]; exact below_drewN hb nq
     clear hW2 c16 c7 cf cr HR HZ hb c15 c2 t1 t2 s1 s2 b1 b2
     go_still_tail 15, (by kernel_rfl)
     change wpList _ _ _ _ _ W2.drew
     clear t3 t4 s3 s4 b3 b4 d16 d7
     go_wp2
     go_roundw
     case rel =>
      refine ⟨k + 1, by omega, by omega, by go_num, ?_, ?_, ?_⟩
      ·exact (Row.drew HZ2.out).other _ _ (by show w.heap.size + 1 ≠ w.heap.size + 1 + 1; omega)
      ·have := (Row.drew HR2.out).set k (.int .u32 (nxt L (wlist L k) k : Nat))
       rw [numV_set, wrow_set L k (by omega), HV.out, ← HX.out, ← HY.out, ← HP.out, ← HQ.out] at this
       rw [sg0_int x lx, sg1_int y ly, ad4_int]
       exact this
      ·exact (hb2.drew).setCell (by show w.heap.size ≤ w.heap.size + 1 + 1; omega) _
     case measure => simp [intOf]; omega
    ·obtain rfl : k = 64 := by omega
     have hbk : decide (((64 : Nat) : Int) < 64) = false := rfl
     have HR := Lib.hid hR; have HZ := Lib.hid hZ
     clear hR hZ
     go_wp2_with (first
      | refine wpList_load_row rfl 156 _ rfl (w.heap.size + 1 + 1) rfl 156 (numV (wrow L 64)) (0, 0) _ HR.out Tryz.underlying156 rfl (by rw [numV_size, wrow_len _ _ hk]; exact size43) ?_
      | refine wpList_store_row rfl 156 _ _ rfl (w.heap.size + 1) (numV (wrow L 64)) rfl rfl 156 (zrow 64) HZ.out (by rw [numV_size, wrow_len _ _ hk]; exact size43) (by rw [numV_size, zrow_size, wrow_len _ _ hk]) (numV_one _) ?_)
     refine bodyPost_ret (v := .agg (numV (wrow L 64))) (results_cell_row rfl _ _ (w.heap.size + 1) 156 (numV (wrow L 64)) (0, 0) _ rfl (setRow_heap _ _ _ _ _ _ HZ.out) Tryz.underlying156 rfl (by rw [numV_size, wrow_len _ _ hk]; exact size43)) rfl ⟨by rw [wrow_full], below_setRow hb (by omega) _⟩
end Go.Proofs.YtjpjpmkadoaipaaGreatDoor
set_option linter.unusedVariables false
set_option pp.maxSteps 200000
namespace Go.Proofs.YtjpjpmkadoaipaaGreatDoor
open Go.RowKit
set_option maxRecDepth 100000 in
set_option maxHeartbeats 1000000 in
set_option maxRecDepth 100000 in
set_option maxHeartbeats 1000000 in
theorem refWords_any (l : List UInt8) (hl : l.length = 64) (w : World) : Calls Tryz.prog 87 #[.agg (bytV l)] w fun e w' => e = .returned (.agg (numV (wlist (fun i => (l.getD i 0).toNat) 64))) ∧ Below w.heap.size w w' := by
 obtain ⟨L, hL⟩ : ∃ L : Nat → Nat, L = fun i => (l.getD i 0).toNat := ⟨_, rfl⟩
 have HL := Lib.hid hL
 have hl8 : ∀ i, L i < 256 := fun i => by rw [hL]; exact UInt8.toNat_lt _
 rw [← hL]
 clear hL
 go_enter Tryz.func87, Tryz.ntmps87
 go_wp2_with (first
  | refine wpList_alloc_zero rfl _ rfl _ zero43 ?_)
 go_loopw [4] (fun i wr => ∃ k : Nat, k ≤ 16 ∧ i = .int .i64 k ∧ Row wr w.heap.size (bytV l) 119 ∧ Row wr (w.heap.size + 1) (zrow 64) 156 ∧ Row wr (w.heap.size + 1 + 1) (numV (wrow L k)) 156 ∧ Below w.heap.size w wr) (fun i _ => 16 - (intOf i).toNat)
 case atStart => 
  refine ⟨0, by omega, rfl, ?_, ?_, ?_, ?_⟩
  ·exact ((Row.made _ _ _).alloc _).alloc _
  ·have := (Row.made (w.alloc (.cells (bytV l) 119)) (zrow 64) 156).alloc (.cells (zrow 64) 156)
   simpa using this
  ·show Row _ _ (zrow 64) _
   have := Row.made ((w.alloc (.cells (bytV l) 119)).alloc (.cells (zrow 64) 156)) (zrow 64) 156
   simpa using this
  ·exact (((Below.refl _ _).alloc (Nat.le_refl _) _).alloc (by simp) _).alloc (by simp; omega) _
 case round =>
  obtain ⟨k, hk, rfl, hB, hZ, hR, hb⟩ := hrel
  by_cases hlt : k < 16
  ·have hbk : decide ((k : Int) < 16) = true := by simpa using (show (k : Int) < 16 by omega)
   have c0 : wr.cell? ⟨w.heap.size, k * 4, none⟩ = some (.int .u8 (L (k * 4))) := by rw [hB.cell, bytV_get _ _ (by omega), HL.out]
   have c1 : wr.cell? ⟨w.heap.size, k * 4 + 1, none⟩ = some (.int .u8 (L (k * 4 + 1))) := by rw [hB.cell, bytV_get _ _ (by omega), HL.out]
   have c2 : wr.cell? ⟨w.heap.size, k * 4 + 2, none⟩ = some (.int .u8 (L (k * 4 + 2))) := by rw [hB.cell, bytV_get _ _ (by omega), HL.out]
   have c3 : wr.cell? ⟨w.heap.size, k * 4 + 3, none⟩ = some (.int .u8 (L (k * 4 + 3))) := by rw [hB.cell, bytV_get _ _ (by omega), HL.out]
   have cf := hR.free k
   have cr : wr.cell? ⟨w.heap.size + 1 + 1, k, none⟩ = some (.int .u32 0) := by
    rw [hR.cell, numV_get _ _ (by rw [wrow_len _ _ (by omega)]; omega), wrow, List.getD_eq_getElem?_getD, List.getElem?_append_right (by rw [wlist_len]; exact Nat.le_refl _), List.getElem?_replicate]
    split <;> rfl
   have t0 : (4 * (k : Int)).toNat = k * 4 := by omega
   have t1 : (4 * (k : Int) + 1).toNat = k * 4 + 1 := by omega
   have t2 : (4 * (k : Int) + 2).toNat = k * 4 + 2 := by omega
   have t3 : (4 * (k : Int) + 3).toNat = k * 4 + 3 := by omega
   have s0 : IntKind.i64.wrap (4 * (k : Int)) = 4 * (k : Int) := IntWalk.i64_in _ (by omega)
   have s1 : IntKind.i64.wrap (4 * (k : Int) + 1) = 4 * (k : Int) + 1 := IntWalk.i64_in _ (by omega)
   have s2 : IntKind.i64.wrap (4 * (k : Int) + 2) = 4 * (k : Int) + 2 := IntWalk.i64_in _ (by omega)
   have s3 : IntKind.i64.wrap (4 * (k : Int) + 3) = 4 * (k : Int) + 3 := IntWalk.i64_in _ (by omega)
   have b0 : (0 : Int) ≤ 4 * (k : Int) ∧ 4 * (k : Int) < 64 := by omega
   have b1 : (0 : Int) ≤ 4 * (k : Int) + 1 ∧ 4 * (k : Int) + 1 < 64 := by omega
   have b2 : (0 : Int) ≤ 4 * (k : Int) + 2 ∧ 4 * (k : Int) + 2 < 64 := by omega
   have b3 : (0 : Int) ≤ 4 * (k : Int) + 3 ∧ 4 * (k : Int) + 3 < 64 := by omega
   have b4 : (0 : Int) ≤ (k : Int) ∧ (k : Int) < 64 := by omega
   have HB := Lib.hid hB; have HR := Lib.hid hR; have HZ := Lib.hid hZ
   clear hB hR hZ
   go_wp2_with fail
   go_still_tail 31, (by kernel_rfl)
   change wpList _ _ _ _ _ wr.drew
   clear t0 t1 t2 t3 s0 s1 s2 s3 b0 b1 b2 b3 c0 c1 c2 c3
   go_wp2
   go_roundw
   case rel => 
    refine ⟨k + 1, by omega, by go_num, ?_, ?_, ?_, ?_⟩
    ·exact (Row.drew HB.out).other _ _ (by show w.heap.size ≠ w.heap.size + 1 + 1; omega)
    ·exact (Row.drew HZ.out).other _ _ (by show w.heap.size + 1 ≠ w.heap.size + 1 + 1; omega)
    ·have := (Row.drew HR.out).set k (.int .u32 (lead L k : Nat))
     rw [numV_set, ← nxt_lead L (wlist L k) k hlt, wrow_set L k (by omega), nxt_lead L (wlist L k) k hlt] at this
     rw [or3_int _ _ _ _ (hl8 _) (hl8 _) (hl8 _) (hl8 _)]
     exact this
    ·exact (hb.drew).setCell (by show w.heap.size ≤ w.heap.size + 1 + 1; omega) _
   case measure => simp [intOf]; omega
  ·have hk16 : k = 16 := by omega
   have hR' : Row wr (w.heap.size + 1 + 1) (numV (wrow L 16)) 156 := by rw [← hk16]; exact hR
   have hbk : decide ((k : Int) < 16) = false := by rw [hk16]; rfl
   clear hR hk16 hlt hk
   have hR := hR'
   clear hR'
   have HB := Lib.hid hB; have HR := Lib.hid hR; have HZ := Lib.hid hZ
   clear hB hR hZ
   go_wp2_with fail
   go_loopw [5] (fun i wr => ∃ k : Nat, 16 ≤ k ∧ k ≤ 64 ∧ i = .int .i64 k ∧ Row wr (w.heap.size + 1) (zrow 64) 156 ∧ Row wr (w.heap.size + 1 + 1) (numV (wrow L k)) 156 ∧ Below w.heap.size w wr) (fun i _ => 64 - (intOf i).toNat)
   case atStart => exact ⟨16, by omega, by omega, rfl, HZ.out, HR.out, hb⟩
   case round =>
    clear HB HR HZ hb
    obtain ⟨k, hk0, hk, rfl, hZ, hR, hb⟩ := hrel
    by_cases hlt : k < 64
    ·have hbk : decide ((k : Int) < 64) = true := by simpa using (show (k : Int) < 64 by omega)
     have hm := wlist_mem L hl8 k
     obtain ⟨x, hx⟩ : ∃ x, x = (wlist L k).getD (k - 15) 0 := ⟨_, rfl⟩
     obtain ⟨y, hy⟩ : ∃ y, y = (wlist L k).getD (k - 2) 0 := ⟨_, rfl⟩
     obtain ⟨p, hp⟩ : ∃ y, y = (wlist L k).getD (k - 16) 0 := ⟨_, rfl⟩
     obtain ⟨q, hq⟩ : ∃ y, y = (wlist L k).getD (k - 7) 0 := ⟨_, rfl⟩
     have lx : x < 4294967296 := by rw [hx]; exact getD_lt hm _
     have ly : y < 4294967296 := by rw [hy]; exact getD_lt hm _
     have lp : p < 4294967296 := by rw [hp]; exact getD_lt hm _
     have lq : q < 4294967296 := by rw [hq]; exact getD_lt hm _
     have cc : ∀ j, j < k → wr.cell? ⟨w.heap.size + 1 + 1, j, none⟩ = some (.int .u32 ((wlist L k).getD j 0 : Nat)) := fun j hj => by
      rw [hR.cell, numV_get _ _ (by rw [wrow_len _ _ hk]; omega), wrow_get _ _ _ hj]
     have c15 := cc (k - 15) (by omega)
     have c2 := cc (k - 2) (by omega)
     have c16 := cc (k - 16) (by omega)
     have c7 := cc (k - 7) (by omega)
     rw [← hx] at c15; rw [← hy] at c2; rw [← hp] at c16; rw [← hq] at c7
     have cf := hR.free k
     have cr : ∃ v, wr.cell? ⟨w.heap.size + 1 + 1, k, none⟩ = some v := by
      rw [hR.cell, numV_get _ _ (by rw [wrow_len _ _ hk]; omega)]
      exact ⟨_, rfl⟩
     obtain ⟨v, cr⟩ := cr
     clear cc hm
     have HV := Lib.hid (nxt_on L (wlist L k) k hk0)
     have HX := Lib.hid hx; have HY := Lib.hid hy; have HP := Lib.hid hp; have HQ := Lib.hid hq
     clear hx hy hp hq
     have t1 : ((k : Int) - 15).toNat = k - 15 := by omega
     have t2 : ((k : Int) - 2).toNat = k - 2 := by omega
     have t3 : ((k : Int) - 16).toNat = k - 16 := by omega
     have t4 : ((k : Int) - 7).toNat = k - 7 := by omega
     have s1 : IntKind.i64.wrap ((k : Int) - 15) = (k : Int) - 15 := IntWalk.i64_in _ (by omega)
     have s2 : IntKind.i64.wrap ((k : Int) - 2) = (k : Int) - 2 := IntWalk.i64_in _ (by omega)
     have s3 : IntKind.i64.wrap ((k : Int) - 16) = (k : Int) - 16 := IntWalk.i64_in _ (by omega)
     have s4 : IntKind.i64.wrap ((k : Int) - 7) = (k : Int) - 7 := IntWalk.i64_in _ (by omega)
     have b1 : (0 : Int) ≤ (k : Int) - 15 ∧ (k : Int) - 15 < 64 := by omega
     have b2 : (0 : Int) ≤ (k : Int) - 2 ∧ (k : Int) - 2 < 64 := by omega
     have b3 : (0 : Int) ≤ (k : Int) - 16 ∧ (k : Int) - 16 < 64 := by omega
     have b4 : (0 : Int) ≤ (k : Int) - 7 ∧ (k : Int) - 7 < 64 := by omega
     have b6 : (16 : Int) ≤ (k : Int) := by omega
     have b7 : (7 : Int) ≤ (k : Int) := by omega
     have b8 : (k : Int) - 16 < 64 := by omega
     have b9 : (k : Int) - 7 < 64 := by omega
     have b10 : (0 : Int) ≤ (k : Int) - 16 := by omega
     have b11 : (0 : Int) ≤ (k : Int) - 7 := by omega
     have b5 : (0 : Int) ≤ (k : Int) ∧ (k : Int) < 64 := by omega
     have HR := Lib.hid hR; have HZ := Lib.hid hZ
     clear hR hZ
     have HL8 := Lib.hid hl8; clear hl8
     go_wp2_with (go_at_call 89; refine (rot_z _ _ (by assumption) (by decide) _).mono ?_; rintro e w1 ⟨rfl, rfl⟩)
     obtain ⟨W2, hW2⟩ : ∃ W2, W2 = wr := ⟨_, rfl⟩
     rw [← hW2]
     have d16 : W2.cell? ⟨w.heap.size + 1 + 1, k - 16, none⟩ = some (.int .u32 p) := by rw [hW2]; exact c16
     have d7 : W2.cell? ⟨w.heap.size + 1 + 1, k - 7, none⟩ = some (.int .u32 q) := by rw [hW2]; exact c7
     have df : W2.frozen? ⟨w.heap.size + 1 + 1, k, none⟩ = false := by rw [hW2]; exact cf
     have dr : W2.cell? ⟨w.heap.size + 1 + 1, k, none⟩ = some v := by rw [hW2]; exact cr
     have HR2 : Hid (Row W2 (w.heap.size + 1 + 1) (numV (wrow L k)) 156) := Lib.hid (by rw [hW2]; exact HR.out)
     have HZ2 : Hid (Row W2 (w.heap.size + 1) (zrow 64) 156) := Lib.hid (by rw [hW2]; exact HZ.out)
     have hb2 : Below w.heap.size w W2 := by rw [hW2]; exact hb
     clear hW2 c16 c7 cf cr HR HZ hb c15 c2 t1 t2 s1 s2 b1 b2
     go_still_tail 15, (by kernel_rfl)
     change wpList _ _ _ _ _ W2.drew
     clear t3 t4 s3 s4 b3 b4 d16 d7
     go_wp2
     go_roundw
     case rel =>
      refine ⟨k + 1, by omega, by omega, by go_num, ?_, ?_, ?_⟩
      ·exact (Row.drew HZ2.out).other _ _ (by show w.heap.size + 1 ≠ w.heap.size + 1 + 1; omega)
      ·have := (Row.drew HR2.out).set k (.int .u32 (nxt L (wlist L k) k : Nat))
       rw [numV_set, wrow_set L k (by omega), HV.out, ← HX.out, ← HY.out, ← HP.out, ← HQ.out] at this
       rw [sg0_int x lx, sg1_int y ly, ad4_int]
       exact this
      ·exact (hb2.drew).setCell (by show w.heap.size ≤ w.heap.size + 1 + 1; omega) _
     case measure => simp [intOf]; omega
    ·obtain rfl : k = 64 := by omega
     have hbk : decide (((64 : Nat) : Int) < 64) = false := rfl
     have HR := Lib.hid hR; have HZ := Lib.hid hZ
     clear hR hZ
     go_wp2_with (first
      | refine wpList_load_row rfl 156 _ rfl (w.heap.size + 1 + 1) rfl 156 (numV (wrow L 64)) (0, 0) _ HR.out Tryz.underlying156 rfl (by rw [numV_size, wrow_len _ _ hk]; exact size43) ?_
      | refine wpList_store_row rfl 156 _ _ rfl (w.heap.size + 1) (numV (wrow L 64)) rfl rfl 156 (zrow 64) HZ.out (by rw [numV_size, wrow_len _ _ hk]; exact size43) (by rw [numV_size, zrow_size, wrow_len _ _ hk]) (numV_one _) ?_)
     refine bodyPost_ret (v := .agg (numV (wrow L 64))) (results_cell_row rfl _ _ (w.heap.size + 1) 156 (numV (wrow L 64)) (0, 0) _ rfl (setRow_heap _ _ _ _ _ _ HZ.out) Tryz.underlying156 rfl (by rw [numV_size, wrow_len _ _ hk]; exact size43)) rfl ⟨by rw [wrow_full], below_setRow hb (by omega) _⟩
end Go.Proofs.YtjpjpmkadoaipaaGreatDoor
set_option linter.unusedVariables false
set_option pp.maxSteps 200000
namespace Go.Proofs.YtjpjpmkadoaipaaGreatDoor
open Go.RowKit
set_option maxRecDepth 100000 in
set_option maxHeartbeats 1000000 in
theorem down_q (x : Nat) (z : Int) (hx : x < 4294967296) (h : 1 ≤ z ∧ z ≤ 31) (w : World) : Calls Tryz.prog 172 #[.int .u32 x, .int .i64 z] w fun e w' => e = .returned (.int .u32 (rotr x z.toNat)) ∧ w' = w :=
 (down_z x z hx h w).mono fun _ _ ⟨he, hw⟩ => ⟨he, hw.symm⟩
theorem rot_q (x : Nat) (z : Int) (hx : x < 4294967296) (h : 1 ≤ z ∧ z ≤ 31) (w : World) : Calls Tryz.prog 89 #[.int .u32 x, .int .u64 z] w fun e w' => e = .returned (.int .u32 (rotr x z.toNat)) ∧ w' = w :=
 (rot_z x z hx h w).mono fun _ _ ⟨he, hw⟩ => ⟨he, hw.symm⟩
theorem ret_valH {k : IntKind} {a b : Int} (h : a = b) : Value.int k a = .int k b := by rw [h]
theorem bs1_int (x : Nat) (h : x < 4294967296) : bits .xor .u32 (bits .xor .u32 (rotr x 6 : Nat) (rotr x 11 : Nat)) (rotr x 25 : Nat) = (bs1 x : Nat) := xor3_int _ _ _ (rotr_lt _ h) (rotr_lt _ h) (rotr_lt _ h)
theorem bs0_int (x : Nat) (h : x < 4294967296) : bits .xor .u32 (bits .xor .u32 (rotr x 2 : Nat) (rotr x 13 : Nat)) (rotr x 22 : Nat) = (bs0 x : Nat) := xor3_int _ _ _ (rotr_lt _ h) (rotr_lt _ h) (rotr_lt _ h)
theorem not_int (x : Nat) (h : x < 4294967296) : bits .xor .u32 (if IntKind.u32.signed = true then -1 else IntKind.u32.max) (x : Int) = ((4294967295 - x : Nat) : Int) := by
 have h2 := u32_xor_nat 4294967295 x (by decide) h
 have e : (4294967295 ^^^ x) = 4294967295 - x := by
  have h1 := BitVec.toNat_not (x := BitVec.ofNat 32 x)
  rw [BitVec.not_def] at h1
  rw [BitVec.toNat_xor, BitVec.toNat_ofNat, BitVec.toNat_allOnes, Nat.mod_eq_of_lt (by omega)] at h1
  simpa using h1
 rw [e] at h2
 exact h2
theorem chs_int (e f g : Nat) (he : e < 4294967296) (hf : f < 4294967296) (hg : g < 4294967296) :
  bits .xor .u32 (bits .and .u32 (e : Int) (f : Int)) (bits .and .u32 (bits .xor .u32 (if IntKind.u32.signed = true then -1 else IntKind.u32.max) (e : Int)) (g : Int)) = (chs e f g : Nat) := by
 rw [not_int e he, u32_and_nat _ _ he hf, u32_and_nat _ _ (by omega) hg, u32_xor_nat _ _ (and_lt' he) (and_lt' (by omega))]; rfl
theorem mj_int (a b c : Nat) (ha : a < 4294967296) (hb : b < 4294967296) (hc : c < 4294967296) :
  bits .xor .u32 (bits .xor .u32 (bits .and .u32 (a : Int) (b : Int)) (bits .and .u32 (a : Int) (c : Int))) (bits .and .u32 (b : Int) (c : Int)) = (mj a b c : Nat) := by
 rw [u32_and_nat _ _ ha hb, u32_and_nat _ _ ha hc, u32_and_nat _ _ hb hc, xor3_int _ _ _ (and_lt' ha) (and_lt' ha) (and_lt' hb)]; rfl
def tt (s : St) (k w : Nat) : Nat := ad (ad (ad (ad s.h (bs1 s.e)) (chs s.e s.f s.g)) k) w
set_option maxRecDepth 100000 in
set_option maxHeartbeats 2000000 in
theorem mixed_any (L : Nat → Nat) (hL : ∀ i, L i < 256) (s : St) (hs : s.ok) (w : World) : Calls Tryz.prog 156 #[.agg (numV s.list), .agg (numV (wlist L 64))] w fun e w' => e = .returned (.agg (numV (rounds L s 64).list)) ∧ Below w.heap.size w w' := by
 have hw64 := wlist_len L 64
 have c0 : (numV s.list)[0]? = some (.int .u32 s.a) := rfl
 have c1 : (numV s.list)[1]? = some (.int .u32 s.b) := rfl
 have c2 : (numV s.list)[2]? = some (.int .u32 s.c) := rfl
 have c3 : (numV s.list)[3]? = some (.int .u32 s.d) := rfl
 have c4 : (numV s.list)[4]? = some (.int .u32 s.e) := rfl
 have c5 : (numV s.list)[5]? = some (.int .u32 s.f) := rfl
 have c6 : (numV s.list)[6]? = some (.int .u32 s.g) := rfl
 have c7 : (numV s.list)[7]? = some (.int .u32 s.h) := rfl
 obtain ⟨V, hV⟩ : ∃ V, V = numV s.list := ⟨_, rfl⟩
 obtain ⟨X, hX⟩ : ∃ X, X = numV (wlist L 64) := ⟨_, rfl⟩
 rw [← hV] at c0 c1 c2 c3 c4 c5 c6 c7
 rw [← hV, ← hX]
 have hXs : X.size = 64 := by rw [hX, numV_size, hw64]
 have HX := Lib.hid hX; have HXs := Lib.hid hXs
 have HV := Lib.hid hV; have HS := Lib.hid hs
 clear hX hXs hw64 hV hs
 go_enter Tryz.func156, Tryz.ntmps156
 go_wp2_with (first
  | refine wpList_alloc_zero rfl _ rfl _ zero24 ?_)
 obtain ⟨W1, hW1⟩ : ∃ W1, W1 = ((w.alloc (.cells V 117)).alloc (.cells X 156)).alloc (.cells (zrow 8) 117) := ⟨_, rfl⟩
 rw [← hW1]
 have hz : W1.heap.size = w.heap.size + 3 := by rw [hW1]; simp
 have r1 : Row W1 w.heap.size V 117 := by rw [hW1]; exact ((Row.made _ _ _).alloc _).alloc _
 have r2 : Row W1 (w.heap.size + 1) X 156 := by
  rw [hW1]
  have := (Row.made (w.alloc (.cells V 117)) X 156).alloc (.cells (zrow 8) 117)
  simpa using this
 have r3 : Row W1 (w.heap.size + 1 + 1) (zrow 8) 117 := by
  rw [hW1]
  have := Row.made ((w.alloc (.cells V 117)).alloc (.cells X 156)) (zrow 8) 117
  simpa using this
 have hb1 : Below w.heap.size w W1 := by rw [hW1]; exact (((Below.refl _ _).alloc (Nat.le_refl _) _).alloc (by simp) _).alloc (by simp; omega) _
 clear hW1
 have d0 := (r1.cell 0).trans c0
 have d1 := (r1.cell 1).trans c1
 have d2 := (r1.cell 2).trans c2
 have d3 := (r1.cell 3).trans c3
 have d4 := (r1.cell 4).trans c4
 have d5 := (r1.cell 5).trans c5
 have d6 := (r1.cell 6).trans c6
 have d7 := (r1.cell 7).trans c7
 clear c0 c1 c2 c3 c4 c5 c6 c7
 have R1 := Lib.hid r1; have R2 := Lib.hid r2; have R3 := Lib.hid r3; have HZ := Lib.hid hz
 clear r1 r2 r3 hz
 go_quiet (fail)
 obtain ⟨W2, hW2⟩ : ∃ W2, W2 = W1.drewN nq := ⟨_, rfl⟩
 rw [← hW2]
 have e4 : W2.cell? ⟨w.heap.size, 4, none⟩ = some (.int .u32 s.e) := by rw [hW2]; exact d4
 have e5 : W2.cell? ⟨w.heap.size, 5, none⟩ = some (.int .u32 s.f) := by rw [hW2]; exact d5
 have e6 : W2.cell? ⟨w.heap.size, 6, none⟩ = some (.int .u32 s.g) := by rw [hW2]; exact d6
 have e7 : W2.cell? ⟨w.heap.size, 7, none⟩ = some (.int .u32 s.h) := by rw [hW2]; exact d7
 have r2 : Row W2 (w.heap.size + 1) X 156 := by rw [hW2]; exact R2.out
 have r3 : Row W2 (w.heap.size + 1 + 1) (zrow 8) 117 := by rw [hW2]; exact R3.out
 have hb2 : Below w.heap.size w W2 := by rw [hW2]; exact below_drewN hb1 nq
 have hz : W2.heap.size = w.heap.size + 3 := by rw [hW2]; exact HZ.out
 clear d0 d1 d2 d3 d4 d5 d6 d7 hW2 R1 R2 R3 hb1 HZ
 have R2 := Lib.hid r2; have R3 := Lib.hid r3; have HZ := Lib.hid hz
 clear r2 r3 hz
 go_wp2_with fail
 go_quiet (fail)
 obtain ⟨W3, hW3⟩ : ∃ W3, W3 = W2.drewN nq := ⟨_, rfl⟩
 rw [← hW3]
 have r2 : Row W3 (w.heap.size + 1) X 156 := by rw [hW3]; exact R2.out
 have r3 : Row W3 (w.heap.size + 1 + 1) (zrow 8) 117 := by rw [hW3]; exact R3.out
 have hb3 : Below w.heap.size w W3 := by rw [hW3]; exact below_drewN hb2 nq
 have hz : W3.heap.size = w.heap.size + 3 := by rw [hW3]; exact HZ.out
 clear e4 e5 e6 e7 hW3 R2 R3 hb2 HZ
 have R2 := Lib.hid r2; have R3 := Lib.hid r3; have HZ := Lib.hid hz
 clear r2 r3 hz
 go_wp2_with fail
 refine (constants_any _).mono ?_
 rintro e w4 ⟨rfl, hb4⟩
 have hT : w.heap.size + 3 ≤ w4.heap.size := by have := hb4.size; have := HZ.out; omega
 have q2 : Row w4 (w.heap.size + 1) X 156 := R2.out.step hb4
 have q3 : Row w4 (w.heap.size + 1 + 1) (zrow 8) 117 := R3.out.step hb4
 have q1 : Row ((w4.alloc (.cells (zrow 64) 156)).setRow w4.heap.size (numV ktab)) w4.heap.size (numV ktab) 156 := Row.setRow (Row.made _ _ _) _
 have q4 : Row ((w4.alloc (.cells (zrow 64) 156)).setRow w4.heap.size (numV ktab)) (w.heap.size + 1) X 156 := Row.setRow_other (q2.alloc _) _ _ (by omega)
 have q5 : Row ((w4.alloc (.cells (zrow 64) 156)).setRow w4.heap.size (numV ktab)) (w.heap.size + 1 + 1) (zrow 8) 117 := Row.setRow_other (q3.alloc _) _ _ (by omega)
 have hb5 : Below w.heap.size w ((w4.alloc (.cells (zrow 64) 156)).setRow w4.heap.size (numV ktab)) := below_setRow ((below_step hb3 hb4).alloc (by omega) _) (by omega) _
 obtain ⟨T, hTe⟩ : ∃ T, T = w4.heap.size := ⟨_, rfl⟩
 have Q1 := Lib.hid q1; have Q4 := Lib.hid q4; have Q5 := Lib.hid q5; have HT := Lib.hid hT; have HTe := Lib.hid hTe
 clear q1 q2 q3 q4 q5 R2 R3 HZ hT hTe
 go_wp2_with (first
  | refine wpList_alloc_zero rfl _ rfl _ zero43 ?_
  | refine wpList_store_row rfl 156 _ _ rfl w4.heap.size (numV ktab) rfl rfl 156 (zrow 64) (heap_alloc_new _ _) (by rw [numV_size]; exact size43) (by rw [numV_size]; kernel_rfl) (numV_one _) ?_
  | refine wpList_load_row rfl 156 _ rfl (w.heap.size + 1) rfl 156 X (0, 0) _ Q4.out Tryz.underlying156 rfl (by rw [HXs.out]; exact size43) ?_)
 rw [← HTe.out]
 go_loopw [36, 5, 6, 7, 8, 9, 10, 11, 12] (fun i a b c d e f g h wr => ∃ k : Nat, k ≤ 64 ∧ i = .int .i64 k ∧ a = .int .u32 (rounds L s k).a ∧ b = .int .u32 (rounds L s k).b ∧ c = .int .u32 (rounds L s k).c ∧ d = .int .u32 (rounds L s k).d ∧ e = .int .u32 (rounds L s k).e ∧ f = .int .u32 (rounds L s k).f ∧ g = .int .u32 (rounds L s k).g ∧ h = .int .u32 (rounds L s k).h ∧ Row wr T (numV ktab) 156 ∧ Row wr (w.heap.size + 1 + 1) (zrow 8) 117 ∧ Below w.heap.size w wr) (fun i _ _ _ _ _ _ _ _ _ => 64 - (intOf i).toNat)
 case atStart => exact ⟨0, by omega, rfl, rfl, rfl, rfl, rfl, rfl, rfl, rfl, rfl, by have := Q1.out; rwa [← HTe.out] at this, by have := Q5.out; rwa [← HTe.out] at this, by rwa [← HTe.out] at hb5⟩
 case round =>
  clear Q1 Q4 Q5 hb5 hb3 hb4
  obtain ⟨k, hk, rfl, rfl, rfl, rfl, rfl, rfl, rfl, rfl, rfl, hQ, hZ, hb⟩ := hrel
  by_cases hlt : k < 64
  ·have hbk : decide ((k : Int) < 64) = true := by simpa using (show (k : Int) < 64 by omega)
   obtain ⟨la, lb, lc, ld, le, lf, lg, lh⟩ := rounds_ok L HS.out k
   have lw := wd_lt L hL k
   have lk := kt_lt k
   have HN := Lib.hid (show rounds L s (k + 1) = rnd (rounds L s k) (kt k) (wd L k) from rfl)
   obtain ⟨r, hr⟩ : ∃ r, r = rounds L s k := ⟨_, rfl⟩
   rw [← hr] at la lb lc ld le lf lg lh HN ⊢
   obtain ⟨a, b, c, d, e, f, g, h⟩ := r
   dsimp only at la lb lc ld le lf lg lh ⊢
   have hx : X[k]? = some (.int .u32 (wd L k : Nat)) := by rw [HX.out, numV_get _ _ (by rw [wlist_len]; exact hlt)]; rfl
   have ct : wr.cell? ⟨T, k, none⟩ = some (.int .u32 (kt k : Nat)) := by rw [hQ.cell, numV_get _ _ (by rw [ktab_len]; exact hlt)]; rfl
   obtain ⟨x, hxe⟩ : ∃ x, x = wd L k := ⟨_, rfl⟩
   obtain ⟨y, hye⟩ : ∃ x, x = kt k := ⟨_, rfl⟩
   rw [← hxe] at lw HN hx
   rw [← hye] at lk HN ct
   have b5 : (0 : Int) ≤ (k : Int) ∧ (k : Int) < 64 := by omega
   have HQ := Lib.hid hQ; have HZ := Lib.hid hZ; have HR := Lib.hid hr; have HXE := Lib.hid hxe; have HYE := Lib.hid hye
   clear hQ hZ hr hxe hye
   go_wp2_with (refine wpList_index_arr rfl 156 _ _ rfl 64 115 .i64 k X (.int .u32 x) rfl rfl Tryz.underlying156 hlt (by kernel_rfl) (fun w => by kernel_rfl) hx ?_)
   go_quiet ((go_at_call 172; exact Calls.quiet_of_same (down_q _ _ (by assumption) (by decide) _)))
   rw [bs1_int e le, chs_int e f g le lf lg]
   obtain ⟨t, ht⟩ : ∃ t, t = tt ⟨a, b, c, d, e, f, g, h⟩ y x := ⟨_, rfl⟩
   have htv : (((h : Int) + (bs1 e : Nat) + (chs e f g : Nat) + (y : Int)) % 4294967296 + (x : Int)) % 4294967296 = (t : Int) := by rw [ht]; show _ = ((ad (ad (ad (ad h (bs1 e)) (chs e f g)) y) x : Nat) : Int); unfold ad; omega
   rw [htv]
   have lt' : t < 4294967296 := by rw [ht]; exact ad_lt _ _
   have HT' := Lib.hid ht
   clear htv ht ct hx
   obtain ⟨W5, hW5⟩ : ∃ W5, W5 = wr.drewN nq := ⟨_, rfl⟩
   rw [← hW5]
   have hb' : Below w.heap.size w W5 := by rw [hW5]; exact below_drewN hb nq
   have HQ5 : Hid (Row W5 T (numV ktab) 156) := Lib.hid (by rw [hW5]; exact HQ.out)
   have HZ5 : Hid (Row W5 (w.heap.size + 1 + 1) (zrow 8) 117) := Lib.hid (by rw [hW5]; exact HZ.out)
   clear hW5 HQ HZ hb
   go_wp2_with (go_at_call 172; refine (down_z _ _ (by assumption) (by decide) _).mono ?_; rintro e w1 ⟨rfl, rfl⟩)
   go_roundw
   case rel =>
    refine ⟨k + 1, by omega, by go_num, ?_, ?_, ?_, ?_, ?_, ?_, ?_, ?_, HQ5.out, HZ5.out, hb'⟩
    ·rw [HN.out, bs0_int a la, mj_int a b c la lb lc]
     show _ = Value.int .u32 ((ad (tt ⟨a, b, c, d, e, f, g, h⟩ y x) (ad (bs0 a) (mj a b c)) : Nat) : Int)
     rw [← HT'.out]
     exact ret_valH (by unfold ad; omega)
    ·rw [HN.out]; rfl
    ·rw [HN.out]; rfl
    ·rw [HN.out]; rfl
    ·rw [HN.out]
     show _ = Value.int .u32 ((ad d (tt ⟨a, b, c, d, e, f, g, h⟩ y x) : Nat) : Int)
     rw [← HT'.out]
     exact ret_valH (by unfold ad; omega)
    ·rw [HN.out]; rfl
    ·rw [HN.out]; rfl
    ·rw [HN.out]; rfl
   case measure => simp [intOf]; omega
  ·obtain rfl : k = 64 := by omega
   have hbk : decide (((64 : Nat) : Int) < 64) = false := rfl
   obtain ⟨F, hF⟩ : ∃ F, F = rounds L s 64 := ⟨_, rfl⟩
   rw [← hF]
   have HF := Lib.hid hF; clear hF
   have HZ := Lib.hid hZ; clear hZ hQ
   go_wp2_with (first
    | refine wpList_store_row rfl 117 _ _ rfl (w.heap.size + 1 + 1) (numV F.list) rfl rfl 117 (zrow 8) HZ.out (by rw [numV_size]; exact size24) (by rw [numV_size, zrow_size]; rfl) (numV_one _) ?_)
   refine bodyPost_ret (v := .agg (numV F.list)) (results_cell_row rfl _ _ (w.heap.size + 1 + 1) 117 (numV F.list) (0, 0) _ rfl (setRow_heap _ _ _ _ _ _ HZ.out) Tryz.underlying117 rfl (by rw [numV_size]; exact size24)) rfl ?_
   exact ⟨by rw [HF.out], below_setRow hb (by omega) _⟩
end Go.Proofs.YtjpjpmkadoaipaaGreatDoor
set_option linter.unusedVariables false
set_option pp.maxSteps 200000
namespace Go.Proofs.YtjpjpmkadoaipaaGreatDoor
open Go.RowKit
set_option maxRecDepth 100000 in
set_option maxHeartbeats 1000000 in
def mixL (s f : St) (k : Nat) : List Nat := (List.range 8).map fun j => if j < k then ad (s.list.getD j 0) (f.list.getD j 0) else s.list.getD j 0
theorem mixL_zero (s f : St) : mixL s f 0 = s.list := rfl
theorem mixL_full (s f : St) : mixL s f 8 = (s.add f).list := rfl
theorem mixL_len (s f : St) (k : Nat) : (mixL s f k).length = 8 := by simp [mixL]
theorem mixL_get (s f : St) (k : Nat) (h : k < 8) : (mixL s f k).getD k 0 = s.list.getD k 0 := by
 simp [mixL, h]
theorem mixL_set (s f : St) (k : Nat) (h : k < 8) : (mixL s f k).set k (ad (s.list.getD k 0) (f.list.getD k 0)) = mixL s f (k + 1) := by
 match k, h with
 | 0, _ | 1, _ | 2, _ | 3, _ | 4, _ | 5, _ | 6, _ | 7, _ => rfl
 | n + 8, h => exact absurd h (by omega)
structure BkCtx where
 w0 : World
 V : Array Value
 X : Array Value
 Y : Array Value
 F : Array Value
structure bkG (c : BkCtx) (w : World) : Prop where
 below : Below c.w0.heap.size c.w0 w
 size : c.w0.heap.size + 3 ≤ w.heap.size
 r1 : Row w c.w0.heap.size c.V 117
 r2 : Row w (c.w0.heap.size + 1) c.X 119
 r3 : Row w (c.w0.heap.size + 1 + 1) (zrow 8) 117
def bkT (c : BkCtx) (i : Nat) (w w' : World) : Prop := if i = 5 then Below (c.w0.heap.size + 3) w w' else Below w.heap.size w w'
def bkV (c : BkCtx) : Nat → Act → World → Prop
 | 0 => fun a _ => slot a 8 = .agg c.V
 | 1 => fun a _ => slot a 9 = .agg c.X
 | 2 => fun a _ => slot a 10 = .agg c.Y
 | 3 => fun a _ => slot a 11 = .agg c.F
 | 4 => fun a w => ∃ B, slot a 5 = .pointer (some ⟨B, 0, none⟩) ∧ c.w0.heap.size + 3 ≤ B ∧ Row w B (zrow 8) 117
 | 5 => fun a w => ∃ B, slot a 5 = .pointer (some ⟨B, 0, none⟩) ∧ c.w0.heap.size + 3 ≤ B ∧ Row w B c.F 117
 | _ => fun _ _ => True
def bkNeeds : Nat → List Nat | 2 => [1] | 3 => [0, 2] | 5 => [3, 4] | _ => []
def bkDep : Nat → List Tmp | 0 => [8] | 1 => [9] | 2 => [10] | 3 => [11] | 4 => [5] | 5 => [5] | _ => []
theorem bk_needs (i k : Nat) (h : k ∈ bkNeeds i) : k < 6 := by
 unfold bkNeeds at h
 split at h <;> simp at h <;> omega
theorem bk_dep (c : BkCtx) (k : Nat) (a a' : Act) (w : World) (hk : k < 6) (h : ∀ t ∈ bkDep k, slot a' t = slot a t) (hv : bkV c k a w) : bkV c k a' w := by
 match k, hk with
 | 0, _ | 1, _ | 2, _ | 3, _ | 4, _ | 5, _ =>
  simp only [bkDep, List.mem_singleton, forall_eq] at h
  simp only [bkV] at hv ⊢
  rw [h]; exact hv
 | n + 6, hk => exact absurd hk (by omega)
theorem bk_T (c : BkCtx) (i k : Nat) (a : Act) (w w' : World) (hi : i < 6) (hk : k < 6) (hne : k ≠ i) (hke : keptB 6 bkNeeds [5] i k = true) (h : bkV c k a w) (hT : bkT c i w w') : bkV c k a w' := by
 match k, hk with
 | 0, _ | 1, _ | 2, _ | 3, _ => exact h
 | 4, _ =>
  have hi5 : i ≠ 5 := fun e => by subst e; revert hke; decide
  rw [bkT, if_neg hi5] at hT
  obtain ⟨B, h1, h2, h3⟩ := h
  exact ⟨B, h1, h2, h3.step hT⟩
 | 5, _ =>
  rw [bkT, if_neg (fun e => hne e.symm)] at hT
  obtain ⟨B, h1, h2, h3⟩ := h
  exact ⟨B, h1, h2, h3.step hT⟩
 | n + 6, hk => exact absurd hk (by omega)
theorem bkG_T {c : BkCtx} {i : Nat} {w w' : World} (h : bkG c w) (hT : bkT c i w w') : bkG c w' := by
 have hb : Below (c.w0.heap.size + 3) w w' := by
  unfold bkT at hT
  split at hT
  ·exact hT
  ·exact hT.mono h.size
 exact ⟨h.below.trans (hb.mono (by omega)), Nat.le_trans h.size hb.size, h.r1.below hb (by omega), h.r2.below hb (by omega), h.r3.below hb (by omega)⟩
theorem bkT_refl (c : BkCtx) (i : Nat) (w : World) : bkT c i w w := by
 unfold bkT; split <;> exact Below.refl _ _
set_option maxRecDepth 100000 in
set_option maxHeartbeats 2000000 in
theorem Block_any (l : List UInt8) (hl : l.length = 64) (s : St) (hs : s.ok) (w : World) : Calls Tryz.prog 130 #[.agg (numV s.list), .agg (bytV l)] w fun e w' => e = .returned (.agg (numV (blkS s (fun i => (l.getD i 0).toNat)).list)) ∧ Below w.heap.size w w' := by
 obtain ⟨L, hL⟩ : ∃ L : Nat → Nat, L = fun i => (l.getD i 0).toNat := ⟨_, rfl⟩
 have hl8 : ∀ i, L i < 256 := fun i => by rw [hL]; exact UInt8.toNat_lt _
 have CS := Lib.hid (fun w => spread_any l hl w)
 rw [← hL] at CS ⊢
 have CM := Lib.hid (fun w => mixed_any L hl8 s hs w)
 obtain ⟨f, hf⟩ : ∃ f, f = rounds L s 64 := ⟨_, rfl⟩
 rw [← hf] at CM
 have HF : Hid (blkS s L = s.add f) := Lib.hid (by rw [hf]; rfl)
 have hV8 : (numV s.list).size = 8 := by rw [numV_size]; rfl
 have hX8 : (bytV l).size = 64 := by rw [bytV_size, hl]
 obtain ⟨V, hV⟩ : ∃ V, V = numV s.list := ⟨_, rfl⟩
 obtain ⟨X, hX⟩ : ∃ X, X = bytV l := ⟨_, rfl⟩
 rw [← hV] at CM hV8 ⊢
 rw [← hX] at CS hX8 ⊢
 have HV := Lib.hid hV; have HX := Lib.hid hX; have HV8 := Lib.hid hV8; have HX8 := Lib.hid hX8
 clear hL hl8 hf hV hX hV8 hX8
 go_enter Tryz.func130, Tryz.ntmps130
 go_wp2_with (refine wpList_alloc_zero rfl _ rfl _ zero24 ?_)
 simp only [Act.put, List.setIfInBounds_toArray, List.set_cons_zero, List.set_cons_succ]
 rw [show ((w.alloc (.cells V 117)).alloc (.cells X 119)).heap.size = w.heap.size + 1 + 1 by simp]
 obtain ⟨W1, hW1⟩ : ∃ W1, W1 = ((w.alloc (.cells V 117)).alloc (.cells X 119)).alloc (.cells (zrow 8) 117) := ⟨_, rfl⟩
 rw [← hW1]
 have hG : bkG ⟨w, V, X, numV (wlist L 64), numV f.list⟩ { W1 with drawn := W1.drawn + 1 } := by
  refine ⟨?_, ?_, ?_, ?_, ?_⟩
  ·show Below w.heap.size w W1.drew
   rw [hW1]; exact ((((Below.refl _ _).alloc (Nat.le_refl _) _).alloc (by simp) _).alloc (by simp; omega) _).drew
  ·show w.heap.size + 3 ≤ W1.heap.size
   rw [hW1]; simp
  ·show Row W1 w.heap.size V _
   rw [hW1]; exact ((Row.made _ _ _).alloc _).alloc _
  ·show Row W1 (w.heap.size + 1) X _
   rw [hW1]
   have := (Row.made (w.alloc (.cells V 117)) X 119).alloc (.cells (zrow 8) 117)
   simpa using this
  ·show Row W1 (w.heap.size + 1 + 1) (zrow 8) _
   rw [hW1]
   have := Row.made ((w.alloc (.cells V 117)).alloc (.cells X 119)) (zrow 8) 117
   simpa using this
 clear hW1
 refine wp_region_rely (by kernel_rfl) (by kernel_rfl) (bkT ⟨w, V, X, numV (wlist L 64), numV f.list⟩) (bkG ⟨w, V, X, numV (wlist L 64), numV f.list⟩) (bkV ⟨w, V, X, numV (wlist L 64), numV f.list⟩) 6 bkNeeds [5] bkDep (by kernel_rfl) bk_needs (bk_dep _)
  (fun i k a w w' hi hk hne hke h hT => bk_T _ i k a w w' hi hk hne hke h hT) hG (fun j hj hge => absurd hj (by have : 6 ≤ j := hge; omega)) (forall_ops (S := fun i o => ∀ a w', bkG ⟨w, V, X, numV (wlist L 64), numV f.list⟩ w' → (∀ k ∈ bkNeeds i, bkV ⟨w, V, X, numV (wlist L 64), numV f.list⟩ k a w') → (∀ t, (∀ k, dstOf _ k = some t → i ∈ predsOf _ k) → slot a t = slot _ t) → a.tmps.size = _ → o.wp Tryz.prog a w' (fun a' w'' => ∃ v, a' = a.put o.dst v ∧ bkT ⟨w, V, X, numV (wlist L 64), numV f.list⟩ i w' w'' ∧ bkG ⟨w, V, X, numV (wlist L 64), numV f.list⟩ w'' ∧ bkV ⟨w, V, X, numV (wlist L 64), numV f.list⟩ i a' w'') _) ?_) ?_
 ·refine ⟨?_, ?_, ?_, ?_, ?_, ?_, trivial⟩
  ·intro a w' hG hN hO hS
   have e : slot a 2 = .pointer (some ⟨w.heap.size, 0, none⟩) := hO 2 (old_of (by kernel_rfl))
   refine wp_load_row 117 (.tmp 2) rfl w.heap.size (slotE e) 117 V (0, 0) _ hG.r1 Tryz.underlying117 rfl (by rw [HV8.out]; exact size24) ?_
   exact ⟨_, rfl, bkT_refl _ _ _, hG, slot_put_same _ _ _ (by rw [hS]; show (_ : Nat) < 25; decide)⟩
  ·intro a w' hG hN hO hS
   have e : slot a 3 = .pointer (some ⟨w.heap.size + 1, 0, none⟩) := hO 3 (old_of (by kernel_rfl))
   refine wp_load_row 119 (.tmp 3) rfl (w.heap.size + 1) (slotE e) 119 X (0, 0) _ hG.r2 Tryz.underlying119 rfl (by rw [HX8.out]; kernel_rfl) ?_
   exact ⟨_, rfl, bkT_refl _ _ _, hG, slot_put_same _ _ _ (by rw [hS]; show (_ : Nat) < 25; decide)⟩
  ·intro a w' hG hN hO hS
   have e : slot a 9 = .agg X := hN 1 (by decide)
   refine wp_callf 157 _ _ rfl (enters_of Tryz.func157 (by kernel_rfl) rfl) #[.agg X] (by simp [slotE e]) _ (CS.out w') ?_
   intro w'' hb
   have hT : bkT ⟨w, V, X, numV (wlist L 64), numV f.list⟩ 2 w' w'' := hb
   exact ⟨_, rfl, hT, bkG_T hG hT, slot_put_same _ _ _ (by rw [hS]; show (_ : Nat) < 25; decide)⟩
  ·intro a w' hG hN hO hS
   have e : slot a 8 = .agg V := hN 0 (by decide)
   have e2 : slot a 10 = .agg (numV (wlist L 64)) := hN 2 (by decide)
   refine wp_callf 156 _ _ rfl (enters_of Tryz.func156 (by kernel_rfl) rfl) #[.agg V, .agg (numV (wlist L 64))] (by simp [slotE e, slotE e2]) _ (CM.out w') ?_
   intro w'' hb
   have hT : bkT ⟨w, V, X, numV (wlist L 64), numV f.list⟩ 3 w' w'' := hb
   exact ⟨_, rfl, hT, bkG_T hG hT, slot_put_same _ _ _ (by rw [hS]; show (_ : Nat) < 25; decide)⟩
  ·intro a w' hG hN hO hS
   refine wp_alloc_zero _ rfl _ zero24 ?_
   have hT : bkT ⟨w, V, X, numV (wlist L 64), numV f.list⟩ 4 w' (w'.alloc (.cells (zrow 8) 117)) := (Below.refl _ _).alloc (Nat.le_refl _) _
   exact ⟨_, rfl, hT, bkG_T hG hT, _, slot_put_same _ _ _ (by rw [hS]; show (_ : Nat) < 25; decide), hG.size, Row.made _ _ _⟩
  ·intro a w' hG hN hO hS
   obtain ⟨B, e, hB, hR⟩ := hN 4 (by decide)
   have e2 : slot a 11 = .agg (numV f.list) := hN 3 (by decide)
   refine wp_store_row 117 (.tmp 5) (.tmp 11) rfl B (numV f.list) (slotE e) (slotE e2) 117 (zrow 8) hR (by rw [numV_size]; exact size24) (by rw [numV_size, zrow_size]; rfl) (numV_one _) ?_
   have hT : bkT ⟨w, V, X, numV (wlist L 64), numV f.list⟩ 5 w' (w'.setRow B (numV f.list)) := below_setRow (Below.refl _ _) hB _
   exact ⟨_, rfl, hT, bkG_T hG hT, B, e, hB, hR.setRow _⟩
 ·intro a w' hG hV hO hS hD
  obtain ⟨B, e, hB, hR⟩ := hV 5 (by decide) (by decide)
  have ha := act_patch [8, 9, 10, 11, 5] hS hD (fun t ht => hO t (free_of (fun h => ht h)))
  generalize slot a = sl at e ha
  subst ha
  simp only [patchL, List.contains_cons, List.contains_nil, Nat.reduceBEq, Bool.or_false, Bool.or_true, if_true, Bool.false_eq_true, if_false, Nat.reduceAdd]
  rw [e]
  generalize sl 8 = s8
  generalize sl 9 = s9
  generalize sl 10 = s10
  generalize sl 11 = s11
  have b1 := hG.below; have r1 := hG.r1; have r3 := hG.r3
  dsimp only at b1 r1 r3 hB hR
  clear e hG hV hO hS hD
  have HR := Lib.hid hR; have R3 := Lib.hid r3; have HB := Lib.hid hB
  rw [HV.out, ← mixL_zero s f] at r1
  have R1 := Lib.hid r1
  clear hR r3 r1 hB
  go_wp2_with (refine wpList_load_row rfl 117 _ rfl B rfl 117 (numV f.list) (0, 0) _ HR.out Tryz.underlying117 rfl (by rw [numV_size]; exact size24) ?_)
  go_loopw [13] (fun i wr => ∃ k : Nat, k ≤ 8 ∧ i = .int .i64 k ∧ Row wr w.heap.size (numV (mixL s f k)) 117 ∧ Row wr (w.heap.size + 1 + 1) (zrow 8) 117 ∧ Below w.heap.size w wr) (fun i _ => 8 - (intOf i).toNat)
  case atStart => exact ⟨0, by omega, rfl, R1.out, R3.out, b1⟩
  case round =>
   clear R1 R3 b1
   obtain ⟨k, hk, rfl, r1, r3, hb⟩ := hrel
   by_cases hlt : k < 8
   ·have hbk : decide ((k : Int) < 8) = true := by simpa using (show (k : Int) < 8 by omega)
    obtain ⟨x, hx⟩ : ∃ x, x = s.list.getD k 0 := ⟨_, rfl⟩
    obtain ⟨y, hy⟩ : ∃ x, x = f.list.getD k 0 := ⟨_, rfl⟩
    have c1 : wr.cell? ⟨w.heap.size, k, none⟩ = some (.int .u32 x) := by rw [r1.cell, numV_get _ _ (by rw [mixL_len]; exact hlt), mixL_get _ _ _ hlt, hx]
    have cf := r1.free k
    have hyv : (numV f.list)[k]? = some (.int .u32 y) := by rw [numV_get _ _ (by rw [list_len]; exact hlt), hy]
    have HM := Lib.hid (mixL_set s f k hlt)
    rw [← hx, ← hy] at HM
    have b5 : (0 : Int) ≤ (k : Int) ∧ (k : Int) < 8 := by omega
    have R1 := Lib.hid r1; have R3 := Lib.hid r3
    clear r1 r3 hx hy
    go_wp2_with (refine wpList_index_arr rfl 117 _ _ rfl 8 115 .i64 k (numV f.list) (.int .u32 y) rfl rfl Tryz.underlying117 hlt (by kernel_rfl) (fun w => by kernel_rfl) hyv ?_)
    go_roundw
    case rel =>
     refine ⟨k + 1, by omega, by go_num, ?_, R3.out.other _ _ (by show w.heap.size + 1 + 1 ≠ w.heap.size; omega), hb.setCell (Nat.le_refl _) _⟩
     have := R1.out.set k (.int .u32 (ad x y : Nat))
     rw [numV_set, HM.out] at this
     rw [show ((x : Int) + (y : Int)) % 4294967296 = (ad x y : Nat) by unfold ad; omega]
     exact this
    case measure => simp [intOf]; omega
   ·obtain rfl : k = 8 := by omega
    have hbk : decide (((8 : Nat) : Int) < 8) = false := rfl
    rw [mixL_full] at r1
    have R1 := Lib.hid r1; have R3 := Lib.hid r3
    clear r1 r3
    go_wp2_with (first
     | refine wpList_load_row rfl 117 _ rfl w.heap.size rfl 117 (numV (s.add f).list) (0, 0) _ R1.out Tryz.underlying117 rfl (by rw [numV_size]; exact size24) ?_
     | refine wpList_store_row rfl 117 _ _ rfl (w.heap.size + 1 + 1) (numV (s.add f).list) rfl rfl 117 (zrow 8) R3.out (by rw [numV_size]; exact size24) (by rw [numV_size, zrow_size]; rfl) (numV_one _) ?_)
    refine bodyPost_ret (v := .agg (numV (s.add f).list)) (results_cell_row rfl _ _ (w.heap.size + 1 + 1) 117 (numV (s.add f).list) (0, 0) _ rfl (setRow_heap _ _ _ _ _ _ R3.out) Tryz.underlying117 rfl (by rw [numV_size]; exact size24)) rfl ?_
    exact ⟨by rw [HF.out], below_setRow hb (by omega) _⟩
end Go.Proofs.YtjpjpmkadoaipaaGreatDoor
set_option linter.unusedVariables false
set_option pp.maxSteps 200000
namespace Go.Proofs.YtjpjpmkadoaipaaGreatDoor
open Go.RowKit
set_option maxRecDepth 100000 in
set_option maxHeartbeats 1000000 in
theorem chsr_int (e f g : Nat) (he : e < 4294967296) (hf : f < 4294967296) (hg : g < 4294967296) :
  bits .xor .u32 (bits .and .u32 (e : Int) (f : Int)) (bits .and .u32 (4294967295 - (e : Int)) (g : Int)) = (chs e f g : Nat) := by
 rw [show 4294967295 - (e : Int) = ((4294967295 - e : Nat) : Int) by omega, u32_and_nat _ _ he hf, u32_and_nat _ _ (by omega) hg, u32_xor_nat _ _ (and_lt' he) (and_lt' (by omega))]; rfl
def set8 (W : World) (D : Nat) (v0 v1 v2 v3 v4 v5 v6 v7 : Nat) : World :=
 (((((((W.setCell ⟨D, 7, none⟩ (.int .u32 v7)).setCell ⟨D, 6, none⟩ (.int .u32 v6)).setCell ⟨D, 5, none⟩ (.int .u32 v5)).setCell ⟨D, 4, none⟩ (.int .u32 v4)).setCell ⟨D, 3, none⟩ (.int .u32 v3)).setCell ⟨D, 2, none⟩ (.int .u32 v2)).setCell ⟨D, 1, none⟩ (.int .u32 v1)).setCell ⟨D, 0, none⟩ (.int .u32 v0)
theorem set8_row {W : World} {D : Nat} {r : St} {T : TypeId} (q : Row W D (numV r.list) T) (v0 v1 v2 v3 v4 v5 v6 v7 : Nat) : Row (set8 W D v0 v1 v2 v3 v4 v5 v6 v7) D (numV (St.list ⟨v0, v1, v2, v3, v4, v5, v6, v7⟩)) T := by
 have h := (((((((q.set 7 (.int .u32 v7)).set 6 (.int .u32 v6)).set 5 (.int .u32 v5)).set 4 (.int .u32 v4)).set 3 (.int .u32 v3)).set 2 (.int .u32 v2)).set 1 (.int .u32 v1)).set 0 (.int .u32 v0)
 rw [numV_set, numV_set, numV_set, numV_set, numV_set, numV_set, numV_set, numV_set] at h
 exact h
theorem set8_other {W : World} {B D : Nat} {xs : Array Value} {T : TypeId} (q : Row W B xs T) (hne : B ≠ D) (v0 v1 v2 v3 v4 v5 v6 v7 : Nat) : Row (set8 W D v0 v1 v2 v3 v4 v5 v6 v7) B xs T :=
 (((((((q.other _ _ hne).other _ _ hne).other _ _ hne).other _ _ hne).other _ _ hne).other _ _ hne).other _ _ hne).other _ _ hne
theorem set8_below {W : World} {b D : Nat} {w : World} (h : Below b w W) (hD : b ≤ D) (v0 v1 v2 v3 v4 v5 v6 v7 : Nat) : Below b w (set8 W D v0 v1 v2 v3 v4 v5 v6 v7) :=
 (((((((h.setCell hD _).setCell hD _).setCell hD _).setCell hD _).setCell hD _).setCell hD _).setCell hD _).setCell hD _
theorem row8 {W : World} {D : Nat} {a b c d e f g h : Nat} {T : TypeId} (q : Row W D (numV (St.list ⟨a, b, c, d, e, f, g, h⟩)) T) :
  (W.cell? ⟨D, 0, none⟩ = some (.int .u32 a) ∧ W.cell? ⟨D, 1, none⟩ = some (.int .u32 b) ∧ W.cell? ⟨D, 2, none⟩ = some (.int .u32 c) ∧ W.cell? ⟨D, 3, none⟩ = some (.int .u32 d) ∧
   W.cell? ⟨D, 4, none⟩ = some (.int .u32 e) ∧ W.cell? ⟨D, 5, none⟩ = some (.int .u32 f) ∧ W.cell? ⟨D, 6, none⟩ = some (.int .u32 g) ∧ W.cell? ⟨D, 7, none⟩ = some (.int .u32 h)) ∧
  (W.frozen? ⟨D, 0, none⟩ = false ∧ W.frozen? ⟨D, 1, none⟩ = false ∧ W.frozen? ⟨D, 2, none⟩ = false ∧ W.frozen? ⟨D, 3, none⟩ = false ∧ W.frozen? ⟨D, 4, none⟩ = false ∧ W.frozen? ⟨D, 5, none⟩ = false ∧ W.frozen? ⟨D, 6, none⟩ = false ∧ W.frozen? ⟨D, 7, none⟩ = false) := by
 refine ⟨⟨?_, ?_, ?_, ?_, ?_, ?_, ?_, ?_⟩, q.free 0, q.free 1, q.free 2, q.free 3, q.free 4, q.free 5, q.free 6, q.free 7⟩ <;> (rw [q.cell]; rfl)
set_option maxRecDepth 100000 in
set_option maxHeartbeats 4000000 in
theorem refBlock_any (l : List UInt8) (hl : l.length = 64) (s : St) (hs : s.ok) (w : World) : Calls Tryz.prog 64 #[.agg (numV s.list), .agg (bytV l)] w fun e w' => e = .returned (.agg (numV (blkS s (fun i => (l.getD i 0).toNat)).list)) ∧ Below w.heap.size w w' := by
 obtain ⟨L, hL⟩ : ∃ L : Nat → Nat, L = fun i => (l.getD i 0).toNat := ⟨_, rfl⟩
 have hl8 : ∀ i, L i < 256 := fun i => by rw [hL]; exact UInt8.toNat_lt _
 have CS := Lib.hid (fun w => refWords_any l hl w)
 rw [← hL] at CS ⊢
 have HF : Hid (blkS s L = s.add (rounds L s 64)) := Lib.hid rfl
 have hw64 := wlist_len L 64
 have hV8 : (numV s.list).size = 8 := by rw [numV_size]; rfl
 have hX8 : (bytV l).size = 64 := by rw [bytV_size, hl]
 obtain ⟨X, hX⟩ : ∃ X, X = bytV l := ⟨_, rfl⟩
 obtain ⟨Y, hY⟩ : ∃ Y, Y = numV (wlist L 64) := ⟨_, rfl⟩
 have hY8 : Y.size = 64 := by rw [hY, numV_size, hw64]
 rw [← hX] at CS hX8 ⊢
 rw [← hY] at CS
 obtain ⟨V, hV⟩ : ∃ V, V = numV s.list := ⟨_, rfl⟩
 rw [← hV] at hV8 ⊢
 have HV := Lib.hid hV; have HX := Lib.hid hX; have HV8 := Lib.hid hV8; have HX8 := Lib.hid hX8; have HY := Lib.hid hY; have HY8 := Lib.hid hY8; have HL8 := Lib.hid hl8
 clear hL hV hX hV8 hX8 hY hY8 hw64 hl8
 obtain ⟨q1, q2, q3, qb, qz⟩ := alloc3 w V X (zrow 8) 117 119 117
 have Q1 := Lib.hid q1; have Q2 := Lib.hid q2; have Q3 := Lib.hid q3; have QZ := Lib.hid qz
 clear q1 q2 q3 qz
 go_enter Tryz.func64, Tryz.ntmps64
 go_wp2_with (first
  | refine wpList_alloc_zero rfl _ rfl _ zero24 ?_
  | refine wpList_load_row rfl 119 _ rfl (w.heap.size + 1) rfl 119 X (0, 0) _ Q2.out Tryz.underlying119 rfl (by rw [HX8.out]; kernel_rfl) ?_)
 refine (CS.out _).mono ?_
 rintro e w1 ⟨rfl, hb1⟩
 have hz1 : w.heap.size + 3 ≤ w1.heap.size := by have := hb1.size; rw [QZ.out] at this; exact this
 have r1 := Q1.out.step hb1; have r3 := Q3.out.step hb1
 have hb1' := below_step qb (hb1.mono (by simp))
 have R1 := Lib.hid r1; have R3 := Lib.hid r3
 clear Q1 Q2 Q3 QZ qb hb1 r1 r3
 go_wp2_with (first
  | refine wpList_alloc_zero rfl _ rfl _ zero43 ?_
  | refine wpList_store_row rfl 156 _ _ rfl w1.heap.size Y rfl rfl 156 (zrow 64) (heap_alloc_new _ _) (by rw [HY8.out]; exact size43) (by rw [HY8.out, zrow_size]) (by rw [HY.out]; exact numV_one _) ?_)
 refine (refConstants_any _).mono ?_
 rintro e w2 ⟨rfl, hb2⟩
 obtain ⟨A, hA⟩ : ∃ A, A = w1.heap.size := ⟨_, rfl⟩
 have ra : Row w2 A Y 156 := by rw [hA]; exact (Row.setRow (Row.made _ _ _) _).step hb2
 have r1 : Row w2 w.heap.size V 117 := (Row.setRow_other (R1.out.alloc _) _ _ (by omega)).step hb2
 have r3 : Row w2 (w.heap.size + 1 + 1) (zrow 8) 117 := (Row.setRow_other (R3.out.alloc _) _ _ (by omega)).step hb2
 have hb2' : Below w.heap.size w w2 := below_step (below_setRow (hb1'.alloc (by omega) _) (by omega) _) hb2
 have hz2 : A < w2.heap.size := ra.lt
 rw [← hA] at hz1 ⊢
 have qc : Row ((w2.alloc (.cells (zrow 64) 156)).setRow w2.heap.size (numV ktab)) w2.heap.size (numV ktab) 156 := Row.setRow (Row.made _ _ _) _
 have qa : Row ((w2.alloc (.cells (zrow 64) 156)).setRow w2.heap.size (numV ktab)) A Y 156 := Row.setRow_other (ra.alloc _) _ _ (by omega)
 have q1 : Row ((w2.alloc (.cells (zrow 64) 156)).setRow w2.heap.size (numV ktab)) w.heap.size V 117 := Row.setRow_other (r1.alloc _) _ _ (by omega)
 have q3 : Row ((w2.alloc (.cells (zrow 64) 156)).setRow w2.heap.size (numV ktab)) (w.heap.size + 1 + 1) (zrow 8) 117 := Row.setRow_other (r3.alloc _) _ _ (by omega)
 have qb : Below w.heap.size w ((w2.alloc (.cells (zrow 64) 156)).setRow w2.heap.size (numV ktab)) := below_setRow (hb2'.alloc (by omega) _) (by omega) _
 clear R1 R3 hb1' hb2 ra r1 r3 hb2'
 obtain ⟨C, hC⟩ : ∃ C, C = w2.heap.size := ⟨_, rfl⟩
 obtain ⟨W3, hW3⟩ : ∃ W3, W3 = ((w2.alloc (.cells (zrow 64) 156)).setRow w2.heap.size (numV ktab)) := ⟨_, rfl⟩
 have hz3 : W3.heap.size = C + 1 := by rw [hW3, hC]; simp
 rw [← hW3] at qc qa q1 q3 qb
 rw [← hC] at qc hz2
 have QC := Lib.hid qc; have QA := Lib.hid qa; have Q1 := Lib.hid q1; have Q3 := Lib.hid q3; have HW3 := Lib.hid hW3; have HC := Lib.hid hC; have HZ3 := Lib.hid hz3; have HA := Lib.hid hA
 clear qc qa q1 q3 hC hW3 hz3 hA
 go_wp2_with (first
  | refine wpList_alloc_zero rfl _ rfl _ zero43 ?_
  | (refine wpList_store_row rfl 156 _ _ rfl w2.heap.size (numV ktab) rfl rfl 156 (zrow 64) (heap_alloc_new _ _) (by rw [numV_size]; exact size43) (by rw [numV_size]; kernel_rfl) (numV_one _) ?_; rw [← HW3.out, ← HC.out])
  | refine wpList_load_row rfl 117 _ rfl w.heap.size rfl 117 V (0, 0) _ Q1.out Tryz.underlying117 rfl (by rw [HV8.out]; exact size24) ?_
  | refine wpList_alloc_zero rfl 117 rfl _ zero24 ?_
  | refine wpList_store_row rfl 117 _ _ rfl W3.heap.size V rfl rfl 117 (zrow 8) (heap_alloc_new _ _) (by rw [HV8.out]; exact size24) (by rw [HV8.out, zrow_size]) (by rw [HV.out]; exact numV_one _) ?_)
 obtain ⟨D, hD⟩ : ∃ D, D = W3.heap.size := ⟨_, rfl⟩
 have hz3 : C < D := by rw [hD, HZ3.out]; omega
 have qd : Row ((W3.alloc (.cells (zrow 8) 117)).setRow W3.heap.size V) D (numV (rounds L s 0).list) 117 := by
  rw [hD, show rounds L s 0 = s from rfl, ← HV.out]; exact Row.setRow (Row.made _ _ _) _
 have qc : Row ((W3.alloc (.cells (zrow 8) 117)).setRow W3.heap.size V) C (numV ktab) 156 := Row.setRow_other (QC.out.alloc _) _ _ (by omega)
 have qa : Row ((W3.alloc (.cells (zrow 8) 117)).setRow W3.heap.size V) A Y 156 := Row.setRow_other (QA.out.alloc _) _ _ (by omega)
 have q1 : Row ((W3.alloc (.cells (zrow 8) 117)).setRow W3.heap.size V) w.heap.size V 117 := Row.setRow_other (Q1.out.alloc _) _ _ (by omega)
 have q3 : Row ((W3.alloc (.cells (zrow 8) 117)).setRow W3.heap.size V) (w.heap.size + 1 + 1) (zrow 8) 117 := Row.setRow_other (Q3.out.alloc _) _ _ (by omega)
 have qb4 : Below w.heap.size w ((W3.alloc (.cells (zrow 8) 117)).setRow W3.heap.size V) := below_setRow (qb.alloc qb.size _) qb.size _
 rw [← hD] at qd qc qa q1 q3 qb4 ⊢
 clear QC QA Q1 Q3 HZ3 HW3 qb hD
 have QD := Lib.hid qd; have QC := Lib.hid qc; have QA := Lib.hid qa; have Q1 := Lib.hid q1; have Q3 := Lib.hid q3
 clear qd qc qa q1 q3
 go_loopw [8] (fun i wr => ∃ k : Nat, k ≤ 64 ∧ i = .int .i64 k ∧ Row wr D (numV (rounds L s k).list) 117 ∧ Row wr C (numV ktab) 156 ∧ Row wr A Y 156 ∧ Row wr w.heap.size V 117 ∧ Row wr (w.heap.size + 1 + 1) (zrow 8) 117 ∧ Below w.heap.size w wr) (fun i _ => 64 - (intOf i).toNat)
 case atStart => exact ⟨0, by omega, rfl, QD.out, QC.out, QA.out, Q1.out, Q3.out, qb4⟩
 case round =>
  clear QD QC QA Q1 Q3 qb4
  obtain ⟨k, hk, rfl, qd, qc, qa, q1, q3, hb⟩ := hrel
  by_cases hlt : k < 64
  ·have hbk : decide ((k : Int) < 64) = true := by simpa using (show (k : Int) < 64 by omega)
   obtain ⟨la, lb, lc, ld, le, lf, lg, lh⟩ := rounds_ok L hs k
   have lw := wd_lt L HL8.out k
   have lk := kt_lt k
   have HN := Lib.hid (show rounds L s (k + 1) = rnd (rounds L s k) (kt k) (wd L k) from rfl)
   obtain ⟨r, hr⟩ : ∃ r, r = rounds L s k := ⟨_, rfl⟩
   rw [← hr] at la lb lc ld le lf lg lh HN qd
   obtain ⟨a, b, c, d, e, f, g, h⟩ := r
   dsimp only at la lb lc ld le lf lg lh
   have ca : wr.cell? ⟨A, k, none⟩ = some (.int .u32 (wd L k : Nat)) := by rw [qa.cell, HY.out, numV_get _ _ (by rw [wlist_len]; exact hlt)]; rfl
   have ct : wr.cell? ⟨C, k, none⟩ = some (.int .u32 (kt k : Nat)) := by rw [qc.cell, numV_get _ _ (by rw [ktab_len]; exact hlt)]; rfl
   obtain ⟨x, hxe⟩ : ∃ x, x = wd L k := ⟨_, rfl⟩
   obtain ⟨y, hye⟩ : ∃ x, x = kt k := ⟨_, rfl⟩
   rw [← hxe] at lw HN ca
   rw [← hye] at lk HN ct
   have b5 : (0 : Int) ≤ (k : Int) ∧ (k : Int) < 64 := by omega
   obtain ⟨⟨d0, d1, d2, d3, d4, d5, d6, d7⟩, f0, f1, f2, f3, f4, f5, f6, f7⟩ := row8 qd
   have QD := Lib.hid qd; have QC := Lib.hid qc; have QA := Lib.hid qa; have Q1 := Lib.hid q1; have Q3 := Lib.hid q3
   have HR := Lib.hid hr; have HXE := Lib.hid hxe; have HYE := Lib.hid hye
   clear qd qc qa q1 q3 hr hxe hye
   go_wp2_with fail
   go_quiet ((go_at_call 89; exact Calls.quiet_of_same (rot_q _ _ (by assumption) (by decide) _)))
   rw [bs1_int e le]
   obtain ⟨W5, hW5⟩ : ∃ W5, W5 = wr.drewN nq := ⟨_, rfl⟩
   rw [← hW5]
   have hb5 : Below w.heap.size w W5 := by rw [hW5]; exact below_drewN hb nq
   have qd := QD.out.drewN nq; have qc := QC.out.drewN nq; have qa := QA.out.drewN nq; have q1 := Q1.out.drewN nq; have q3 := Q3.out.drewN nq
   rw [← hW5] at qd qc qa q1 q3
   have ca' : W5.cell? ⟨A, k, none⟩ = some (.int .u32 x) := by rw [hW5]; exact ca
   have ct' : W5.cell? ⟨C, k, none⟩ = some (.int .u32 y) := by rw [hW5]; exact ct
   clear d0 d1 d2 d3 d4 d5 d6 d7 f0 f1 f2 f3 f4 f5 f6 f7 ca ct QD QC QA Q1 Q3 hb hW5
   have ca := ca'; have ct := ct'
   clear ca' ct'
   obtain ⟨⟨d0, d1, d2, d3, d4, d5, d6, d7⟩, f0, f1, f2, f3, f4, f5, f6, f7⟩ := row8 qd
   have QD := Lib.hid qd; have QC := Lib.hid qc; have QA := Lib.hid qa; have Q1 := Lib.hid q1; have Q3 := Lib.hid q3
   clear qd qc qa q1 q3
   go_wp2_with fail
   rw [chsr_int e f g le lf lg]
   go_quiet (fail)
   obtain ⟨W6, hW6⟩ : ∃ W6, W6 = W5.drewN nq := ⟨_, rfl⟩
   rw [← hW6]
   have hb6 : Below w.heap.size w W6 := by rw [hW6]; exact below_drewN hb5 nq
   have qd := QD.out.drewN nq; have qc := QC.out.drewN nq; have qa := QA.out.drewN nq; have q1 := Q1.out.drewN nq; have q3 := Q3.out.drewN nq
   rw [← hW6] at qd qc qa q1 q3
   have ca' : W6.cell? ⟨A, k, none⟩ = some (.int .u32 x) := by rw [hW6]; exact ca
   have ct' : W6.cell? ⟨C, k, none⟩ = some (.int .u32 y) := by rw [hW6]; exact ct
   clear d0 d1 d2 d3 d4 d5 d6 d7 f0 f1 f2 f3 f4 f5 f6 f7 ca ct QD QC QA Q1 Q3 hb5 hW6
   have ca := ca'; have ct := ct'
   clear ca' ct'
   obtain ⟨⟨d0, d1, d2, d3, d4, d5, d6, d7⟩, f0, f1, f2, f3, f4, f5, f6, f7⟩ := row8 qd
   have QD := Lib.hid qd; have QC := Lib.hid qc; have QA := Lib.hid qa; have Q1 := Lib.hid q1; have Q3 := Lib.hid q3
   clear qd qc qa q1 q3
   go_wp2_with fail
   go_quiet ((go_at_call 89; exact Calls.quiet_of_same (rot_q _ _ (by assumption) (by decide) _)))
   rw [bs0_int a la]
   obtain ⟨W7, hW7⟩ : ∃ W7, W7 = W6.drewN nq := ⟨_, rfl⟩
   rw [← hW7]
   have hb7 : Below w.heap.size w W7 := by rw [hW7]; exact below_drewN hb6 nq
   have qd := QD.out.drewN nq; have qc := QC.out.drewN nq; have qa := QA.out.drewN nq; have q1 := Q1.out.drewN nq; have q3 := Q3.out.drewN nq
   rw [← hW7] at qd qc qa q1 q3
   have ca' : W7.cell? ⟨A, k, none⟩ = some (.int .u32 x) := by rw [hW7]; exact ca
   have ct' : W7.cell? ⟨C, k, none⟩ = some (.int .u32 y) := by rw [hW7]; exact ct
   clear d0 d1 d2 d3 d4 d5 d6 d7 f0 f1 f2 f3 f4 f5 f6 f7 ca ct QD QC QA Q1 Q3 hb6 hW7
   have ca := ca'; have ct := ct'
   clear ca' ct'
   obtain ⟨⟨d0, d1, d2, d3, d4, d5, d6, d7⟩, f0, f1, f2, f3, f4, f5, f6, f7⟩ := row8 qd
   have QD := Lib.hid qd; have QC := Lib.hid qc; have QA := Lib.hid qa; have Q1 := Lib.hid q1; have Q3 := Lib.hid q3
   clear qd qc qa q1 q3
   clear ca ct b5
   go_wp2_with fail
   go_roundw
   case rel =>
    rw [mj_int a b c la lb lc]
    rw [show ((d : Int) + ((h : Int) + (bs1 e : Nat) + (chs e f g : Nat) + (y : Int) + (x : Int))) % 4294967296 = (ad d (tt ⟨a, b, c, d, e, f, g, h⟩ y x) : Nat) by
     show _ = ((ad d (ad (ad (ad (ad h (bs1 e)) (chs e f g)) y) x) : Nat) : Int); unfold ad; omega]
    rw [show ((h : Int) + (bs1 e : Nat) + (chs e f g : Nat) + (y : Int) + (x : Int) + (bs0 a : Nat) + (mj a b c : Nat)) % 4294967296 = (ad (tt ⟨a, b, c, d, e, f, g, h⟩ y x) (ad (bs0 a) (mj a b c)) : Nat) by
     show _ = ((ad (ad (ad (ad (ad h (bs1 e)) (chs e f g)) y) x) (ad (bs0 a) (mj a b c)) : Nat) : Int); unfold ad; omega]
    refine ⟨k + 1, by omega, by go_num, ?_, set8_other QC.out (by omega) _ _ _ _ _ _ _ _, set8_other QA.out (by omega) _ _ _ _ _ _ _ _, set8_other Q1.out (by omega) _ _ _ _ _ _ _ _, set8_other Q3.out (by omega) _ _ _ _ _ _ _ _, set8_below hb7 (by omega) _ _ _ _ _ _ _ _⟩
    rw [HN.out]
    exact set8_row QD.out _ _ _ _ _ _ _ _
   case measure => simp [intOf]; omega
  ·have hk64 : k = 64 := by omega
   have hbk : decide ((k : Int) < 64) = false := by rw [hk64]; rfl
   rw [hk64] at qd
   clear hk64 hk hlt
   obtain ⟨f, hf⟩ : ∃ f, f = rounds L s 64 := ⟨_, rfl⟩
   rw [← hf] at qd HF
   rw [HV.out, ← mixL_zero s f] at q1
   have Q1 := Lib.hid q1; have Q3 := Lib.hid q3; have QD := Lib.hid qd
   clear q1 q3 qd qa qc hf
   go_wp2_with fail
   go_loopw [14] (fun i wr => ∃ k : Nat, k ≤ 8 ∧ i = .int .i64 k ∧ Row wr w.heap.size (numV (mixL s f k)) 117 ∧ Row wr (w.heap.size + 1 + 1) (zrow 8) 117 ∧ Row wr D (numV f.list) 117 ∧ Below w.heap.size w wr) (fun i _ => 8 - (intOf i).toNat)
   case atStart => exact ⟨0, by omega, rfl, Q1.out, Q3.out, QD.out, hb⟩
   case round =>
    clear Q1 Q3 QD hb
    obtain ⟨k, hk, rfl, r1, r3, rd, hb⟩ := hrel
    by_cases hlt : k < 8
    ·have hbk : decide ((k : Int) < 8) = true := by simpa using (show (k : Int) < 8 by omega)
     obtain ⟨x, hx⟩ : ∃ x, x = s.list.getD k 0 := ⟨_, rfl⟩
     obtain ⟨y, hy⟩ : ∃ x, x = f.list.getD k 0 := ⟨_, rfl⟩
     have c1 : wr.cell? ⟨w.heap.size, k, none⟩ = some (.int .u32 x) := by rw [r1.cell, numV_get _ _ (by rw [mixL_len]; exact hlt), mixL_get _ _ _ hlt, hx]
     have c2 : wr.cell? ⟨D, k, none⟩ = some (.int .u32 y) := by rw [rd.cell, numV_get _ _ (by rw [list_len]; exact hlt), hy]
     have cf := r1.free k
     have HM := Lib.hid (mixL_set s f k hlt)
     rw [← hx, ← hy] at HM
     have b5 : (0 : Int) ≤ (k : Int) ∧ (k : Int) < 8 := by omega
     have R1 := Lib.hid r1; have R3 := Lib.hid r3; have RD := Lib.hid rd
     clear r1 r3 rd hx hy
     go_wp2_with fail
     go_still_tail 9, (by kernel_rfl)
     change wpList _ _ _ _ _ wr.drew
     clear c2
     go_wp2_with fail
     go_roundw
     case rel =>
      refine ⟨k + 1, by omega, by go_num, ?_, (Row.drew R3.out).other _ _ (by show w.heap.size + 1 + 1 ≠ w.heap.size; omega), (Row.drew RD.out).other _ _ (by show D ≠ w.heap.size; omega), (hb.drew).setCell (Nat.le_refl _) _⟩
      have := (Row.drew R1.out).set k (.int .u32 (ad x y : Nat))
      rw [numV_set, HM.out] at this
      rw [show ((x : Int) + (y : Int)) % 4294967296 = (ad x y : Nat) by unfold ad; omega]
      exact this
     case measure => simp [intOf]; omega
    ·obtain rfl : k = 8 := by omega
     have hbk : decide (((8 : Nat) : Int) < 8) = false := rfl
     rw [mixL_full] at r1
     have R1 := Lib.hid r1; have R3 := Lib.hid r3
     clear r1 r3 rd
     go_wp2_with (first
      | refine wpList_load_row rfl 117 _ rfl w.heap.size rfl 117 (numV (s.add f).list) (0, 0) _ R1.out Tryz.underlying117 rfl (by rw [numV_size]; exact size24) ?_
      | refine wpList_store_row rfl 117 _ _ rfl (w.heap.size + 1 + 1) (numV (s.add f).list) rfl rfl 117 (zrow 8) R3.out (by rw [numV_size]; exact size24) (by rw [numV_size, zrow_size]; rfl) (numV_one _) ?_)
     refine bodyPost_ret (v := .agg (numV (s.add f).list)) (results_cell_row rfl _ _ (w.heap.size + 1 + 1) 117 (numV (s.add f).list) (0, 0) _ rfl (setRow_heap _ _ _ _ _ _ R3.out) Tryz.underlying117 rfl (by rw [numV_size]; exact size24)) rfl ?_
     exact ⟨by rw [HF.out], below_setRow hb (by omega) _⟩
end Go.Proofs.YtjpjpmkadoaipaaGreatDoor
set_option linter.unusedVariables false
set_option pp.maxSteps 200000
namespace Go.Proofs.YtjpjpmkadoaipaaGreatDoor
open Go.RowKit
set_option maxRecDepth 100000 in
set_option maxHeartbeats 1000000 in
theorem str_bytes (l : List UInt8) : strOfNums (l.map fun u : UInt8 => (u.toNat : Int)) = ⟨l.toArray⟩ := by
 unfold strOfNums
 rw [List.map_map]
 congr 2
 exact (List.map_congr_left (fun u _ => by simp)).trans (List.map_id l)
theorem bytV_ints (l : List UInt8) : bytV l = ((l.map fun u : UInt8 => (u.toNat : Int)).map (Value.int .u8)).toArray := by simp [bytV]
theorem conv_bytes {W : World} {B : Nat} {l : List UInt8} {T : TypeId} (h : Row W B (bytV l) T) (n cap : Nat) (hn : l.length = n) :
  (convert 113 9 (.slice (some ⟨B, 0, none⟩) n cap)).run Tryz.prog W = .ok (.string ⟨l.toArray⟩) W := by
 have h' : W.heap[B]? = some (.cells ((l.map fun u : UInt8 => (u.toNat : Int)).map (Value.int .u8)).toArray T (0, 0)) := by rw [← bytV_ints]; exact h
 rw [conv_row 113 5 9 Tryz.underlying113 Tryz.underlying5 Tryz.underlying9 W B T (0, 0) _ h' n cap (by simpa using hn), str_bytes]
theorem zero67 : (Tryz.prog.info? 206).bind (fun i => i.zero.map (·.cells)) = some (zbyt 32) := by kernel_rfl
def browL (s : St) (k : Nat) : List UInt8 := (List.range 32).map fun j => if j < k then byteAt s j else 0
theorem browL_zero (s : St) : browL s 0 = List.replicate 32 0 := by simp [browL, List.map_const']
theorem browL_full (s : St) : browL s 32 = s.bytes := by
 rw [← bytes_row]
 unfold browL
 apply List.map_congr_left
 intro j hj
 rw [if_pos (List.mem_range.1 hj)]
theorem browL_len (s : St) (k : Nat) : (browL s k).length = 32 := by simp [browL]
theorem browL_set (s : St) (k : Nat) (h : k < 32) : (browL s k).set k (byteAt s k) = browL s (k + 1) := by
 apply List.ext_getElem?
 intro i
 unfold browL
 rw [List.getElem?_set]
 by_cases hi : i < 32
 ·by_cases e : k = i
  ·subst e; simp [h]
  ·simp only [e, if_false, List.getElem?_map, List.getElem?_range hi, Option.map_some]
   by_cases h2 : i < k
   ·rw [if_pos h2, if_pos (by omega)]
   ·rw [if_neg h2, if_neg (by omega)]
 ·simp [hi]
  omega
set_option maxRecDepth 100000 in
set_option maxHeartbeats 2000000 in
theorem bytes_any (s : St) (hs : s.ok) (w : World) : Calls Tryz.prog 97 #[.agg (numV s.list)] w fun e w' => e = .returned (.string ⟨s.bytes.toArray⟩) ∧ Below w.heap.size w w' := by
 go_enter Tryz.func97, Tryz.ntmps97
 go_wp2_with (refine wpList_alloc_zero rfl _ rfl _ zero67 ?_)
 go_loopw [6, 4, 5] (fun i _ _ wr => ∃ k : Nat, k ≤ 32 ∧ i = .int .i64 k ∧ Row wr w.heap.size (numV s.list) 162 ∧ Row wr (w.heap.size + 1) (bytV (browL s k)) 206 ∧ Below w.heap.size w wr) (fun i _ _ _ => 32 - (intOf i).toNat)
 case atStart =>
  refine ⟨0, by omega, rfl, (Row.made _ _ _).alloc _, ?_, ((Below.refl _ _).alloc (Nat.le_refl _) _).alloc (by simp) _⟩
  rw [browL_zero]
  have := Row.made (w.alloc (.cells (numV s.list) 162)) (zbyt 32) 206
  simpa [zbyt] using this
 case round =>
  obtain ⟨k, hk, rfl, r1, r2, hb⟩ := hrel
  by_cases hlt : k < 32
  ·have hbk : decide ((k : Int) < 32) = true := by simpa using (show (k : Int) < 32 by omega)
   obtain ⟨q, hq⟩ : ∃ q, q = k / 4 := ⟨_, rfl⟩
   obtain ⟨r, hr⟩ : ∃ r, r = k % 4 := ⟨_, rfl⟩
   obtain ⟨c, hc⟩ : ∃ c, c = 8 * (3 - r) := ⟨_, rfl⟩
   have e1 : (k : Int) % 4 = (r : Int) := by omega
   have e2 : (k : Int) / 4 = (q : Int) := by omega
   have e3 : (8 : Int) * (4 - ((r : Int) + 1)) = (c : Int) := by omega
   have bq : (0 : Int) ≤ (q : Int) ∧ (q : Int) < 8 := by omega
   have br : (0 : Int) ≤ (r : Int) ∧ (r : Int) < 4 := by omega
   have bc : c ≤ 24 := by omega
   have bk : (0 : Int) ≤ (k : Int) ∧ (k : Int) < 32 := by omega
   obtain ⟨x, hx⟩ : ∃ x, x = s.list.getD q 0 := ⟨_, rfl⟩
   have cx : wr.cell? ⟨w.heap.size, q, none⟩ = some (.int .u32 x) := by rw [r1.cell, numV_get _ _ (by rw [list_len]; omega), hx]
   have cf := r2.free k
   have cr : ∃ v, wr.cell? ⟨w.heap.size + 1, k, none⟩ = some v := ⟨_, by rw [r2.cell, bytV_get _ _ (by rw [browL_len]; exact hlt)]⟩
   obtain ⟨v, cr⟩ := cr
   have lx : x < 4294967296 := by
    obtain ⟨h0, h1, h2, h3, h4, h5, h6, h7⟩ := hs
    rw [hx]
    exact getD_lt (l := s.list) (by intro y hy; simp only [St.list, List.mem_cons, List.not_mem_nil, or_false] at hy; rcases hy with rfl | rfl | rfl | rfl | rfl | rfl | rfl | rfl <;> assumption) q
   have HB := Lib.hid (show byteAt s k = UInt8.ofNat (x / 2 ^ c) by unfold byteAt; rw [← hq, ← hr, ← hc, hx])
   have R1 := Lib.hid r1; have R2 := Lib.hid r2
   clear hq hr hc hx r1 r2
   go_wp2_with fail
   go_roundw
   case rel =>
    have h8 : (x : Int) / 2 ^ c % 256 = ((UInt8.ofNat (x / 2 ^ c)).toNat : Int) := by
     rw [UInt8.toNat_ofNat', Int.natCast_emod, Int.natCast_ediv, Int.natCast_pow]; rfl
    rw [h8, ← HB.out]
    refine ⟨k + 1, by omega, by go_num, R1.out.other _ _ (by show w.heap.size ≠ w.heap.size + 1; omega), ?_, hb.setCell (by show w.heap.size ≤ w.heap.size + 1; omega) _⟩
    have := R2.out.set k (.int .u8 ((byteAt s k).toNat : Nat))
    rw [bytV_set, browL_set s k hlt] at this
    exact this
   case measure => simp [intOf]; omega
  ·obtain rfl : k = 32 := by omega
   have hbk : decide (((32 : Nat) : Int) < 32) = false := rfl
   rw [browL_full] at r2
   have R2 := Lib.hid r2
   clear r1 r2
   go_wp2_with (refine wpList_convert rfl _ _ _ rfl _ _ _ rfl (conv_bytes R2.out 32 32 (bytes_len s)) ?_)
   go_ret
   exact ⟨rfl, hb⟩
theorem size53 : (Tryz.prog.info? 162).map (·.size) = some 8 := by kernel_rfl
theorem zero53 : (Tryz.prog.info? 162).bind (fun i => i.zero.map (·.cells)) = some (zrow 8) := by kernel_rfl
theorem size25 : (Tryz.prog.info? 119).map (·.size) = some 64 := by kernel_rfl
set_option maxRecDepth 100000 in
set_option maxHeartbeats 2000000 in
theorem behind_any_She (l : List UInt8) (hl : l.length = 64) (s : St) (hs : s.ok) (w : World) : Calls Tryz.prog 95 #[.agg (numV s.list), .agg (bytV l)] w fun e w' => e = .returned (.agg (numV (blk s l).list)) ∧ Below w.heap.size w w' := by
 have CB := Lib.hid (fun w => Block_any l hl s hs w)
 obtain ⟨f, hf⟩ : ∃ f, f = blk s l := ⟨_, rfl⟩
 rw [← byt_eq, show blkS s (byt l) = f from hf.symm] at CB
 have HF := Lib.hid hf; clear hf
 have hV8 : (numV s.list).size = 8 := by rw [numV_size]; rfl
 have hX8 : (bytV l).size = 64 := by rw [bytV_size, hl]
 obtain ⟨V, hV⟩ : ∃ V, V = numV s.list := ⟨_, rfl⟩
 obtain ⟨X, hX⟩ : ∃ X, X = bytV l := ⟨_, rfl⟩
 rw [← hX] at CB hX8 ⊢
 rw [← hV] at CB hV8 ⊢
 have HV := Lib.hid hV; have HX := Lib.hid hX; have HV8 := Lib.hid hV8; have HX8 := Lib.hid hX8
 clear hV hX hV8 hX8
 obtain ⟨q1, q2, q3, qb, qz⟩ := alloc3 w V X (zrow 8) 162 119 162
 have Q1 := Lib.hid q1; have Q2 := Lib.hid q2; have Q3 := Lib.hid q3; have QZ := Lib.hid qz
 clear q1 q2 q3 qz
 go_enter Tryz.func95, Tryz.ntmps95
 go_wp2_with (first
  | refine wpList_alloc_zero rfl _ rfl _ zero53 ?_
  | refine wpList_load_row rfl 162 _ rfl w.heap.size rfl 162 V (0, 0) _ Q1.out Tryz.underlying162 rfl (by rw [HV8.out]; exact size53) ?_
  | refine wpList_load_row rfl 119 _ rfl (w.heap.size + 1) rfl 119 X (0, 0) _ Q2.out Tryz.underlying119 rfl (by rw [HX8.out]; exact size25) ?_)
 refine (CB.out _).mono ?_
 rintro e w1 ⟨rfl, hb1⟩
 have r3 := Q3.out.step hb1
 have hb1' := below_step qb (hb1.mono (by simp))
 have R3 := Lib.hid r3
 clear Q1 Q2 Q3 QZ r3 hb1 qb
 go_wp2_with (refine wpList_store_row rfl 162 _ _ rfl (w.heap.size + 1 + 1) (numV f.list) rfl rfl 162 (zrow 8) R3.out (by rw [numV_size]; exact size53) (by rw [numV_size, zrow_size]; rfl) (numV_one _) ?_)
 refine bodyPost_ret (v := .agg (numV f.list)) (results_cell_row rfl _ _ (w.heap.size + 1 + 1) 162 (numV f.list) (0, 0) _ rfl (setRow_heap _ _ _ _ _ _ R3.out) Tryz.underlying162 rfl (by rw [numV_size]; exact size53)) rfl ?_
 exact ⟨by rw [HF.out], below_setRow hb1' (by omega) _⟩
end Go.Proofs.YtjpjpmkadoaipaaGreatDoor
set_option linter.unusedVariables false
namespace Go.Proofs.YtjpjpmkadoaipaaGreatDoor
open Go.RowKit
def setSeg : Array Value → Nat → List Value → Array Value
 | xs, _, [] => xs
 | xs, o, v :: r => setSeg (xs.setIfInBounds o v) (o + 1) r
theorem setSeg_eq : ∀ (vs : List Value) (A M B : List Value), M.length = vs.length → setSeg (A ++ M ++ B).toArray A.length vs = (A ++ vs ++ B).toArray
 | [], A, M, B, h => by
  have : M = [] := List.length_eq_zero_iff.1 h
  subst this; rfl
 | v :: r, A, [], B, h => by simp at h
 | v :: r, A, m :: M, B, h => by
  have := setSeg_eq r (A ++ [v]) M B (by simpa using h)
  rw [setSeg, show (A ++ m :: M ++ B).toArray.setIfInBounds A.length v = (A ++ [v] ++ M ++ B).toArray by simp]
  simp only [List.length_append, List.length_singleton] at this
  rw [this]; simp
theorem Row.setCells {W : World} {B : Nat} {T : TypeId} : ∀ (vs : List Value) {xs : Array Value} {W : World} (h : Row W B xs T) (o : Nat), Row (W.setCells B o vs) B (setSeg xs o vs) T
 | [], _, _, h, _ => h
 | v :: r, _, _, h, o => Row.setCells (W := W) r (h.set o v) (o + 1)
theorem below_setCells {b g : Nat} {w : World} : ∀ (vs : List Value) {W : World} (h : Below b w W) (o : Nat) (hg : b ≤ g), Below b w (W.setCells g o vs)
 | [], _, h, _, _ => h
 | v :: r, _, h, o, hg => below_setCells r (h.setCell hg v) (o + 1) hg
theorem Row.range {W : World} {B : Nat} {T : TypeId} {A M C : List Value} (h : Row W B (A ++ M ++ C).toArray T) : W.rangeAt B A.length M := fun j v hv => by
 rw [h.cell]
 have hj : j < M.length := (List.getElem?_eq_some_iff.1 hv).1
 simp only [List.getElem?_toArray]
 rw [List.append_assoc, List.getElem?_append_right (by omega), List.getElem?_append_left (by omega), show A.length + j - A.length = j by omega, hv]
theorem Row.there {W : World} {B : Nat} {T : TypeId} {xs : Array Value} (h : Row W B xs T) (o n : Nat) (hn : o + n ≤ xs.size) : W.there B o n := fun j hj => by
 refine ⟨?_, h.free _⟩
 rw [h.cell, Array.getElem?_eq_getElem (by omega)]
 rfl
theorem run_copy_part {P : Program} (w : World) (dT sT ty elem : TypeId) (g dLen dCap : Nat) (s : ByteArray) (A M C : List Value) (t : TypeId)
  (hu : P.underlying dT = some (.slice elem)) (hs : (P.info? elem).map (·.size) = some 1) (hg : Row w g (A ++ M ++ C).toArray t) (n : Nat) (hn : Nat.min s.size dLen = n) (hM : M.length = n) :
  (Builtin.copy_ #[dT, sT] ty #[.slice (some ⟨g, A.length, none⟩) dLen dCap, .string s]).run P w =
   .ok (goInt n) (w.setRow g (A ++ Lib.byteCells (s.data.toList.take n) ++ C).toArray) := by
 have hle : n ≤ s.size := by rw [← hn]; exact Nat.min_le_left _ _
 have hl : (Lib.byteCells (s.data.toList.take n)).length = n := by rw [Lib.byteCells_length, List.length_take, ← Lib.size_eq]; omega
 have hst := run_storeCells_at P g A.length t (Lib.byteCells (s.data.toList.take n)) 0 (A ++ M ++ C).toArray w hg (by rw [hl]; simp; omega) (Lib.byteCells_one _)
 rw [hl] at hst
 simp only [Nat.add_zero] at hst
 rw [show ((A ++ M ++ C).toArray.toList.take A.length ++ Lib.byteCells (s.data.toList.take n) ++ (A ++ M ++ C).toArray.toList.drop (A.length + n)) = A ++ Lib.byteCells (s.data.toList.take n) ++ C by
  simp [← hM, List.append_assoc, ← List.drop_drop]] at hst
 have hx : List.take n (List.map (fun b : UInt8 => Value.int IntKind.u8 (b.toNat : Int)) s.data.toList) = Lib.byteCells (s.data.toList.take n) := by
  rw [← List.map_take]; rfl
 cases hq : P.info? elem with
 | none => simp [hq] at hs
 | some i =>
  simp [Builtin.copy_, run_underlying hu, Builtin.lenOf, Builtin.firstCells, sizeOf, typeInfo, hq, hn]
  rw [hx, hst]
  simp [Result.andThen]
theorem Row.rangeA {W : World} {B : Nat} {T : TypeId} {A C : List Value} {M : Array Value} (h : Row W B (A ++ M.toList ++ C).toArray T) (n : Nat) (hn : A.length = n) : W.rangeAt B n M.toList := by subst hn; exact h.range
end Go.Proofs.YtjpjpmkadoaipaaGreatDoor
set_option linter.unusedVariables false
set_option pp.maxSteps 200000
namespace Go.Proofs.YtjpjpmkadoaipaaGreatDoor
open Go.RowKit
set_option maxRecDepth 100000 in
set_option maxHeartbeats 1000000 in
def rcl (s : St) (rest : List UInt8) (held size : Nat) : List Value :=
 s.list.map (fun n : Nat => Value.int .u32 (n : Int)) ++ (rest.map (fun n : UInt8 => Value.int .u8 (n.toNat : Int)) ++ [.int .i64 (held : Int), .int .u64 (size : Int)])
theorem rcl_len (s : St) (rest : List UInt8) (held size : Nat) (h : rest.length = 64) : (rcl s rest held size).length = 74 := by simp [rcl, h, list_len]
def FedTo (B : Nat) (W : World) (s : St) (p : List UInt8) (size : Nat) : Prop :=
 ∃ rest : List UInt8, rest.length = 64 ∧ rest.take p.length = p ∧ p.length < 64 ∧ Row W B (rcl s rest p.length size).toArray 164
set_option maxRecDepth 100000 in
set_option maxHeartbeats 2000000 in
theorem newReader_any (w : World) : Calls Tryz.prog 72 #[] w fun e w' => ∃ B, w.heap.size ≤ B ∧ e = .returned (.pointer (some ⟨B, 0, none⟩)) ∧ FedTo B w' first [] 0 ∧ Below w.heap.size w w' := by
  go_enter Tryz.func72, Tryz.ntmps72
  go_wp2_with fail
  refine (First_any _).mono ?_
  rintro e w1 ⟨rfl, hb1⟩
  go_wp2_with fail
  first
  | (refine cast (congrArg (Oper.upon _ _ _ _ _) (show Result.ok (Next.value (Value.agg (rcl first (List.replicate 64 0) 0 0).toArray)) w1 = _ by kernel_rfl)) ?_
     rw [Oper.upon_value]
     go_wp2
     go_ret
     refine ⟨w1.heap.size, hb1.size, rfl, ⟨List.replicate 64 0, by simp, rfl, by decide, ?_⟩, hb1.alloc hb1.size _⟩
     exact Row.made _ _ _)
  | (go_ret
     refine ⟨w1.heap.size, hb1.size, rfl, ⟨List.replicate 64 0, by simp, rfl, by decide, ?_⟩, hb1.alloc hb1.size _⟩
     exact cast (congrArg (fun xs => Row (w1.alloc (.cells xs 164)) w1.heap.size (rcl first (List.replicate 64 0) 0 0).toArray 164) (show (rcl first (List.replicate 64 0) 0 0).toArray = _ by kernel_rfl)) (Row.made _ _ _))
def strLen : Value → Nat | .string t => t.size | _ => 0
theorem rcl_parts (s : St) (rest : List UInt8) (held size h n : Nat) :
  rcl s rest held size = (s.list.map (fun n : Nat => Value.int .u32 (n : Int)) ++ (rest.take h).map (fun n : UInt8 => Value.int .u8 (n.toNat : Int))) ++ ((rest.drop h).take n).map (fun n : UInt8 => Value.int .u8 (n.toNat : Int)) ++ ((rest.drop (h + n)).map (fun n : UInt8 => Value.int .u8 (n.toNat : Int)) ++ [.int .i64 (held : Int), .int .u64 (size : Int)]) := by
 have e : rest = rest.take h ++ ((rest.drop h).take n ++ rest.drop (h + n)) := by rw [← List.drop_drop, List.take_append_drop, List.take_append_drop]
 unfold rcl
 conv => lhs; rw [e]
 simp
theorem rcl_held (s : St) (rest : List UInt8) (held size : Nat) (hr : rest.length = 64) : (rcl s rest held size)[72]? = some (.int .i64 (held : Int)) := by
 unfold rcl
 rw [List.getElem?_append_right (by simp [list_len]), List.getElem?_append_right (by simp [list_len, hr])]
 simp [list_len, hr]
theorem rcl_size (s : St) (rest : List UInt8) (held size : Nat) (hr : rest.length = 64) : (rcl s rest held size)[73]? = some (.int .u64 (size : Int)) := by
 unfold rcl
 rw [List.getElem?_append_right (by simp [list_len]), List.getElem?_append_right (by simp [list_len, hr])]
 simp [list_len, hr]
theorem rcl_set_held (s : St) (rest : List UInt8) (held size n : Nat) (hr : rest.length = 64) : (rcl s rest held size).toArray.setIfInBounds 72 (.int .i64 (n : Int)) = (rcl s rest n size).toArray := by
 rw [List.setIfInBounds_toArray]
 unfold rcl
 rw [List.set_append_right _ _ (by simp [list_len]), List.set_append_right _ _ (by simp [list_len, hr])]
 simp [list_len, hr]
theorem rcl_set_size (s : St) (rest : List UInt8) (held size n : Nat) (hr : rest.length = 64) : (rcl s rest held size).toArray.setIfInBounds 73 (.int .u64 (n : Int)) = (rcl s rest held n).toArray := by
 rw [List.setIfInBounds_toArray]
 unfold rcl
 rw [List.set_append_right _ _ (by simp [list_len]), List.set_append_right _ _ (by simp [list_len, hr])]
 simp [list_len, hr]
theorem rcl_set_hash (s t : St) (rest : List UInt8) (held size : Nat) : setSeg (rcl s rest held size).toArray 0 (numV t.list).toList = (rcl t rest held size).toArray := by
 have := setSeg_eq (numV t.list).toList [] (s.list.map (fun n : Nat => Value.int .u32 (n : Int))) (rest.map (fun n : UInt8 => Value.int .u8 (n.toNat : Int)) ++ [.int .i64 (held : Int), .int .u64 (size : Int)]) (by simp [numV, list_len])
 simpa [rcl, numV] using this
def fill (rest : List UInt8) (h : Nat) (t : List UInt8) (n : Nat) : List UInt8 := rest.take h ++ t.take n ++ rest.drop (h + n)
theorem fill_len {rest : List UInt8} (hr : rest.length = 64) {h n : Nat} {t : List UInt8} (hn : n ≤ t.length) (hh : h + n ≤ 64) : (fill rest h t n).length = 64 := by
 unfold fill; simp [hr]; omega
theorem fill_take {rest : List UInt8} (hr : rest.length = 64) {h n : Nat} {t : List UInt8} (hn : n ≤ t.length) (hh : h + n ≤ 64) : (fill rest h t n).take (h + n) = rest.take h ++ t.take n := by
 unfold fill
 rw [List.take_append_of_le_length (by simp [hr]; omega), List.take_of_length_le (by simp [hr]; omega)]
def ptr (b o : Nat) : Value := .pointer (some ⟨b, o, none⟩)
def fdU (B : Nat) (s f : St) (F : List UInt8) (h N : Nat) : Nat → Value → World → Prop
 | 0 | 1 | 2 | 3 | 5 | 6 | 10 | 11 => fun v _ => v = ptr B 0
 | 4 => fun v _ => v = .agg (numV s.list)
 | 7 => fun v _ => v = ptr B 8
 | 8 => fun v _ => v = .agg (bytV F)
 | 9 => fun v _ => v = .agg (numV f.list)
 | 12 => fun _ w => Row w B (rcl f F h N).toArray 164
 | 13 => fun _ w => Row w B (rcl s F h N).toArray 164
 | _ => fun _ _ => True
def fdT (B : Nat) (i : Nat) (w w' : World) : Prop := if i = 12 then Below B w w' else Below w.heap.size w w'
def fdG (B : Nat) (w0 w : World) : Prop := Below B w0 w ∧ B < w.heap.size
def fdN : List (List Nat) := [[], [], [1], [2], [3, 13], [], [5], [6], [7, 13], [4, 8], [0], [10], [9, 11, 13]]
theorem fdT_refl (B i : Nat) (w : World) : fdT B i w w := by unfold fdT; split <;> exact Below.refl _ _
theorem fdG_T {B i : Nat} {w0 w w' : World} (h : fdG B w0 w) (hT : fdT B i w w') : fdG B w0 w' := by
 have hb : Below B w w' := by
  unfold fdT at hT
  split at hT
  ·exact hT
  ·exact hT.mono (Nat.le_of_lt h.2)
 exact ⟨h.1.trans hb, Nat.lt_of_lt_of_le h.2 hb.size⟩
theorem fd_T (B : Nat) (s f : St) (F : List UInt8) (h N i k : Nat) (v : Value) (w w' : World) (hk : k < 14) (hne : k ≠ i) (hke : i = 12 → k ≠ 13) (hU : fdU B s f F h N k v w) (hT : fdT B i w w') : fdU B s f F h N k v w' := by
 match k, hk with
 | 0, _ | 1, _ | 2, _ | 3, _ | 4, _ | 5, _ | 6, _ | 7, _ | 8, _ | 9, _ | 10, _ | 11, _ => exact hU
 | 12, _ =>
  rw [fdT, if_neg (fun e => hne e.symm)] at hT
  exact Row.step hU hT
 | 13, _ =>
  rw [fdT, if_neg (fun e => hke e rfl)] at hT
  exact Row.step hU hT
 | n + 14, hk => exact absurd hk (by omega)
set_option maxRecDepth 100000 in
set_option maxHeartbeats 4000000 in
theorem feed_any (B : Nat) (s0 : St) (hs0 : s0.ok) (p0 : List UInt8) (size : Nat) (t0 : ByteArray) (w : World) (hF : FedTo B w s0 p0 size) (ht0 : t0.size ≤ maxLen) (hsz : size ≤ 4611686018427387904) :
  Calls Tryz.prog 73 #[.pointer (some ⟨B, 0, none⟩), .string t0] w fun e w' => e = .returned (.tuple #[]) ∧ FedTo B w' (absorb s0 (p0 ++ t0.data.toList)).1 (absorb s0 (p0 ++ t0.data.toList)).2 (size + t0.size) ∧ Below B w w' := by
 unfold maxLen at ht0
 obtain ⟨rest, hr, hp, hpl, q⟩ := hF
 have hst := Lib.size_eq t0
 have cs : w.cell? ⟨B, 73, none⟩ = some (.int .u64 size) := by rw [q.cell]; simp only [List.getElem?_toArray]; exact rcl_size _ _ _ _ hr
 have cf := q.free 73
 have e1 : IntKind.u64.wrap ((size : Int) + (t0.size : Int)) = ((size + t0.size : Nat) : Int) := by
  show ((size : Int) + (t0.size : Int)) % 18446744073709551616 = _
  omega
 have Q := Lib.hid q; have HST := Lib.hid hst; have HP := Lib.hid hp
 clear q hst hp
 go_enter Tryz.func73, Tryz.ntmps73
 go_wp2
 obtain ⟨G, hG⟩ : ∃ G, absorb s0 (p0 ++ t0.data.toList) = G := ⟨_, rfl⟩
 obtain ⟨N, hN⟩ : ∃ N, N = size + t0.size := ⟨_, rfl⟩
 have HN := Lib.hid hN
 have Q1 : Hid (Row (w.setCell ⟨B, 73, none⟩ (.int .u64 ((size : Int) + (t0.size : Int)))) B (rcl s0 rest p0.length N).toArray 164) := Lib.hid (by
  have := Q.out.set 73 (.int .u64 ((N : Nat) : Int))
  rw [rcl_set_size _ _ _ _ _ hr] at this
  rw [show (size : Int) + (t0.size : Int) = (N : Int) by omega]
  exact this)
 have hb1 : Below B w (w.setCell ⟨B, 73, none⟩ (.int .u64 ((size : Int) + (t0.size : Int)))) := (Below.refl B w).setCell (Nat.le_refl _) _
 go_loopw [1, 4] (fun tv _ wr => ∃ (s : St) (p rest : List UInt8) (t : ByteArray), s.ok ∧ tv = .string t ∧ rest.length = 64 ∧ rest.take p.length = p ∧ p.length < 64 ∧ t.size ≤ 9223372036854775807 ∧ absorb s (p ++ t.data.toList) = G ∧ Row wr B (rcl s rest p.length N).toArray 164 ∧ Below B w wr) (fun tv _ _ => strLen tv)
 case atStart => exact ⟨s0, p0, rest, t0, hs0, rfl, hr, HP.out, hpl, by omega, hG, Q1.out, hb1⟩
 case round =>
  have HG := Lib.hid hG
  clear hN hG Q1 hb1 Q HST HP hr hpl cs cf e1 ht0 hsz
  obtain ⟨s, p, rest, t, hs, rfl, hr, hp, hpl, ht, hA, q, hb⟩ := hrel
  by_cases h0 : 0 < t.size
  ·have hbt : decide ((0 : Int) < (t.size : Int)) = true := by simpa using (show (0 : Int) < (t.size : Int) by omega)
   obtain ⟨n, hn⟩ : ∃ n, Nat.min t.size (64 - p.length) = n := ⟨_, rfl⟩
   have hn1 : n ≤ t.size := by rw [← hn]; exact Nat.min_le_left _ _
   have hn2 : n ≤ 64 - p.length := by rw [← hn]; exact Nat.min_le_right _ _
   have hn3 : 1 ≤ n := by rw [← hn]; exact Nat.le_min.2 ⟨by omega, by omega⟩
   have hst := Lib.size_eq t
   have q' := q
   rw [rcl_parts s rest p.length N p.length n] at q'
   have hcp := run_copy_part (P := Tryz.prog) wr.drew 113 9 3 5 B (64 - p.length) (64 - p.length) t _ _ _ 164 Tryz.underlying113 (by kernel_rfl) q'.drew n hn (by simp [hr]; omega)
   have hlA : (s.list.map (fun n : Nat => Value.int .u32 (n : Int)) ++ (rest.take p.length).map (fun n : UInt8 => Value.int .u8 (n.toNat : Int))).length = 8 + p.length := by simp [list_len, hr]; omega
   rw [hlA] at hcp
   have hrow : (s.list.map (fun n : Nat => Value.int .u32 (n : Int)) ++ (rest.take p.length).map (fun n : UInt8 => Value.int .u8 (n.toNat : Int)) ++ Lib.byteCells (t.data.toList.take n) ++ ((rest.drop (p.length + n)).map (fun n : UInt8 => Value.int .u8 (n.toNat : Int)) ++ [.int .i64 (p.length : Int), .int .u64 (N : Int)])) = rcl s (fill rest p.length t.data.toList n) p.length N := by
    unfold rcl fill Lib.byteCells; simp
   rw [hrow] at hcp
   have ch : wr.cell? ⟨B, 72, none⟩ = some (.int .i64 p.length) := by rw [q.cell]; simp only [List.getElem?_toArray]; exact rcl_held _ _ _ _ hr
   have bp : (0 : Int) ≤ (p.length : Int) ∧ (p.length : Int) < 64 := by omega
   have bp2 : (p.length : Int) ≤ 64 := by omega
   have bp3 : ¬ 64 = p.length := by omega
   have Q := Lib.hid q; have Q' := Lib.hid q'; have HCP := Lib.hid hcp; have HA := Lib.hid hA; have HP := Lib.hid hp; have HN := Lib.hid hn; have HST := Lib.hid hst
   clear q q' hcp hA hp hn hst hlA hrow
   go_wp2_with fail
   go_still_tail 9, (by kernel_rfl)
   change wpList _ _ _ _ _ wr.drew
   go_wp2_with fail
   rw [HCP.out]
   simp only [Result.andThen]
   rw [Oper.upon_value]
   obtain ⟨F, hF⟩ : ∃ F, F = fill rest p.length t.data.toList n := ⟨_, rfl⟩
   have hF64 : F.length = 64 := by rw [hF]; exact fill_len hr (by have := HST.out; omega) (by omega)
   have hFt : F.take (p.length + n) = p ++ t.data.toList.take n := by
    rw [hF, fill_take hr (by have := HST.out; omega) (by omega), HP.out]
   obtain ⟨W2, hW2⟩ : ∃ W2, W2 = wr.drew.setRow B (rcl s (fill rest p.length t.data.toList n) p.length N).toArray := ⟨_, rfl⟩
   have q2 : Row W2 B (rcl s F p.length N).toArray 164 := by rw [hW2, hF]; exact (Row.drew Q.out).setRow _
   have hb2 : Below B w W2 := by rw [hW2]; exact below_setRow hb.drew (Nat.le_refl _) _
   rw [← hW2]
   clear hF hW2 HCP Q Q' ch hb
   have c72 : W2.cell? ⟨B, 72, none⟩ = some (.int .i64 p.length) := by rw [q2.cell]; simp only [List.getElem?_toArray]; exact rcl_held _ _ _ _ hF64
   have f72 := q2.free 72
   have bs : (0 : Int) ≤ (p.length : Int) + (n : Int) ∧ (p.length : Int) + (n : Int) ≤ 64 := by omega
   have bn : (0 : Int) ≤ (n : Int) ∧ (n : Int) ≤ (t.size : Int) := by omega
   have Q2 := Lib.hid q2; have HFT := Lib.hid hFt
   clear q2 hFt
   have hd := fun W => run_slice_from (P := Tryz.prog) Tryz.underlying9 t n hn1 W
   by_cases hfull : p.length + n = 64
   ·have hq : (((p.length : Int) + (n : Int)) == 64) = true := by rw [beq_iff_eq]; omega
    have HF := Lib.hid hfull; clear hfull
    go_wp2_with fail
    obtain ⟨W3, hW3⟩ : ∃ W3, W3 = W2.setCell ⟨B, 72, none⟩ (.int .i64 ((p.length : Int) + (n : Int))) := ⟨_, rfl⟩
    rw [← hW3]
    have q3 : Row W3 B (rcl s F (p.length + n) N).toArray 164 := by
     have := Q2.out.set 72 (.int .i64 ((p.length + n : Nat) : Int))
     rw [rcl_set_held _ _ _ _ _ hF64] at this
     rw [hW3]; exact this
    have hb3 : Below B w W3 := by rw [hW3]; exact hb2.setCell (Nat.le_refl _) _
    clear hW3 Q2 hb2 c72 f72 hd
    have Q3 := Lib.hid q3
    clear q3
    refine wp_region_words (by kernel_rfl) (by kernel_rfl) (fdT B) (fdG B w) (fdU B s (blk s F) F (p.length + n) N) 14 fdN [12] (by kernel_rfl) (by kernel_rfl)
     [(12, 13)] (by kernel_rfl) (fun i k v w w' hi hk hne hke hU hT => fd_T B s (blk s F) F (p.length + n) N i k v w w' hk hne (fun e1 e2 => hke (by subst e1; subst e2; decide)) hU hT) ⟨hb3.drew, Q3.out.lt⟩ ?_ [44, 45, 46, 47, 48, 49, 50, 51, 52, 53, 54, 55] (by kernel_rfl) (forall_ops ?_) ?_
    ·intro k hk hge
     match k, hk, hge with
     | 13, _, _ => exact Q3.out.drew
     | n + 14, hk, _ => exact absurd hk (by omega)
    ·refine ⟨?_, ?_, ?_, ?_, ?_, ?_, ?_, ?_, ?_, ?_, ?_, ?_, ?_, trivial⟩
     ·exact stepW_value (t := 44) (ptr B 0) rfl (fdT_refl B 0) (fun a w hG hN hO => by
       have e : slot a 0 = ptr B 0 := hO 0 (by kernel_rfl)
       exact run_move_slot (.inl rfl) e) (fun w hG => rfl)
     ·exact stepW_value (t := 45) (ptr B 0) rfl (fdT_refl B 1) (fun a w hG hN hO => by
       have e : slot a 0 = ptr B 0 := hO 0 (by kernel_rfl)
       exact run_move_slot (.inl rfl) e) (fun w hG => rfl)
     ·exact stepW_value (t := 46) (ptr B 0) rfl (fdT_refl B 2) (fun a w hG hN hO => by
       have e : slot a 45 = ptr B 0 := hN 1 (by decide)
       have e' := slot_at e; unfold ptr at e'; unfold execOp; go_simp; rfl) (fun w hG => rfl)
     ·exact stepW_value (t := 47) (ptr B 0) rfl (fdT_refl B 3) (fun a w hG hN hO => by
       have e : slot a 46 = ptr B 0 := hN 2 (by decide)
       have e' := slot_at e; unfold ptr at e'; unfold execOp; go_simp; rfl) (fun w hG => rfl)
     ·intro a w hG hN hO
      have e : slot a 47 = ptr B 0 := hN 3 (by decide)
      have q : Row w B (rcl s F (p.length + n) N).toArray 164 := hN 13 (by decide)
      refine wp_load_mid 162 (.tmp 47) rfl B 0 (slotE e) (numV s.list).toList _ (Row.rangeA (A := []) (M := numV s.list) (C := F.map (fun n : UInt8 => Value.int .u8 (n.toNat : Int)) ++ [.int .i64 ((p.length + n : Nat) : Int), .int .u64 (N : Int)]) (by simpa [rcl, numV] using q) 0 rfl) Tryz.underlying162 rfl (by rw [Array.length_toList, numV_size]; exact size53) ?_
      rw [Array.toArray_toList]
      exact ⟨_, rfl, fdT_refl _ _ _, hG, rfl⟩
     ·exact stepW_value (t := 49) (ptr B 0) rfl (fdT_refl B 5) (fun a w hG hN hO => by
       have e : slot a 0 = ptr B 0 := hO 0 (by kernel_rfl)
       exact run_move_slot (.inl rfl) e) (fun w hG => rfl)
     ·exact stepW_value (t := 50) (ptr B 0) rfl (fdT_refl B 6) (fun a w hG hN hO => by
       have e : slot a 49 = ptr B 0 := hN 5 (by decide)
       have e' := slot_at e; unfold ptr at e'; unfold execOp; go_simp; rfl) (fun w hG => rfl)
     ·exact stepW_value (t := 51) (ptr B 8) rfl (fdT_refl B 7) (fun a w hG hN hO => by
       have e : slot a 50 = ptr B 0 := hN 6 (by decide)
       have e' := slot_at e; unfold ptr at e'; unfold execOp; go_simp; rfl) (fun w hG => rfl)
     ·intro a w hG hN hO
      have e : slot a 51 = ptr B 8 := hN 7 (by decide)
      have q : Row w B (rcl s F (p.length + n) N).toArray 164 := hN 13 (by decide)
      refine wp_load_mid 119 (.tmp 51) rfl B 8 (slotE e) (bytV F).toList _ (Row.rangeA (A := s.list.map (fun n : Nat => Value.int .u32 (n : Int))) (M := bytV F) (C := [.int .i64 ((p.length + n : Nat) : Int), .int .u64 (N : Int)]) (by simpa [rcl, bytV] using q) 8 (by simp [list_len])) Tryz.underlying119 rfl (by rw [Array.length_toList, bytV_size, hF64]; exact size25) ?_
      rw [Array.toArray_toList]
      exact ⟨_, rfl, fdT_refl _ _ _, hG, rfl⟩
     ·intro a w hG hN hO
      have e : slot a 48 = .agg (numV s.list) := hN 4 (by decide)
      have e2 : slot a 52 = .agg (bytV F) := hN 8 (by decide)
      refine wp_callf 95 _ _ rfl (enters_of Tryz.func95 (by kernel_rfl) rfl) #[.agg (numV s.list), .agg (bytV F)] (by simp [slotE e, slotE e2]) _ (behind_any_She F hF64 s hs w) ?_
      intro w'' hb
      have hT : fdT B 9 w w'' := hb
      exact ⟨_, rfl, hT, fdG_T hG hT, rfl⟩
     ·exact stepW_value (t := 54) (ptr B 0) rfl (fdT_refl B 10) (fun a w hG hN hO => by
       have e : slot a 44 = ptr B 0 := hN 0 (by decide)
       have e' := slot_at e; unfold ptr at e'; unfold execOp; go_simp; rfl) (fun w hG => rfl)
     ·exact stepW_value (t := 55) (ptr B 0) rfl (fdT_refl B 11) (fun a w hG hN hO => by
       have e : slot a 54 = ptr B 0 := hN 10 (by decide)
       have e' := slot_at e; unfold ptr at e'; unfold execOp; go_simp; rfl) (fun w hG => rfl)
     ·intro a w hG hN hO
      have e : slot a 55 = ptr B 0 := hN 11 (by decide)
      have e2 : slot a 53 = .agg (numV (blk s F).list) := hN 9 (by decide)
      have q : Row w B (rcl s F (p.length + n) N).toArray 164 := hN 13 (by decide)
      refine wp_store_mid 162 (.tmp 55) (.tmp 53) rfl B 0 (numV (blk s F).list) (slotE e) (slotE e2) (q.there 0 _ (by rw [numV_size]; simp [rcl_len _ _ _ _ hF64, list_len])) (by rw [numV_size]; exact size53) (numV_one _) ?_
      have hT : fdT B 12 w (w.setCells B 0 (numV (blk s F).list).toList) := below_setCells _ (Below.refl _ _) 0 (Nat.le_refl _)
      refine ⟨_, rfl, hT, fdG_T hG hT, ?_⟩
      have := Row.setCells (W := w) (numV (blk s F).list).toList q 0
      rw [rcl_set_hash] at this
      exact this
    ·intro a w5 hG hV hS ha
     have q5 : Row w5 B (rcl (blk s F) F (p.length + n) N).toArray 164 := hV 12 (by decide) (by decide)
     generalize slot a = sl at ha
     subst ha
     simp only [patchL, List.contains_cons, List.contains_nil, Nat.reduceBEq, Bool.or_false, Bool.or_true, if_true, Bool.false_eq_true, if_false, Nat.reduceAdd]
     generalize sl 44 = s44
     generalize sl 45 = s45
     generalize sl 46 = s46
     generalize sl 47 = s47
     generalize sl 48 = s48
     generalize sl 49 = s49
     generalize sl 50 = s50
     generalize sl 51 = s51
     generalize sl 52 = s52
     generalize sl 53 = s53
     generalize sl 54 = s54
     generalize sl 55 = s55
     have hb5 := hG.1
     have f72 := q5.free 72
     have c72 : ∃ v, w5.cell? ⟨B, 72, none⟩ = some v := ⟨_, by rw [q5.cell]; simp only [List.getElem?_toArray]; exact rcl_held _ _ _ _ hF64⟩
     obtain ⟨v72, c72⟩ := c72
     have Q5 := Lib.hid q5
     clear hG hV hS q5 Q3 hb3
     go_wp2_with fail
     have hlen : (t.data.toList.take n).length = n := by rw [List.length_take, ← HST.out]; omega
     have hFe : F = p ++ t.data.toList.take n := by
      have h1 := HFT.out
      rwa [HF.out, List.take_of_length_le (by omega)] at h1
     have hn64 : n = 64 - p.length := by have := HF.out; omega
     refine ⟨⟨blk s F, [], F, t.extract n t.size, blk_ok _ _, rfl, hF64, rfl, by decide, ?_, ?_, ?_, hb5.setCell (Nat.le_refl _) _⟩, ?_⟩
     ·rw [ByteArray.size_extract]; omega
     ·rw [← HA.out, absorb_fill s p t.data.toList hpl (by rw [← HST.out]; omega), hFe, ← hn64, Lib.extract_data, List.nil_append, HST.out, List.take_of_length_le (i := t.data.toList.length - n) (by simp)]
     ·have := Q5.out.set 72 (.int .i64 ((0 : Nat) : Int))
      rw [rcl_set_held _ _ _ _ _ hF64] at this
      exact this
     ·show (t.extract n t.size).size < t.size
      rw [ByteArray.size_extract]; omega
   ·have hq : (((p.length : Int) + (n : Int)) == 64) = false := by rw [beq_eq_false_iff_ne]; omega
    have HF := Lib.hid hfull; clear hfull
    go_wp2_with fail
    refine ⟨⟨s, p ++ t.data.toList.take n, F, t.extract n t.size, hs, rfl, hF64, ?_, ?_, ?_, ?_, ?_, hb2.setCell (Nat.le_refl _) _⟩, ?_⟩
    ·rw [List.length_append, List.length_take, ← HST.out, Nat.min_eq_left hn1]; exact HFT.out
    ·have := HF.out
     rw [List.length_append, List.length_take, ← HST.out, Nat.min_eq_left hn1]; omega
    ·rw [ByteArray.size_extract]; omega
    ·rw [Lib.extract_data, List.append_assoc, HST.out, List.take_of_length_le (i := t.data.toList.length - n) (by simp), List.take_append_drop]; exact HA.out
    ·have := Q2.out.set 72 (.int .i64 ((p.length + n : Nat) : Int))
     rw [rcl_set_held _ _ _ _ _ hF64] at this
     rw [List.length_append, List.length_take, ← HST.out, Nat.min_eq_left hn1]
     exact this
    ·show (t.extract n t.size).size < t.size
     rw [ByteArray.size_extract]; omega
  ·have hbt : decide ((0 : Int) < (t.size : Int)) = false := by simpa using (show ¬ (0 : Int) < (t.size : Int) by omega)
   have htl : t.data.toList = [] := List.length_eq_zero_iff.1 (by rw [← Lib.size_eq]; omega)
   rw [htl, List.append_nil, absorb_lt s hpl] at hA
   have HA := Lib.hid hA; have HP := Lib.hid hp; have Q := Lib.hid q
   clear hA hp q htl
   go_wp2_with fail
   go_end0
   refine ⟨rfl, ?_, hb⟩
   rw [HG.out, ← HA.out]
   rw [← HN.out]
   exact ⟨rest, hr, HP.out, hpl, Q.out⟩
end Go.Proofs.YtjpjpmkadoaipaaGreatDoor
set_option linter.unusedVariables false
namespace Go.Proofs.YtjpjpmkadoaipaaGreatDoor
open Go.RowKit Go.Shelf
set_option maxHeartbeats 1000000 in
set_option maxRecDepth 100000 in
theorem Len_k (B b : Nat) (bs : List Value) (w : World) (h : Lib.IsBuilderF 168 5 B b bs w) :
  Calls Tryz.prog 161 #[.pointer (some ⟨b, 0, none⟩)] w fun e w' => e = .returned (.int .i64 bs.length) ∧ w = w' := by
 obtain ⟨p, hB, v, hbk, hown, hne⟩ : ∃ p, Lib.BuilderAtF 168 5 B b p bs w := by
  rcases h with h | h
  ·exact ⟨_, h⟩
  ·exact ⟨_, h⟩
 obtain ⟨ao, cap, rfl⟩ : ∃ ao cap, v = .slice ao bs.length cap := by
  rcases hown.2 with ⟨hv, h0⟩ | ⟨g, cap, cur, fz, hv, _⟩
  ·exact ⟨none, 0, by rw [hv, h0]⟩
  ·exact ⟨_, _, hv⟩
 have c1 : w.cell? ⟨b, 1, none⟩ = some (.slice ao bs.length cap) := by rw [Lib.cell_of_heap hbk]; rfl
 go_enter Tryz.func161, Tryz.ntmps161
 go_wp2
 go_ret
 exact ⟨rfl, rfl⟩
theorem sizeByte_Bum : (Tryz.prog.info? 5).map (fun i => i.size) = some 1 := by kernel_rfl
set_option maxHeartbeats 2000000 in
set_option maxRecDepth 1000000 in
theorem grow_fresh_Bum (B b n : Nat) (w : World) (hB : B ≤ b) (hbk : w.heap[b]? = some (.cells #[.pointer (some ⟨b, 0, none⟩), .slice none 0 0] 168 (0, 0))) (hBw : B ≤ w.heap.size) (hn : n ≤ 281474976710656) :
  Calls Tryz.prog 176 #[.pointer (some ⟨b, 0, none⟩), .int .i64 n] w fun e w' => e = .returned (.tuple #[]) ∧ (Lib.BuilderAt 168 5 B b (.pointer (some ⟨b, 0, none⟩)) [] w' ∧ Below B w w') := by
 obtain ⟨cs, hrun, hle, hmax⟩ := Lib.run_makeNoZero (P := Tryz.prog) w.drew #[3] 113 5 Tryz.underlying113 n hn
 have hw : IntKind.i64.wrap (IntKind.i64.wrap 0 + (n : Int)) = n := by
  rw [IntKind.wrap_i64, IntKind.wrap_i64]
  omega
 have hcall : (callFunc 186 #[.int .i64 (n : Int)]).run Tryz.prog w.drew = .ok (.value (.slice (some ⟨w.drew.heap.size, 0, none⟩) n cs.size)) (w.drew.drew.drew.alloc (.cells cs 5)) := by
  rw [run_callFunc_extern Tryz.func186 (by kernel_rfl) (by kernel_rfl) (by kernel_rfl) (e := Extern.BytealgMakeNoZero.makeNoZero #[3] #[113]) (by kernel_rfl), hrun]
  rfl
 have hlt : b < w.heap.size := (Array.getElem?_eq_some_iff.1 hbk).1
 have c1 : w.drew.cell? ⟨b, 1, none⟩ = some (.slice none 0 0) := by
  have : w.drew.heap[b]? = _ := hbk
  rw [Lib.cell_of_heap this]; rfl
 have c2 : (w.alloc (.cells cs 5)).cell? ⟨b, 1, none⟩ = some (.slice none 0 0) := by
  have : (w.alloc (.cells cs 5)).heap[b]? = _ := (Lib.alloc_old w _ b hlt).trans hbk
  rw [Lib.cell_of_heap this]; rfl
 have f2 : (w.alloc (.cells cs 5)).frozen? ⟨b, 1, none⟩ = false := Lib.frozen_of_heap ((Lib.alloc_old w _ b hlt).trans hbk) 1
 have hcopy : ∀ W : World, (Builtin.copy_ #[113, 113] 3 #[.slice (some ⟨w.heap.size, 0, none⟩) 0 cs.size, .slice none 0 0]).run Tryz.prog W = .ok (goInt 0) W :=
  fun W => run_copy_none W 113 113 3 5 _ _ 0 cs.size 0 0 Tryz.underlying113 sizeByte_Bum rfl
 go_enter Tryz.func176, Tryz.ntmps176
 go_wp2
 have hfin := Lib.grown_fresh (T := 168) (e := 5) (cs := cs) hB hbk hBw (hmax (by unfold maxLen; omega)) (by decide)
 go_region
 all_goals (go_wp2; go_end0; exact ⟨rfl, by first | exact hfin | (rw [World.setCell_alloc_past _ b 1 _ hlt] at hfin; exact hfin)⟩)
set_option maxHeartbeats 2000000 in
set_option maxRecDepth 1000000 in
theorem Grow_fresh_Bum (B b n : Nat) (w : World) (hB : B ≤ b) (hbk : w.heap[b]? = some (.cells #[.pointer none, .slice none 0 0] 168 (0, 0))) (hBw : B ≤ w.heap.size) (hn1 : 1 ≤ n) (hn : n ≤ 281474976710656) :
  Calls Tryz.prog 160 #[.pointer (some ⟨b, 0, none⟩), .int .i64 n] w fun e w' => e = .returned (.tuple #[]) ∧ (Lib.BuilderAt 168 5 B b (.pointer (some ⟨b, 0, none⟩)) [] w' ∧ Below B w w') := by
 have h0 : w.cell? ⟨b, 0, none⟩ = some (.pointer none) := by rw [Lib.cell_of_heap hbk]; rfl
 have hsh : w.shape? b = some (168, 2) := by unfold World.shape?; rw [hbk]; rfl
 have hfz : w.frozen? ⟨b, 0, none⟩ = false := Lib.frozen_of_heap hbk 0
 have hbk1 : (w.setCell ⟨b, 0, none⟩ (.pointer (some ⟨b, 0, none⟩))).heap[b]? = some (.cells #[.pointer (some ⟨b, 0, none⟩), .slice none 0 0] 168 (0, 0)) := by
  simp [World.setCell, Array.getElem?_modify, hbk]
 have c1 : (w.setCell ⟨b, 0, none⟩ (.pointer (some ⟨b, 0, none⟩))).cell? ⟨b, 1, none⟩ = some (.slice none 0 0) := by rw [Lib.cell_of_heap hbk1]; rfl
 have hb1 : Below B w (w.setCell ⟨b, 0, none⟩ (.pointer (some ⟨b, 0, none⟩))) := (Below.refl B w).setCell (p := ⟨b, 0, none⟩) hB _
 obtain ⟨W1, hW1⟩ : ∃ W1, W1 = w.setCell ⟨b, 0, none⟩ (.pointer (some ⟨b, 0, none⟩)) := ⟨_, rfl⟩
 have CC := Lib.hid (copyCheck_fresh b w h0 hsh hfz)
 rw [← hW1] at hbk1 c1 hb1 CC
 have HB := Lib.hid hbk1
 have hp : (0 : Int) < (n : Int) := by omega
 clear hW1 hbk1 h0 hsh hfz
 go_enter Tryz.func160, Tryz.ntmps160
 go_wp2_with fail
 refine CC.out.mono ?_
 rintro e w1 ⟨rfl, rfl⟩
 go_wp2_with fail
 go_quiet (fail)
 go_wp2_with fail
 have hbk2 : (w1.drewN nq).heap[b]? = some (.cells #[.pointer (some ⟨b, 0, none⟩), .slice none 0 0] 168 (0, 0)) := HB.out
 refine (grow_fresh_Bum B b n _ hB hbk2 (Nat.le_trans hBw hb1.size) hn).mono ?_
 rintro e w2 ⟨rfl, hA, hb2⟩
 go_wp2_with fail
 go_end0
 exact ⟨rfl, hA, (below_drewN hb1 nq).trans hb2⟩
theorem run_min3 {P : Program} {w : World} (ts : Array TypeId) (t : TypeId) (x y z : Int) :
  (Builtin.min_ ts t #[.int .i64 x, .int .i64 y, .int .i64 z]).run P w = .ok (.int .i64 (if z < (if y < x then y else x) then z else (if y < x then y else x))) w := by
 simp [Builtin.min_, Builtin.min2]
set_option maxHeartbeats 2000000 in
set_option maxRecDepth 100000 in
theorem Mul64_one (c : Nat) (hc : c < 4294967296) (w : World) : Calls Tryz.prog 174 #[.int .u64 1, .int .u64 c] w fun e w' => e = .returned (.tuple #[.int .u64 0, .int .u64 c]) ∧ w = w' := by
 have e1 : bits .and .u64 1 4294967295 = 1 := by decide
 have e2 : bits .and .u64 (c : Int) 4294967295 = (c : Int) := by
  have := u64_and_nat c 4294967295 (by omega) (by decide)
  rw [nat_mask32, Nat.mod_eq_of_lt hc] at this
  exact this
 have e3 : (c : Int) / 4294967296 = 0 := by omega
 have e4 : bits .and .u64 0 4294967295 = 0 := by decide
 go_enter Tryz.func174, Tryz.ntmps174
 go_wp2
 go_ret2
 exact ⟨rfl, rfl⟩
set_option maxHeartbeats 2000000 in
set_option maxRecDepth 100000 in
theorem Mul_one (c : Nat) (hc : c < 4294967296) (w : World) : Calls Tryz.prog 158 #[.int .u64 1, .int .u64 c] w fun e w' => e = .returned (.tuple #[.int .u64 0, .int .u64 c]) ∧ w = w' := by
 go_enter Tryz.func158, Tryz.ntmps158
 go_wp2_with fail
 refine (Mul64_one c hc _).mono ?_
 rintro e w1 ⟨rfl, rfl⟩
 go_wp2_with fail
 go_ret2
 exact ⟨rfl, rfl⟩
def zeros (c : Nat) : ByteArray := ⟨(List.replicate c (0 : UInt8)).toArray⟩
set_option maxHeartbeats 4000000 in
set_option maxRecDepth 100000 in
theorem Repeat_zero (c : Nat) (hc : c ≤ 64) (w : World) : Calls Tryz.prog 132 #[.string ⟨#[0]⟩, .int .i64 c] w fun e w' => e = .returned (.string (zeros c)) ∧ Below w.heap.size w w' := by
 by_cases h0 : c = 0
 ·subst h0
  go_enter Tryz.func132, Tryz.ntmps132
  go_wp2
  go_ret
  exact ⟨rfl, Below.refl _ _⟩
 ·by_cases h1 : c = 1
  ·subst h1
   go_enter Tryz.func132, Tryz.ntmps132
   go_wp2
   go_ret
   exact ⟨rfl, Below.refl _ _⟩
  ·have hb0 : ((c : Int) == 0) = false := by rw [beq_eq_false_iff_ne]; omega
   have hb1 : ((c : Int) == 1) = false := by rw [beq_eq_false_iff_ne]; omega
   have hb2 : ¬ (c : Int) < 0 := by omega
   have hb3 : ¬ (9223372036854775807 : Int) < (c : Int) := by omega
   have hb4 : ¬ (8192 : Int) < (c : Int) := by omega
   have hb5 : decide ((9223372036854775807 : Int) < (c : Int)) = false := by simpa using (show ¬ (9223372036854775807 : Int) < (c : Int) by omega)
   have hb6 : decide ((8192 : Int) < (c : Int)) = false := by simpa using (show ¬ (8192 : Int) < (c : Int) by omega)
   have hb7 : decide ((c : Int) < 0) = false := by simp
   have hu : IntKind.u64.wrap (c : Int) = (c : Int) := by show (c : Int) % 18446744073709551616 = _; omega
   have hi : IntKind.i64.wrap (c : Int) = (c : Int) := by rw [IntKind.wrap_i64]; omega
   go_enter Tryz.func132, Tryz.ntmps132
   go_wp2_with fail
   refine (Mul_one c (by omega) _).mono ?_
   rintro e w1 ⟨rfl, rfl⟩
   go_wp2_with fail
   have b0 : Below w.heap.size w (w.alloc (.cells #[.pointer none, .slice none 0 0] 168)) := (Below.refl _ w).alloc (Nat.le_refl _) _
   refine (Grow_fresh_Bum w.heap.size w.heap.size c _ (Nat.le_refl _) (heap_alloc_new _ _) b0.size (by omega) (by omega)).mono ?_
   rintro e W1 ⟨rfl, hA, hbg⟩
   have b1 := b0.trans hbg
   have HA := Lib.hid hA
   clear hA b0 hbg
   go_wp2_with fail
   refine (WriteString_k_Bus w.heap.size w.heap.size [] ⟨#[0]⟩ _ (Lib.IsBuilderF.of (Or.inr HA.out)) (by decide) b1.size).mono ?_
   rintro e W2 ⟨rfl, h2, hb2', _⟩
   have b2 := b1.trans hb2'
   have h2' : Lib.IsBuilderF 168 5 w.heap.size w.heap.size (Lib.byteCells (List.replicate 1 (0 : UInt8))) W2 := Or.inr h2
   have H2 := Lib.hid h2'
   clear HA b1 hb2' h2 h2'
   go_wp2_with fail
   go_loopg [] (c - 1) (fun g wx => ∃ q : Nat, 1 ≤ q ∧ q + g = c ∧ Lib.IsBuilderF 168 5 w.heap.size w.heap.size (Lib.byteCells (List.replicate q (0 : UInt8))) wx ∧ Below w.heap.size w wx)
   case atStart => exact ⟨1, Nat.le_refl _, by omega, H2.out, b2⟩
   case round =>
    obtain ⟨q, hq1, hqg, hB, hbx⟩ := hrel
    clear H2 b2
    have hlen : (Lib.byteCells (List.replicate q (0 : UInt8))).length = q := by rw [Lib.byteCells_length, List.length_replicate]
    have CL := Lib.hid (Len_k w.heap.size w.heap.size _ wr hB)
    rw [hlen] at CL
    have hne : List.replicate q (0 : UInt8) ≠ [] := by
     intro e
     have := congrArg List.length e
     rw [List.length_replicate] at this
     simp at this; omega
    have CS := Lib.hid (String_full_k w.heap.size w.heap.size (List.replicate q (0 : UInt8)) wr hB hne)
    obtain ⟨S, hS⟩ : ∃ S : ByteArray, S = ⟨(List.replicate q (0 : UInt8)).toArray⟩ := ⟨_, rfl⟩
    have hSs : S.size = q := by rw [hS]; simp [ByteArray.size]
    rw [← hS] at CS
    have HS := Lib.hid hS
    have HB := Lib.hid hB
    clear hB hne hlen hS
    cases gk with
    | zero =>
     obtain rfl : q = c := by omega
     have hlt : decide ((q : Int) < (q : Int)) = false := by simp
     go_wp2_with fail
     refine CL.out.mono ?_
     rintro e W3 ⟨rfl, rfl⟩
     go_wp2_with fail
     refine CS.out.mono ?_
     rintro e W4 ⟨rfl, h4, hb4, _⟩
     go_wp2_with fail
     go_ret
     exact ⟨congrArg (fun x => Ending.returned (.string x)) HS.out, hbx.trans hb4⟩
    | succ g =>
     have hqc : q < c := by omega
     have hlt : decide ((q : Int) < (c : Int)) = true := by simpa using hqc
     obtain ⟨k, hk⟩ : ∃ k, k = min (c - q) q := ⟨_, rfl⟩
     have hk1 : 1 ≤ k := by omega
     have hk2 : k ≤ q := by omega
     have hk3 : q + k ≤ c := by omega
     have hmin : ∀ (ts : Array TypeId) (t : TypeId) (W : World), (Builtin.min_ ts t #[.int .i64 ((c : Int) - (q : Int)), .int .i64 (q : Int), .int .i64 (c : Int)]).run Tryz.prog W = .ok (.int .i64 (k : Int)) W := fun ts t W => by
      rw [run_min3]
      congr 2
      split <;> split <;> omega
     have hsub : IntKind.i64.wrap ((c : Int) - (q : Int)) = (c : Int) - (q : Int) := by rw [IntKind.wrap_i64]; omega
     have hd := fun W => run_slice_to (P := Tryz.prog) Tryz.underlying9 S k (by omega) W
     clear hk
     go_wp2_with fail
     refine CL.out.mono ?_
     rintro e W3 ⟨rfl, rfl⟩
     go_wp2_with fail
     refine CL.out.mono ?_
     rintro e W3 ⟨rfl, rfl⟩
     go_wp2_with fail
     refine CL.out.mono ?_
     rintro e W3 ⟨rfl, rfl⟩
     go_wp2_with fail
     refine CS.out.mono ?_
     rintro e W4 ⟨rfl, h4, hb4, _⟩
     go_wp2_with fail
     refine (WriteString_k_Bus w.heap.size w.heap.size _ (S.extract 0 k) _ h4 ?_ (Nat.le_trans hbx.size hb4.size)).mono ?_
     ·rw [Lib.byteCells_length, List.length_replicate, ByteArray.size_extract]; omega
     rintro e W5 ⟨rfl, h5, hb5', _⟩
     go_wp2_with fail
     go_roundg (c - (q + k))
     case measure => omega
     case rel =>
      refine ⟨q + k, by omega, by omega, Or.inr ?_, (hbx.trans hb4).trans hb5'⟩
      have e : Lib.byteCells (List.replicate q (0 : UInt8)) ++ Lib.strCells (S.extract 0 k) = Lib.byteCells (List.replicate (q + k) (0 : UInt8)) := by
       rw [Lib.strCells_eq, ← Lib.byteCells_append, Lib.extract_data, HS.out]
       simp only [List.drop_zero, Nat.sub_zero]
       rw [List.take_replicate, Nat.min_eq_left hk2, List.replicate_append_replicate]
      rw [e] at h5
      exact h5
end Go.Proofs.YtjpjpmkadoaipaaGreatDoor
set_option linter.unusedVariables false
set_option pp.maxSteps 200000
namespace Go.Proofs.YtjpjpmkadoaipaaGreatDoor
open Go.RowKit
set_option maxRecDepth 100000 in
set_option maxHeartbeats 1000000 in
theorem be8_take (n k : Nat) (hk : k < 8) : (be8 n).take (k + 1) = (be8 n).take k ++ [UInt8.ofNat (n / 2 ^ (8 * (7 - k)))] := by
 rw [List.take_succ_eq_append_getElem (by rw [be8_len]; exact hk)]
 simp [be8]
set_option maxRecDepth 100000 in
set_option maxHeartbeats 4000000 in
theorem closing_any (n : Nat) (hn : n ≤ 1152921504606846976) (w : World) : Calls Tryz.prog 96 #[.int .u64 n] w fun e w' => e = .returned (.string ⟨(closing n).toArray⟩) ∧ Below w.heap.size w w' := by
 obtain ⟨z, hz⟩ : ∃ z, z = zerosN_Shn n := ⟨_, rfl⟩
 have hz64 : z < 64 := by rw [hz]; unfold zerosN_Shn; omega
 have e0 : (n : Int) % 64 = ((n % 64 : Nat) : Int) := by omega
 have e1 : (128 - (((n % 64 : Nat) : Int) + 1 + 8)) % 64 = (z : Int) := by rw [hz]; unfold zerosN_Shn; omega
 have hr : n % 64 < 64 := Nat.mod_lt _ (by decide)
 obtain ⟨r, hre⟩ : ∃ r, r = n % 64 := ⟨_, rfl⟩
 rw [← hre] at e0 e1 hr
 have HZ := Lib.hid hz
 clear hz hre
 have q0 : Lib.IsBuilderF 168 5 w.heap.size w.heap.size [] (w.alloc (.cells #[.pointer none, .slice none 0 0] 168)) := Lib.IsBuilderF.of (Lib.fresh_isBuilder 168 5 w)
 have b0 : Below w.heap.size w (w.alloc (.cells #[.pointer none, .slice none 0 0] 168)) := (Below.refl _ _).alloc (Nat.le_refl _) _
 have Q0 := Lib.hid q0
 clear q0
 go_enter Tryz.func96, Tryz.ntmps96
 go_wp2_with fail
 refine (WriteByte_k w.heap.size w.heap.size [] 128 _ Q0.out (by decide) b0.size).mono ?_
 rintro e w1 ⟨rfl, h1, hb1, _⟩
 have q1 : Lib.IsBuilderF 168 5 w.heap.size w.heap.size (Lib.byteCells [128]) w1 := .inr h1
 have b1 := b0.trans hb1
 have Q1 := Lib.hid q1
 clear h1 hb1 b0 Q0 q1
 go_wp2_with fail
 refine (Repeat_zero z (by omega) _).mono ?_
 rintro e w2 ⟨rfl, hb2⟩
 have q2 := builder_step Q1.out hb2
 have b2 := b1.trans (hb2.mono b1.size)
 have Q2 := Lib.hid q2
 clear Q1 q2 hb2 b1
 go_wp2_with fail
 refine (WriteString_k_Bus w.heap.size w.heap.size _ (zeros z) _ Q2.out (by rw [Lib.byteCells_length, List.length_singleton, zeros, size_mk, List.length_replicate]; omega) b2.size).mono ?_
 rintro e w3 ⟨rfl, h3, hb3, _⟩
 have q3 : Lib.IsBuilderF 168 5 w.heap.size w.heap.size (Lib.byteCells (128 :: (List.replicate z 0 ++ (be8 (n * 8)).take 0))) w3 := .inr (by
  have e : Lib.byteCells [128] ++ Lib.strCells (zeros z) = Lib.byteCells (128 :: (List.replicate z 0 ++ (be8 (n * 8)).take 0)) := by
   rw [Lib.strCells_eq, ← Lib.byteCells_append]; simp [zeros]
  rwa [e] at h3)
 have b3 := b2.trans hb3
 have Q3 := Lib.hid q3
 clear h3 hb3 b2 Q2 q3
 go_wp2_with fail
 go_loopw [19, 6] (fun i _ wr => ∃ k : Nat, k ≤ 8 ∧ i = .int .i64 k ∧ Lib.IsBuilderF 168 5 w.heap.size w.heap.size (Lib.byteCells (128 :: (List.replicate z 0 ++ (be8 (n * 8)).take k))) wr ∧ Below w.heap.size w wr) (fun i _ _ => 8 - (intOf i).toNat)
 case atStart => exact ⟨0, by omega, rfl, Q3.out, b3⟩
 case round =>
  clear Q3 b3
  obtain ⟨k, hk, rfl, hB, hb⟩ := hrel
  have hlen : (Lib.byteCells (128 :: (List.replicate z 0 ++ (be8 (n * 8)).take k))).length ≤ 100 := by
   rw [Lib.byteCells_length]; simp [be8_len]; omega
  by_cases hlt : k < 8
  ·have hbk : decide ((k : Int) < 8) = true := by simpa using (show (k : Int) < 8 by omega)
   obtain ⟨c, hc⟩ : ∃ c, c = 8 * (7 - k) := ⟨_, rfl⟩
   have e3 : (8 : Int) * (7 - (k : Int)) = (c : Int) := by omega
   have bc : c ≤ 56 := by omega
   have HB := Lib.hid hB
   have HT := Lib.hid (be8_take (n * 8) k hlt)
   rw [← hc] at HT
   clear hB hc
   have hu : IntKind.u64.wrap ((n : Int) * 8) = (n : Int) * 8 := by show (n : Int) * 8 % 18446744073709551616 = _; omega
   go_wp2_with fail
   have h8 : ((n : Int) * 8 / 2 ^ c % 256) = ((UInt8.ofNat (n * 8 / 2 ^ c)).toNat : Int) := by
    rw [UInt8.toNat_ofNat', Int.natCast_emod, Int.natCast_ediv, Int.natCast_mul, Int.natCast_pow]; rfl
   rw [h8]
   refine (WriteByte_k w.heap.size w.heap.size _ _ _ HB.out (by omega) hb.size).mono ?_
   rintro e w4 ⟨rfl, h4, hb4, _⟩
   go_wp2_with fail
   refine ⟨⟨k + 1, by omega, by go_num, ?_, hb.trans hb4⟩, by simp [intOf]; omega⟩
   have e : Lib.byteCells (128 :: (List.replicate z 0 ++ (be8 (n * 8)).take k)) ++ [Value.int .u8 ((UInt8.ofNat (n * 8 / 2 ^ c)).toNat : Int)] = Lib.byteCells (128 :: (List.replicate z 0 ++ (be8 (n * 8)).take (k + 1))) := by
    rw [HT.out]; simp [Lib.byteCells]
   rw [e] at h4
   exact .inr h4
  ·have hk8 : k = 8 := by omega
   have hbk : decide ((k : Int) < 8) = false := by rw [hk8]; rfl
   have hB' : Lib.IsBuilderF 168 5 w.heap.size w.heap.size (Lib.byteCells (closing n)) wr := by
    rw [hk8, List.take_of_length_le (by rw [be8_len]; exact Nat.le_refl _), HZ.out] at hB
    exact hB
   have HB := Lib.hid hB'
   clear hB hB' hk8 hk hlt hlen
   go_wp2_with fail
   refine (String_full_k w.heap.size w.heap.size (closing n) wr HB.out (by simp [closing])).mono ?_
   rintro e w4 ⟨rfl, h4, hb4, _⟩
   go_wp2_with fail
   go_ret
   exact ⟨rfl, hb.trans hb4⟩
theorem closing_size (n : Nat) : (⟨(closing n).toArray⟩ : ByteArray).size ≤ 100 := by
 rw [size_mk, closing_len]; unfold zerosN_Shn; omega
set_option maxRecDepth 100000 in
set_option maxHeartbeats 4000000 in
theorem sum_any (B : Nat) (l : List UInt8) (n : Nat) (hn : n ≤ 1152921504606846976) (hl : l.length = n) (w : World) (hF : FedTo B w (absorb first l).1 (absorb first l).2 n) :
  Calls Tryz.prog 74 #[.pointer (some ⟨B, 0, none⟩)] w fun e w' => e = .returned (.string ⟨(shaSum l).toArray⟩) ∧ Below B w w' := by
 obtain ⟨rest, hr, hp, hpl, q⟩ := hF
 have c73 : w.cell? ⟨B, 73, none⟩ = some (.int .u64 n) := by rw [q.cell]; simp only [List.getElem?_toArray]; exact rcl_size _ _ _ _ hr
 have hlt := q.lt
 have hF : FedTo B w (absorb first l).1 (absorb first l).2 n := ⟨rest, hr, hp, hpl, q⟩
 have HF := Lib.hid hF
 have HE := Lib.hid (absorb_append l (closing n) first)
 have hfin : (absorb first (l ++ closing n)).2 = [] := by have := closed_rest l first; rwa [hl] at this
 have hok := absorb_ok (l ++ closing n) first_ok
 have hsum : shaSum l = (absorb first (l ++ closing n)).1.bytes := by unfold shaSum; rw [hl]
 obtain ⟨s1, hs1⟩ : ∃ s1, s1 = (absorb first (l ++ closing n)).1 := ⟨_, rfl⟩
 rw [← hs1] at hok hsum
 have HS := Lib.hid hs1; have HFIN := Lib.hid hfin; have HSUM := Lib.hid hsum
 have hok0 := absorb_ok l first_ok
 clear hF q hp hs1 hfin hsum
 go_enter Tryz.func74, Tryz.ntmps74
 go_wp2_with fail
 refine (closing_any n hn _).mono ?_
 rintro e w1 ⟨rfl, hb1⟩
 have hF1 : FedTo B w1 (absorb first l).1 (absorb first l).2 n := by
  obtain ⟨rest, a, b, c, q⟩ := HF.out
  exact ⟨rest, a, b, c, q.step hb1⟩
 have HF1 := Lib.hid hF1
 clear hF1
 go_wp2_with fail
 refine (feed_any B _ hok0 _ n ⟨(closing n).toArray⟩ _ HF1.out (by have := closing_size n; unfold maxLen; omega) (by omega)).mono ?_
 rintro e w2 ⟨rfl, hF2, hb2⟩
 rw [show ((⟨(closing n).toArray⟩ : ByteArray).data.toList) = closing n from rfl, HE.out, ← HS.out, HFIN.out] at hF2
 obtain ⟨rest2, hr2, _, _, q2⟩ := hF2
 have rh : w2.rangeAt B 0 (numV s1.list).toList := Row.rangeA (A := []) (M := numV s1.list) (C := rest2.map (fun n : UInt8 => Value.int .u8 (n.toNat : Int)) ++ [.int .i64 ((0 : Nat) : Int), .int .u64 ((n + (⟨(closing n).toArray⟩ : ByteArray).size : Nat) : Int)]) (by simpa [rcl, numV] using q2) 0 rfl
 have RH := Lib.hid rh
 clear rh q2
 go_wp2_with (refine wpList_load_mid rfl 162 _ rfl B 0 rfl (numV s1.list).toList _ RH.out Tryz.underlying162 rfl (by rw [Array.length_toList, numV_size]; exact size53) ?_)
 rw [Array.toArray_toList]
 refine (bytes_any s1 hok _).mono ?_
 rintro e w3 ⟨rfl, hb3⟩
 go_wp2_with fail
 go_ret
 refine ⟨by rw [HSUM.out]; rfl, ?_⟩
 have h1 : Below B w w1 := hb1.mono (Nat.le_of_lt hlt)
 have h2 := h1.trans hb2
 exact h2.trans (hb3.mono (Nat.le_trans (Nat.le_of_lt hlt) h2.size))
set_option maxRecDepth 100000 in
set_option maxHeartbeats 4000000 in
theorem Sum_any (s : ByteArray) (hs : s.size ≤ 1152921504606846976) (w : World) :
  Calls Tryz.prog 46 #[.string s] w fun e w' => e = .returned (.string ⟨(shaSum s.data.toList).toArray⟩) ∧ Below w.heap.size w w' := by
 have hl := (Lib.size_eq s).symm
 have HL := Lib.hid hl; clear hl
 have hs2 : s.size ≤ maxLen := by unfold maxLen; omega
 go_enter Tryz.func46, Tryz.ntmps46
 go_wp2_with fail
 refine (newReader_any _).mono ?_
 rintro e w1 ⟨B, hB, rfl, hF1, hb1⟩
 have HF1 := Lib.hid hF1
 clear hF1
 go_wp2_with fail
 refine (feed_any B first first_ok [] 0 s _ HF1.out hs2 (by decide)).mono ?_
 rintro e w2 ⟨rfl, hF2, hb2⟩
 rw [List.nil_append, Nat.zero_add] at hF2
 have HF2 := Lib.hid hF2
 clear hF2
 go_wp2_with fail
 refine (sum_any B s.data.toList s.size hs HL.out _ HF2.out).mono ?_
 rintro e w3 ⟨rfl, hb3⟩
 go_wp2_with fail
 go_ret
 exact ⟨rfl, hb1.trans ((hb2.trans hb3).mono hB)⟩
end Go.Proofs.YtjpjpmkadoaipaaGreatDoor
set_option linter.unusedVariables false
namespace Go.Proofs.YtjpjpmkadoaipaaGreatDoor
open Go.RowKit
def Loose (fz : Nat × Nat) (n : Nat) : Prop := ∀ i, i < n → (decide (fz.1 ≤ i) && decide (i < fz.2)) = false
theorem loose_zero (n : Nat) : Loose (0, 0) n := fun i _ => by simp
theorem loose_edge (n : Nat) : Loose (n, n + 1) n := fun i h => by simp; omega
theorem frozen_loose {w : World} {g i : Nat} {cur : Array Value} {t : TypeId} {fz : Nat × Nat} (hg : w.heap[g]? = some (.cells cur t fz)) (hf : Loose fz cur.size) (hi : i < cur.size) : w.frozen? ⟨g, i, none⟩ = false := by
 have := hf i hi
 simp only [World.frozen?, hg]
 simpa using this
theorem run_storeCells_atE (P : Program) (g o : Nat) (t : TypeId) (fz : Nat × Nat) : ∀ (vs : List Value) (i : Nat) (cur : Array Value) (w : World), w.heap[g]? = some (.cells cur t fz) → Loose fz cur.size → o + i + vs.length ≤ cur.size → (∀ v ∈ vs, v.oneCell' = true) →
  (storeCells ⟨g, o, none⟩ vs i).run P w = .ok () (w.setRow g (cur.toList.take (o + i) ++ vs ++ cur.toList.drop (o + i + vs.length)).toArray)
 | [], i, cur, w, hg, _, _, _ => by
  simp only [storeCells, List.append_nil, List.length_nil, Nat.add_zero, List.take_append_drop, Array.toArray_toList]
  rw [setRow_self w g cur t fz hg]
  rfl
 | v :: rest, i, cur, w, hg, hf, hl, h1 => by
  have hi : o + i < cur.size := by simp at hl; omega
  have hadd : (⟨g, o, none⟩ : Addr).add i = ⟨g, o + i, none⟩ := by unfold Addr.add; split <;> simp_all
  have hcell : w.cell? ⟨g, o + i, none⟩ = some cur[o + i] := by simp [World.cell?, hg, hi]
  have hfro := frozen_loose hg hf hi
  have hst : (store ((⟨g, o, none⟩ : Addr).add i) v).run P w = .ok () (w.setRow g (cur.setIfInBounds (o + i) v)) := by
   rw [hadd, run_store P w _ v _ (h1 v (by simp)), hcell]
   simp [hfro, setCell_eq_setRow w g (o + i) cur t fz v hg]
  have ih := run_storeCells_atE P g o t fz rest (i + 1) (cur.setIfInBounds (o + i) v) (w.setRow g (cur.setIfInBounds (o + i) v)) (setRow_heap w g cur _ t _ hg) (by simpa using hf) (by simp at hl ⊢; omega) (fun x hx => h1 x (by simp [hx]))
  simp only [storeCells, Sem.run_bind, hst, Result.andThen_ok, ih, setRow_setRow]
  congr 3
  have e := list_seg_step cur.toList (o + i) v rest (by simp at hl ⊢; omega)
  simpa [Array.toList_setIfInBounds, Nat.add_assoc] using e
def ownsE (w : World) (base : Nat) (e : TypeId) (v : Value) (n : Nat) (xs : List Value) : Prop :=
 xs.length = n ∧ ∃ g cap cur fz, v = .slice (some ⟨g, 0, none⟩) n cap ∧ base ≤ g ∧ w.heap[g]? = some (.cells cur e fz) ∧ Loose fz cur.size ∧ n ≤ cap ∧ cap ≤ maxLen ∧ cur.size = cap ∧ cur.toList.take n = xs
theorem ownsE.cells {w : World} {base : Nat} {e : TypeId} {v : Value} {n : Nat} {xs : List Value} (h : ownsE w base e v n xs) : ∃ g cap, v = .slice (some ⟨g, 0, none⟩) n cap ∧ base ≤ g ∧ g < w.heap.size ∧ n ≤ cap ∧ ∀ j u, xs[j]? = some u → w.cell? ⟨g, j, none⟩ = some u := by
 obtain ⟨hl, g, cap, cur, fz, rfl, hb, hg, hf, hc, hm, hs, ht⟩ := h
 refine ⟨g, cap, rfl, hb, (Array.getElem?_eq_some_iff.1 hg).1, hc, fun j u hj => ?_⟩
 rw [cell_of_row w g j _ _ _ hg]
 have hjn : j < n := by rw [← hl]; exact (List.getElem?_eq_some_iff.1 hj).1
 rw [← ht, List.getElem?_take, if_pos hjn] at hj
 rw [← hj]; simp
theorem ownsE.step {w w' : World} {base : Nat} {e : TypeId} {v : Value} {n : Nat} {xs : List Value} (h : ownsE w base e v n xs) (hb : Below w.heap.size w w') : ownsE w' base e v n xs := by
 obtain ⟨hl, g, cap, cur, fz, rfl, h1, hg, h2⟩ := h
 exact ⟨hl, g, cap, cur, fz, rfl, h1, by rw [hb.block g (Array.getElem?_eq_some_iff.1 hg).1]; exact hg, h2⟩
theorem ownsE_conv (w : World) (e : TypeId) (s : ByteArray) (hs : s.size ≤ maxLen) (base : Nat) (hb : base ≤ w.heap.size) :
  ownsE (w.drew.alloc (.cells (bytesRow s (grownCap w s.size 0 e)) e ((bytesRow s (grownCap w s.size 0 e)).size, (bytesRow s (grownCap w s.size 0 e)).size + 1))) base e (.slice (some ⟨w.heap.size, 0, none⟩) s.size (grownCap w s.size 0 e)) s.size (s.data.toList.map fun b : UInt8 => Value.int .u8 (b.toNat : Int)) := by
 have hge := grownCap_ge w s.size 0 e
 refine ⟨by rw [List.length_map]; rfl, w.heap.size, _, _, _, rfl, hb, heap_alloc_new w.drew _, loose_edge _, hge, grownCap_le_maxLen w _ _ e hs, ?_, ?_⟩
 ·simp [bytesRow] at hge ⊢; omega
 ·have h1 : s.data.toList.length = s.size := by rw [Array.length_toList]; rfl
  simp [bytesRow]
theorem run_append_ownE {P : Program} (w : World) (base : Nat) (t ty e : TypeId) (i : TypeInfo) (z : Value) (ht : P.underlying t = some (.slice e)) (hi : P.info? e = some i) (hz : i.zero = some z)
  (hsize : i.size = 1) (hby : i.bytes = 1) (hzs : z.cells.size = 1)
  (v : Value) (n : Nat) (xs : List Value) (hown : ownsE w base e v n xs)
  (a : Addr) (m c : Nat) (news : List Value) (hl : news.length = m) (hnews : ∀ j u, news[j]? = some u → w.cell? (a.add j) = some u) (h1 : ∀ u ∈ news, u.oneCell' = true)
  (h63 : n + m ≤ 140737488355328) (hbase : base ≤ w.heap.size) :
  ∃ v' w', (Builtin.append_ #[t, t] ty #[v, .slice (some a) m c]).run P w = .ok v' w' ∧ ownsE w' base e v' (n + m) (xs ++ news) ∧ w.grownBy w' v.ownBlock := by
 obtain ⟨hxl, g, cap, cur, fz, rfl, hbg, hg, hf, hnc, hcm, hcs, htake⟩ := hown
 have hlen : (xs ++ news).length = n + m := by rw [List.length_append, hxl, hl]
 by_cases hroom : n + m ≤ cap
 ·have hfit : n + 0 + news.length ≤ cur.size := by rw [hl, hcs]; omega
  have hfc := run_firstCells_some (P := P) w i.size m a m c news (by rw [hsize, hl, Nat.mul_one]) hnews
  have hst := run_storeCells_atE P g n e fz news 0 cur w hg hf hfit h1
  simp only [Nat.add_zero] at hst
  have hr : (Builtin.append_ #[t, t] ty #[.slice (some ⟨g, 0, none⟩) n cap, .slice (some a) m c]).run P w = .ok (.slice (some ⟨g, 0, none⟩) (n + m) cap) (w.setRow g (cur.toList.take n ++ news ++ cur.toList.drop (n + news.length)).toArray) := by
   rw [hsize] at hfc
   simp [Builtin.append_, run_underlying ht, sizeOf, typeInfo, hi, hsize, Builtin.lenOf, hroom, hfc, Addr.add_lit, hst]
  have hsz : (cur.toList.take n ++ news ++ cur.toList.drop (n + news.length)).toArray.size = cur.size := by
   simp only [List.size_toArray, List.length_append, List.length_take, List.length_drop, Array.length_toList]
   omega
  refine ⟨_, _, hr, ⟨hlen, g, cap, _, fz, rfl, hbg, setRow_heap w g cur _ e _ hg, by rw [hsz]; exact hf, hroom, hcm, by rw [hsz]; exact hcs, ?_⟩, ⟨rfl, rfl, rfl, by simp, fun k _ hk => setRow_other w g k _ (fun e => hk (by simp [Value.ownBlock, e]))⟩⟩
  rw [htake, ← hlen]
  exact List.take_left
 ·have holds : ∀ j u, xs[j]? = some u → w.cell? ((⟨g, 0, none⟩ : Addr).add j) = some u := fun j u hj => by
   have e1 : (⟨g, 0, none⟩ : Addr).add j = ⟨g, j, none⟩ := by unfold Addr.add; split <;> simp_all
   rw [e1, cell_of_row w g j _ _ _ hg]
   have hjn : j < n := by rw [← hxl]; exact (List.getElem?_eq_some_iff.1 hj).1
   rw [← htake, List.getElem?_take, if_pos hjn] at hj
   rw [← hj]; simp
  have hr := run_append_grow (P := P) w t ty e i z ht hi hz ⟨g, 0, none⟩ n cap xs (by rw [hsize, Nat.mul_one]; exact hxl) holds a m c news (by rw [hsize, Nat.mul_one]; exact hl) hnews (by omega) (by omega) (growslice_fits (by omega) (by rw [hby]; omega))
  have hge := grownCap_ge w (n + m) cap e
  have hcm2 : grownCap w (n + m) cap e ≤ maxLen := grownCap_le_maxLen w (n + m) cap e (by unfold maxLen; omega)
  refine ⟨_, _, hr, ⟨hlen, w.heap.size, _, _, _, rfl, hbase, heap_alloc_new w.drew _, loose_zero _, hge, hcm2, ?_, ?_⟩, ⟨rfl, rfl, rfl, by simp, fun k hk _ => by show (w.heap.push _)[k]? = _; rw [Array.getElem?_push, if_neg (Nat.ne_of_lt hk)]⟩⟩
  ·simp only [Array.size_append, List.size_toArray, size_zeroCells, hzs, hxl, hl]
   omega
  ·simp only [Array.toList_append, List.append_assoc]
   rw [← List.append_assoc, ← hlen]
   exact List.take_left
theorem wpList_append_ownE {P : Program} {w : World} {ops : Array Oper} {rest : List Oper} {o : Oper} {a : Act} {Q : Exit → Act → World → Prop} (hgd : o.guard = none) (s x : Operand) (t : TypeId)
  (ho : o.op = .call { callee := .builtin .append, args := #[s, x], argTypes := #[t, t] })
  (base : Nat) (e : TypeId) (i : TypeInfo) (z : Value) (ht : P.underlying t = some (.slice e)) (hi : P.info? e = some i) (hz : i.zero = some z)
  (hsize : i.size = 1) (hby : i.bytes = 1) (hzs : z.cells.size = 1)
  (v : Value) (n : Nat) (xs : List Value) (hs : a.eval s = v) (hown : ownsE w base e v n xs)
  (ad : Addr) (m c : Nat) (news : List Value) (hx : a.eval x = .slice (some ad) m c) (hl : news.length = m) (hnews : ∀ j u, news[j]? = some u → w.cell? (ad.add j) = some u) (h1 : ∀ u ∈ news, u.oneCell' = true)
  (h63 : n + m ≤ 140737488355328) (hbase : base ≤ w.heap.size)
  (h : ∀ v' w', ownsE w' base e v' (n + m) (xs ++ news) → w.grownBy w' v.ownBlock → wpList P ops Q rest (a.put o.dst v') w') : wpList P ops Q (o :: rest) a w :=
 wpList_plain hgd fun _ hK => by
  obtain ⟨v', w', hr, h2, h3⟩ := run_append_ownE (P := P) w base t o.type e i z ht hi hz hsize hby hzs v n xs hown ad m c news hl hnews h1 h63 hbase
  unfold Oper.wp execOp
  simp only [ho, resolve, invoke, builtin, Sem.run_bind, Sem.run_pure, Result.andThen_ok, List.map_toArray, List.map_cons, List.map_nil, hs, hx, hr]
  exact hK _ _ (h v' w' h2 h3)
theorem ownsE.below {w w1 w' : World} {base : Nat} {e : TypeId} {v : Value} {n : Nat} {xs : List Value} (h : ownsE w base e v n xs) (hb : Below base w1 w) (hz : base ≤ w.heap.size) (hg : w.grownBy w' v.ownBlock) : Below base w1 w' := by
 obtain ⟨hl, g, cap, cur, fz, rfl, h1, _⟩ := h
 exact hb.grown hg hz (fun k hk => by simp [Value.ownBlock] at hk; omega)
end Go.Proofs.YtjpjpmkadoaipaaGreatDoor

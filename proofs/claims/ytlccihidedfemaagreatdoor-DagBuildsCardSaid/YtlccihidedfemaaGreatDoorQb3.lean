/-
  Texts put together: contracts and laws that this seat's proofs share.
-/
import Derived.Test.YtlccihidedfemaaGreatDoorQb2
import Derived.OrdersIn
import Derived.TacticsIn
import Derived.RangeFuncCalls
import Derived.Test.YtlccihidedfemaaGreatDoorQb1
import Derived.RangeFuncNested
import Derived.RangeFuncBound
import Derived.RangeFuncLeaves
import Derived.RangeFuncBox
import Derived.Lib.OthersKept
import Derived.Shelf.Strings.BuilderK
import Derived.RegionTactic
import Derived.ChangeAlike
import Derived.WalkKit
import Derived.Test.YtlccihidedfemaaGreatDoorProg
import Derived.Shelf.Strconv.Clone
import Derived.LoopTactic
import Derived.OwnWalk
import Derived.Laws.AppendOwn
import Derived.Laws.IdiomStrings
import Derived.Outline
import Derived.Lib.Hide
import Derived.Test.YtlccihidedfemaaGreatDoorQb0
import Derived.Shelf.Abstract
import Derived.Shelf.RegionOpen
import Derived.OwnWalkIn
import Derived.TacticsInMore
import Derived.LoopNIn
import Derived.LoopIn
import Derived.BigRegionIn
import Derived.Sort.CutIn
import Derived.Laws.BitsAllLaws
import Derived.Below
import Derived.Laws.Rows
import Derived.Laws.CopyOwn
import Derived.Great.BuildSlice
import Derived.BigRegion
set_option linter.unusedVariables false
namespace Go.Proofs.YtlccihidedfemaaGreatDoor
open Go Go.RowKit
section
variable {P : Program} {ops : Array Oper} {Q : Exit → Act → World → Prop}
def relyGB (ops : Array Oper) (n : Nat) : Bool :=
 (List.range ops.size).all fun i => (predsOf ops i).all (· < i) &&
  (((ops[i]?).bind (·.dst)).map fun t => decide (t < n) && (List.range ops.size).all fun k => k == i || !(((ops[k]?).bind (·.dst)) == some t)).getD true
theorem wp_any_relyG {a0 : Act} {w0 : World} (hB : relyGB ops a0.tmps.size = true) (T : Nat → World → World → Prop) (G : World → Prop) (V : Nat → Act → World → Prop)
  (m : Nat) (needs : Nat → List Nat) (last : List Nat) (dep : Nat → List Tmp) (hL : leanA ops m needs last dep = true) (hneeds : ∀ i k, k ∈ needs i → k < m)
  (hdep : ∀ k a a' w, k < m → (∀ t ∈ dep k, slot a' t = slot a t) → V k a w → V k a' w)
  (hT : ∀ i k a w w', i < ops.size → k < m → k ≠ i → keptA ops needs last i k = true → i ∉ ancOf ops 3 k → V k a w → T i w w' → V k a w')
  (hG : G { w0 with drawn := w0.drawn + 1 }) (hV0 : ∀ k, k < m → ops.size ≤ k → V k a0 { w0 with drawn := w0.drawn + 1 })
  (step : ∀ i (hi : i < ops.size) a w, G w → (∀ k ∈ needs i, V k a w) → (∀ t, (∀ k, dstOf ops k = some t → i ∈ predsOf ops k) → slot a t = slot a0 t) → a.tmps.size = a0.tmps.size →
   (Region.wanted (ops[i]) (yielded ops a.tmps) = true ∧ (ops[i]).wp P a w (fun a' w' => ∃ v, a' = a.put (ops[i]).dst v ∧ T i w w' ∧ G w' ∧ V i a' w') Q) ∨
    (Region.wanted (ops[i]) (yielded ops a.tmps) = false ∧ T i w w ∧ V i (a.put (ops[i]).dst undef) w))
  (done : ∀ a w, G w → (∀ k ∈ last, k < m → V k a w) → (∀ t, (∀ k : Nat, dstOf ops k ≠ some t) → slot a t = slot a0 t) → a.tmps.size = a0.tmps.size → a.defers = a0.defers → Q .normal a w) :
  wpAny P .any ops Q ops.size (Array.replicate ops.size false) a0 { w0 with drawn := w0.drawn + 1 } := by
 have hB' : ∀ i, i < ops.size → (∀ j ∈ predsOf ops i, j < i) ∧
   (((ops[i]?).bind (·.dst)).map fun t => decide (t < a0.tmps.size) && (List.range ops.size).all fun k => k == i || !(((ops[k]?).bind (·.dst)) == some t)).getD true = true := by
  intro i hi
  have := (List.all_eq_true.1 hB) i (List.mem_range.2 hi)
  simp only [Bool.and_eq_true] at this
  obtain ⟨h1, h3⟩ := this
  exact ⟨fun j hj => by simpa using (List.all_eq_true.1 h1) j hj, h3⟩
 have hL' : ∀ i, i < ops.size → (∀ k ∈ needs i, ops.size ≤ k ∨ k ∈ ancOf ops 3 i) ∧ ∀ k, k < m → k ≠ i → i ∉ ancOf ops 3 k → keptA ops needs last i k = true → ∀ t, dstOf ops i = some t → t ∉ dep k := by
  intro i hi
  have := (List.all_eq_true.1 hL) i (List.mem_range.2 hi)
  rw [Bool.and_eq_true] at this
  obtain ⟨h1, h2⟩ := this
  refine ⟨fun k hk => by simpa using (List.all_eq_true.1 h1) k hk, fun k hk hki hip hke t ht => ?_⟩
  have h3 := (List.all_eq_true.1 h2) k (List.mem_range.2 hk)
  have hip' : (ancOf ops 3 k).contains i = false := by simpa using hip
  have hki' : (k == i) = false := by simpa using hki
  rw [hke, hip', hki', ht] at h3
  simpa using h3
 have key : ∀ fuel listed a w, unl ops.size listed ≤ fuel → RelyInv ops m a0 G V needs last listed a w → wpAny P .any ops Q fuel listed a w := by
  intro fuel
  have fin : ∀ listed a w, RelyInv ops m a0 G V needs last listed a w → (∀ i, i < ops.size → listed.getD i false = true) → Q .normal a w := fun listed a w I hall =>
   done a w I.g (fun k hk hkm => I.val k hkm (by
    rcases Nat.lt_or_ge k ops.size with h | h
    ·exact .inr (hall k h)
    ·exact .inl h) (.inl hk)) (fun t ht => I.old t fun k hk => absurd hk (ht k)) I.size I.defers
  induction fuel with
  | zero =>
   intro listed a w hu I
   have hall := fun i hi => unl_zero (Nat.le_zero.1 hu) i hi
   refine ⟨?_, fin listed a w I hall⟩
   apply List.eq_nil_iff_forall_not_mem.2
   intro i hi
   obtain ⟨h1, h2, _⟩ := ready_spec hi I.len
   rw [hall i h1] at h2; cases h2
  | succ fuel ih =>
   intro listed a w hu I
   refine ⟨fun hr => fin listed a w I (all_listed I.len (fun i hi => (hB' i hi).1) hr), fun i hi => ?_⟩
   obtain ⟨h1, h2, h3⟩ := ready_spec hi I.len
   have hil : i < listed.size := by rw [I.len]; exact h1
   have hst := step i h1 a w I.g (fun k hk => I.val k (hneeds i k hk) (((hL' i h1).1 k hk).imp (fun h => h) (anc_listed I.closed 3 i h3 k)) (.inr ⟨i, h1, h2, hk⟩)) (fun t ht => I.old t fun k hk => by
    by_cases hc : listed.getD k false = true
    ·have := I.closed k hc i (ht k hk)
     rw [h2] at this; cases this
    ·simpa using hc) I.size
   have next : ∀ v w', T i w w' → G w' → V i (a.put (ops[i]).dst v) w' → wpAny P .any ops Q fuel (listed.setIfInBounds i true) (a.put (ops[i]).dst v) w' := by
    intro v w' hTi hG' hv
    refine ih _ _ _ (by have := unl_set h1 hil h2; omega) ⟨hG', by rw [defers_put]; exact I.defers, by rw [size_put]; exact I.size, by simp [I.len], ?_, ?_, ?_⟩
    ·intro k hkm hkl hkn
     by_cases e : k = i
     ·subst e; exact hv
     ·have hkl' : ops.size ≤ k ∨ listed.getD k false = true := hkl.imp (fun h => h) fun h => by rwa [getD_set _ _ _ hil, if_neg e] at h
      have hip : i ∉ ancOf ops 3 k := fun hip => by
       rcases hkl' with h | h
       ·have e0 : predsOf ops k = [] := by unfold predsOf; rw [Array.getElem?_eq_none h]; rfl
        simp [ancOf, e0] at hip
       ·have := anc_listed I.closed 3 k (I.closed k h) i hip
        rw [h2] at this; cases this
      have hkn' : (k ∈ last ∨ ∃ j, j < ops.size ∧ listed.getD j false = false ∧ k ∈ needs j) ∧ keptA ops needs last i k = true := by
       rcases hkn with h | ⟨j, hj, hjl, hjk⟩
       ·exact ⟨.inl h, by simp [keptA, h]⟩
       ·rw [getD_set _ _ _ hil] at hjl
        split at hjl
        ·cases hjl
        ·rename_i hji
         refine ⟨.inr ⟨j, hj, hjl, hjk⟩, ?_⟩
         unfold keptA
         rw [Bool.or_eq_true]
         right
         rw [List.any_eq_true]
         have hja : j ∉ ancOf ops 3 i := fun h => by
          have := anc_listed I.closed 3 i h3 j h
          rw [hjl] at this; cases this
         exact ⟨j, List.mem_range.2 hj, by simp [hji, hjk, hja]⟩
      refine hdep k a _ w' hkm (fun t ht => slot_put_other _ _ _ _ fun hd => (hL' i h1).2 k hkm e hip hkn'.2 t (by unfold dstOf; rw [Array.getElem?_eq_getElem h1]; exact hd) ht) ?_
      exact hT i k a w w' h1 hkm e hkn'.2 hip (I.val k hkm hkl' hkn'.1) hTi
    ·intro t ht
     rw [slot_put_other _ _ _ _ (fun hd => by
      have := ht i (by unfold dstOf; rw [Array.getElem?_eq_getElem h1]; exact hd)
      rw [getD_set _ _ _ hil, if_pos rfl] at this; cases this)]
     exact I.old t fun k hk => by
      have := ht k hk
      rw [getD_set _ _ _ hil] at this
      split at this
      ·cases this
      ·exact this
    ·intro k hkl j hj
     rw [getD_set _ _ _ hil]
     split
     ·rfl
     ·rename_i hji
      rw [getD_set _ _ _ hil] at hkl
      split at hkl
      ·rename_i hki; subst hki; exact h3 j hj
      ·exact I.closed k hkl j hj
   unfold wpOp
   rw [Array.getElem?_eq_getElem h1]
   rcases hst with ⟨hw, hst⟩ | ⟨hw, hTi, hv⟩
   ·simp only [hw, if_true]
    refine .inl (Oper.wp_mono ?_ hst)
    rintro a' w' ⟨v, rfl, hTi, hG', hv⟩
    exact next v w' hTi hG' hv
   ·simp only [hw, Bool.false_eq_true, if_false]
    exact next undef w hTi I.g hv
 refine key _ _ _ _ ?_ ⟨hG, rfl, rfl, by simp, ?_, fun t _ => rfl, ?_⟩
 ·unfold unl
  exact Nat.le_trans (List.countP_le_length) (by simp)
 ·intro k hkm h _
  rcases h with h | h
  ·exact hV0 k hkm h
  ·simp [Array.getElem?_replicate] at h
   split at h <;> simp at h
 ·intro k h
  simp [Array.getElem?_replicate] at h
  split at h <;> simp at h
def exV (ex : Nat → Option Tmp) (k : Nat) (a : Act) : Value := ((ex k).map (slot a)).getD undef
def wordE (ops : Array Oper) (ex : Nat → Option Tmp) (U : Nat → Value → Value → World → Prop) (k : Nat) (a : Act) (w : World) : Prop := U k (((dstOf ops k).map (slot a)).getD undef) (exV ex k a) w
def depE (ops : Array Oper) (ex : Nat → Option Tmp) (k : Nat) : List Tmp := (dstOf ops k).toList ++ (ex k).toList
def StepG (P : Program) (ops : Array Oper) (Q : Exit → Act → World → Prop) (a0 : Act) (T : Nat → World → World → Prop) (G : World → Prop) (ex : Nat → Option Tmp) (U : Nat → Value → Value → World → Prop) (nl : List (List Nat)) (i : Nat) (o : Oper) : Prop :=
 ∀ a w, G w → (∀ k ∈ needL nl i, wordE ops ex U k a w) → (∀ t, oldB ops i t = true → slot a t = slot a0 t) →
  (Region.wanted o (yielded ops a.tmps) = true ∧ o.wp P a w (fun a' w' => ∃ v, a' = a.put o.dst v ∧ T i w w' ∧ G w' ∧ U i (if o.dst.isSome then v else undef) (exV ex i a) w') Q) ∨ (Region.wanted o (yielded ops a.tmps) = false ∧ T i w w ∧ U i undef (exV ex i a) w)
theorem wp_any_wordsG {a0 : Act} {w0 : World} (hB : relyGB ops a0.tmps.size = true)
  (T : Nat → World → World → Prop) (G : World → Prop) (ex : Nat → Option Tmp) (U : Nat → Value → Value → World → Prop) (m : Nat) (nl : List (List Nat)) (last : List Nat) (hb : boundL nl m = true) (hL : leanA ops m (needL nl) last (depE ops ex) = true)
  (hex : ((List.range m).all fun k => (dstOf ops k).isNone || (ex k).isNone || !(dstOf ops k == ex k)) = true)
  (bad : List (Nat × Nat)) (hbad : (bad.all fun x => !keptA ops (needL nl) last x.1 x.2 || (ancOf ops 3 x.2).contains x.1) = true) (hT : ∀ i k v e w w', i < ops.size → k < m → k ≠ i → (i, k) ∉ bad → U k v e w → T i w w' → U k v e w') (hm2 : ops.size ≤ m)
  (hG : G { w0 with drawn := w0.drawn + 1 }) (hV0 : ∀ k, k < m → ops.size ≤ k → U k undef (exV ex k a0) { w0 with drawn := w0.drawn + 1 })
  (ds : List Tmp) (hds : dstsOf ops = ds) (step : ∀ i (hi : i < ops.size), StepG P ops Q a0 T G ex U nl i ops[i])
  (done : ∀ a w, G w → (∀ k ∈ last, k < m → wordE ops ex U k a w) → a.tmps.size = a0.tmps.size → a = ⟨(patchL ds (slot a) 0 a0.tmps.toList).toArray, a0.defers⟩ → Q .normal a w) :
  wpAny P .any ops Q ops.size (Array.replicate ops.size false) a0 { w0 with drawn := w0.drawn + 1 } := by
 subst hds
 refine wp_any_relyG hB T G (wordE ops ex U) m (needL nl) last (depE ops ex) hL (needL_bound hb) ?_ (fun i k a w w' hi hk hne hke hip h hTi => hT i k _ _ w w' hi hk hne (fun hx => by have := (List.all_eq_true.1 hbad) _ hx; simp [hke] at this; exact hip this) h hTi) hG ?_ ?_ ?_
 ·intro k a a' w hk h hv
  have h1 : ((dstOf ops k).map (slot a')).getD undef = ((dstOf ops k).map (slot a)).getD undef := by
   cases hd : dstOf ops k with
   | none => rfl
   | some t => simp only [Option.map_some, Option.getD_some]; exact h t (by simp [depE, hd])
  have h2 : exV ex k a' = exV ex k a := by
   unfold exV
   cases hd : ex k with
   | none => rfl
   | some t => simp only [Option.map_some, Option.getD_some]; exact h t (by simp [depE, hd])
  unfold wordE at hv ⊢
  rw [h1, h2]; exact hv
 ·intro k hk hge
  unfold wordE
  have : dstOf ops k = none := by unfold dstOf; rw [Array.getElem?_eq_none hge]; rfl
  rw [this]; exact hV0 k hk hge
 ·intro i hi a w hGw hN hO hS
  have fin : ∀ v w', U i (if (ops[i]).dst.isSome then v else undef) (exV ex i a) w' → wordE ops ex U i (a.put (ops[i]).dst v) w' := by
   intro v w' h3
   have hd : dstOf ops i = ops[i].dst := by unfold dstOf; rw [Array.getElem?_eq_getElem hi]; rfl
   have h4 : exV ex i (a.put (ops[i]).dst v) = exV ex i a := by
    unfold exV
    cases he : ex i with
    | none => rfl
    | some t =>
     simp only [Option.map_some, Option.getD_some]
     refine slot_put_other _ _ _ _ fun hdt => ?_
     have := (List.all_eq_true.1 hex) i (List.mem_range.2 (by omega))
     rw [hd, hdt, he] at this
     simp at this
   unfold wordE
   rw [hd, h4]
   cases ht : ops[i].dst with
   | none => rw [ht] at h3; exact h3
   | some t =>
    rw [ht] at h3
    have hlt : t < a0.tmps.size := by
     have := (List.all_eq_true.1 hB) i (List.mem_range.2 hi)
     simp only [Bool.and_eq_true] at this
     have h5 := this.2
     have hd' : (ops[i]?).bind (·.dst) = some t := by rw [Array.getElem?_eq_getElem hi]; exact ht
     rw [hd'] at h5
     simp only [Option.map_some, Option.getD_some, Bool.and_eq_true, decide_eq_true_eq] at h5
     exact h5.1
    simp only [Option.map_some, Option.getD_some]
    rw [slot_put_same _ _ _ (by rw [hS]; exact hlt)]
    exact h3
  rcases step i hi a w hGw hN (fun t ht => hO t (old_of ht)) with ⟨hw, hst⟩ | ⟨hw, h1, h3⟩
  ·refine .inl ⟨hw, Oper.wp_mono ?_ hst⟩
   rintro a' w' ⟨v, rfl, h1, h2, h3⟩
   exact ⟨v, rfl, h1, h2, fin v w' h3⟩
  ·exact .inr ⟨hw, h1, fin undef w (by split <;> exact h3)⟩
 ·intro a w hGw hV hO hS hD
  exact done a w hGw hV hS (act_patch _ hS hD (fun t ht => hO t (free_of ht)))
end
section
variable {P : Program} {ops : Array Oper} {Q : Exit → Act → World → Prop} {a0 : Act} {T : Nat → World → World → Prop} {G : World → Prop} {ex : Nat → Option Tmp} {U : Nat → Value → Value → World → Prop} {nl : List (List Nat)} {i : Nat} {o : Oper}
def StepR (P : Program) (ops : Array Oper) (Q : Exit → Act → World → Prop) (a0 : Act) (T : Nat → World → World → Prop) (G : World → Prop) (ex : Nat → Option Tmp) (U : Nat → Value → Value → World → Prop) (nl : List (List Nat)) (i : Nat) (o : Oper) : Prop :=
 ∀ a w, G w → (∀ k ∈ needL nl i, wordE ops ex U k a w) → (∀ t, oldB ops i t = true → slot a t = slot a0 t) →
  o.wp P a w (fun a' w' => ∃ v, a' = a.put o.dst v ∧ T i w w' ∧ G w' ∧ U i (if o.dst.isSome then v else undef) (exV ex i a) w') Q
theorem stepG_of (hg : o.guard = none) (h : StepR P ops Q a0 T G ex U nl i o) : StepG P ops Q a0 T G ex U nl i o := fun a w hG hN hO => .inl ⟨by unfold Region.wanted; rw [hg], h a w hG hN hO⟩
theorem yields_word {j : Nat} {a : Act} {w : World} {b : Bool} (hj : wordE ops ex U j a w) (hU : ∀ v e w, U j v e w → v = .bool b) : yielded ops a.tmps j = some b := by
 have h := hU _ _ _ hj
 unfold yielded
 have hd : (ops[j]?).bind (·.dst) = dstOf ops j := rfl
 rw [hd]
 cases ht : dstOf ops j with
 | none => rw [ht] at h; cases h
 | some t =>
  rw [ht] at h
  simp only [Option.map_some, Option.getD_some, slot, Array.getD_eq_getD_getElem?] at h
  simp only [Option.bind_some]
  cases hv : a.tmps[t]? with
  | none => rw [hv] at h; cases h
  | some v => rw [hv] at h; simp only [Option.getD_some] at h; rw [h]
theorem stepG_on {j : Nat} {b : Bool} (hg : o.guard = some (j, b)) (hj : j ∈ needL nl i) (hU : ∀ v e w, U j v e w → v = .bool b) (h : StepR P ops Q a0 T G ex U nl i o) : StepG P ops Q a0 T G ex U nl i o := fun a w hG hN hO => .inl ⟨by
   unfold Region.wanted; rw [hg]; simp only [yields_word (hN j hj) hU]; simp, h a w hG hN hO⟩
theorem stepG_off {j : Nat} {b : Bool} (hg : o.guard = some (j, b)) (hj : j ∈ needL nl i) (hU : ∀ v e w, U j v e w → v = .bool (!b)) (hTr : ∀ w, T i w w) (hUi : ∀ e w, G w → U i undef e w) : StepG P ops Q a0 T G ex U nl i o := fun a w hG hN hO => .inr ⟨by
   unfold Region.wanted; rw [hg]; simp only [yields_word (hN j hj) hU]; cases b <;> simp, hTr w, hUi _ w hG⟩
theorem stepR_value {t : Tmp} (v : Value) (hd : o.dst = some t) (hTr : ∀ w, T i w w)
  (hrun : ∀ a w, G w → (∀ k ∈ needL nl i, wordE ops ex U k a w) → (∀ t, oldB ops i t = true → slot a t = slot a0 t) → (execOp a.eval o).run P w = .ok (.value v) w)
  (hU : ∀ a w, G w → (∀ k ∈ needL nl i, wordE ops ex U k a w) → U i v (exV ex i a) w) : StepR P ops Q a0 T G ex U nl i o := by
 intro a w hG hN hO
 exact wp_value (hrun a w hG hN hO) ⟨v, rfl, hTr w, hG, by rw [hd]; exact hU a w hG hN⟩
end
variable {P : Program} {ops : Array Oper} {Q : Exit → Act → World → Prop}
theorem wp_region_wordsG {id : Nat} {a0 : Act} {w0 : World} (hm : P.follows .mixedOrders = true) (hB : relyGB ops a0.tmps.size = true)
  (T : Nat → World → World → Prop) (G : World → Prop) (ex : Nat → Option Tmp) (U : Nat → Value → Value → World → Prop) (m : Nat) (nl : List (List Nat)) (last : List Nat) (hb : boundL nl m = true) (hL : leanA ops m (needL nl) last (depE ops ex) = true)
  (hex : ((List.range m).all fun k => (dstOf ops k).isNone || (ex k).isNone || !(dstOf ops k == ex k)) = true)
  (bad : List (Nat × Nat)) (hbad : (bad.all fun x => !keptA ops (needL nl) last x.1 x.2 || (ancOf ops 3 x.2).contains x.1) = true) (hT : ∀ i k v e w w', i < ops.size → k < m → k ≠ i → (i, k) ∉ bad → U k v e w → T i w w' → U k v e w') (hm2 : ops.size ≤ m)
  (hG : G { w0 with drawn := w0.drawn + 1 }) (hV0 : ∀ k, k < m → ops.size ≤ k → U k undef (exV ex k a0) { w0 with drawn := w0.drawn + 1 })
  (ds : List Tmp) (hds : dstsOf ops = ds) (step : ∀ i (hi : i < ops.size), StepG P ops Q a0 T G ex U nl i ops[i])
  (done : ∀ a w, G w → (∀ k ∈ last, k < m → wordE ops ex U k a w) → a.tmps.size = a0.tmps.size → a = ⟨(patchL ds (slot a) 0 a0.tmps.toList).toArray, a0.defers⟩ → Q .normal a w) :
  (Code.region id ops true).wp P Q a0 w0 :=
 wp_region_any hm (wp_any_wordsG hB T G ex U m nl last hb hL hex bad hbad hT hm2 hG hV0 ds hds step done)
variable {P : Program} {ops : Array Oper} {Q : Exit → Act → World → Prop}
theorem rowsIn_wide {l n : Nat} {row : String} {args : Array Value} {w : World} {R : Value → World → Prop} (h : Rows P row args w R) : RowsIn (Fence.wide.inRound l) n P row args w R :=
 fun c cs _ => let ⟨v, w', r, s⟩ := h c cs; ⟨v, w', r, stepsIn_wide.2 s⟩
theorem uponIn_round {l n : Nat} {o : Oper} {a : Act} {next : Act → World → Prop} {r : Result Next} (h : o.upon P a next Q r) : o.uponIn (Fence.wide.inRound l) n P a next Q r := by
 cases r with
 | ok x w' =>
  cases x <;> simp only [Oper.upon, Oper.uponIn] at h ⊢ <;>
   first
    | exact h
    | exact ⟨fun h => (by cases h), CallsIn.inRound l (callsIn_wide.2 h)⟩
    | exact ⟨fun h => (by cases h), rowsIn_wide h⟩
 | halt x w' => cases x <;> simp only [Oper.upon, Oper.uponIn] at h ⊢ <;> exact h
theorem wpIn_round {l n : Nat} {o : Oper} {a : Act} {w : World} {next : Act → World → Prop} (hd : ∀ c, o.op ≠ .defer c) (h : o.wp P a w next Q) : o.wpIn (Fence.wide.inRound l) n P a w next Q := by
 refine ⟨fun _ _ => trivial, ?_⟩
 rw [Fence.inRound_round, Oper.semAt_some _ _ _ hd]
 exact uponIn_round h
def noDefer (ops : Array Oper) : Bool := ops.all fun o => match o.op with
 | .defer _ => false
 | _ => true
theorem noDefer_at (h : noDefer ops = true) {i : Nat} {o : Oper} (hi : ops[i]? = some o) : ∀ c, o.op ≠ .defer c := fun c e => by
 obtain ⟨hlt, rfl⟩ := Array.getElem?_eq_some_iff.1 hi
 have := Array.all_eq_true.1 h i hlt
 rw [e] at this; cases this
theorem wpOpIn_round {l n i : Nat} {K : Act → World → Prop} {a : Act} {w : World} (hd : noDefer ops = true) (hQ : ¬ LetsOut Q) (h : wpOp P ops Q i K a w) : wpOpIn (Fence.wide.inRound l) n P ops Q i K a w := by
 unfold wpOp at h; unfold wpOpIn
 cases ho : ops[i]? with
 | none => rw [ho] at h; exact h
 | some o =>
  rw [ho] at h
  simp only at h ⊢
  by_cases hw : Region.wanted o (yielded ops a.tmps) = true
  ·simp only [hw, if_true] at h ⊢
   rcases h with h | h
   ·exact wpIn_round (noDefer_at hd ho) h
   ·exact absurd h.2 hQ
  ·simp only [hw] at h ⊢
   exact ⟨fun _ _ => trivial, h⟩
theorem wpAnyIn_round {l n : Nat} {md : Region.Mode} (hd : noDefer ops = true) (hQ : ¬ LetsOut Q) : ∀ (fuel : Nat) (listed : Array Bool) (a : Act) (w : World), wpAny P md ops Q fuel listed a w → wpAnyIn (Fence.wide.inRound l) n P md ops Q fuel listed a w
 | 0, _, _, _, h => h
 | fuel + 1, listed, a, w, h => ⟨h.1, fun i hi => wpOpIn_mono (fun a w h => wpAnyIn_round hd hQ fuel _ a w h) (wpOpIn_round hd hQ (h.2 i hi))⟩
theorem wpIn_region_round {l n id : Nat} {a : Act} {w : World} (hm : P.follows .mixedOrders = true) (hd : noDefer ops = true) (hQ : ¬ LetsOut Q)
  (h : wpAny P .any ops Q ops.size (Array.replicate ops.size false) a { w with drawn := w.drawn + 1 }) : (Code.region id ops true).wpIn (Fence.wide.inRound l) n P Q a w :=
 wpIn_region_any hm (wpAnyIn_round hd hQ _ _ _ _ h)
end Go.Proofs.YtlccihidedfemaaGreatDoor
namespace Go.Proofs.YtlccihidedfemaaGreatDoor
theorem map_inj {α β : Type} {f : α → β} : ∀ {L M : List α}, (∀ x ∈ L, ∀ y ∈ M, f x = f y → x = y) → L.map f = M.map f → L = M
 | [], [], _, _ => rfl
 | [], _ :: _, _, h => by simp at h
 | _ :: _, [], _, h => by simp at h
 | x :: L, y :: M, hi, h => by
  rw [List.map_cons, List.map_cons] at h
  injection h with h1 h2
  rw [hi x (by simp) y (by simp) h1, map_inj (fun a ha b hb => hi a (List.mem_cons_of_mem _ ha) b (List.mem_cons_of_mem _ hb)) h2]
theorem bytes_list {a b : List UInt8} (h : (⟨a.toArray⟩ : ByteArray) = ⟨b.toArray⟩) : a = b := by
 injection h with h; simpa using h
theorem entE_inj {x y : It} {a b : List UInt8} (h : entE x a = entE y b) : lastN x.t = lastN y.t ∧ x.d = y.d ∧ x.e = y.e ∧ a = b := by
 unfold entE at h
 injection h with h1 h2 h3 h4
 refine ⟨bytes_list h1, ?_, h3, bytes_list h4⟩
 cases hx : x.d <;> cases hy : y.d
 ·rfl
 ·rw [hx, hy] at h2; simp at h2
 ·rw [hx, hy] at h2; simp at h2
 ·rfl
theorem partP_inj {a b : List UInt8} (h : partP a = partP b) : keyN (pieceN a) = keyN (pieceN b) := by
 unfold partP at h
 injection h with h1 _
 exact bytes_list h1
theorem piece_inj {a b : List UInt8} (h : pieceN a = pieceN b) : a = b := by
 unfold pieceN at h
 injection h with _ h2 _ _
 exact bytes_list h2
theorem file_inj {T : List (List UInt8)} (hc : ¬ Clash T) {c : List UInt8 → Nat} {L L' : List It} (R : ReadyT c L) (R' : ReadyT c L') {x y : It} (hx : x ∈ L) (hy : y ∈ L')
  (h1 : ∀ n ∈ seqF c x.b, wrN n ∈ T) (h2 : ∀ n ∈ seqF c y.b, wrN n ∈ T) (h : keyN (fileN c x.b) = keyN (fileN c y.b)) : x.c = y.c := by
 have hn := same_node hc (file_fit R hx) (file_fit R' hy) (h1 _ (file_mem _ _)) (h2 _ (file_mem _ _)) h
 have hp : (pcs c x.b).map partP = (pcs c y.b).map partP := by
  have := congrArg Nd.ps hn; exact this
 have he : pcs c x.b = pcs c y.b := map_inj (fun a ha b hb e => by
  have s1 := pcs_sizes R x.b a ha
  have s2 := pcs_sizes R y.b b hb
  exact piece_inj (same_node hc (piece_fit s1.1 s1.2) (piece_fit s2.1 s2.2) (h1 _ (piece_mem ha)) (h2 _ (piece_mem hb)) (partP_inj e))) hp
 obtain ⟨mn, mx, H, _⟩ := R.cut
 have f1 := pcs_flat H.pos x.b.length x.b (Nat.le_refl _)
 have f2 := pcs_flat H.pos y.b.length y.b (Nat.le_refl _)
 exact ob_bytes (by show x.b = y.b; rw [← f1, ← f2, he])
theorem tree_step {T : List (List UInt8)} (hc : ¬ Clash T) {c : List UInt8 → Nat} {L L' : List It} (R : ReadyT c L) (R' : ReadyT c L') {k k' : Nat} {d d' : List UInt8}
  (h1 : ∀ n ∈ seqD c L k d, wrN n ∈ T) (h2 : ∀ n ∈ seqD c L' k' d', wrN n ∈ T) (h : keyN (dirN c L k d) = keyN (dirN c L' k' d')) {x : It} (hx : x ∈ L) {n : List UInt8} (hn : cs x.t = cs d ++ [n]) (hk : 1 ≤ k) :
  ∃ j j' x', k = j + 1 ∧ k' = j' + 1 ∧ x ∈ inD L d ∧ x' ∈ inD L' d' ∧ cs x'.t = cs d' ++ [n] ∧ x'.d = x.d ∧ x'.e = x.e ∧ keyN (subN c L j x) = keyN (subN c L' j' x') := by
 have he := congrArg Nd.es (same_node hc (dir_fit R k d) (dir_fit R' k' d') (h1 _ (top_mem _ _ _ _)) (h2 _ (top_mem _ _ _ _)) h)
 obtain ⟨j, rfl⟩ : ∃ j, k = j + 1 := ⟨k - 1, by omega⟩
 have hp := R.fit.path x hx
 obtain ⟨hd, hl⟩ := dir_of hp hn
 have hi : x ∈ inD L d := mem_inD.2 ⟨hx, hd⟩
 rw [dirN_es] at he
 have hm : entE x (keyN (subN c L j x)) ∈ (dirN c L' k' d').es := by rw [← he]; exact List.mem_map.2 ⟨x, hi, rfl⟩
 cases k' with
 | zero => rw [dirN_zero] at hm; cases hm
 | succ j' =>
  rw [dirN_es] at hm
  obtain ⟨x', hx', e⟩ := List.mem_map.1 hm
  obtain ⟨e1, e2, e3, e4⟩ := entE_inj e
  refine ⟨j, j', x', rfl, rfl, hi, hx', ?_, e2, e3, e4.symm⟩
  have hp' := R'.fit.path x' (mem_inD.1 hx').1
  rw [(dir_iff hp').1 (mem_inD.1 hx').2, e1, hl]
theorem zeroIt_d : zeroIt.d = false := rfl
theorem above_dir {L : List It} (F : TFit L) (B : List (List UInt8)) (hB : B ≠ []) : ∀ (m : Nat) (r : List (List UInt8)) (x : It), r.length = m + 1 → x ∈ L → cs x.t = B ++ r → ∃ y ∈ L, cs y.t = B ∧ y.d = true
 | m, r, x, hr, hx, e => by
  have hp := F.path x hx
  have hd := cs_dir hp
  have hrn : r ≠ [] := by intro h; subst h; simp at hr
  rw [e, List.dropLast_append_of_ne_nil hrn] at hd
  have hne : dirS x.t ≠ [] := by
   intro h; rw [h, cs_nil] at hd
   have := congrArg List.length hd
   rw [List.length_append] at this
   exact hB (List.length_eq_zero_iff.1 (by simp at this; omega))
  have hu := F.under x hx
  unfold underT at hu
  rw [decide_eq_false hne, Bool.false_or] at hu
  cases hf : findT L (dirS x.t) with
  | none => rw [foundI_none hf, zeroIt_d] at hu; cases hu
  | some y =>
   rw [foundI_some hf] at hu
   obtain ⟨hy, hyt⟩ := findT_mem hf
   have hcy : cs y.t = B ++ r.dropLast := by rw [hyt]; exact hd
   cases m with
   | zero =>
    have : r.dropLast = [] := List.length_eq_zero_iff.1 (by rw [List.length_dropLast]; omega)
    rw [this, List.append_nil] at hcy
    exact ⟨y, hy, hcy, hu⟩
   | succ m => exact above_dir F B hB m r.dropLast y (by rw [List.length_dropLast]; omega) hy hcy
theorem dir_empty {L : List It} (F : TFit L) {x : It} (hx : x ∈ L) (hd : x.d = true) : x.c = ⟨#[]⟩ ∧ x.e = false := by
 have hb := F.form x hx
 unfold badI at hb
 rw [hd] at hb
 simp at hb
 exact ⟨hb.1.trans rfl, hb.2⟩
theorem tree_in {T : List (List UInt8)} (hc : ¬ Clash T) {c : List UInt8 → Nat} {L L' : List It} (R : ReadyT c L) (R' : ReadyT c L') : ∀ (q : List (List UInt8)) (k k' : Nat) (d d' : List UInt8),
  (∀ n ∈ seqD c L k d, wrN n ∈ T) → (∀ n ∈ seqD c L' k' d', wrN n ∈ T) → keyN (dirN c L k d) = keyN (dirN c L' k' d') → q ≠ [] → q.length ≤ k → ∀ x ∈ L, cs x.t = cs d ++ q →
  ∃ x' ∈ L', cs x'.t = cs d' ++ q ∧ x'.d = x.d ∧ x'.e = x.e ∧ x'.c = x.c
 | [], _, _, _, _, _, _, _, hq, _, _, _, _ => absurd rfl hq
 | [n], k, k', d, d', h1, h2, h, _, hk, x, hx, e => by
  obtain ⟨j, j', x', rfl, rfl, hi, hi', e1, e2, e3, e4⟩ := tree_step hc R R' h1 h2 h hx e (by simpa using hk)
  have hx' := (mem_inD.1 hi').1
  refine ⟨x', hx', e1, e2, e3, ?_⟩
  cases hd : x.d
  ·have hd' : x'.d = false := e2.trans hd
   unfold subN at e4
   rw [if_neg (by rw [hd]; decide), if_neg (by rw [hd']; decide)] at e4
   exact (file_inj hc R R' hx hx' (fun m hm => h1 m (sub_file hi hd hm)) (fun m hm => h2 m (sub_file hi' hd' hm)) e4).symm
  ·rw [(dir_empty R.fit hx hd).1, (dir_empty R'.fit hx' (e2.trans hd)).1]
 | n :: p :: q, k, k', d, d', h1, h2, h, _, hk, x, hx, e => by
  have hk' : q.length + 2 ≤ k := by simpa using hk
  have e0 : cs x.t = (cs d ++ [n]) ++ (p :: q) := by rw [e]; simp
  obtain ⟨y, hy, ey, hyd⟩ := above_dir R.fit (cs d ++ [n]) (by simp) q.length (p :: q) x (by simp) hx e0
  obtain ⟨j, j', y', rfl, rfl, hi, hi', e1, e2, e3, e4⟩ := tree_step hc R R' h1 h2 h hy ey (by omega)
  have hyd' : y'.d = true := e2.trans hyd
  unfold subN at e4
  rw [if_pos hyd, if_pos hyd'] at e4
  obtain ⟨x', hx', f1, f2⟩ := tree_in hc R R' (p :: q) j j' y.t y'.t (fun m hm => h1 m (sub_dir hi hyd hm)) (fun m hm => h2 m (sub_dir hi' hyd' hm)) e4 (by simp) (by simp; omega) x hx (by rw [ey, e0])
  exact ⟨x', hx', by rw [f1, e1]; simp, f2⟩
def seqT (c : List UInt8 → Nat) (L : List It) : List Nd := seqD c L 9 []
def topT (c : List UInt8 → Nat) (L : List It) : Nd := dirN c L 9 []
def rawsT (c : List UInt8 → Nat) (L : List It) : List (List UInt8) := (seqT c L).map wrN
def objsT (c : List UInt8 → Nat) (L : List It) : List Ob := putsN [] (seqT c L)
theorem raw_mem {c : List UInt8 → Nat} {L : List It} {n : Nd} (h : n ∈ seqT c L) : wrN n ∈ rawsT c L := List.mem_map.2 ⟨n, h, rfl⟩
theorem topT_mem (c : List UInt8 → Nat) (L : List It) : topT c L ∈ seqT c L := top_mem c L 9 []
theorem seqT_fit {c : List UInt8 → Nat} {L : List It} (R : ReadyT c L) : ∀ n ∈ seqT c L, fitN n = true := seqD_fit R 9 []
theorem tree_sub {T : List (List UInt8)} (hc : ¬ Clash T) {c : List UInt8 → Nat} {L L' : List It} (R : ReadyT c L) (R' : ReadyT c L') (h1 : ∀ n ∈ seqT c L, wrN n ∈ T) (h2 : ∀ n ∈ seqT c L', wrN n ∈ T)
  (h : keyN (topT c L) = keyN (topT c L')) : ∀ x ∈ L, x ∈ L' := fun x hx => by
 have P := path_ok (R.fit.path x hx)
 obtain ⟨x', hx', e1, e2, e3, e4⟩ := tree_in hc R R' (cs x.t) 9 9 [] [] h1 h2 h P.nil (by have := P.len; omega) x hx (by rw [cs_nil]; rfl)
 have : x' = x := it_ext (cs_inj (by rw [e1, cs_nil]; rfl)) e2 e3 e4
 rwa [← this]
theorem tree_one {T : List (List UInt8)} (hc : ¬ Clash T) {c : List UInt8 → Nat} {L L' : List It} (R : ReadyT c L) (R' : ReadyT c L') (h1 : ∀ n ∈ seqT c L, wrN n ∈ T) (h2 : ∀ n ∈ seqT c L', wrN n ∈ T)
  (h : keyN (topT c L) = keyN (topT c L')) : L = L' :=
 rise_ext R.fit.rise R'.fit.rise fun x => ⟨tree_sub hc R R' h1 h2 h x, tree_sub hc R' R h2 h1 h.symm x⟩
theorem objs_fit (c : List UInt8 → Nat) (L : List It) : FitO (objsT c L) := putsN_fit _ fitO_nil
theorem objs_mem {c : List UInt8 → Nat} {L : List It} {y : Ob} (h : y ∈ objsT c L) : ∃ n ∈ seqT c L, y = obN n := by
 rcases putsN_mem h with h' | h'
 ·cases h'
 ·exact h'
theorem dir_in {c : List UInt8 → Nat} {L : List It} : ∀ (k : Nat) (d : List UInt8), ∀ n ∈ seqD c L k d, n.kd = 3 → ∃ j f, n = dirN c L j f ∧ ∀ m ∈ seqD c L j f, m ∈ seqD c L k d
 | 0, d, n, hn, _ => ⟨0, d, List.mem_singleton.1 hn, fun _ h => h⟩
 | k + 1, d, n, hn, h3 => by
  rcases List.mem_append.1 hn with h | h
  ·obtain ⟨x, hx, h⟩ := List.mem_flatMap.1 h
   cases hd : x.d
   ·rw [if_neg (by rw [hd]; decide)] at h
    rcases List.mem_append.1 h with h | h
    ·obtain ⟨t, _, rfl⟩ := List.mem_map.1 h
     cases h3
    ·rw [List.mem_singleton.1 h] at h3; cases h3
   ·rw [if_pos hd] at h
    obtain ⟨j, f, e, hs⟩ := dir_in k x.t n h h3
    exact ⟨j, f, e, fun m hm => sub_dir hx hd (hs m hm)⟩
  ·exact ⟨k + 1, d, List.mem_singleton.1 h, fun _ h => h⟩
theorem no_ring {T : List (List UInt8)} (hc : ¬ Clash T) {c : List UInt8 → Nat} {L : List It} (R : ReadyT c L) (h1 : ∀ n ∈ seqT c L, wrN n ∈ T) {j : Nat} {y : It} (hy : y ∈ L)
  (hs : ∀ m ∈ seqD c L j y.t, m ∈ seqT c L) (h : keyN (dirN c L j y.t) = keyN (topT c L)) : False := by
 have hyn := (path_ok (R.fit.path y hy)).nil
 have grow : ∀ i : Nat, ∃ x ∈ L, i + 1 ≤ (cs x.t).length := by
  intro i
  induction i with
  | zero => exact ⟨y, hy, by have := List.length_pos_iff.2 hyn; omega⟩
  | succ i ih =>
   obtain ⟨x, hx, hl⟩ := ih
   have P := path_ok (R.fit.path x hx)
   obtain ⟨x', hx', e, _⟩ := tree_in hc R R (cs x.t) 9 j [] y.t h1 (fun m hm => h1 m (hs m hm)) h.symm P.nil (by have := P.len; omega) x hx (by rw [cs_nil]; rfl)
   refine ⟨x', hx', ?_⟩
   rw [e, List.length_append]
   have := List.length_pos_iff.2 hyn
   omega
 obtain ⟨x, hx, hl⟩ := grow 8
 have := (path_ok (R.fit.path x hx)).len
 omega
end Go.Proofs.YtlccihidedfemaaGreatDoor
set_option linter.unusedVariables false
namespace Go.Proofs.YtlccihidedfemaaGreatDoor
theorem flatMap_same {α β : Type} {f g : α → List β} : ∀ {L : List α}, (∀ x ∈ L, f x = g x) → L.flatMap f = L.flatMap g
 | [], _ => rfl
 | x :: L, h => by rw [List.flatMap_cons, List.flatMap_cons, h x (by simp), flatMap_same fun y hy => h y (List.mem_cons_of_mem _ hy)]
def upL : List UInt8 := [117, 112]
def upI (x : It) : It := ⟨⟨(upL ++ 47 :: x.t).toArray⟩, x.d, x.e, x.c⟩
def upItem : It := ⟨⟨upL.toArray⟩, true, false, ⟨#[]⟩⟩
def upT (L : List It) : List It := upItem :: L.map upI
def upP (d : List UInt8) : List UInt8 := if d = [] then upL else upL ++ 47 :: d
theorem upI_t (x : It) : (upI x).t = upL ++ 47 :: x.t := by unfold upI It.t; simp
theorem upItem_t : upItem.t = upL := by unfold upItem It.t; simp
theorem pts_up : pts upL = [upL] := pts_one (by decide)
theorem cs_up : cs upL = [upL] := by unfold cs; rw [if_neg (by decide), pts_up]
theorem cs_upP (d : List UInt8) : cs (upP d) = upL :: cs d := by
 unfold upP
 by_cases h : d = []
 ·rw [if_pos h, h, cs_up, cs_nil]
 ·rw [if_neg h]
  unfold cs
  rw [if_neg (by simp), if_neg h, pts_app, pts_up]; rfl
theorem upP_t {x : It} (h : x.t ≠ []) : (upI x).t = upP x.t := by rw [upI_t]; unfold upP; rw [if_neg h]
theorem up_item : upItem.t = upP [] := by rw [upItem_t]; rfl
theorem up_path {L : List It} (F : TFit L) (G : TFit (upT L)) {x : It} (hx : x ∈ L) : pathB (upI x).t = true := G.path _ (List.mem_cons_of_mem _ (List.mem_map.2 ⟨x, hx, rfl⟩))
theorem up_cs {L : List It} (F : TFit L) (G : TFit (upT L)) {x : It} (hx : x ∈ L) : cs (upI x).t = upL :: cs x.t := by rw [upP_t (path_ok (F.path x hx)).ne, cs_upP]
theorem up_less {L : List It} (F : TFit L) (G : TFit (upT L)) {x : It} (hx : x ∈ L) : (cs x.t).length ≤ 7 := by
 have := (path_ok (up_path F G hx)).len
 rw [up_cs F G hx] at this
 simpa using this
theorem up_dir {L : List It} (F : TFit L) (G : TFit (upT L)) {x : It} (hx : x ∈ L) : dirS (upI x).t = upP (dirS x.t) := by
 refine cs_inj ?_
 rw [cs_dir (up_path F G hx), up_cs F G hx, cs_upP, cs_dir (F.path x hx), List.dropLast_cons_of_ne_nil (path_ok (F.path x hx)).nil]
theorem up_last {L : List It} (F : TFit L) (G : TFit (upT L)) {x : It} (hx : x ∈ L) : lastN (upI x).t = lastN x.t := by
 have h1 := cs_last (up_path F G hx)
 have h2 := cs_last (F.path x hx)
 rw [up_cs F G hx, List.dropLast_cons_of_ne_nil (path_ok (F.path x hx)).nil] at h1
 rw [List.cons_append] at h1
 injection h1 with _ h1
 rw [h2] at h1
 simp at h1
 exact h1.symm
theorem upP_inj {L : List It} (F : TFit L) (G : TFit (upT L)) {a b : List UInt8} (h : upP a = upP b) : a = b := by
 have := congrArg cs h
 rw [cs_upP, cs_upP] at this
 injection this with _ h
 exact cs_inj h
theorem item_dir {L : List It} (F : TFit L) (G : TFit (upT L)) : dirS upItem.t = [] := by
 have hp := G.path _ (List.mem_cons_self ..)
 refine cs_inj ?_
 rw [cs_dir hp, upItem_t, cs_up]; rfl
theorem upP_ne {L : List It} (F : TFit L) (G : TFit (upT L)) (d : List UInt8) : upP d ≠ [] := by unfold upP upL; split <;> simp
theorem inD_up {L : List It} (F : TFit L) (G : TFit (upT L)) (d : List UInt8) : inD (upT L) (upP d) = (inD L d).map upI := by
 unfold inD upT
 rw [List.filter_cons_of_neg (by rw [item_dir F G]; simpa using (upP_ne F G d).symm), List.filter_map]
 congr 1
 refine List.filter_congr fun x hx => ?_
 show decide (dirS (upI x).t = upP d) = decide (dirS x.t = d)
 rw [up_dir F G hx]
 exact decide_eq_decide.2 ⟨fun h => upP_inj F G h, fun h => by rw [h]⟩
theorem inD_top {L : List It} (F : TFit L) (G : TFit (upT L)) : inD (upT L) [] = [upItem] := by
 unfold inD upT
 rw [List.filter_cons_of_pos (by rw [item_dir F G]; rfl), List.filter_eq_nil_iff.2]
 intro y hy
 obtain ⟨x, hx, rfl⟩ := List.mem_map.1 hy
 rw [up_dir F G hx]
 simpa using upP_ne F G (dirS x.t)
theorem dirN_up {L : List It} (F : TFit L) (G : TFit (upT L)) (c : List UInt8 → Nat) : ∀ (k : Nat) (d : List UInt8), dirN c (upT L) k (upP d) = dirN c L k d
 | 0, _ => rfl
 | k + 1, d => by
  show (⟨3, ⟨#[]⟩, [], _⟩ : Nd) = ⟨3, ⟨#[]⟩, [], _⟩
  congr 1
  rw [inD_up F G, List.map_map]
  refine List.map_congr_left fun x hx => ?_
  have hL := (mem_inD.1 hx).1
  show entE (upI x) _ = entE x _
  unfold entE
  rw [up_last F G hL]
  have e : (if (upI x).d = true then dirN c (upT L) k (upI x).t else fileN c (upI x).b) = if x.d = true then dirN c L k x.t else fileN c x.b := by
   show (if x.d = true then dirN c (upT L) k (upI x).t else fileN c x.b) = _
   rw [upP_t (path_ok (F.path x hL)).ne, dirN_up F G c k x.t]
  rw [e]
  rfl
theorem seqD_up {L : List It} (F : TFit L) (G : TFit (upT L)) (c : List UInt8 → Nat) : ∀ (k : Nat) (d : List UInt8), seqD c (upT L) k (upP d) = seqD c L k d
 | 0, d => by show [dirN c (upT L) 0 (upP d)] = [dirN c L 0 d]; rw [dirN_up F G]
 | k + 1, d => by
  show _ ++ [dirN c (upT L) (k + 1) (upP d)] = _ ++ [dirN c L (k + 1) d]
  rw [dirN_up F G, inD_up F G, List.flatMap_map]
  congr 1
  refine flatMap_same fun x hx => ?_
  have hL := (mem_inD.1 hx).1
  show (if x.d = true then seqD c (upT L) k (upI x).t else seqF c x.b) = _
  rw [upP_t (path_ok (F.path x hL)).ne, seqD_up F G c k x.t]
theorem inD_none {L : List It} (F : TFit L) {d : List UInt8} (h : ∀ x ∈ L, (cs x.t).length ≤ (cs d).length) : inD L d = [] :=
 List.filter_eq_nil_iff.2 fun x hx => by
  intro e
  have e := of_decide_eq_true e
  have := (dir_iff (F.path x hx)).1 e
  have hl := h x hx
  rw [this, List.length_append] at hl
  simp at hl
  omega
theorem dirN_more {L : List It} (F : TFit L) (c : List UInt8 → Nat) : ∀ (k : Nat) (d : List UInt8), (∀ x ∈ L, (cs x.t).length ≤ (cs d).length + k) → dirN c L (k + 1) d = dirN c L k d
 | 0, d, h => by
  show (⟨3, ⟨#[]⟩, [], _⟩ : Nd) = ⟨3, ⟨#[]⟩, [], []⟩
  rw [inD_none F h]; rfl
 | k + 1, d, h => by
  show (⟨3, ⟨#[]⟩, [], _⟩ : Nd) = ⟨3, ⟨#[]⟩, [], _⟩
  congr 1
  refine List.map_congr_left fun x hx => ?_
  have hm := mem_inD.1 hx
  have e := (dir_iff (F.path x hm.1)).1 hm.2
  rw [dirN_more F c k x.t (fun y hy => by rw [e, List.length_append]; have := h y hy; simp; omega)]
theorem seqD_more {L : List It} (F : TFit L) (c : List UInt8 → Nat) : ∀ (k : Nat) (d : List UInt8), (∀ x ∈ L, (cs x.t).length ≤ (cs d).length + k) → seqD c L (k + 1) d = seqD c L k d
 | 0, d, h => by
  show _ ++ [dirN c L 1 d] = [dirN c L 0 d]
  rw [inD_none F h, dirN_more F c 0 d h]; rfl
 | k + 1, d, h => by
  show _ ++ [dirN c L (k + 2) d] = _ ++ [dirN c L (k + 1) d]
  rw [dirN_more F c (k + 1) d h]
  congr 1
  refine flatMap_same fun x hx => ?_
  have hm := mem_inD.1 hx
  have e := (dir_iff (F.path x hm.1)).1 hm.2
  rw [seqD_more F c k x.t (fun y hy => by rw [e, List.length_append]; have := h y hy; simp; omega)]
theorem seq_up {L : List It} (F : TFit L) (G : TFit (upT L)) (c : List UInt8 → Nat) : seqT c (upT L) = seqT c L ++ [topT c (upT L)] ∧ (topT c (upT L)).es = [entE upItem (keyN (topT c L))] := by
 have h7 : ∀ x ∈ L, (cs x.t).length ≤ (cs ([] : List UInt8)).length + 8 := fun x hx => by have := up_less F G hx; rw [cs_nil]; simp; omega
 have e1 : seqD c (upT L) 8 upItem.t = seqT c L := by rw [up_item, seqD_up F G]; exact (seqD_more F c 8 [] h7).symm
 have e2 : dirN c (upT L) 8 upItem.t = topT c L := by rw [up_item, dirN_up F G]; exact (dirN_more F c 8 [] h7).symm
 constructor
 ·show ((inD (upT L) []).flatMap fun x => if x.d then seqD c (upT L) 8 x.t else seqF c x.b) ++ [dirN c (upT L) 9 []] = _
  rw [inD_top F G, List.flatMap_cons, List.flatMap_nil, List.append_nil, if_pos (show upItem.d = true from rfl), e1]; rfl
 ·show (dirN c (upT L) (8 + 1) []).es = _
  rw [dirN_es, inD_top F G]
  show [entE upItem (keyN (subN c (upT L) 8 upItem))] = _
  unfold subN
  rw [if_pos (show upItem.d = true from rfl), e2]
theorem up_new {T : List (List UInt8)} (hc : ¬ Clash T) {c : List UInt8 → Nat} {L : List It} (R : ReadyT c L) (R' : ReadyT c (upT L)) (h1 : ∀ n ∈ seqT c L, wrN n ∈ T) (h2 : ∀ n ∈ seqT c (upT L), wrN n ∈ T) :
  ∀ n ∈ seqT c L, keyN n ≠ keyN (topT c (upT L)) := by
 intro n hn e
 have hs := seq_up R.fit R'.fit c
 have he := same_node hc (seqT_fit R n hn) (seqT_fit R' _ (topT_mem _ _)) (h1 n hn) (h2 _ (topT_mem _ _)) e
 obtain ⟨j, f, hj, hsub⟩ := dir_in 9 [] n hn (by rw [he]; exact dirN_kd _ _ _ _)
 rw [← he] at hs
 rw [hj] at hs
 cases j with
 | zero => have := hs.2; rw [dirN_zero] at this; cases this
 | succ j =>
  have h3 := hs.2
  rw [dirN_es] at h3
  obtain ⟨y, hy⟩ : ∃ y, inD L f = [y] := by
   have := congrArg List.length h3
   rw [List.length_map] at this
   exact List.length_eq_one_iff.1 this
  rw [hy] at h3
  simp only [List.map_cons, List.map_nil] at h3
  injection h3 with h3 _
  obtain ⟨_, hd, _, hk⟩ := entE_inj h3
  have hd : y.d = true := hd
  have hm : y ∈ inD L f := by rw [hy]; simp
  unfold subN at hk
  rw [if_pos hd] at hk
  exact no_ring hc R h1 (mem_inD.1 hm).1 (fun m h => hsub m (sub_dir hm hd h)) hk
theorem up_objs {T : List (List UInt8)} (hc : ¬ Clash T) {c : List UInt8 → Nat} {L : List It} (R : ReadyT c L) (R' : ReadyT c (upT L)) (h1 : ∀ n ∈ seqT c L, wrN n ∈ T) (h2 : ∀ n ∈ seqT c (upT L), wrN n ∈ T) :
  (∀ y ∈ objsT c L, getO (objsT c (upT L)) y.t = some y) ∧ keyN (topT c (upT L)) ≠ keyN (topT c L) ∧ (objsT c (upT L)).length = (objsT c L).length + 1 := by
 have hs := (seq_up R.fit R'.fit c).1
 have ho : objsT c (upT L) = addO (objsT c L) (obN (topT c (upT L))) := by unfold objsT; rw [hs, putsN_app]; rfl
 have hn := up_new hc R R' h1 h2
 refine ⟨fun y hy => ?_, fun e => hn _ (topT_mem c L) e.symm, ?_⟩
 ·rw [ho]; exact getO_add_old (objs_fit c L) _ hy
 ·rw [ho]
  refine addO_len (getO_none.2 fun y hy => ?_) ?_
  ·obtain ⟨n, hm, rfl⟩ := objs_mem hy
   rw [obN_t, obN_t]; exact hn n hm
  ·rw [obN_t]; exact keyN_len (seqT_fit R' _ (topT_mem _ _))
end Go.Proofs.YtlccihidedfemaaGreatDoor
set_option linter.unusedVariables false
namespace Go.Proofs.YtlccihidedfemaaGreatDoor
open Go.RowKit
attribute [local go_sem] Oper.semAt_some
def OwnI (B : Nat) (w : World) (v : Value) (L : List It) : Prop := w.ownsRow B 51 4 v L.length (itCells L)
theorem OwnI.items {B : Nat} {w : World} {v : Value} {L : List It} (h : OwnI B w v L) : IsItems w v L := by
 have hlt := h.lt
 have hc := fun g hg => h.cells (g := g) hg
 rcases h.2 with ⟨rfl, h0⟩ | ⟨g, cap, cur, rfl, hb, hg, hle, hm, _⟩
 ·obtain rfl := List.length_eq_zero_iff.1 h0
  exact isItems_nil w
 ·refine ⟨Nat.le_trans hle hm, some ⟨g, 0, none⟩, cap, rfl, ⟨fun h => (by cases h), hle⟩, fun _ => ⟨g, 0, rfl, (hlt g rfl).2, fun i hi => ?_⟩⟩
  have hh := fun j (hj : j < 4) u (hu : (itC L[i])[j]? = some u) => hc g rfl (i * 4 + j) u (by rw [itCells_get hi hj]; exact hu)
  refine ⟨?_, ?_, ?_, ?_⟩
  ·have := hh 0 (by decide) _ rfl; rw [add_plain'] at this; exact this
  ·have := hh 1 (by decide) _ rfl; rw [add_plain'] at this; exact this
  ·have := hh 2 (by decide) _ rfl; rw [add_plain'] at this; exact this
  ·have := hh 3 (by decide) _ rfl; rw [add_plain'] at this; exact this
theorem OwnI.stays {B : Nat} {w w' : World} {v : Value} {L : List It} (h : OwnI B w v L) (hb : Below w.heap.size w w') : OwnI B w' v L :=
 World.ownsRow.kept h (grownBy_of_below hb) (by cases hv : v.ownBlock <;> simp)
theorem cell_four {w : World} {y : It} {t : TypeId} : ∀ j u, (itC y)[j]? = some u → (w.alloc (.cells #[.string y.p, .bool y.d, .bool y.e, .string y.c] t)).cell? ((⟨w.heap.size, 0, none⟩ : Addr).add j) = some u := by
 intro j u hj
 match j, hj with
 | 0, hj => simp at hj; subst hj; simp [Addr.add]
 | 1, hj => simp at hj; subst hj; simp [Addr.add]
 | 2, hj => simp at hj; subst hj; simp [Addr.add]
 | 3, hj => simp at hj; subst hj; simp [Addr.add]
theorem wpList_append_item {ops : Array Oper} {rest : List Oper} {o : Oper} {a : Act} {W w0 : World} {Q : Exit → Act → World → Prop} (hgd : o.guard = none) (s x : Operand)
  (ho : o.op = .call { callee := .builtin .append, args := #[s, x], argTypes := #[24, 24] })
  {v : Value} {M : List It} {y : It} (hown : OwnI W.heap.size w0 v M) (hb : Below W.heap.size W w0) (hs : a.eval s = v)
  (hx : a.eval x = .slice (some ⟨w0.heap.size, 0, none⟩) 1 1) (hlen : M.length ≤ 1000000)
  (h : ∀ v' w', OwnI W.heap.size w' v' (M ++ [y]) → Below W.heap.size W w' → wpList Tryz.prog ops Q rest (a.put o.dst v') w') :
  wpList Tryz.prog ops Q (o :: rest) a (w0.alloc (.cells #[.string y.p, .bool y.d, .bool y.e, .string y.c] 51)) := by
 obtain ⟨i0, hi, hz0, hz1, hz2⟩ := info_parts infoItem
 have hsz := hb.size
 refine wpList_append_own _ hgd s x 24 ho W.heap.size 51 i0 (itV zeroIt) 4 40 Tryz.underlying24 hi hz0 hz1 hz2 rfl (by decide) v M.length (itCells M) hs (World.ownsRow.alloc hown _) ⟨w0.heap.size, 0, none⟩ 1 1 (itC y) hx rfl cell_four ?_ ?_ ?_ ?_ ?_
 ·intro u hu; simp at hu; rcases hu with rfl | rfl | rfl | rfl <;> rfl
 ·unfold maxLen; omega
 ·omega
 ·simp; omega
 ·intro v' w' hown' hg _
  refine h v' w' ?_ ((hb.alloc hsz _).grown hg (by simp; omega) (fun j hj => (hown.lt j hj).1))
  unfold OwnI
  rw [List.length_append, itCells_app]
  have : itCells [y] = itC y := List.append_nil _
  rw [this]; exact hown'
set_option maxRecDepth 100000 in
set_option maxHeartbeats 4000000 in
theorem refOrder_any (a b : ByteArray) (ha : a.size ≤ 100000) (hb : b.size ≤ 100000) (w : World) :
  Calls Tryz.prog 81 #[.string a, .string b] w fun e w' => e = .returned (.int .i64 (orderS a.data.toList b.data.toList)) ∧ Below w.heap.size w w' := by
 have C1 := Lib.hid (parts_any a ha)
 have C2 := Lib.hid (parts_any b hb)
 unfold orderS
 obtain ⟨X, hX⟩ : ∃ X, X = pts a.data.toList := ⟨_, rfl⟩
 obtain ⟨Y, hY⟩ : ∃ Y, Y = pts b.data.toList := ⟨_, rfl⟩
 rw [← hX] at C1 ⊢
 rw [← hY] at C2 ⊢
 clear hX hY ha hb
 go_enter Tryz.func81, Tryz.ntmps81
 go_wp2_with fail
 refine (C1.out _).mono ?_
 rintro e w1 ⟨v1, rfl, hv1, hb1⟩
 have HV1 := Lib.hid hv1; clear hv1
 go_wp2_with fail
 refine (C2.out _).mono ?_
 rintro e w2 ⟨v2, rfl, hv2, hb2⟩
 have hB := below_step hb1 hb2
 have hv1 := HV1.out.stays hb2
 clear HV1 hb1 hb2 C1 C2
 obtain ⟨hm, a1, c1, rfl, _, hc1⟩ := hv1
 obtain ⟨hm2, a2, c2, rfl, _, hc2⟩ := hv2
 have hmm : (strsOf X).length ≤ 9223372036854775807 := by unfold maxLen at hm; omega
 have hmm2 : (strsOf Y).length ≤ 9223372036854775807 := by unfold maxLen at hm2; omega
 have HK := Lib.hid (strsOf_len X); have HL := Lib.hid (strsOf_len Y)
 have HI1 := Lib.hid (strsOf_at X); have HI2 := Lib.hid (strsOf_at Y)
 clear hm hm2
 obtain ⟨K, hK⟩ : ∃ K, K = strsOf X := ⟨_, rfl⟩
 obtain ⟨L, hL⟩ : ∃ L, L = strsOf Y := ⟨_, rfl⟩
 rw [← hK] at HK HI1 hc1 hmm ⊢
 rw [← hL] at HL HI2 hc2 hmm2 ⊢
 have H1 := Lib.hid hc1; have H2 := Lib.hid hc2
 clear hc1 hc2 hK hL
 go_wp2
 go_loopw [7] (fun i wr => ∃ k m : Nat, k ≤ K.length ∧ k ≤ L.length ∧ i = .int .i64 k ∧ wr = w2.drewN m ∧ SameTo X Y k) (fun i _ => K.length - (intOf i).toNat)
 case atStart => exact ⟨0, 0, Nat.zero_le _, Nat.zero_le _, rfl, rfl, same_zero _ _⟩
 case round =>
  obtain ⟨k, m, hk, hk2, rfl, rfl, hn⟩ := hrel
  have HN := Lib.hid hn; clear hn
  by_cases hlt : k < K.length
  ·by_cases hlt2 : k < L.length
   ·obtain ⟨b1, o1, rfl, _, g1⟩ := H1.out (by omega)
    have q1 := g1 k hlt
    obtain ⟨b2, o2, rfl, _, g2⟩ := H2.out (by omega)
    have q2 := g2 k hlt2
    clear g1 g2
    have hbk : decide ((k : Int) < (K.length : Int)) = true := by simpa using (show (k : Int) < K.length by omega)
    have hbk2 : decide ((k : Int) < (L.length : Int)) = true := by simpa using (show (k : Int) < L.length by omega)
    have hx := HI1.out k hlt (by rw [← HK.out]; exact hlt)
    have hy := HI2.out k hlt2 (by rw [← HL.out]; exact hlt2)
    obtain ⟨x, hxx⟩ : ∃ x, x = K[k] := ⟨_, rfl⟩
    rw [← hxx] at q1 hx
    obtain ⟨y, hyy⟩ : ∃ y, y = L[k] := ⟨_, rfl⟩
    rw [← hyy] at q2 hy
    have HX := Lib.hid hx; have HY := Lib.hid hy; clear hx hxx hy hyy
    have hxl : k < X.length := by rw [← HK.out]; exact hlt
    have hyl : k < Y.length := by rw [← HL.out]; exact hlt2
    rcases ordX_cases x.data.toList y.data.toList with ⟨h, ho⟩ | ⟨h, ho⟩ | ⟨h, ho⟩
    ·have HS : Hid (cmpP X Y = -1) := by
      have := same_stop HN.out hxl hyl (by rw [← HX.out, ← HY.out, ho]; decide)
      rw [← HX.out, ← HY.out, ho] at this; exact this
     have l1 : Op.bytesLess x.toList y.toList = true := by rw [less_eq]; exact decide_eq_true h
     clear h ho hxl hyl
     go_wp2_with fail
     go_quiet (fail)
     go_wp2
     go_ret
     exact ⟨by rw [HS.out]; rfl, below_drewN (below_drewN hB _) _⟩
    ·have HS : Hid (cmpP X Y = 1) := by
      have := same_stop HN.out hxl hyl (by rw [← HX.out, ← HY.out, ho]; decide)
      rw [← HX.out, ← HY.out, ho] at this; exact this
     have l1 : Op.bytesLess x.toList y.toList = false := by rw [less_eq]; exact decide_eq_false (x_asymm h)
     have l2 : (x.toList == y.toList) = false := beq_false (fun e => x_irrefl _ (e ▸ h))
     clear h ho hxl hyl
     go_wp2_with fail
     go_quiet (fail)
     go_wp2_with fail
     go_quiet (fail)
     go_wp2
     go_ret
     exact ⟨by rw [HS.out]; rfl, below_drewN (below_drewN (below_drewN hB _) _) _⟩
    ·have HS := Lib.hid (same_step HN.out hxl hyl (by rw [← HX.out, ← HY.out, ho]))
     have l1 : Op.bytesLess x.toList y.toList = false := by rw [less_eq, h]; exact decide_eq_false (x_irrefl _)
     have l2 : (x.toList == y.toList) = true := beq_true (str_eq' h)
     clear h ho hxl hyl
     go_wp2_with fail
     go_quiet (fail)
     go_wp2_with fail
     have E1 := Lib.hid (World.drewN_drewN w2 m nq)
     go_quiet (fail)
     go_wp2
     go_roundw
     case rel => exact ⟨k + 1, _, by omega, by omega, by go_num, (by simp only [World.drewN]; rfl), HS.out⟩
     case measure => simp [intOf]; omega
   ·have hbk : decide ((k : Int) < (K.length : Int)) = true := by simpa using (show (k : Int) < K.length by omega)
    have hkl : k = L.length := by omega
    have HS : Hid (cmpP X Y = 1) := same_longer HN.out (by rw [← HK.out]; exact hlt) (by rw [← HL.out]; omega)
    have f1 : ¬ K.length < L.length := by omega
    have f2 : L.length < K.length := by omega
    have HKL := Lib.hid hkl; clear hkl
    go_wp2
    go_ret
    exact ⟨by rw [HS.out]; rfl, below_drewN hB _⟩
  ·have hkl : k = K.length := by omega
   have f0 : ¬ k < K.length := hlt
   by_cases hlt2 : K.length < L.length
   ·have HS : Hid (cmpP X Y = -1) := same_shorter HN.out (by rw [← HK.out]; omega) (by rw [← HL.out]; omega)
    clear hkl
    go_wp2
    go_ret
    exact ⟨by rw [HS.out]; rfl, below_drewN hB _⟩
   ·have HS : Hid (cmpP X Y = 0) := same_end HN.out (by rw [← HK.out]; omega) (by rw [← HL.out]; omega)
    have f2 : ¬ L.length < K.length := by omega
    clear hkl
    go_wp2
    go_ret
    exact ⟨by rw [HS.out]; rfl, below_drewN hB _⟩
end Go.Proofs.YtlccihidedfemaaGreatDoor
set_option linter.unusedVariables false
namespace Go.Proofs.YtlccihidedfemaaGreatDoor
theorem sizeT_few : ∀ {L : List It}, (∀ x ∈ L, x.c.size ≤ 40000) → sizeT L ≤ L.length * 40000
 | [], _ => Nat.le_refl _
 | x :: L, h => by
  rw [sizeT_cons, List.length_cons]
  have h1 := h x (by simp)
  have h2 := sizeT_few (L := L) (fun y hy => h y (by simp [hy]))
  omega
theorem c_empty (c : ByteArray) : c.toList.isEmpty = decide (c.size = 0) := by
 rw [Lib.toList_data, Lib.size_eq]; cases c.data.toList <;> simp
section
variable {L : List It} {x : It}
end
end Go.Proofs.YtlccihidedfemaaGreatDoor
namespace Go.Proofs.YtlccihidedfemaaGreatDoor
open Go.RowKit
theorem builderAtF_own {β : Type} (T e : TypeId) (B b : Nat) (p : Value) (bs : β → List Value) : Own (fun (s : β) W => Lib.BuilderAtF T e B b p (bs s) W) := by
 rintro s W W' row ⟨hB, v, hb, hown, hne⟩ hg hr
 have hlt := (Array.getElem?_eq_some_iff.1 hb).1
 refine ⟨hB, v, ?_, ?_, hne⟩
 ·rw [hg.block b hlt ?_]
  ·exact hb
  ·intro h
   obtain ⟨o, ho, hc⟩ := hr b h.symm
   rw [hb] at ho; cases ho; cases hc
 ·refine hown.kept hg ?_
  rcases hob : v.ownBlock with _ | g
  ·exact .inl rfl
  ·refine .inr fun h => ?_
   obtain ⟨o, ho, hc⟩ := hr g h.symm
   obtain ⟨c, fz, hg2⟩ := Lib.ownsRowF_kind hown g hob
   rw [hg2] at ho; cases ho; cases hc
theorem isBuilderF_own {β : Type} (T e : TypeId) (B b : Nat) (bs : β → List Value) : Own (fun (s : β) W => Lib.IsBuilderF T e B b (bs s) W) := by
 intro s W W' row h hg hr
 rcases h with h | h
 ·exact .inl (builderAtF_own T e B b _ bs s W W' row h hg hr)
 ·exact .inr (builderAtF_own T e B b _ bs s W W' row h hg hr)
theorem keeps_of_others {e : TypeId} {b : Nat} {W W' : World} (h : Lib.OthersKept e (some b) W W') (hs : W.heap.size ≤ W'.heap.size) (hb : ∃ o : Obj, W.heap[b]? = some o ∧ o.isCells = true) : KeepsOthers W W' := by
 refine ⟨hs, fun k o hk ho => h k o hk ?_ ?_⟩
 ·intro hkb
  obtain ⟨o', ho', hc⟩ := hb
  cases hkb
  rw [hk] at ho'; cases ho'; rw [ho] at hc; cases hc
 ·rintro c fz rfl
  cases ho
theorem isBuilderF_cells {T e : TypeId} {B b : Nat} {bs : List Value} {W : World} (h : Lib.IsBuilderF T e B b bs W) : ∃ o : Obj, W.heap[b]? = some o ∧ o.isCells = true := by
 rcases h with ⟨_, v, hb, _⟩ | ⟨_, v, hb, _⟩ <;> exact ⟨_, hb, rfl⟩
theorem boxed_keep {A B : World} {row : Option Nat} {b : Nat} {t : TypeId} {v : Value} (h : Boxed A b t v) (hg : A.grownBy B row) (hr : ∀ r, row = some r → ∃ o : Obj, A.heap[r]? = some o ∧ o.isCells = false) : Boxed B b t v := by
 refine h.kept hg fun e => ?_
 obtain ⟨o, ho, hc⟩ := hr b e.symm
 rw [show A.heap[b]? = _ from h] at ho; cases ho; cases hc
end Go.Proofs.YtlccihidedfemaaGreatDoor
set_option linter.unusedVariables false
namespace Go.Proofs.YtlccihidedfemaaGreatDoor
open Go.RowKit
attribute [local go_sem] Oper.semAt_some
theorem ie_t {a b : Int} (h : a = b) : (a == b) = true := beq_iff_eq.2 h
theorem ie_f {a b : Int} (h : a ≠ b) : (a == b) = false := beq_eq_false_iff_ne.2 h
theorem in_t {a b : Int} (h : a ≠ b) : (a != b) = true := bne_iff_ne.2 h
theorem in_f {a b : Int} (h : a = b) : (a != b) = false := by rw [h]; simp
theorem all_okPt_step {L : List Pt} {k : Nat} (hk : k < L.length) (h : (L.take k).all okPt = true) (hx : okPt L[k] = true) : (L.take (k + 1)).all okPt = true := by
 rw [List.take_succ_eq_append_getElem hk, List.all_append, h]; simpa using hx
theorem sumPt_step {L : List Pt} {k : Nat} (hk : k < L.length) : sumPt (L.take (k + 1)) = sumPt (L.take k) + L[k].n := by
 rw [List.take_succ_eq_append_getElem hk, sumPt_app]; simp [sumPt]
theorem sumPt_bd : ∀ {L : List Pt}, L.all okPt = true → 0 ≤ sumPt L ∧ sumPt L ≤ 4096 * L.length
 | [], _ => by simp [sumPt]
 | p :: L, h => by
  rw [List.all_cons, Bool.and_eq_true] at h
  have h1 := okPt_iff.1 h.1; have h2 := sumPt_bd h.2
  rw [sumPt, List.length_cons]; push_cast; omega
theorem fitFile_no {L : List Pt} {k : Nat} (hk : k < L.length) (hx : okPt L[k] = false) : fitFileB L = false := by
 unfold fitFileB
 rw [Bool.and_eq_false_iff]; left
 rw [List.all_eq_false]
 exact ⟨L[k], List.getElem_mem _, by rw [hx]; decide⟩
theorem okPt_no1 {x : Pt} (h : x.k.size ≠ 32) : okPt x = false := by unfold okPt; rw [decide_eq_false h]; rfl
theorem okPt_no2 {x : Pt} (h : x.n < 1) : okPt x = false := by unfold okPt; rw [decide_eq_false (by omega : ¬ 1 ≤ x.n)]; simp
theorem okPt_no3 {x : Pt} (h : 4096 < x.n) : okPt x = false := by unfold okPt; rw [decide_eq_false (by omega : ¬ x.n ≤ 4096)]; simp
set_option maxRecDepth 100000 in
set_option maxHeartbeats 2000000 in
theorem rfitFile_any (v : Value) (L : List Pt) (w : World) (h : IsParts w v L) (hl : L.length ≤ 1000000) :
  Calls Tryz.prog 69 #[v] w fun e w' => e = .returned (.bool (fitFileB L)) ∧ w = w' := by
 obtain ⟨hm, a, cap, rfl, _, hc⟩ := h
 have hmm : L.length ≤ 9223372036854775807 := by unfold maxLen at hm; omega
 have H := Lib.hid hc
 clear hc hm
 go_enter Tryz.func69, Tryz.ntmps69
 go_wp2
 go_loop [3, 4] (fun n i => ∃ k : Nat, k ≤ L.length ∧ i = .int .i64 k ∧ n = .int .i64 (sumPt (L.take k)) ∧ (L.take k).all okPt = true) (fun _ i => L.length - (intOf i).toNat)
 case atStart => exact ⟨0, Nat.zero_le _, rfl, rfl, rfl⟩
 case round =>
  obtain ⟨k, hk, rfl, rfl, hall⟩ := hrel
  have HA := Lib.hid hall; clear hall
  by_cases hlt : k < L.length
  ·obtain ⟨b, off, rfl, _, g⟩ := H.out (by omega)
   have g1 := g k hlt
   clear g
   obtain ⟨c0, c1⟩ := g1
   have hbk : decide ((k : Int) < (L.length : Int)) = true := by simpa using (show (k : Int) < L.length by omega)
   have HST := Lib.hid (all_okPt_step hlt HA.out)
   have HNO := Lib.hid (fitFile_no hlt)
   have HSU := Lib.hid (sumPt_step hlt)
   have hbd := sumPt_bd HA.out
   rw [List.length_take] at hbd
   obtain ⟨x, hx⟩ : ∃ x, x = L[k] := ⟨_, rfl⟩
   rw [← hx] at c0 c1 HST HNO HSU
   clear hx
   by_cases h1 : x.k.size = 32
   ·have q1 := in_f (show (x.k.size : Int) = 32 by omega)
    by_cases h2 : x.n < 1
    ·have q2 : decide (x.n < 1) = true := decide_eq_true h2
     have HS := Lib.hid (HNO.out (okPt_no2 h2))
     clear h1 h2
     go_wp2
     go_ret
     exact ⟨by rw [HS.out]; rfl, rfl⟩
    ·have q2 : decide (x.n < 1) = false := decide_eq_false h2
     by_cases h3 : 4096 < x.n
     ·have q3 : decide (4096 < x.n) = true := decide_eq_true h3
      have HS := Lib.hid (HNO.out (okPt_no3 h3))
      clear h1 h2 h3
      go_wp2
      go_ret
      exact ⟨by rw [HS.out]; rfl, rfl⟩
     ·have q3 : decide (4096 < x.n) = false := decide_eq_false h3
      have HS := Lib.hid (HST.out (okPt_iff.2 ⟨h1, by omega, by omega⟩))
      have hb2 : -1000000000000 ≤ sumPt (L.take k) + x.n ∧ sumPt (L.take k) + x.n ≤ 1000000000000 := by omega
      clear h1
      go_wp2
      go_round
      case rel => exact ⟨k + 1, by omega, by go_num, by rw [HSU.out], HS.out⟩
      case measure => simp [intOf]; omega
   ·have q1 := in_t (show (x.k.size : Int) ≠ 32 by omega)
    have HS := Lib.hid (HNO.out (okPt_no1 h1))
    clear h1
    go_wp2
    go_ret
    exact ⟨by rw [HS.out]; rfl, rfl⟩
  ·have HS : Hid (fitFileB L = decide (sumPt (L.take k) ≤ 32768)) := show _ = _ by
    have := HA.out
    rw [List.take_of_length_le (by omega)] at this ⊢
    unfold fitFileB; rw [this]; rfl
   go_wp2
   go_ret
   exact ⟨by rw [HS.out]; rfl, rfl⟩
def DirTo (L : List En) (k : Nat) : Prop := ∀ i (h : i < L.length), i < k → okEn L[i] = true ∧ (0 < i → (L[i - 1]'(by omega)).m.data.toList < L[i].m.data.toList)
theorem dirTo_zero (L : List En) : DirTo L 0 := fun i _ h => absurd h (by omega)
theorem dirTo_step {L : List En} {k : Nat} (h : DirTo L k) (hk : k < L.length) (h1 : okEn L[k] = true) (hr : 0 < k → (L[k - 1]'(by omega)).m.data.toList < L[k].m.data.toList) : DirTo L (k + 1) := fun i hi hik => by
 by_cases e : i = k
 ·subst e; exact ⟨h1, hr⟩
 ·exact h i hi (by omega)
theorem fitDir_all {L : List En} {k : Nat} (h : DirTo L k) (hk : L.length ≤ k) : fitDirB L = true := fitDir_iff.2 ⟨fun p hp => by
 obtain ⟨i, hi, rfl⟩ := List.mem_iff_getElem.1 hp
 exact (h i hi (by omega)).1, fun i hi h0 => (h i hi (by omega)).2 h0⟩
theorem fitDir_no {L : List En} {k : Nat} (hk : k < L.length) (hx : okEn L[k] = false) : fitDirB L = false := by
 rcases h : fitDirB L with _ | _
 ·rfl
 ·have := (fitDir_iff.1 h).1 _ (List.getElem_mem hk); rw [hx] at this; cases this
theorem fitDir_norise {L : List En} {k : Nat} (hk : k < L.length) (h0 : 0 < k) (hr : ¬ (L[k - 1]'(by omega)).m.data.toList < L[k].m.data.toList) : fitDirB L = false := by
 rcases h : fitDirB L with _ | _
 ·rfl
 ·exact absurd ((fitDir_iff.1 h).2 k hk h0) hr
theorem okEn_no1 {x : En} (h : nameB x.m.data.toList = false) : okEn x = false := by unfold okEn; rw [h]; rfl
theorem okEn_no2 {x : En} (h : x.k.size ≠ 32) : okEn x = false := by unfold okEn; rw [decide_eq_false h]; simp
theorem okEn_no3 {x : En} (h2 : x.kd ≠ 2) (h3 : x.kd ≠ 3) : okEn x = false := by unfold okEn; rw [decide_eq_false h2, decide_eq_false h3]; simp
theorem okEn_no4 {x : En} (h2 : x.kd ≠ 2) (h : x.x = true) : okEn x = false := by unfold okEn; rw [decide_eq_false h2, h]; simp
set_option maxRecDepth 100000 in
set_option maxHeartbeats 8000000 in
theorem rfitDir_any (v : Value) (L : List En) (w : World) (h : IsEntries w v L) :
  Calls Tryz.prog 70 #[v] w fun e w' => e = .returned (.bool (fitDirB L)) ∧ Below w.heap.size w w' := by
 have HI := Lib.hid h
 obtain ⟨hm, a, cap, rfl, _, hc⟩ := h
 have hmm : L.length ≤ 9223372036854775807 := by unfold maxLen at hm; omega
 clear hc hm
 have RN := Lib.hid refName_any
 go_enter Tryz.func70, Tryz.ntmps70
 go_wp2
 go_loopw [3] (fun i wr => ∃ k : Nat, k ≤ L.length ∧ i = .int .i64 k ∧ DirTo L k ∧ Below w.heap.size w wr) (fun i _ => L.length - (intOf i).toNat)
 case atStart => exact ⟨0, Nat.zero_le _, rfl, dirTo_zero _, Below.refl _ _⟩
 case round =>
  obtain ⟨k, hk, rfl, hn, hB⟩ := hrel
  have HN := Lib.hid hn; clear hn
  have hsz := hB.size
  by_cases hlt : k < L.length
  ·obtain ⟨_, _, _, e, _, hc⟩ := HI.out.stays hB
   cases e
   obtain ⟨b, off, rfl, hbl, g⟩ := hc (by omega)
   have g1 := g k hlt
   obtain ⟨c0, c1, c2, c3⟩ := g1
   have hbk : decide ((k : Int) < (L.length : Int)) = true := by simpa using (show (k : Int) < L.length by omega)
   have HST := Lib.hid (dirTo_step HN.out hlt)
   have HNO := Lib.hid (fitDir_no hlt)
   have HNR := Lib.hid (fitDir_norise hlt)
   by_cases h0 : k = 0
   ·subst h0
    simp only [Nat.zero_mul, Nat.add_zero] at c0 c1 c2 c3
    clear g HNR
    obtain ⟨x, hx0⟩ : ∃ x, x = L[0] := ⟨_, rfl⟩
    rw [← hx0] at c0 c1 c2 c3 HST HNO
    clear hx0
    have R1 := Lib.hid (RN.out x.m)
    rcases hnm : nameB x.m.data.toList with _ | _
    ·rw [hnm] at R1
     have HS := Lib.hid (HNO.out (okEn_no1 hnm))
     clear hnm
     go_wp2_with fail
     go_quiet ((go_at_call 95; exact Calls.quiet_of_same ((R1.out _).mono fun e w' h => ⟨h.1, h.2.symm⟩)))
     go_wp2
     go_ret
     exact ⟨by rw [HS.out]; rfl, below_drewN (hB.alloc hsz _) _⟩
    ·rw [hnm] at R1
     have HNM := Lib.hid hnm; clear hnm
     by_cases k2 : x.kd = 2
     ·have q2 := in_f k2
      have K2 := Lib.hid k2; clear k2
      rcases hx : x.x with _ | _
      ·rw [hx] at c2
       have CL : True := trivial; clear hx
       by_cases h32 : x.k.size = 32
       ·have q5 := in_f (show (x.k.size : Int) = 32 by omega)
        have HS := Lib.hid (HST.out (okEn_iff.2 ⟨HNM.out, h32, .inl K2.out⟩) (fun h => absurd h (by omega)))
        clear h32 CL
        go_wp2_with fail
        go_quiet ((go_at_call 95; exact Calls.quiet_of_same ((R1.out _).mono fun e w' h => ⟨h.1, h.2.symm⟩)))
        go_wp2
        go_roundw
        case rel => exact ⟨1, by omega, by go_num, HS.out, below_drewN (hB.alloc hsz _) _⟩
        case measure => simp [intOf]; omega
       ·have q5 := in_t (show (x.k.size : Int) ≠ 32 by omega)
        have HS := Lib.hid (HNO.out (okEn_no2 h32))
        clear h32 CL
        go_wp2_with fail
        go_quiet ((go_at_call 95; exact Calls.quiet_of_same ((R1.out _).mono fun e w' h => ⟨h.1, h.2.symm⟩)))
        go_wp2
        go_ret
        exact ⟨by rw [HS.out]; rfl, below_drewN (hB.alloc hsz _) _⟩
      ·rw [hx] at c2
       have CL : True := trivial; clear hx
       by_cases h32 : x.k.size = 32
       ·have q5 := in_f (show (x.k.size : Int) = 32 by omega)
        have HS := Lib.hid (HST.out (okEn_iff.2 ⟨HNM.out, h32, .inl K2.out⟩) (fun h => absurd h (by omega)))
        clear h32 CL
        go_wp2_with fail
        go_quiet ((go_at_call 95; exact Calls.quiet_of_same ((R1.out _).mono fun e w' h => ⟨h.1, h.2.symm⟩)))
        go_wp2
        go_roundw
        case rel => exact ⟨1, by omega, by go_num, HS.out, below_drewN (hB.alloc hsz _) _⟩
        case measure => simp [intOf]; omega
       ·have q5 := in_t (show (x.k.size : Int) ≠ 32 by omega)
        have HS := Lib.hid (HNO.out (okEn_no2 h32))
        clear h32 CL
        go_wp2_with fail
        go_quiet ((go_at_call 95; exact Calls.quiet_of_same ((R1.out _).mono fun e w' h => ⟨h.1, h.2.symm⟩)))
        go_wp2
        go_ret
        exact ⟨by rw [HS.out]; rfl, below_drewN (hB.alloc hsz _) _⟩
     ·have q2 := in_t k2
      by_cases k3 : x.kd = 3
      ·have q3 := in_f k3
       have K3 := Lib.hid k3; clear k3
       rcases hx : x.x with _ | _
       ·rw [hx] at c2
        have HX := Lib.hid hx; clear hx k2
        have CL : True := trivial
        by_cases h32 : x.k.size = 32
        ·have q5 := in_f (show (x.k.size : Int) = 32 by omega)
         have HS := Lib.hid (HST.out (okEn_iff.2 ⟨HNM.out, h32, .inr ⟨K3.out, HX.out⟩⟩) (fun h => absurd h (by omega)))
         clear h32 CL
         go_wp2_with fail
         go_quiet ((go_at_call 95; exact Calls.quiet_of_same ((R1.out _).mono fun e w' h => ⟨h.1, h.2.symm⟩)))
         go_wp2
         go_roundw
         case rel => exact ⟨1, by omega, by go_num, HS.out, below_drewN (hB.alloc hsz _) _⟩
         case measure => simp [intOf]; omega
        ·have q5 := in_t (show (x.k.size : Int) ≠ 32 by omega)
         have HS := Lib.hid (HNO.out (okEn_no2 h32))
         clear h32 CL
         go_wp2_with fail
         go_quiet ((go_at_call 95; exact Calls.quiet_of_same ((R1.out _).mono fun e w' h => ⟨h.1, h.2.symm⟩)))
         go_wp2
         go_ret
         exact ⟨by rw [HS.out]; rfl, below_drewN (hB.alloc hsz _) _⟩
       ·rw [hx] at c2
        have HS := Lib.hid (HNO.out (okEn_no4 k2 hx)); clear hx k2
        go_wp2_with fail
        go_quiet ((go_at_call 95; exact Calls.quiet_of_same ((R1.out _).mono fun e w' h => ⟨h.1, h.2.symm⟩)))
        go_wp2
        go_ret
        exact ⟨by rw [HS.out]; rfl, below_drewN (hB.alloc hsz _) _⟩
      ·have q3 := in_t k3
       have HS := Lib.hid (HNO.out (okEn_no3 k2 k3)); clear k2 k3
       go_wp2_with fail
       go_quiet ((go_at_call 95; exact Calls.quiet_of_same ((R1.out _).mono fun e w' h => ⟨h.1, h.2.symm⟩)))
       go_wp2
       go_ret
       exact ⟨by rw [HS.out]; rfl, below_drewN (hB.alloc hsz _) _⟩
   ·obtain ⟨j, rfl⟩ : ∃ j, k = j + 1 := ⟨k - 1, by omega⟩
    have p0 := (g j (by omega)).1
    obtain ⟨z, hz⟩ : ∃ z, z = L[j] := ⟨_, rfl⟩
    have HZ : Hid (L[j + 1 - 1] = z) := show _ = _ from hz.symm
    rw [← hz] at p0
    clear g hz h0
    have hk0 : decide ((0 : Int) < ((j + 1 : Nat) : Int)) = true := by simp
    obtain ⟨x, hx0⟩ : ∃ x, x = L[j + 1] := ⟨_, rfl⟩
    rw [← hx0] at c0 c1 c2 c3 HST HNO HNR
    clear hx0
    have R1 := Lib.hid (RN.out x.m)
    rcases hnm : nameB x.m.data.toList with _ | _
    ·rw [hnm] at R1
     have HS := Lib.hid (HNO.out (okEn_no1 hnm))
     clear hnm
     go_wp2_with fail
     go_quiet ((go_at_call 95; exact Calls.quiet_of_same ((R1.out _).mono fun e w' h => ⟨h.1, h.2.symm⟩)))
     go_wp2
     go_ret
     exact ⟨by rw [HS.out]; rfl, below_drewN (hB.alloc hsz _) _⟩
    ·rw [hnm] at R1
     have HNM := Lib.hid hnm; clear hnm
     by_cases hr : z.m.data.toList < x.m.data.toList
     ·have hrb : Op.bytesLess z.m.toList x.m.toList = true := by rw [less_eq]; exact decide_eq_true hr
      have HR := Lib.hid hr; clear hr
      by_cases k2 : x.kd = 2
      ·have q2 := in_f k2
       have K2 := Lib.hid k2; clear k2
       rcases hx : x.x with _ | _
       ·rw [hx] at c2
        have CL : True := trivial; clear hx
        by_cases h32 : x.k.size = 32
        ·have q5 := in_f (show (x.k.size : Int) = 32 by omega)
         have HS := Lib.hid (HST.out (okEn_iff.2 ⟨HNM.out, h32, .inl K2.out⟩) (fun _ => by rw [HZ.out]; exact HR.out))
         clear h32 CL
         go_wp2_with fail
         go_quiet ((go_at_call 95; exact Calls.quiet_of_same ((R1.out _).mono fun e w' h => ⟨h.1, h.2.symm⟩)))
         go_wp2
         go_roundw
         case rel => exact ⟨j + 2, by omega, by go_num, HS.out, below_drewN (hB.alloc hsz _) _⟩
         case measure => simp [intOf]; omega
        ·have q5 := in_t (show (x.k.size : Int) ≠ 32 by omega)
         have HS := Lib.hid (HNO.out (okEn_no2 h32))
         clear h32 CL
         go_wp2_with fail
         go_quiet ((go_at_call 95; exact Calls.quiet_of_same ((R1.out _).mono fun e w' h => ⟨h.1, h.2.symm⟩)))
         go_wp2
         go_ret
         exact ⟨by rw [HS.out]; rfl, below_drewN (hB.alloc hsz _) _⟩
       ·rw [hx] at c2
        have CL : True := trivial; clear hx
        by_cases h32 : x.k.size = 32
        ·have q5 := in_f (show (x.k.size : Int) = 32 by omega)
         have HS := Lib.hid (HST.out (okEn_iff.2 ⟨HNM.out, h32, .inl K2.out⟩) (fun _ => by rw [HZ.out]; exact HR.out))
         clear h32 CL
         go_wp2_with fail
         go_quiet ((go_at_call 95; exact Calls.quiet_of_same ((R1.out _).mono fun e w' h => ⟨h.1, h.2.symm⟩)))
         go_wp2
         go_roundw
         case rel => exact ⟨j + 2, by omega, by go_num, HS.out, below_drewN (hB.alloc hsz _) _⟩
         case measure => simp [intOf]; omega
        ·have q5 := in_t (show (x.k.size : Int) ≠ 32 by omega)
         have HS := Lib.hid (HNO.out (okEn_no2 h32))
         clear h32 CL
         go_wp2_with fail
         go_quiet ((go_at_call 95; exact Calls.quiet_of_same ((R1.out _).mono fun e w' h => ⟨h.1, h.2.symm⟩)))
         go_wp2
         go_ret
         exact ⟨by rw [HS.out]; rfl, below_drewN (hB.alloc hsz _) _⟩
      ·have q2 := in_t k2
       by_cases k3 : x.kd = 3
       ·have q3 := in_f k3
        have K3 := Lib.hid k3; clear k3
        rcases hx : x.x with _ | _
        ·rw [hx] at c2
         have HX := Lib.hid hx; clear hx k2
         have CL : True := trivial
         by_cases h32 : x.k.size = 32
         ·have q5 := in_f (show (x.k.size : Int) = 32 by omega)
          have HS := Lib.hid (HST.out (okEn_iff.2 ⟨HNM.out, h32, .inr ⟨K3.out, HX.out⟩⟩) (fun _ => by rw [HZ.out]; exact HR.out))
          clear h32 CL
          go_wp2_with fail
          go_quiet ((go_at_call 95; exact Calls.quiet_of_same ((R1.out _).mono fun e w' h => ⟨h.1, h.2.symm⟩)))
          go_wp2
          go_roundw
          case rel => exact ⟨j + 2, by omega, by go_num, HS.out, below_drewN (hB.alloc hsz _) _⟩
          case measure => simp [intOf]; omega
         ·have q5 := in_t (show (x.k.size : Int) ≠ 32 by omega)
          have HS := Lib.hid (HNO.out (okEn_no2 h32))
          clear h32 CL
          go_wp2_with fail
          go_quiet ((go_at_call 95; exact Calls.quiet_of_same ((R1.out _).mono fun e w' h => ⟨h.1, h.2.symm⟩)))
          go_wp2
          go_ret
          exact ⟨by rw [HS.out]; rfl, below_drewN (hB.alloc hsz _) _⟩
        ·rw [hx] at c2
         have HS := Lib.hid (HNO.out (okEn_no4 k2 hx)); clear hx k2
         go_wp2_with fail
         go_quiet ((go_at_call 95; exact Calls.quiet_of_same ((R1.out _).mono fun e w' h => ⟨h.1, h.2.symm⟩)))
         go_wp2
         go_ret
         exact ⟨by rw [HS.out]; rfl, below_drewN (hB.alloc hsz _) _⟩
       ·have q3 := in_t k3
        have HS := Lib.hid (HNO.out (okEn_no3 k2 k3)); clear k2 k3
        go_wp2_with fail
        go_quiet ((go_at_call 95; exact Calls.quiet_of_same ((R1.out _).mono fun e w' h => ⟨h.1, h.2.symm⟩)))
        go_wp2
        go_ret
        exact ⟨by rw [HS.out]; rfl, below_drewN (hB.alloc hsz _) _⟩
     ·have hrb : Op.bytesLess z.m.toList x.m.toList = false := by rw [less_eq]; exact decide_eq_false hr
      have HS := Lib.hid (HNR.out (by omega) (by rw [HZ.out]; exact hr))
      clear hr
      go_wp2_with fail
      go_quiet ((go_at_call 95; exact Calls.quiet_of_same ((R1.out _).mono fun e w' h => ⟨h.1, h.2.symm⟩)))
      go_wp2
      go_ret
      exact ⟨by rw [HS.out]; rfl, below_drewN (hB.alloc hsz _) _⟩
  ·have HS := Lib.hid (fitDir_all HN.out (by omega))
   go_wp2
   go_ret
   exact ⟨by rw [HS.out]; rfl, hB⟩
end Go.Proofs.YtlccihidedfemaaGreatDoor
set_option linter.unusedVariables false
namespace Go.Proofs.YtlccihidedfemaaGreatDoor
open Go.RowKit Go.Shelf
theorem sizeBuilder : (Tryz.prog.info? 154).map (fun i => i.size) = some 2 := by kernel_rfl
theorem infoByte : (Tryz.prog.info? 5).map (fun i => (i.zero, i.size, i.bytes)) = some (some (.int .u8 0), 1, 1) := by kernel_rfl
theorem liesBuilder : liesAt Tryz.prog Tryz.prog.depth 154 (2 / Tryz.prog.cellsOf 154) 0 154 1 = true := by kernel_rfl
set_option maxHeartbeats 1000000 in
set_option maxRecDepth 100000 in
theorem copyCheck_used (b : Nat) (w : World) (h0 : w.cell? ⟨b, 0, none⟩ = some (.pointer (some ⟨b, 0, none⟩))) :
  Calls Tryz.prog 146 #[.pointer (some ⟨b, 0, none⟩)] w fun e w' => e = .returned (.tuple #[]) ∧ w' = w := by
 obtain ⟨j, hj, _⟩ := Option.map_eq_some_iff.1 sizeBuilder
 go_enter Tryz.func146, Tryz.ntmps146
 go_wp2
 rw [Lib.run_neq_ptr_same w _ Tryz.underlying152 hj]
 go_wp2
 go_end0
 exact ⟨rfl, rfl⟩
set_option maxHeartbeats 1000000 in
set_option maxRecDepth 100000 in
theorem copyCheck_fresh (b : Nat) (w : World) (h0 : w.cell? ⟨b, 0, none⟩ = some (.pointer none)) (hsh : w.shape? b = some (154, 2)) (hfz : w.frozen? ⟨b, 0, none⟩ = false) :
  Calls Tryz.prog 146 #[.pointer (some ⟨b, 0, none⟩)] w fun e w' => e = .returned (.tuple #[]) ∧ w' = w.setCell ⟨b, 0, none⟩ (.pointer (some ⟨b, 0, none⟩)) := by
 obtain ⟨j, hj, hjs⟩ := Option.map_eq_some_iff.1 sizeBuilder
 have hl := liesBuilder
 go_enter Tryz.func146, Tryz.ntmps146
 go_wp2
 rw [Lib.run_to_unsafe w ⟨b, 0, none⟩ Tryz.underlying152 Tryz.underlying180 hj (by rw [hjs]; decide) hsh (Nat.zero_lt_succ 1)]
 simp only [Result.andThen]
 rw [Oper.upon_value]
 go_wp2
 rw [run_callFunc_extern Tryz.func160 (by kernel_rfl) (by kernel_rfl) (by kernel_rfl) (e := Extern.AbiNoEscape.same) (by kernel_rfl)]
 rw [Lib.run_noEscape]
 simp only [Result.andThen]
 rw [Oper.upon_value]
 go_wp2
 rw [Lib.run_from_unsafe w ⟨b, 0, none⟩ Tryz.underlying180 Tryz.underlying152 hj hsh hl]
 simp only [Result.andThen]
 rw [Oper.upon_value]
 go_wp2
 go_end0
 exact ⟨rfl, rfl⟩
theorem copyCheck_k (B b : Nat) (bs : List Value) (w : World) (h : Lib.IsBuilderF 154 5 B b bs w) :
  Calls Tryz.prog 146 #[.pointer (some ⟨b, 0, none⟩)] w fun e w' => e = .returned (.tuple #[]) ∧ (Lib.BuilderAtF 154 5 B b (.pointer (some ⟨b, 0, none⟩)) bs w' ∧ Below B w w' ∧ Lib.OthersKept 5 (some b) w w') := by
 rcases h with h | h
 ·refine (copyCheck_fresh b w h.cell0 h.shape h.frozen0).mono ?_
  rintro e w' ⟨rfl, rfl⟩
  exact ⟨rfl, h.used _, (Below.refl B w).setCell (p := ⟨b, 0, none⟩) h.1 _, (Lib.OthersKept.refl _ _ w).setCell ⟨b, 0, none⟩ rfl _⟩
 ·refine (copyCheck_used b w h.cell0).mono ?_
  rintro e w' ⟨rfl, rfl⟩
  exact ⟨rfl, h, Below.refl B _, Lib.OthersKept.refl _ _ _⟩
set_option maxHeartbeats 2000000 in
set_option maxRecDepth 100000 in
theorem WriteByte_k (B b : Nat) (bs : List Value) (c : Int) (w : World) (h : Lib.IsBuilderF 154 5 B b bs w) (hlen : bs.length + 1 ≤ 140737488355328) (hBw : B ≤ w.heap.size) :
  Calls Tryz.prog 148 #[.pointer (some ⟨b, 0, none⟩), .int .u8 c] w fun e w' => e = .returned .nilIface ∧ (Lib.BuilderAtF 154 5 B b (.pointer (some ⟨b, 0, none⟩)) (bs ++ [.int .u8 c]) w' ∧ Below B w w' ∧ Lib.OthersKept 5 (some b) w w') := by
 obtain ⟨i0, hi, hz0, hz1, hz2⟩ := info_parts infoByte
 go_enter Tryz.func148, Tryz.ntmps148
 go_wp2_with (go_at_call 146; refine (copyCheck_k B b bs _ h).mono ?_)
 rintro e w1 ⟨rfl, h1, hb1, hk1⟩
 obtain ⟨hB, v, hbk, hown, hne⟩ := h1
 have c0 : w1.cell? ⟨b, 0, none⟩ = some (.pointer (some ⟨b, 0, none⟩)) := by rw [Lib.cell_of_heap hbk]; rfl
 have c1 : w1.cell? ⟨b, 1, none⟩ = some v := by rw [Lib.cell_of_heap hbk]; rfl
 go_wp2_with (at_builtin; refine wpList_append_ownF _ rfl _ _ 83 rfl B 5 i0 (.int .u8 0) 1 1 Tryz.underlying83 hi hz0 hz1 hz2 rfl (by decide) _ _ _ rfl (hown.alloc _) ⟨w1.heap.size, 0, none⟩ 1 1 [.int .u8 c] rfl rfl ?c1 ?c2 ?c3 ?c4 ?c5 ?_)
 case c1 =>
  intro j u hj
  match j, hj with
  | 0, hj => simp at hj; subst hj; simp [Addr.add]
 case c2 => intro u hu; simp at hu; subst hu; rfl
 case c3 => unfold maxLen; omega
 case c4 => omega
 case c5 => have := hb1.size; simp; omega
 intro v' w2 hown' hgrow _
 have hlt : b < w1.heap.size := (Array.getElem?_eq_some_iff.1 hbk).1
 have hb2 : w2.heap[b]? = some (.cells #[.pointer (some ⟨b, 0, none⟩), v] 154 (0, 0)) := by
  rw [hgrow.block b (by simp; omega) (fun e => hne e.symm), Lib.alloc_old w1 _ b hlt]
  exact hbk
 have d0 : w2.cell? ⟨b, 0, none⟩ = some (.pointer (some ⟨b, 0, none⟩)) := by rw [Lib.cell_of_heap hb2]; rfl
 have d1 : w2.cell? ⟨b, 1, none⟩ = some v := by rw [Lib.cell_of_heap hb2]; rfl
 have f1 : w2.frozen? ⟨b, 1, none⟩ = false := Lib.frozen_of_heap hb2 1
 obtain ⟨g, cap, rfl⟩ : ∃ g cap, v' = .slice (some ⟨g, 0, none⟩) (bs.length + 1) cap := by
  rcases hown'.2 with ⟨_, h0⟩ | ⟨g, cap, cur, fz, hv, _⟩
  ·omega
  ·exact ⟨g, cap, hv⟩
 go_wp2
 go_ret
 refine ⟨rfl, ?_, ?_, ((hk1.alloc _).grown hgrow (Lib.ownsRowF_kind (hown.alloc _))).setCell ⟨b, 1, none⟩ rfl _⟩
 ·exact Lib.BuilderAtF.put (T := 154) (e := 5) hB hb2 (bs' := bs ++ [.int .u8 c]) (by simpa using hown') (by decide)
 ·exact ((hb1.alloc (by have := hb1.size; omega) _).grown hgrow (by have := hb1.size; simp; omega) (fun k hk => (hown.lt k hk).1)).setCell (p := ⟨b, 1, none⟩) hB _
theorem cellsByte : Tryz.prog.cellsOf 5 = 1 := by kernel_rfl
set_option maxHeartbeats 2000000 in
set_option maxRecDepth 100000 in
theorem String_full_k (B b : Nat) (l : List UInt8) (w : World) (h : Lib.IsBuilderF 154 5 B b (Lib.byteCells l) w) (h0 : l ≠ []) :
  Calls Tryz.prog 128 #[.pointer (some ⟨b, 0, none⟩)] w fun e w' => e = .returned (.string ⟨l.toArray⟩) ∧ (Lib.IsBuilderF 154 5 B b (Lib.byteCells l) w' ∧ Below B w w' ∧ Lib.OthersKept 5 (some b) w w') := by
 obtain ⟨p, hp, hAt⟩ : ∃ p, (p = .pointer none ∨ p = .pointer (some ⟨b, 0, none⟩)) ∧ Lib.BuilderAtF 154 5 B b p (Lib.byteCells l) w := by
  rcases h with h | h
  ·exact ⟨_, .inl rfl, h⟩
  ·exact ⟨_, .inr rfl, h⟩
 obtain ⟨hB, v, hbk, hown, hne⟩ := hAt
 have hl0 : l.length ≠ 0 := by simpa using h0
 rw [Lib.byteCells_length] at hown
 obtain ⟨g, cap, cur, fz, rfl, hbg, hg, hfz, hnc, hcm, hcs, htake⟩ : ∃ g cap cur fz, v = .slice (some ⟨g, 0, none⟩) l.length cap ∧ B ≤ g ∧ w.heap[g]? = some (.cells cur 5 fz) ∧ fz.2 ≤ l.length * 1 ∧ l.length ≤ cap ∧ cap ≤ maxLen ∧ cur.size = cap * 1 ∧ cur.toList.take (l.length * 1) = Lib.byteCells l := by
  rcases hown.2 with ⟨_, hz⟩ | ⟨g, cap, cur, fz, hv, r⟩
  ·exact absurd hz hl0
  ·exact ⟨g, cap, cur, fz, hv, r⟩
 have c1 : w.drew.cell? ⟨b, 1, none⟩ = some (.slice (some ⟨g, 0, none⟩) l.length cap) := by
  have : w.drew.heap[b]? = some (.cells #[p, .slice (some ⟨g, 0, none⟩) l.length cap] 154 (0, 0)) := hbk
  rw [Lib.cell_of_heap this]; rfl
 have hSD : (Builtin.unsafeSliceData_ #[83] 175 #[.slice (some ⟨g, 0, none⟩) l.length cap]).run Tryz.prog w.drew = .ok (.pointer (some ⟨g, 0, none⟩)) w.drew :=
  Lib.run_unsafeSliceData_row _ _ _ _ _ _ (by omega)
 have hUS : (Builtin.unsafeString_ #[175, 3] 9 #[.pointer (some ⟨g, 0, none⟩), .int .i64 l.length]).run Tryz.prog w.drew = .ok (.string ⟨l.toArray⟩) (w.drew.freeze ⟨g, 0, none⟩ l.length) := by
  refine Lib.run_unsafeString_row w.drew 175 3 9 5 Tryz.underlying175 cellsByte g cur.size (by have hg' : w.drew.heap[g]? = some (.cells cur 5 fz) := hg; simp [World.shape?, hg']) l h0 (by omega) (by unfold maxLen at hcm; omega) ?_
  intro j x hx
  have := hown.cells (g := g) rfl j (.int .u8 x.toNat) (by simp [Lib.byteCells, hx])
  exact this
 have hkeep : Lib.IsBuilderF 154 5 B b (Lib.byteCells l) (w.drew.freeze ⟨g, 0, none⟩ l.length) := by
  have hA : Lib.BuilderAtF 154 5 B b p (Lib.byteCells l) w.drew := ⟨hB, _, hbk, by rw [Lib.byteCells_length]; exact hown, hne⟩
  have hF := hA.froze (g := g) (cap := cap) (by rw [Lib.byteCells_length]; exact c1)
  rw [Lib.byteCells_length] at hF
  rcases hp with rfl | rfl
  ·exact .inl hF
  ·exact .inr hF
 go_enter Tryz.func128, Tryz.ntmps128
 go_wp2
 go_region
 all_goals (go_wp2; go_ret; exact ⟨rfl, hkeep, Lib.below_freeze (Below.drew (Below.refl B w)) (p := ⟨g, 0, none⟩) hbg _, ((Lib.OthersKept.refl _ _ w).drew).freeze ⟨g, 0, none⟩ _ ⟨cur, fz, hg⟩⟩)
set_option maxHeartbeats 4000000 in
set_option maxRecDepth 100000 in
theorem stringslite_Clone (s : ByteArray) (w : World) (hlim : s.size ≤ 281474976710656) :
  Calls Tryz.prog 134 #[.string s] w fun e w' => e = .returned (.string s) ∧ Below w.heap.size w w' := by
 by_cases h0 : s.size = 0
 ·have hs : s = ⟨#[]⟩ := by
   apply ByteArray.ext
   exact Array.eq_empty_of_size_eq_zero h0
  subst hs
  go_enter Tryz.func134, Tryz.ntmps134
  go_wp2
  go_ret
  exact ⟨rfl, Below.refl _ _⟩
 ·obtain ⟨i0, hi, hz0, hz1, hz2⟩ := info_parts infoByte
  have hinfo : (Tryz.prog.info? 5).map (fun i => i.size) = some 1 := by rw [hi]; simp [hz1]
  obtain ⟨M, hM⟩ : ∃ M, M = madeCells (Value.int .u8 0).cells (((s.size : Nat) : Int).toNat * i0.size) := ⟨_, rfl⟩
  have hMs : M.size = s.size := by rw [hM, size_madeCells, hz1]; simp
  have hmk : ∀ W : World, (Instr.makeSlice 83 (.int .i64 (s.size : Int)) (.int .i64 (s.size : Int))).run Tryz.prog W = .ok (.slice (some ⟨W.heap.size, 0, none⟩) s.size s.size) (W.alloc (.cells M 5)) := fun W => by
   have h := run_make (P := Tryz.prog) W 83 5 i0 (.int .u8 0) Tryz.underlying83 hi hz0 .i64 .i64 (s.size : Int) (s.size : Int) (by omega) (by omega) (by rw [hz2]; omega) (by omega)
   rw [← hM] at h
   simpa using h
  clear hM
  have hcp := Lib.run_copy_row_string (P := Tryz.prog) (w.alloc (.cells M 5)) 83 9 3 5 w.heap.size 0 s.size s.size s M 5 Tryz.underlying83 hinfo (heap_alloc_new w _) (Nat.le_refl _) (by omega)
  obtain ⟨Y, hY⟩ : ∃ Y, Y = (M.toList.take 0 ++ Lib.byteCells s.data.toList ++ M.toList.drop (0 + s.size)).toArray := ⟨_, rfl⟩
  rw [← hY] at hcp
  have hYl : Y.toList = Lib.byteCells s.data.toList := by
   rw [hY, List.toList_toArray, List.take_zero, List.nil_append, List.drop_of_length_le (by rw [Array.length_toList]; omega), List.append_nil]
  have hYs : Y.size = s.size := by rw [← Array.length_toList, hYl, Lib.byteCells_length, ← Lib.size_eq]
  have hgY : ((w.alloc (.cells M 5)).setRow w.heap.size Y).heap[w.heap.size]? = some (.cells Y 5 (0, 0)) := setRow_heap _ _ M _ 5 (0, 0) (heap_alloc_new w _)
  have hne : s.data.toList ≠ [] := fun e => h0 (by rw [Lib.size_eq, e]; rfl)
  have hUS := Lib.run_unsafeString_row (P := Tryz.prog) ((w.alloc (.cells M 5)).setRow w.heap.size Y) 175 3 9 5 Tryz.underlying175 cellsByte w.heap.size Y.size (by unfold World.shape?; rw [hgY]) s.data.toList hne (by rw [← Lib.size_eq]; omega) (by rw [← Lib.size_eq]; omega)
   (fun j x hx => Lib.cells_of_row hgY Y.size j _ (by rw [List.take_of_length_le (by rw [Array.length_toList]; exact Nat.le_refl _), hYl]; simp [Lib.byteCells, hx]))
  rw [← Lib.size_eq] at hUS
  clear hY
  go_enter Tryz.func134, Tryz.ntmps134
  go_wp2
  go_ret
  have hb1 : Below w.heap.size w (w.alloc (.cells M 5)) := (Below.refl _ w).alloc (Nat.le_refl _) _
  have hb2 : Below w.heap.size (w.alloc (.cells M 5)) ((w.alloc (.cells M 5)).setRow w.heap.size Y) := ⟨rfl, rfl, rfl, by simp, fun k hk => setRow_other _ _ _ _ (by omega)⟩
  exact ⟨rfl, Lib.below_freeze (hb1.trans hb2) (p := ⟨w.heap.size, 0, none⟩) (Nat.le_refl _) _⟩
end Go.Proofs.YtlccihidedfemaaGreatDoor
set_option linter.unusedVariables false
namespace Go.Proofs.YtlccihidedfemaaGreatDoor
open Go.RowKit
def left (v : Nat) (pre : List UInt8) (k r : Nat) : Prop := r < 128 ^ (k + 1) ∧ U64 r ∧ vput v = pre ++ vputF (k + 1) r
theorem left_step {v : Nat} {pre : List UInt8} {k r : Nat} (h : left v pre k r) (hr : 128 ≤ r) : left v (pre ++ [UInt8.ofNat (r % 128 + 128)]) (k - 1) (r / 128) := by
 obtain ⟨h1, h2, h3⟩ := h
 obtain ⟨j, rfl⟩ : ∃ j, k = j + 1 := by
  cases k with
  | zero => simp at h1; omega
  | succ j => exact ⟨j, rfl⟩
 refine ⟨?_, h2.div _, ?_⟩
 ·rw [Nat.add_sub_cancel, Nat.div_lt_iff_lt_mul (by decide)]; rw [Nat.pow_succ] at h1; exact h1
 ·rw [h3, vputF_hi hr]; simp
theorem left_pre {v : Nat} {pre : List UInt8} {k r : Nat} (h : left v pre k r) (hr : 128 ≤ r) : pre ++ [UInt8.ofNat (r % 128 + 128)] <+: vput v := by
 rw [(left_step h hr).2.2]; exact List.prefix_append _ _
theorem left_len {v : Nat} {pre : List UInt8} {k r : Nat} (h : left v pre k r) : pre.length ≤ 9 := by
 have h1 := vput_len v
 have h2 := vputF_pos k r
 rw [h.2.2, List.length_append] at h1
 omega
theorem left_end {v : Nat} {pre : List UInt8} {k r : Nat} (h : left v pre k r) (hr : r < 128) : vput v = pre ++ [UInt8.ofNat r] := by rw [h.2.2, vputF_lo hr]
theorem ownsRow_slice {w : World} {base : Nat} {e : TypeId} {v : Value} {n : Nat} {xs : List Value} (h : w.ownsRow base e 1 v (n + 1) xs) : ∃ g cap, v = .slice (some ⟨g, 0, none⟩) (n + 1) cap := by
 rcases h.2 with ⟨_, h0⟩ | ⟨g, cap, _, rfl, _⟩
 ·omega
 ·exact ⟨g, cap, rfl⟩
set_option maxRecDepth 100000 in
set_option maxHeartbeats 2000000 in
theorem refPut_any (v : Nat) (hv : U64 v) (w : World) :
  Calls Tryz.prog 71 #[.int .u64 v] w fun e w' => e = .returned (.string ⟨(vput v).toArray⟩) ∧ Below w.heap.size w w' := by
 obtain ⟨i0, hi, hz0, hz1, hz2⟩ := info_parts infoByte
 go_enter Tryz.func71, Tryz.ntmps71
 go_wp2
 go_loopw [0, 3] (fun t s wr => ∃ (pre : List UInt8) (k r : Nat), t = .int .u64 r ∧ left v pre k r ∧ wr.ownsRow w.heap.size 5 1 s pre.length (Lib.byteCells pre) ∧ Below w.heap.size w wr)
  (fun t s _ => (intOf t).toNat)
 case atStart => exact ⟨[], 9, v, rfl, ⟨by unfold U64 at hv; omega, hv, rfl⟩, World.ownsRow_nil _ _ _ _, Below.refl _ _⟩
 case round =>
  obtain ⟨pre, k, r, rfl, hl, hown, hB⟩ := hrel
  have hu : U64 r := hl.2.1
  have hp9 := left_len hl
  have hsz := hB.size
  by_cases h : 128 ≤ r
  ·have hmod : (0 : Int) ≤ (r : Int) % 128 ∧ (r : Int) % 128 < 128 := by omega
   go_wp2_with (at_builtin; refine wpList_append_own _ rfl _ _ 83 rfl w.heap.size 5 i0 (.int .u8 0) 1 1 Tryz.underlying83 hi hz0 hz1 hz2 rfl (by decide) _ _ _ rfl (hown.alloc _) ⟨wr.heap.size, 0, none⟩ 1 1 [.int .u8 ((r : Int) % 128 + 128)] rfl rfl ?c1 ?c2 ?c3 ?c4 ?c5 ?_)
   case c1 =>
    intro j u hj
    match j, hj with
    | 0, hj => simp at hj; subst hj; simp [Addr.add]
   case c2 => intro u hu; simp at hu; subst hu; rfl
   case c3 => unfold maxLen; omega
   case c4 => omega
   case c5 => simp; omega
   intro v' w1 hown' hgrow _
   obtain ⟨g, cap, rfl⟩ := ownsRow_slice hown'
   have hb1 : Below w.heap.size w w1 := (hB.alloc hsz _).grown hgrow (by simp; omega) (fun j hj => (hown.lt j hj).1)
   have hown2 : w1.ownsRow w.heap.size 5 1 (.slice (some ⟨g, 0, none⟩) (pre.length + 1) cap) (pre ++ [UInt8.ofNat (r % 128 + 128)]).length (Lib.byteCells (pre ++ [UInt8.ofNat (r % 128 + 128)])) := by
    rw [Lib.byteCells_append, List.length_append]
    have e : Lib.byteCells [UInt8.ofNat (r % 128 + 128)] = [Value.int .u8 ((r : Int) % 128 + 128)] := by
     simp [Lib.byteCells]; omega
    rw [e]; exact hown'
   have hl2 := left_step hl h
   clear hown hown' hgrow
   have hwd := hu.wrap_div 128
   simp only [Int.cast_ofNat_Int] at hwd
   go_wp2
   go_roundw
   case rel => exact ⟨_, _, _, by go_num, hl2, hown2, hb1⟩
   case measure => simp [intOf]; omega
  ·have hlt : r < 128 := by omega
   have hfin := left_end hl hlt
   have HF := Lib.hid hfin; clear hfin
   go_wp2_with (at_builtin; refine wpList_append_own _ rfl _ _ 83 rfl w.heap.size 5 i0 (.int .u8 0) 1 1 Tryz.underlying83 hi hz0 hz1 hz2 rfl (by decide) _ _ _ rfl (hown.alloc _) ⟨wr.heap.size, 0, none⟩ 1 1 [.int .u8 (r : Int)] rfl rfl ?c1 ?c2 ?c3 ?c4 ?c5 ?_)
   case c1 =>
    intro j u hj
    match j, hj with
    | 0, hj => simp at hj; subst hj; simp [Addr.add]
   case c2 => intro u hu; simp at hu; subst hu; rfl
   case c3 => unfold maxLen; omega
   case c4 => omega
   case c5 => simp; omega
   intro v' w1 hown' hgrow _
   obtain ⟨g, cap, rfl⟩ := ownsRow_slice hown'
   have hb1 : Below w.heap.size w w1 := (hB.alloc hsz _).grown hgrow (by simp; omega) (fun j hj => (hown.lt j hj).1)
   have hown2 : w1.ownsRow w.heap.size 5 1 (.slice (some ⟨g, 0, none⟩) (pre.length + 1) cap) (pre.length + 1) (Lib.byteCells (vput v)) := by
    have e : Lib.byteCells [UInt8.ofNat r] = [Value.int .u8 (r : Int)] := by
     simp [Lib.byteCells]; omega
    rw [HF.out, Lib.byteCells_append, e]; exact hown'
   have hlv : (vput v).length = pre.length + 1 := by rw [HF.out]; simp
   have hcv := run_convert_bytes_back (P := Tryz.prog) w1 83 9 5 ⟨g, 0, none⟩ cap (vput v) Tryz.underlying83 Tryz.underlying5 Tryz.underlying9
    (fun j hj => hown2.cells (g := g) rfl j _ (by simp [Lib.byteCells, hj]))
   rw [hlv] at hcv
   clear hown hown' hgrow hown2 hlv
   go_wp2
   go_ret
   exact ⟨rfl, hb1⟩
end Go.Proofs.YtlccihidedfemaaGreatDoor
set_option linter.unusedVariables false
namespace Go.Proofs.YtlccihidedfemaaGreatDoor
open Go.RowKit Go.Shelf
attribute [local go_sem] Oper.semAt_some
abbrev encB (c : UInt8) : Value := .int .u8 c.toNat
set_option maxHeartbeats 1000000 in
set_option maxRecDepth 100000 in
theorem numberBytes1_stops (F : Fence) (n : Nat) (hf : F.fn 161) (hro : F.round = none) (hn : 1 ≤ n) (Bn : Nat) (Kp : World → World → Prop) (v : Nat) (hv : U64 v) (w : World) (hB : Bn < w.heap.size)
  (hc : w.cell? ⟨Bn, 0, none⟩ = some (.int .u64 v)) :
  SeqStopsK F n Tryz.prog 161 #[.pointer (some ⟨Bn, 0, none⟩)] (fun c => #[encB c]) Kp (fun xs => xs = vput v) (fun pre => pre <+: vput v) (vput v).length w := fun l J Jx W hW hJ hJx hY h0 => by
 have hc1 : W.cell? ⟨Bn, 0, none⟩ = some (.int .u64 v) := (hW.cell (p := ⟨Bn, 0, none⟩) hB).trans hc
 refine callsIn_of_wp Tryz.func161 rfl hf ?_ hro
 simp only [Tryz.ntmps161, List.size_toArray, List.length_cons, List.length_nil, Nat.reduceAdd, Nat.reduceSub, Array.replicate_succ, Array.replicate_zero, List.push_toArray, List.append_toArray, List.nil_append, List.cons_append]
 gi_wp2
 gi_loopw [3] (fun p wr => ∃ (pre : List UInt8) (k r : Nat), p = .int .u64 r ∧ left v pre k r ∧ J pre wr)
  (fun p wr => (intOf p).toNat)
 case atStart =>
  exact ⟨[], 9, v, rfl, ⟨by unfold U64 at hv; omega, hv, rfl⟩, h0⟩
 case round =>
  obtain ⟨pre, k, r, rfl, hl, hJs⟩ := hrel
  have hu : U64 r := hl.2.1
  by_cases h : 128 ≤ r
  ·have hY1 := hY pre (UInt8.ofNat (r % 128 + 128)) wr hJs (by rw [hl.2.2, vputF_hi h]; simp)
   obtain ⟨fn, tmps, assign, body, hy, hR⟩ := hY1
   simp only [encB] at hy
   rw [← low_byte hu] at hy
   clear hY
   gi_wp2
   refine hR.mono ?_
   rintro e W3 (⟨rfl, hJ3, hk3⟩ | ⟨rfl, hJx3⟩)
   ·gi_wp2
    go_roundw
    case rel => 
     refine ⟨_, k - 1, r / 128, by go_num, left_step hl h, hJ3⟩
    case measure => simp [intOf]; omega
   ·gi_wp2
    refine bodyPost_ret (results_none rfl _ _ _) rfl ?_
    exact ⟨⟨_, rfl⟩, .inr ⟨_, left_pre hl h, hJx3⟩⟩
  ·have hlt : r < 128 := by omega
   have hY1 := hY pre (UInt8.ofNat r) wr hJs (by rw [hl.2.2, vputF_lo hlt]; simp)
   obtain ⟨fn, tmps, assign, body, hy, hR⟩ := hY1
   simp only [encB] at hy
   rw [last_byte hlt] at hy
   clear hY
   have hfin : vput v = pre ++ [UInt8.ofNat r] := by rw [hl.2.2, vputF_lo hlt]
   have Hfin := Lib.hid hfin; clear hfin
   gi_wp2
   refine hR.mono ?_
   rintro e W3 (⟨rfl, hJ3, hk3⟩ | ⟨rfl, hJx3⟩)
   ·gi_wp2
    go_end0
    exact ⟨⟨_, rfl⟩, .inl ⟨_, Hfin.out.symm, hJ3⟩⟩
   ·gi_wp2
    go_end0
    exact ⟨⟨_, rfl⟩, .inr ⟨_, by rw [Hfin.out]; exact List.prefix_refl _, hJx3⟩⟩
theorem numberBytes_any (v : Nat) (w : World) :
  Calls Tryz.prog 147 #[.int .u64 v] w fun e w' => e = .returned (.func (.func 161) #[] #[.pointer (some ⟨w.heap.size, 0, none⟩)]) ∧ w' = w.alloc (.cells #[.int .u64 v] 70) := by
 go_enter Tryz.func147, Tryz.ntmps147
 go_wp2
 go_ret
 exact ⟨rfl, rfl⟩
set_option maxRecDepth 100000 in
set_option maxHeartbeats 2000000 in
theorem Put_any (v : Nat) (hv : U64 v) (w : World) :
  Calls Tryz.prog 127 #[.int .u64 v] w fun e w' => e = .returned (.string ⟨(vput v).toArray⟩) ∧ Below w.heap.size w w' := by
 refine (callsIn_wide (n := 5)).1 ?_
 have hro : Fence.wide.round = none := rfl
 refine callsIn_of_wp_marks Tryz.func127 rfl trivial ?_ hro
 simp only [Tryz.ntmps127, List.size_toArray, List.length_cons, List.length_nil, Nat.reduceAdd, Nat.reduceSub, Array.replicate_succ, Array.replicate_zero, List.push_toArray, List.append_toArray, List.nil_append, List.cons_append]
 gi_wp2_with (refine ⟨trivial, ?_⟩; gi_at_call 147; refine (callsIn_wide.2 (numberBytes_any v _)).mono ?_; rintro e w' ⟨rfl, rfl⟩)
 have hc := (Boxed.new (w.alloc (.cells #[.pointer none, .slice none 0 0] 154)) 70 (.int .u64 v)).cell
 rw [World.size_alloc] at hc
 have hB0 : Below w.heap.size w ((w.alloc (.cells #[.pointer none, .slice none 0 0] 154)).alloc (.cells #[.int .u64 v] 70)) := ((Below.refl _ w).alloc (Nat.le_refl _) _).alloc (by simp) _
 have hI0 : Lib.IsBuilderF 154 5 w.heap.size w.heap.size [] ((w.alloc (.cells #[.pointer none, .slice none 0 0] 154)).alloc (.cells #[.int .u64 v] 70)) :=
  (Lib.IsBuilderF.of (Lib.fresh_isBuilder 154 5 w)).alloc _
 refine wpIn_rangeFunc_ownF hro (by decide) (gf := 161) (lb := #[.pointer (some ⟨w.heap.size + 1, 0, none⟩)]) rfl trivial (enters_of Tryz.func161 (by kernel_rfl) rfl)
  (numberBytes1_stops Fence.wide 4 trivial hro (by decide) (w.heap.size + 1) (Below w.heap.size) v hv _ (by simp) hc) belowK_t (belowK_b (by simp; omega)) (Below.refl _ _) (fun _ => rfl)
  (fun pre W => Lib.IsBuilderF 154 5 w.heap.size w.heap.size (Lib.byteCells pre) W ∧ Below w.heap.size w W)
  (fun _ _ _ => False)
  (OwnFrom.and (Own.from (isBuilderF_own 154 5 w.heap.size w.heap.size (fun pre : List UInt8 => Lib.byteCells pre)) _) (ownFrom_below (Nat.le_refl _) (by simp; omega)))
  (fun _ _ _ _ _ hs _ _ => hs)
  ⟨hI0, hB0⟩
  (fun x => { tmps := #[.int .u64 v, undef, .string { data := #[] }, .pointer (some ⟨w.heap.size, 0, none⟩), encB x, .int .u64 v, .func (.func 161) #[] #[.pointer (some ⟨w.heap.size + 1, 0, none⟩)], encB x, undef, undef, undef], defers := [] }) ?assign ?body ?done ?stop
 case assign =>
  intro l x W K hK
  gi_wp2
  exact hK
 case body =>
  rintro l pre x W ⟨hI, hB⟩ hlen
  have hl10 := vput_len v
  have hcc : (Lib.byteCells pre).length + 1 ≤ 140737488355328 := by rw [Lib.byteCells_length]; omega
  have hbw := hB.size
  gi_wp2_with (refine ⟨trivial, ?_⟩; gi_at_call 148; refine (CallsIn.inRound l (callsIn_wide.2 (WriteByte_k w.heap.size w.heap.size (Lib.byteCells pre) _ W hI hcc hbw))).mono ?_; rintro e w' ⟨rfl, hb', hbel, hoth⟩)
  refine ⟨keeps_of_others hoth hbel.size (isBuilderF_cells hI), hbel, .inr ?_, hB.trans hbel⟩
  rw [Lib.byteCells_append]; exact hb'
 case done =>
  rintro D xs W hD rfl ⟨hI, hB⟩ hK
  have hne : vput v ≠ [] := fun h => by have := vput_pos v; rw [h] at this; simp at this
  gi_wp2_with (refine ⟨trivial, ?_⟩; gi_at_call 128; refine (callsIn_wide.2 (String_full_k w.heap.size w.heap.size (vput v) W hI hne)).mono ?_; rintro e w' ⟨rfl, hI', hbel, hoth⟩)
  have hK' := hoth D _ hK (fun h => by cases h; obtain ⟨o, ho, hc⟩ := isBuilderF_cells hI; rw [hK] at ho; cases ho; cases hc) (fun _ _ h => by cases h)
  refine ⟨by simp, .inl ⟨_, _, rfl, run_takeDeferred hK', ?_⟩⟩
  exact ⟨_, results_tmp rfl _ _ _, rfl, (hB.trans hbel).trans (belowK_b (w := w) (Nat.le_refl _) w' D _ _ (by simp at hD; omega) hK' rfl rfl)⟩
 case stop =>
  rintro D c pre W _ _ h _
  exact h.elim
end Go.Proofs.YtlccihidedfemaaGreatDoor
set_option linter.unusedVariables false
namespace Go.Proofs.YtlccihidedfemaaGreatDoor
open Go.RowKit
theorem bytes_append (a : List UInt8) (s : ByteArray) : (⟨a.toArray⟩ : ByteArray) ++ s = ⟨(a ++ s.data.toList).toArray⟩ := by
 apply ByteArray.ext
 rw [ByteArray.data_append]
 simp
set_option maxRecDepth 100000 in
theorem PutText_any (s : ByteArray) (hs : s.size ≤ maxLen) (w : World) :
  Calls Tryz.prog 129 #[.string s] w fun e w' => e = .returned (.string ⟨(vputText s.data.toList).toArray⟩) ∧ Below w.heap.size w w' := by
 have hsm : s.size ≤ 9223372036854775807 := by unfold maxLen at hs; omega
 have HS := Lib.hid (Lib.size_eq s)
 by_cases h : s.size ≤ 65536
 ·have hu : U64 s.size := by unfold U64; omega
  have hv : vputText s.data.toList = vput s.size ++ s.data.toList := by rw [vputText, if_neg (by rw [← HS.out]; omega), ← HS.out]
  have HV := Lib.hid hv; clear hv
  have hl := vput_len s.size
  have hsum : ¬ 9223372036854775807 < (vput s.size).length + s.size := by omega
  go_enter Tryz.func129, Tryz.ntmps129
  go_wp2_with (go_at_call 127; refine (Put_any _ hu _).mono ?_; rintro e w' ⟨rfl, hb⟩)
  go_ret
  exact ⟨by rw [HV.out]; exact congrArg (fun x => Ending.returned (.string x)) (bytes_append _ s), hb⟩
 ·have hv : vputText s.data.toList = [] := by rw [vputText, if_pos (by rw [← HS.out]; omega)]
  have HV := Lib.hid hv; clear hv
  go_enter Tryz.func129, Tryz.ntmps129
  go_wp2
  go_ret
  exact ⟨by rw [HV.out]; rfl, Below.refl _ _⟩
set_option maxRecDepth 100000 in
theorem refPutText_any (s : ByteArray) (hs : s.size ≤ maxLen) (w : World) :
  Calls Tryz.prog 72 #[.string s] w fun e w' => e = .returned (.string ⟨(vputText s.data.toList).toArray⟩) ∧ Below w.heap.size w w' := by
 have hsm : s.size ≤ 9223372036854775807 := by unfold maxLen at hs; omega
 have HS := Lib.hid (Lib.size_eq s)
 by_cases h : s.size ≤ 65536
 ·have hu : U64 s.size := by unfold U64; omega
  have hv : vputText s.data.toList = vput s.size ++ s.data.toList := by rw [vputText, if_neg (by rw [← HS.out]; omega), ← HS.out]
  have HV := Lib.hid hv; clear hv
  have hl := vput_len s.size
  have hsum : ¬ 9223372036854775807 < (vput s.size).length + s.size := by omega
  go_enter Tryz.func72, Tryz.ntmps72
  go_wp2_with (go_at_call 71; refine (refPut_any _ hu _).mono ?_; rintro e w' ⟨rfl, hb⟩)
  go_ret
  exact ⟨by rw [HV.out]; exact congrArg (fun x => Ending.returned (.string x)) (bytes_append _ s), hb⟩
 ·have hv : vputText s.data.toList = [] := by rw [vputText, if_pos (by rw [← HS.out]; omega)]
  have HV := Lib.hid hv; clear hv
  go_enter Tryz.func72, Tryz.ntmps72
  go_wp2
  go_ret
  exact ⟨by rw [HV.out]; rfl, Below.refl _ _⟩
def appT (j : Nat) (R : World → World → Prop) (i : Nat) (w w' : World) : Prop := if i = j then R w w' else Below w.heap.size w w'
theorem appT_at {j : Nat} {R : World → World → Prop} {w w' : World} (h : R w w') : appT j R j w w' := by unfold appT; rw [if_pos rfl]; exact h
theorem appT_in {j : Nat} {R : World → World → Prop} {w w' : World} (h : appT j R j w w') : R w w' := by unfold appT at h; rw [if_pos rfl] at h; exact h
theorem appT_other {j i : Nat} {R : World → World → Prop} {w w' : World} (hi : i ≠ j) (h : Below w.heap.size w w') : appT j R i w w' := by unfold appT; rw [if_neg hi]; exact h
theorem appT_out {j i : Nat} {R : World → World → Prop} {w w' : World} (hi : i ≠ j) (h : appT j R i w w') : Below w.heap.size w w' := by unfold appT at h; rw [if_neg hi] at h; exact h
def allT (_ : Nat) (w w' : World) : Prop := Below w.heap.size w w'
theorem wp_callx {P : Program} {o : Oper} {a : Act} {w : World} {K : Act → World → Prop} {Q : Exit → Act → World → Prop} (f : FuncId) (args : Array Operand) (tys : Array TypeId) (ho : o.op = .call { callee := .value (.func f), args := args, argTypes := tys })
  (hen : ∀ xs w, (callFunc f xs).run P w = .ok (.enter f xs) w) (xs : Array Value) (hxs : args.map a.eval = xs) {R : Value → World → Prop} (h : Calls P f xs w fun e w' => ∃ v, e = .returned v ∧ R v w') (hk : ∀ v w', R v w' → K (a.put o.dst v) w') : o.wp P a w K Q := by
 unfold Oper.wp execOp
 simp only [ho]
 simp [hxs, go_sem, hen]
 refine h.mono ?_
 rintro e w' ⟨v, rfl, hr⟩
 exact hk v w' hr
def appTs (l : List Nat) (R : Nat → World → World → Prop) (i : Nat) (w w' : World) : Prop := if i ∈ l then R i w w' else Below w.heap.size w w'
theorem appTs_at {l : List Nat} {R : Nat → World → World → Prop} {i : Nat} {w w' : World} (hi : i ∈ l) (h : R i w w') : appTs l R i w w' := by unfold appTs; rw [if_pos hi]; exact h
theorem appTs_in {l : List Nat} {R : Nat → World → World → Prop} {i : Nat} {w w' : World} (hi : i ∈ l) (h : appTs l R i w w') : R i w w' := by unfold appTs at h; rw [if_pos hi] at h; exact h
theorem appTs_other {l : List Nat} {R : Nat → World → World → Prop} {i : Nat} {w w' : World} (hi : i ∉ l) (h : Below w.heap.size w w') : appTs l R i w w' := by unfold appTs; rw [if_neg hi]; exact h
theorem appTs_out {l : List Nat} {R : Nat → World → World → Prop} {i : Nat} {w w' : World} (hi : i ∉ l) (h : appTs l R i w w') : Below w.heap.size w w' := by unfold appTs at h; rw [if_neg hi] at h; exact h
set_option maxRecDepth 100000 in
set_option maxHeartbeats 1000000 in
theorem size43 : (Tryz.prog.info? 116).map (·.size) = some 64 := by kernel_rfl
theorem size24 : (Tryz.prog.info? 87).map (·.size) = some 8 := by kernel_rfl
theorem zero43 : (Tryz.prog.info? 116).bind (fun i => i.zero.map (·.cells)) = some (zrow 64) := by kernel_rfl
theorem zero24 : (Tryz.prog.info? 87).bind (fun i => i.zero.map (·.cells)) = some (zrow 8) := by kernel_rfl
def kint : List Int := [1116352408, 1899447441, 3049323471, 3921009573, 961987163, 1508970993, 2453635748, 2870763221, 3624381080, 310598401, 607225278, 1426881987, 1925078388, 2162078206, 2614888103, 3248222580, 3835390401, 4022224774, 264347078, 604807628, 770255983, 1249150122, 1555081692, 1996064986, 2554220882, 2821834349, 2952996808, 3210313671, 3336571891, 3584528711, 113926993, 338241895, 666307205, 773529912, 1294757372, 1396182291, 1695183700, 1986661051, 2177026350, 2456956037, 2730485921, 2820302411, 3259730800, 3345764771, 3516065817, 3600352804, 4094571909, 275423344, 430227734, 506948616, 659060556, 883997877, 958139571, 1322822218, 1537002063, 1747873779, 1955562222, 2024104815, 2227730452, 2361852424, 2428436474, 2756734187, 3204031479, 3329325298]
theorem kint_eq : (kint.map (Value.int .u32)).toArray = numV ktab := by kernel_rfl
theorem ktab_len : ktab.length = 64 := rfl
set_option maxRecDepth 100000 in
set_option maxHeartbeats 1000000 in
theorem constants_any (w : World) : Calls Tryz.prog 183 #[] w fun e w' => e = .returned (.agg (numV ktab)) ∧ Below w.heap.size w w' := by
 go_enter Tryz.func183, Tryz.ntmps183
 go_wp2_with (first
  | refine wpList_alloc_zero rfl _ rfl _ zero43 ?_
  | (refine Great.wpList_buildFlatArr rfl 116 85 64 _ rfl .u32 kint Tryz.underlying116 (by kernel_rfl) (by kernel_rfl) (by kernel_rfl) ?_; rw [kint_eq])
  | refine wpList_store_row rfl 116 _ _ rfl w.heap.size (numV ktab) rfl rfl 116 (zrow 64) (heap_alloc_new _ _) (by rw [numV_size]; exact size43) (by rw [numV_size]; kernel_rfl) (numV_one _) ?_)
 refine bodyPost_ret (v := .agg (numV ktab)) (results_cell_row rfl _ _ w.heap.size 116 (numV ktab) (0, 0) _ rfl (setRow_heap _ _ (zrow 64) _ _ _ (heap_alloc_new _ _)) Tryz.underlying116 rfl (by rw [numV_size]; kernel_rfl)) rfl ⟨rfl, below_setRow ((Below.refl _ _).alloc (Nat.le_refl _) _) (Nat.le_refl _) _⟩
set_option maxRecDepth 100000 in
set_option maxHeartbeats 1000000 in
theorem refConstants_any (w : World) : Calls Tryz.prog 74 #[] w fun e w' => e = .returned (.agg (numV ktab)) ∧ Below w.heap.size w w' := by
 go_enter Tryz.func74, Tryz.ntmps74
 go_wp2_with (first
  | refine wpList_alloc_zero rfl _ rfl _ zero43 ?_
  | (refine Great.wpList_buildFlatArr rfl 116 85 64 _ rfl .u32 kint Tryz.underlying116 (by kernel_rfl) (by kernel_rfl) (by kernel_rfl) ?_; rw [kint_eq])
  | refine wpList_store_row rfl 116 _ _ rfl w.heap.size (numV ktab) rfl rfl 116 (zrow 64) (heap_alloc_new _ _) (by rw [numV_size]; exact size43) (by rw [numV_size]; kernel_rfl) (numV_one _) ?_)
 refine bodyPost_ret (v := .agg (numV ktab)) (results_cell_row rfl _ _ w.heap.size 116 (numV ktab) (0, 0) _ rfl (setRow_heap _ _ (zrow 64) _ _ _ (heap_alloc_new _ _)) Tryz.underlying116 rfl (by rw [numV_size]; kernel_rfl)) rfl ⟨rfl, below_setRow ((Below.refl _ _).alloc (Nat.le_refl _) _) (Nat.le_refl _) _⟩
set_option maxRecDepth 100000 in
set_option maxHeartbeats 1000000 in
theorem First_any (w : World) : Calls Tryz.prog 140 #[] w fun e w' => e = .returned (.agg (numV first.list)) ∧ Below w.heap.size w w' := by
 go_enter Tryz.func140, Tryz.ntmps140
 go_wp2_with (first
  | refine wpList_alloc_zero rfl _ rfl _ zero24 ?_
  | refine wpList_store_row rfl 87 _ _ rfl w.heap.size (numV first.list) rfl rfl 87 (zrow 8) (heap_alloc_new _ _) (by rw [numV_size]; exact size24) (by rw [numV_size]; kernel_rfl) (numV_one _) ?_)
 refine bodyPost_ret (v := .agg (numV first.list)) (results_cell_row rfl _ _ w.heap.size 87 (numV first.list) (0, 0) _ rfl (setRow_heap _ _ (zrow 8) _ _ _ (heap_alloc_new _ _)) Tryz.underlying87 rfl (by rw [numV_size]; kernel_rfl)) rfl ⟨rfl, below_setRow ((Below.refl _ _).alloc (Nat.le_refl _) _) (Nat.le_refl _) _⟩
set_option maxRecDepth 100000 in
set_option maxHeartbeats 1000000 in
theorem refFirst_any (w : World) : Calls Tryz.prog 44 #[] w fun e w' => e = .returned (.agg (numV first.list)) ∧ Below w.heap.size w w' := by
 go_enter Tryz.func44, Tryz.ntmps44
 go_wp2_with (first
  | refine wpList_alloc_zero rfl _ rfl _ zero24 ?_
  | refine wpList_store_row rfl 87 _ _ rfl w.heap.size (numV first.list) rfl rfl 87 (zrow 8) (heap_alloc_new _ _) (by rw [numV_size]; exact size24) (by rw [numV_size]; kernel_rfl) (numV_one _) ?_)
 refine bodyPost_ret (v := .agg (numV first.list)) (results_cell_row rfl _ _ w.heap.size 87 (numV first.list) (0, 0) _ rfl (setRow_heap _ _ (zrow 8) _ _ _ (heap_alloc_new _ _)) Tryz.underlying87 rfl (by rw [numV_size]; kernel_rfl)) rfl ⟨rfl, below_setRow ((Below.refl _ _).alloc (Nat.le_refl _) _) (Nat.le_refl _) _⟩
end Go.Proofs.YtlccihidedfemaaGreatDoor

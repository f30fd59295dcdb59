/-
  Regions that draw their order, with guarded operations: one proof an operation, by words on values. A guarded operation leans on the word of its guard, and says whether it is wanted. Of no program.
-/
import Derived.Test.YtohicccbaenegaaDoorRly
set_option linter.unusedVariables false
namespace Go.Proofs.YtohicccbaenegaaDoor
open Go Go.RowKit

section
variable {P : Program} {ops : Array Oper} {Q : Exit → Act → World → Prop}
/-- The edges lead back, no slot is written twice. -/
def relyGB (ops : Array Oper) (n : Nat) : Bool :=
  (List.range ops.size).all fun i => (predsOf ops i).all (· < i) &&
    (((ops[i]?).bind (·.dst)).map fun t => decide (t < n) && (List.range ops.size).all fun k => k == i || !(((ops[k]?).bind (·.dst)) == some t)).getD true

/-- ONE PROOF AN OPERATION, WHATEVER THE ORDER. Words with numbers from the region's size on hold ahead of it. -/
theorem wp_any_relyG {a0 : Act} {w0 : World} (hB : relyGB ops a0.tmps.size = true) (T : Nat → World → World → Prop) (G : World → Prop) (V : Nat → Act → World → Prop)
    (m : Nat) (needs : Nat → List Nat) (last : List Nat) (dep : Nat → List Tmp) (hL : leanA ops m needs last dep = true) (hneeds : ∀ i k, k ∈ needs i → k < m)
    (hdep : ∀ k a a' w, k < m → (∀ t ∈ dep k, slot a' t = slot a t) → V k a w → V k a' w)
    (hT : ∀ i k a w w', i < ops.size → k < m → k ≠ i → keptA ops needs last i k = true → i ∉ ancOf ops 3 k → V k a w → T i w w' → V k a w')
    (hG : G { w0 with drawn := w0.drawn + 1 }) (hV0 : ∀ k, k < m → ops.size ≤ k → V k a0 { w0 with drawn := w0.drawn + 1 })
    (step : ∀ i (hi : i < ops.size) a w, G w → (∀ k ∈ needs i, V k a w) → (∀ t, (∀ k, dstOf ops k = some t → i ∈ predsOf ops k) → slot a t = slot a0 t) → a.tmps.size = a0.tmps.size →
      (Region.wanted (ops[i]) (yielded ops a.tmps) = true ∧ (ops[i]).wp P a w (fun a' w' => ∃ v, a' = a.put (ops[i]).dst v ∧ T i w w' ∧ G w' ∧ V i a' w') Q) ∨
        (Region.wanted (ops[i]) (yielded ops a.tmps) = false ∧ T i w w ∧ V i (a.put (ops[i]).dst undef) w))
    (done : ∀ a w, G w → (∀ k ∈ last, k < m → V k a w) → (∀ t, (∀ k : Nat, dstOf ops k ≠ some t) → slot a t = slot a0 t) → a.tmps.size = a0.tmps.size → a.defers = a0.defers → Q .normal a w) :
    wpAny P .any ops Q ops.size (Array.replicate ops.size false) a0 { w0 with drawn := w0.drawn + 1 } := by
  have hB' : ∀ i, i < ops.size → (∀ j ∈ predsOf ops i, j < i) ∧
      (((ops[i]?).bind (·.dst)).map fun t => decide (t < a0.tmps.size) && (List.range ops.size).all fun k => k == i || !(((ops[k]?).bind (·.dst)) == some t)).getD true = true := by
    intro i hi
    have := (List.all_eq_true.1 hB) i (List.mem_range.2 hi)
    simp only [Bool.and_eq_true] at this
    obtain ⟨h1, h3⟩ := this
    exact ⟨fun j hj => by simpa using (List.all_eq_true.1 h1) j hj, h3⟩
  have hL' : ∀ i, i < ops.size → (∀ k ∈ needs i, ops.size ≤ k ∨ k ∈ ancOf ops 3 i) ∧ ∀ k, k < m → k ≠ i → i ∉ ancOf ops 3 k → keptA ops needs last i k = true → ∀ t, dstOf ops i = some t → t ∉ dep k := by
    intro i hi
    have := (List.all_eq_true.1 hL) i (List.mem_range.2 hi)
    rw [Bool.and_eq_true] at this
    obtain ⟨h1, h2⟩ := this
    refine ⟨fun k hk => by simpa using (List.all_eq_true.1 h1) k hk, fun k hk hki hip hke t ht => ?_⟩
    have h3 := (List.all_eq_true.1 h2) k (List.mem_range.2 hk)
    have hip' : (ancOf ops 3 k).contains i = false := by simpa using hip
    have hki' : (k == i) = false := by simpa using hki
    rw [hke, hip', hki', ht] at h3
    simpa using h3
  have key : ∀ fuel listed a w, unl ops.size listed ≤ fuel → RelyInv ops m a0 G V needs last listed a w → wpAny P .any ops Q fuel listed a w := by
    intro fuel
    have fin : ∀ listed a w, RelyInv ops m a0 G V needs last listed a w → (∀ i, i < ops.size → listed.getD i false = true) → Q .normal a w := fun listed a w I hall =>
      done a w I.g (fun k hk hkm => I.val k hkm (by
        rcases Nat.lt_or_ge k ops.size with h | h
        · exact .inr (hall k h)
        · exact .inl h) (.inl hk)) (fun t ht => I.old t fun k hk => absurd hk (ht k)) I.size I.defers
    induction fuel with
    | zero =>
      intro listed a w hu I
      have hall := fun i hi => unl_zero (Nat.le_zero.1 hu) i hi
      refine ⟨?_, fin listed a w I hall⟩
      apply List.eq_nil_iff_forall_not_mem.2
      intro i hi
      obtain ⟨h1, h2, _⟩ := ready_spec hi I.len
      rw [hall i h1] at h2; cases h2
    | succ fuel ih =>
      intro listed a w hu I
      refine ⟨fun hr => fin listed a w I (all_listed I.len (fun i hi => (hB' i hi).1) hr), fun i hi => ?_⟩
      obtain ⟨h1, h2, h3⟩ := ready_spec hi I.len
      have hil : i < listed.size := by rw [I.len]; exact h1
      have hst := step i h1 a w I.g (fun k hk => I.val k (hneeds i k hk) (((hL' i h1).1 k hk).imp (fun h => h) (anc_listed I.closed 3 i h3 k)) (.inr ⟨i, h1, h2, hk⟩)) (fun t ht => I.old t fun k hk => by
        by_cases hc : listed.getD k false = true
        · have := I.closed k hc i (ht k hk)
          rw [h2] at this; cases this
        · simpa using hc) I.size
      have next : ∀ v w', T i w w' → G w' → V i (a.put (ops[i]).dst v) w' → wpAny P .any ops Q fuel (listed.setIfInBounds i true) (a.put (ops[i]).dst v) w' := by
        intro v w' hTi hG' hv
        refine ih _ _ _ (by have := unl_set h1 hil h2; omega) ⟨hG', by rw [defers_put]; exact I.defers, by rw [size_put]; exact I.size, by simp [I.len], ?_, ?_, ?_⟩
        · intro k hkm hkl hkn
          by_cases e : k = i
          · subst e; exact hv
          · have hkl' : ops.size ≤ k ∨ listed.getD k false = true := hkl.imp (fun h => h) fun h => by rwa [getD_set _ _ _ hil, if_neg e] at h
            have hip : i ∉ ancOf ops 3 k := fun hip => by
              rcases hkl' with h | h
              · have e0 : predsOf ops k = [] := by unfold predsOf; rw [Array.getElem?_eq_none h]; rfl
                simp [ancOf, e0] at hip
              · have := anc_listed I.closed 3 k (I.closed k h) i hip
                rw [h2] at this; cases this
            have hkn' : (k ∈ last ∨ ∃ j, j < ops.size ∧ listed.getD j false = false ∧ k ∈ needs j) ∧ keptA ops needs last i k = true := by
              rcases hkn with h | ⟨j, hj, hjl, hjk⟩
              · exact ⟨.inl h, by simp [keptA, h]⟩
              · rw [getD_set _ _ _ hil] at hjl
                split at hjl
                · cases hjl
                · rename_i hji
                  refine ⟨.inr ⟨j, hj, hjl, hjk⟩, ?_⟩
                  unfold keptA
                  rw [Bool.or_eq_true]
                  right
                  rw [List.any_eq_true]
                  have hja : j ∉ ancOf ops 3 i := fun h => by
                    have := anc_listed I.closed 3 i h3 j h
                    rw [hjl] at this; cases this
                  exact ⟨j, List.mem_range.2 hj, by simp [hji, hjk, hja]⟩
            refine hdep k a _ w' hkm (fun t ht => slot_put_other _ _ _ _ fun hd => (hL' i h1).2 k hkm e hip hkn'.2 t (by unfold dstOf; rw [Array.getElem?_eq_getElem h1]; exact hd) ht) ?_
            exact hT i k a w w' h1 hkm e hkn'.2 hip (I.val k hkm hkl' hkn'.1) hTi
        · intro t ht
          rw [slot_put_other _ _ _ _ (fun hd => by
            have := ht i (by unfold dstOf; rw [Array.getElem?_eq_getElem h1]; exact hd)
            rw [getD_set _ _ _ hil, if_pos rfl] at this; cases this)]
          exact I.old t fun k hk => by
            have := ht k hk
            rw [getD_set _ _ _ hil] at this
            split at this
            · cases this
            · exact this
        · intro k hkl j hj
          rw [getD_set _ _ _ hil]
          split
          · rfl
          · rename_i hji
            rw [getD_set _ _ _ hil] at hkl
            split at hkl
            · rename_i hki; subst hki; exact h3 j hj
            · exact I.closed k hkl j hj
      unfold wpOp
      rw [Array.getElem?_eq_getElem h1]
      rcases hst with ⟨hw, hst⟩ | ⟨hw, hTi, hv⟩
      · simp only [hw, if_true]
        refine .inl (Oper.wp_mono ?_ hst)
        rintro a' w' ⟨v, rfl, hTi, hG', hv⟩
        exact next v w' hTi hG' hv
      · simp only [hw, Bool.false_eq_true, if_false]
        exact next undef w hTi I.g hv
  refine key _ _ _ _ ?_ ⟨hG, rfl, rfl, by simp, ?_, fun t _ => rfl, ?_⟩
  · unfold unl
    exact Nat.le_trans (List.countP_le_length) (by simp)
  · intro k hkm h _
    rcases h with h | h
    · exact hV0 k hkm h
    · simp [Array.getElem?_replicate] at h
      split at h <;> simp at h
  · intro k h
    simp [Array.getElem?_replicate] at h
    split at h <;> simp at h
/-- A word speaks of the operation's own slot, and of one more slot ('ex'). -/
def exV (ex : Nat → Option Tmp) (k : Nat) (a : Act) : Value := ((ex k).map (slot a)).getD undef
def wordE (ops : Array Oper) (ex : Nat → Option Tmp) (U : Nat → Value → Value → World → Prop) (k : Nat) (a : Act) (w : World) : Prop := U k (((dstOf ops k).map (slot a)).getD undef) (exV ex k a) w
def depE (ops : Array Oper) (ex : Nat → Option Tmp) (k : Nat) : List Tmp := (dstOf ops k).toList ++ (ex k).toList
/-- What is asked of an operation. -/
def StepG (P : Program) (ops : Array Oper) (Q : Exit → Act → World → Prop) (a0 : Act) (T : Nat → World → World → Prop) (G : World → Prop) (ex : Nat → Option Tmp) (U : Nat → Value → Value → World → Prop) (nl : List (List Nat)) (i : Nat) (o : Oper) : Prop :=
  ∀ a w, G w → (∀ k ∈ needL nl i, wordE ops ex U k a w) → (∀ t, oldB ops i t = true → slot a t = slot a0 t) →
    (Region.wanted o (yielded ops a.tmps) = true ∧ o.wp P a w (fun a' w' => ∃ v, a' = a.put o.dst v ∧ T i w w' ∧ G w' ∧ U i (if o.dst.isSome then v else undef) (exV ex i a) w') Q) ∨ (Region.wanted o (yielded ops a.tmps) = false ∧ T i w w ∧ U i undef (exV ex i a) w)
theorem wp_any_wordsG {a0 : Act} {w0 : World} (hB : relyGB ops a0.tmps.size = true)
    (T : Nat → World → World → Prop) (G : World → Prop) (ex : Nat → Option Tmp) (U : Nat → Value → Value → World → Prop) (m : Nat) (nl : List (List Nat)) (last : List Nat) (hb : boundL nl m = true) (hL : leanA ops m (needL nl) last (depE ops ex) = true)
    (hex : ((List.range m).all fun k => (dstOf ops k).isNone || (ex k).isNone || !(dstOf ops k == ex k)) = true)
    (bad : List (Nat × Nat)) (hbad : (bad.all fun x => !keptA ops (needL nl) last x.1 x.2 || (ancOf ops 3 x.2).contains x.1) = true) (hT : ∀ i k v e w w', i < ops.size → k < m → k ≠ i → (i, k) ∉ bad → U k v e w → T i w w' → U k v e w') (hm2 : ops.size ≤ m)
    (hG : G { w0 with drawn := w0.drawn + 1 }) (hV0 : ∀ k, k < m → ops.size ≤ k → U k undef (exV ex k a0) { w0 with drawn := w0.drawn + 1 })
    (ds : List Tmp) (hds : dstsOf ops = ds) (step : ∀ i (hi : i < ops.size), StepG P ops Q a0 T G ex U nl i ops[i])
    (done : ∀ a w, G w → (∀ k ∈ last, k < m → wordE ops ex U k a w) → a.tmps.size = a0.tmps.size → a = ⟨(patchL ds (slot a) 0 a0.tmps.toList).toArray, a0.defers⟩ → Q .normal a w) :
    wpAny P .any ops Q ops.size (Array.replicate ops.size false) a0 { w0 with drawn := w0.drawn + 1 } := by
  subst hds
  refine wp_any_relyG hB T G (wordE ops ex U) m (needL nl) last (depE ops ex) hL (needL_bound hb) ?_ (fun i k a w w' hi hk hne hke hip h hTi => hT i k _ _ w w' hi hk hne (fun hx => by have := (List.all_eq_true.1 hbad) _ hx; simp [hke] at this; exact hip this) h hTi) hG ?_ ?_ ?_
  · intro k a a' w hk h hv
    have h1 : ((dstOf ops k).map (slot a')).getD undef = ((dstOf ops k).map (slot a)).getD undef := by
      cases hd : dstOf ops k with
      | none => rfl
      | some t => simp only [Option.map_some, Option.getD_some]; exact h t (by simp [depE, hd])
    have h2 : exV ex k a' = exV ex k a := by
      unfold exV
      cases hd : ex k with
      | none => rfl
      | some t => simp only [Option.map_some, Option.getD_some]; exact h t (by simp [depE, hd])
    unfold wordE at hv ⊢
    rw [h1, h2]; exact hv
  · intro k hk hge
    unfold wordE
    have : dstOf ops k = none := by unfold dstOf; rw [Array.getElem?_eq_none hge]; rfl
    rw [this]; exact hV0 k hk hge
  · intro i hi a w hGw hN hO hS
    have fin : ∀ v w', U i (if (ops[i]).dst.isSome then v else undef) (exV ex i a) w' → wordE ops ex U i (a.put (ops[i]).dst v) w' := by
      intro v w' h3
      have hd : dstOf ops i = ops[i].dst := by unfold dstOf; rw [Array.getElem?_eq_getElem hi]; rfl
      have h4 : exV ex i (a.put (ops[i]).dst v) = exV ex i a := by
        unfold exV
        cases he : ex i with
        | none => rfl
        | some t =>
          simp only [Option.map_some, Option.getD_some]
          refine slot_put_other _ _ _ _ fun hdt => ?_
          have := (List.all_eq_true.1 hex) i (List.mem_range.2 (by omega))
          rw [hd, hdt, he] at this
          simp at this
      unfold wordE
      rw [hd, h4]
      cases ht : ops[i].dst with
      | none => rw [ht] at h3; exact h3
      | some t =>
        rw [ht] at h3
        have hlt : t < a0.tmps.size := by
          have := (List.all_eq_true.1 hB) i (List.mem_range.2 hi)
          simp only [Bool.and_eq_true] at this
          have h5 := this.2
          have hd' : (ops[i]?).bind (·.dst) = some t := by rw [Array.getElem?_eq_getElem hi]; exact ht
          rw [hd'] at h5
          simp only [Option.map_some, Option.getD_some, Bool.and_eq_true, decide_eq_true_eq] at h5
          exact h5.1
        simp only [Option.map_some, Option.getD_some]
        rw [slot_put_same _ _ _ (by rw [hS]; exact hlt)]
        exact h3
    rcases step i hi a w hGw hN (fun t ht => hO t (old_of ht)) with ⟨hw, hst⟩ | ⟨hw, h1, h3⟩
    · refine .inl ⟨hw, Oper.wp_mono ?_ hst⟩
      rintro a' w' ⟨v, rfl, h1, h2, h3⟩
      exact ⟨v, rfl, h1, h2, fin v w' h3⟩
    · exact .inr ⟨hw, h1, fin undef w (by split <;> exact h3)⟩
  · intro a w hGw hV hO hS hD
    exact done a w hGw hV hS (act_patch _ hS hD (fun t ht => hO t (free_of ht)))
end

section
variable {P : Program} {ops : Array Oper} {Q : Exit → Act → World → Prop} {a0 : Act} {T : Nat → World → World → Prop} {G : World → Prop} {ex : Nat → Option Tmp} {U : Nat → Value → Value → World → Prop} {nl : List (List Nat)} {i : Nat} {o : Oper}
/-- An operation that runs. -/
def StepR (P : Program) (ops : Array Oper) (Q : Exit → Act → World → Prop) (a0 : Act) (T : Nat → World → World → Prop) (G : World → Prop) (ex : Nat → Option Tmp) (U : Nat → Value → Value → World → Prop) (nl : List (List Nat)) (i : Nat) (o : Oper) : Prop :=
  ∀ a w, G w → (∀ k ∈ needL nl i, wordE ops ex U k a w) → (∀ t, oldB ops i t = true → slot a t = slot a0 t) →
    o.wp P a w (fun a' w' => ∃ v, a' = a.put o.dst v ∧ T i w w' ∧ G w' ∧ U i (if o.dst.isSome then v else undef) (exV ex i a) w') Q
/-- An operation without a guard. -/
theorem stepG_of (hg : o.guard = none) (h : StepR P ops Q a0 T G ex U nl i o) : StepG P ops Q a0 T G ex U nl i o := fun a w hG hN hO => .inl ⟨by unfold Region.wanted; rw [hg], h a w hG hN hO⟩
theorem yields_word {j : Nat} {a : Act} {w : World} {b : Bool} (hj : wordE ops ex U j a w) (hU : ∀ v e w, U j v e w → v = .bool b) : yielded ops a.tmps j = some b := by
  have h := hU _ _ _ hj
  unfold yielded
  have hd : (ops[j]?).bind (·.dst) = dstOf ops j := rfl
  rw [hd]
  cases ht : dstOf ops j with
  | none => rw [ht] at h; cases h
  | some t =>
    rw [ht] at h
    simp only [Option.map_some, Option.getD_some, slot, Array.getD_eq_getD_getElem?] at h
    simp only [Option.bind_some]
    cases hv : a.tmps[t]? with
    | none => rw [hv] at h; cases h
    | some v => rw [hv] at h; simp only [Option.getD_some] at h; rw [h]
/-- An operation whose guard lets it run. -/
theorem stepG_on {j : Nat} {b : Bool} (hg : o.guard = some (j, b)) (hj : j ∈ needL nl i) (hU : ∀ v e w, U j v e w → v = .bool b) (h : StepR P ops Q a0 T G ex U nl i o) : StepG P ops Q a0 T G ex U nl i o := fun a w hG hN hO => .inl ⟨by
      unfold Region.wanted; rw [hg]; simp only [yields_word (hN j hj) hU]; simp, h a w hG hN hO⟩
/-- An operation whose guard passes it over. -/
theorem stepG_off {j : Nat} {b : Bool} (hg : o.guard = some (j, b)) (hj : j ∈ needL nl i) (hU : ∀ v e w, U j v e w → v = .bool (!b)) (hTr : ∀ w, T i w w) (hUi : ∀ e w, G w → U i undef e w) : StepG P ops Q a0 T G ex U nl i o := fun a w hG hN hO => .inr ⟨by
      unfold Region.wanted; rw [hg]; simp only [yields_word (hN j hj) hU]; cases b <;> simp, hTr w, hUi _ w hG⟩
/-- An operation that only reckons or reads. -/
theorem stepR_value {t : Tmp} (v : Value) (hd : o.dst = some t) (hTr : ∀ w, T i w w)
    (hrun : ∀ a w, G w → (∀ k ∈ needL nl i, wordE ops ex U k a w) → (∀ t, oldB ops i t = true → slot a t = slot a0 t) → (execOp a.eval o).run P w = .ok (.value v) w)
    (hU : ∀ a w, G w → (∀ k ∈ needL nl i, wordE ops ex U k a w) → U i v (exV ex i a) w) : StepR P ops Q a0 T G ex U nl i o := by
  intro a w hG hN hO
  exact wp_value (hrun a w hG hN hO) ⟨v, rfl, hTr w, hG, by rw [hd]; exact hU a w hG hN⟩
end
variable {P : Program} {ops : Array Oper} {Q : Exit → Act → World → Prop}
theorem wp_region_wordsG {id : Nat} {a0 : Act} {w0 : World} (hm : P.follows .mixedOrders = true) (hB : relyGB ops a0.tmps.size = true)
    (T : Nat → World → World → Prop) (G : World → Prop) (ex : Nat → Option Tmp) (U : Nat → Value → Value → World → Prop) (m : Nat) (nl : List (List Nat)) (last : List Nat) (hb : boundL nl m = true) (hL : leanA ops m (needL nl) last (depE ops ex) = true)
    (hex : ((List.range m).all fun k => (dstOf ops k).isNone || (ex k).isNone || !(dstOf ops k == ex k)) = true)
    (bad : List (Nat × Nat)) (hbad : (bad.all fun x => !keptA ops (needL nl) last x.1 x.2 || (ancOf ops 3 x.2).contains x.1) = true) (hT : ∀ i k v e w w', i < ops.size → k < m → k ≠ i → (i, k) ∉ bad → U k v e w → T i w w' → U k v e w') (hm2 : ops.size ≤ m)
    (hG : G { w0 with drawn := w0.drawn + 1 }) (hV0 : ∀ k, k < m → ops.size ≤ k → U k undef (exV ex k a0) { w0 with drawn := w0.drawn + 1 })
    (ds : List Tmp) (hds : dstsOf ops = ds) (step : ∀ i (hi : i < ops.size), StepG P ops Q a0 T G ex U nl i ops[i])
    (done : ∀ a w, G w → (∀ k ∈ last, k < m → wordE ops ex U k a w) → a.tmps.size = a0.tmps.size → a = ⟨(patchL ds (slot a) 0 a0.tmps.toList).toArray, a0.defers⟩ → Q .normal a w) :
    (Code.region id ops true).wp P Q a0 w0 :=
  wp_region_any hm (wp_any_wordsG hB T G ex U m nl last hb hL hex bad hbad hT hm2 hG hV0 ds hds step done)
end Go.Proofs.YtohicccbaenegaaDoor

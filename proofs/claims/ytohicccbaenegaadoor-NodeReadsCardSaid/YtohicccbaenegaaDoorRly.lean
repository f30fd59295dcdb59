/-
  Regions that draw their order, by a word on the value of each operation: XRel's theorem with the words' bookkeeping done. Of no program.
  'U k v w': what is said of what operation k has put into its slot (v), and of the world; k from the region's size on: what holds ahead of it.
-/
import Derived.Test.YtohicccbaenegaaDoorRow
set_option linter.unusedVariables false
namespace Go.Proofs.YtohicccbaenegaaDoor
open Go.RowKit

def wordV (ops : Array Oper) (U : Nat → Value → World → Prop) (k : Nat) (a : Act) (w : World) : Prop := U k (((dstOf ops k).map (slot a)).getD undef) w
def needL (l : List (List Nat)) (i : Nat) : List Nat := l.getD i []
def depL (ops : Array Oper) (k : Nat) : List Tmp := (dstOf ops k).toList
def boundL (l : List (List Nat)) (m : Nat) : Bool := l.all fun x => x.all (· < m)
theorem needL_bound {l : List (List Nat)} {m : Nat} (h : boundL l m = true) (i k : Nat) (hk : k ∈ needL l i) : k < m := by
  unfold needL at hk
  rw [List.getD_eq_getElem?_getD] at hk
  cases hi : l[i]? with
  | none => rw [hi] at hk; cases hk
  | some x =>
    rw [hi] at hk
    have h1 := (List.all_eq_true.1 h) x (List.mem_of_getElem? hi)
    simpa using (List.all_eq_true.1 h1) k hk
/-- What is asked of an operation. -/
def StepW (P : Program) (ops : Array Oper) (Q : Exit → Act → World → Prop) (a0 : Act) (T : Nat → World → World → Prop) (G : World → Prop) (U : Nat → Value → World → Prop) (nl : List (List Nat)) (i : Nat) (o : Oper) : Prop :=
  ∀ a w, G w → (∀ k ∈ needL nl i, wordV ops U k a w) → (∀ t, oldB ops i t = true → slot a t = slot a0 t) → o.wp P a w (fun a' w' => ∃ v, a' = a.put o.dst v ∧ T i w w' ∧ G w' ∧ U i (if o.dst.isSome then v else undef) w') Q
theorem wp_region_words {P : Program} {ops : Array Oper} {Q : Exit → Act → World → Prop} {id : Nat} {a0 : Act} {w0 : World} (hm : P.follows .mixedOrders = true) (hB : relyB ops a0.tmps.size = true)
    (T : Nat → World → World → Prop) (G : World → Prop) (U : Nat → Value → World → Prop) (m : Nat) (nl : List (List Nat)) (last : List Nat) (hb : boundL nl m = true) (hL : leanA ops m (needL nl) last (depL ops) = true)
    (bad : List (Nat × Nat)) (hbad : (bad.all fun x => !keptA ops (needL nl) last x.1 x.2) = true) (hT : ∀ i k v w w', i < ops.size → k < m → k ≠ i → (i, k) ∉ bad → U k v w → T i w w' → U k v w')
    (hG : G { w0 with drawn := w0.drawn + 1 }) (hV0 : ∀ k, k < m → ops.size ≤ k → U k undef { w0 with drawn := w0.drawn + 1 })
    (ds : List Tmp) (hds : dstsOf ops = ds) (step : ∀ i (hi : i < ops.size), StepW P ops Q a0 T G U nl i ops[i])
    (done : ∀ a w, G w → (∀ k ∈ last, k < m → wordV ops U k a w) → a.tmps.size = a0.tmps.size → a = ⟨(patchL ds (slot a) 0 a0.tmps.toList).toArray, a0.defers⟩ → Q .normal a w) :
    (Code.region id ops true).wp P Q a0 w0 := by
  subst hds
  refine wp_region_relyA hm hB T G (wordV ops U) m (needL nl) last (depL ops) hL (needL_bound hb) ?_ (fun i k a w w' hi hk hne hke h hTi => hT i k _ w w' hi hk hne (fun hx => by have := (List.all_eq_true.1 hbad) _ hx; simp [hke] at this) h hTi) hG ?_ ?_ ?_
  · intro k a a' w hk h hv
    unfold wordV at hv ⊢
    unfold depL at h
    cases hd : dstOf ops k with
    | none => rw [hd] at hv; exact hv
    | some t =>
      rw [hd] at hv h
      simp only [Option.toList_some, List.mem_singleton, forall_eq] at h
      simp only [Option.map_some, Option.getD_some] at hv ⊢
      rw [h]; exact hv
  · intro k hk hge
    unfold wordV
    have : dstOf ops k = none := by unfold dstOf; rw [Array.getElem?_eq_none hge]; rfl
    rw [this]; exact hV0 k hk hge
  · intro i hi a w hGw hN hO hS
    refine Oper.wp_mono ?_ (step i hi a w hGw hN (fun t ht => hO t (old_of ht)))
    rintro a' w' ⟨v, rfl, h1, h2, h3⟩
    refine ⟨v, rfl, h1, h2, ?_⟩
    unfold wordV
    have hd : dstOf ops i = ops[i].dst := by unfold dstOf; rw [Array.getElem?_eq_getElem hi]; rfl
    rw [hd]
    cases ht : ops[i].dst with
    | none => rw [ht] at h3; exact h3
    | some t =>
      rw [ht] at h3
      have hlt : t < a0.tmps.size := by
        have := (List.all_eq_true.1 hB) i (List.mem_range.2 hi)
        simp only [Bool.and_eq_true] at this
        have h4 := this.2
        have hd' : (ops[i]?).bind (·.dst) = some t := by rw [Array.getElem?_eq_getElem hi]; exact ht
        rw [hd'] at h4
        simp only [Option.map_some, Option.getD_some, Bool.and_eq_true, decide_eq_true_eq] at h4
        exact h4.1
      simp only [Option.map_some, Option.getD_some]
      rw [slot_put_same _ _ _ (by rw [hS]; exact hlt)]
      exact h3
  · intro a w hGw hV hO hS hD
    exact done a w hGw hV hS (act_patch _ hS hD (fun t ht => hO t (free_of ht)))
/-- An operation that only reckons or reads. -/
theorem stepW_value {P : Program} {ops : Array Oper} {Q : Exit → Act → World → Prop} {a0 : Act} {T : Nat → World → World → Prop} {G : World → Prop} {U : Nat → Value → World → Prop} {nl : List (List Nat)} {i : Nat} {o : Oper} {t : Tmp} (v : Value)
    (hd : o.dst = some t) (hTr : ∀ w, T i w w)
    (hrun : ∀ a w, G w → (∀ k ∈ needL nl i, wordV ops U k a w) → (∀ t, oldB ops i t = true → slot a t = slot a0 t) → (execOp a.eval o).run P w = .ok (.value v) w)
    (hU : ∀ w, G w → U i v w) : StepW P ops Q a0 T G U nl i o := by
  intro a w hG hN hO
  exact wp_value (hrun a w hG hN hO) ⟨v, rfl, hTr w, hG, by rw [hd]; exact hU w hG⟩

theorem run_move_slot {P : Program} {a : Act} {w : World} {o : Oper} {s : Tmp} {v : Value} (ho : o.op = .move (.tmp s) ∨ o.op = .assign (.tmp s)) (h : slot a s = v) : (execOp a.eval o).run P w = .ok (.value v) w := by
  have e : a.eval (.tmp s) = v := h
  rcases ho with ho | ho <;> simp [execOp, ho, e]
theorem slot_at {a : Act} {t : Tmp} {v : Value} (h : slot a t = v) : a.tmps[t]?.getD undef = v := by rw [← h]; simp [slot]
end Go.Proofs.YtohicccbaenegaaDoor

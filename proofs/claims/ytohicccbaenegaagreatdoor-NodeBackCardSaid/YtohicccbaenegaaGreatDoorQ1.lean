/-
  Texts put together: contracts and laws that this seat's proofs share.
-/
import Derived.Orders
import Derived.Still
import Derived.Handy
import Derived.Test.YtohicccbaenegaaGreatDoorQ0
import Derived.Shelf.Abstract
import Derived.Test.YtohicccbaenegaaGreatDoorShl
import Derived.Laws.RangeAny
import Derived.Deep.LoopGhost
import Derived.WalkMore
import Derived.Lib.OthersKept
import Derived.Shelf.Strings.IndexAnyAll
import Derived.Shelf.Strings.Builder2
import Derived.Deep.QuietTactic
import Derived.BigQuiet
import Derived.WalkSmall
import Derived.Lib.Hide
/-
  Regions that draw their order, by what each operation is good for: one proof an operation, whatever the order. Of no program.
  Each operation has a word 'V i v w' on its value and the world; the words stay true behind whatever the others do ('T'). An operation may lean on the words of those that its edges name.
-/
namespace Go.Proofs.YtohicccbaenegaaGreatDoor
open Go

section
variable {P : Program} {ops : Array Oper} {Q : Exit → Act → World → Prop}

def predsOf (ops : Array Oper) (i : Nat) : List Nat := ((ops[i]?).map fun o => (o.after.toList.filter (Region.binds .any)).map (·.on)).getD []
/-- Who comes ahead of i by edges, three steps back. -/
def ancOf (ops : Array Oper) : Nat → Nat → List Nat
  | 0, _ => []
  | f + 1, i => predsOf ops i ++ (predsOf ops i).flatMap (ancOf ops f)
theorem anc_listed {listed : Array Bool} (hc : ∀ k, listed.getD k false = true → ∀ j ∈ predsOf ops k, listed.getD j false = true) : ∀ (f i : Nat), (∀ j ∈ predsOf ops i, listed.getD j false = true) → ∀ k ∈ ancOf ops f i, listed.getD k false = true
  | 0, _, _, k, hk => by cases hk
  | f + 1, i, hp, k, hk => by
    rw [ancOf, List.mem_append, List.mem_flatMap] at hk
    rcases hk with hk | ⟨j, hj, hk⟩
    · exact hp k hk
    · exact anc_listed hc f j (hc j (hp j hj)) k hk
/-- The edges lead back, no operation is guarded, no slot is written twice. -/
def relyB (ops : Array Oper) (n : Nat) : Bool :=
  (List.range ops.size).all fun i => (predsOf ops i).all (· < i) && ((ops[i]?).map (·.guard.isNone)).getD false &&
    (((ops[i]?).bind (·.dst)).map fun t => decide (t < n) && (List.range ops.size).all fun k => k == i || !(((ops[k]?).bind (·.dst)) == some t)).getD true

def slot (a : Act) (t : Tmp) : Value := a.tmps.getD t undef
theorem slot_put_same (a : Act) (t : Tmp) (v : Value) (h : t < a.tmps.size) : slot (a.put (some t) v) t = v := by
  simp [slot, Act.put, h]
theorem slot_put_other (a : Act) (d : Option Tmp) (t : Tmp) (v : Value) (h : d ≠ some t) : slot (a.put d v) t = slot a t := by
  cases d with
  | none => rfl
  | some d =>
    have h' : d ≠ t := fun e => h (by rw [e])
    simp [slot, Act.put, h']
theorem size_put (a : Act) (d : Option Tmp) (v : Value) : (a.put d v).tmps.size = a.tmps.size := by
  cases d <;> simp [Act.put]
theorem defers_put (a : Act) (d : Option Tmp) (v : Value) : (a.put d v).defers = a.defers := by
  cases d <;> simp [Act.put]

/-- What stays true of k while i runs is asked only as long as somebody but i leans on it. -/
def keptB (n : Nat) (needs : Nat → List Nat) (last : List Nat) (i k : Nat) : Bool := last.contains k || (List.range n).any fun j => j != i && (needs j).contains k
def dstOf (ops : Array Oper) (i : Nat) : Option Tmp := (ops[i]?).bind (·.dst)
/-- The closed look: an operation leans on those that its edges name, or on what was there; no word speaks of a slot that is written while it must hold. -/
def leanB (ops : Array Oper) (m : Nat) (needs : Nat → List Nat) (last : List Nat) (dep : Nat → List Tmp) : Bool :=
  (List.range ops.size).all fun i => ((needs i).all fun k => decide (ops.size ≤ k) || (ancOf ops 3 i).contains k) &&
    (List.range m).all fun k => k == i || (ancOf ops 3 k).contains i || !keptB ops.size needs last i k || ((dstOf ops i).map fun t => !(dep k).contains t).getD true

/-- The same, sharper: whoever comes ahead of i by edges leans on nothing any more. -/
def keptA (ops : Array Oper) (needs : Nat → List Nat) (last : List Nat) (i k : Nat) : Bool := last.contains k || (List.range ops.size).any fun j => j != i && !(ancOf ops 3 i).contains j && (needs j).contains k
def leanA (ops : Array Oper) (m : Nat) (needs : Nat → List Nat) (last : List Nat) (dep : Nat → List Tmp) : Bool :=
  (List.range ops.size).all fun i => ((needs i).all fun k => decide (ops.size ≤ k) || (ancOf ops 3 i).contains k) &&
    (List.range m).all fun k => k == i || (ancOf ops 3 k).contains i || !keptA ops needs last i k || ((dstOf ops i).map fun t => !(dep k).contains t).getD true
theorem kept_of_A {ops : Array Oper} {needs : Nat → List Nat} {last : List Nat} {i k : Nat} (h : keptA ops needs last i k = true) : keptB ops.size needs last i k = true := by
  unfold keptA at h
  unfold keptB
  rw [Bool.or_eq_true] at h ⊢
  refine h.imp (fun h => h) fun h => ?_
  rw [List.any_eq_true] at h ⊢
  obtain ⟨j, h1, h2⟩ := h
  simp only [Bool.and_eq_true] at h2 ⊢
  exact ⟨j, h1, h2.1.1, h2.2⟩
theorem lean_A {ops : Array Oper} {m : Nat} {needs : Nat → List Nat} {last : List Nat} {dep : Nat → List Tmp} (h : leanB ops m needs last dep = true) : leanA ops m needs last dep = true := by
  unfold leanB at h
  unfold leanA
  rw [List.all_eq_true] at h ⊢
  intro i hi
  have h1 := h i hi
  rw [Bool.and_eq_true] at h1 ⊢
  refine ⟨h1.1, ?_⟩
  have h2 := h1.2
  rw [List.all_eq_true] at h2 ⊢
  intro k hk
  have h3 := h2 k hk
  cases ha : keptA ops needs last i k with
  | false => simp
  | true => rw [kept_of_A ha] at h3; exact h3

structure RelyInv (ops : Array Oper) (m : Nat) (a0 : Act) (G : World → Prop) (V : Nat → Act → World → Prop) (needs : Nat → List Nat) (last : List Nat) (listed : Array Bool) (a : Act) (w : World) : Prop where
  g : G w
  defers : a.defers = a0.defers
  size : a.tmps.size = a0.tmps.size
  len : listed.size = ops.size
  val : ∀ k, k < m → (ops.size ≤ k ∨ listed.getD k false = true) → (k ∈ last ∨ ∃ j, j < ops.size ∧ listed.getD j false = false ∧ k ∈ needs j) → V k a w
  old : ∀ t, (∀ k, dstOf ops k = some t → listed.getD k false = false) → slot a t = slot a0 t
  closed : ∀ k, listed.getD k false = true → ∀ j ∈ predsOf ops k, listed.getD j false = true

theorem ready_spec {listed : Array Bool} {i : Nat} (h : i ∈ Region.ready .any ops listed) (hl : listed.size = ops.size) : i < ops.size ∧ listed.getD i false = false ∧ ∀ j ∈ predsOf ops i, listed.getD j false = true := by
  unfold Region.ready at h
  rw [List.mem_filter, List.mem_range] at h
  obtain ⟨hi, h2⟩ := h
  simp only [Bool.and_eq_true, Bool.not_eq_true'] at h2
  obtain ⟨h2, h3⟩ := h2
  refine ⟨hi, ?_, ?_⟩
  · have hil : i < listed.size := by omega
    simpa [Array.getD, hil] using h2
  · intro j hj
    unfold predsOf at hj
    rw [Array.getElem?_eq_getElem hi] at hj h3
    simp only [Option.map_some, Option.getD_some, List.mem_map, List.mem_filter] at hj h3
    obtain ⟨e, ⟨he, hb⟩, rfl⟩ := hj
    rw [Array.all_eq_true_iff_forall_mem] at h3
    have := h3 e (by simpa using he)
    simpa [hb] using this
theorem ready_of {listed : Array Bool} {i : Nat} (hi : i < ops.size) (hl : listed.size = ops.size) (h0 : listed.getD i false = false) (hp : ∀ j ∈ predsOf ops i, listed.getD j false = true) : i ∈ Region.ready .any ops listed := by
  unfold Region.ready
  rw [List.mem_filter, List.mem_range]
  refine ⟨hi, ?_⟩
  simp only [Bool.and_eq_true, Bool.not_eq_true']
  refine ⟨?_, ?_⟩
  · have hil : i < listed.size := by omega
    simpa [Array.getD, hil] using h0
  · rw [Array.getElem?_eq_getElem hi]
    simp only [Option.map_some, Option.getD_some]
    rw [Array.all_eq_true_iff_forall_mem]
    intro e he
    by_cases hb : Region.binds .any e = true
    · have := hp e.on (by unfold predsOf; rw [Array.getElem?_eq_getElem hi]; simp only [Option.map_some, Option.getD_some, List.mem_map, List.mem_filter]; exact ⟨e, ⟨by simpa using he, hb⟩, rfl⟩)
      simp [hb, this]
    · simp [hb]

def unl (n : Nat) (listed : Array Bool) : Nat := (List.range n).countP fun i => !listed.getD i false
theorem unl_zero {n : Nat} {listed : Array Bool} (h : unl n listed = 0) (i : Nat) (hi : i < n) : listed.getD i false = true := by
  unfold unl at h
  rw [List.countP_eq_zero] at h
  have := h i (List.mem_range.2 hi)
  simpa using this
theorem getD_set (listed : Array Bool) (i j : Nat) (hi : i < listed.size) : (listed.setIfInBounds i true).getD j false = if j = i then true else listed.getD j false := by
  by_cases h : j = i
  · subst h; simp [hi]
  · have h' : i ≠ j := fun e => h e.symm
    simp [h, h']
theorem countP_flip {l : List Nat} (hn : l.Nodup) {p q : Nat → Bool} {i : Nat} (hi : i ∈ l) (hp : p i = true) (hq : q i = false) (he : ∀ j, j ≠ i → q j = p j) : l.countP p = l.countP q + 1 := by
  induction l with
  | nil => cases hi
  | cons x l ih =>
    rw [List.nodup_cons] at hn
    rw [List.countP_cons, List.countP_cons]
    by_cases hx : x = i
    · subst hx
      have : l.countP p = l.countP q := List.countP_congr fun j hj => by rw [he j (fun e => hn.1 (e ▸ hj))]
      simp [hp, hq, this]
    · rcases List.mem_cons.1 hi with h | h
      · exact absurd h.symm hx
      · have := ih hn.2 h
        rw [he x hx]; omega
theorem unl_set {n : Nat} {listed : Array Bool} {i : Nat} (hi : i < n) (hs : i < listed.size) (h0 : listed.getD i false = false) : unl n listed = unl n (listed.setIfInBounds i true) + 1 := by
  unfold unl
  refine countP_flip List.nodup_range (List.mem_range.2 hi) (by simpa using h0) (by rw [getD_set _ _ _ hs]; simp) fun j hj => ?_
  rw [getD_set _ _ _ hs, if_neg hj]
theorem all_listed {listed : Array Bool} (hl : listed.size = ops.size) (hord : ∀ i, i < ops.size → ∀ j ∈ predsOf ops i, j < i) (hr : Region.ready .any ops listed = []) : ∀ i, i < ops.size → listed.getD i false = true := by
  intro i
  induction i using Nat.strongRecOn with
  | ind i ih =>
    intro hi
    by_cases h : listed.getD i false = true
    · exact h
    · exfalso
      have := ready_of hi hl (by simpa using h) (fun j hj => ih j (hord i hi j hj) (Nat.lt_trans (hord i hi j hj) hi))
      rw [hr] at this
      cases this

def AllFrom (S : Nat → Oper → Prop) : Nat → List Oper → Prop
  | _, [] => True
  | n, o :: l => S n o ∧ AllFrom S (n + 1) l
theorem allFrom_get {S : Nat → Oper → Prop} : ∀ {l : List Oper} {n : Nat}, AllFrom S n l → ∀ i (hi : i < l.length), S (n + i) l[i]
  | _ :: _, _, h, 0, _ => h.1
  | _ :: l, n, h, i + 1, hi => by
    have := allFrom_get h.2 i (by simpa using hi)
    rw [Nat.add_assoc, Nat.add_comm 1 i] at this
    exact this
theorem forall_ops {S : Nat → Oper → Prop} {l : List Oper} (h : AllFrom S 0 l) : ∀ i (hi : i < l.toArray.size), S i (l.toArray[i]) := fun i hi => by
  have := allFrom_get h i (by simpa using hi)
  rw [Nat.zero_add] at this
  simpa using this
/-- A slot that nobody writes but who comes behind i. -/
def oldB (ops : Array Oper) (i : Nat) (t : Tmp) : Bool := (List.range ops.size).all fun k => !(dstOf ops k == some t) || (predsOf ops k).contains i
theorem old_of {i : Nat} {t : Tmp} (h : oldB ops i t = true) : ∀ k, dstOf ops k = some t → i ∈ predsOf ops k := fun k hk => by
  have hkl : k < ops.size := by
    rcases Nat.lt_or_ge k ops.size with h | h
    · exact h
    · unfold dstOf at hk; rw [Array.getElem?_eq_none h] at hk; cases hk
  have := (List.all_eq_true.1 h) k (List.mem_range.2 hkl)
  rw [hk] at this
  simpa using this
theorem wp_value {o : Oper} {a : Act} {w w' : World} {v : Value} {K : Act → World → Prop} (h : (execOp a.eval o).run P w = .ok (.value v) w') (hk : K (a.put o.dst v) w') : o.wp P a w K Q := by
  unfold Oper.wp; rw [h]; exact hk
theorem wp_skip {o : Oper} {a : Act} {w w' : World} {K : Act → World → Prop} (h : (execOp a.eval o).run P w = .ok .skip w') (hk : K (a.put o.dst undef) w') : o.wp P a w K Q := by
  unfold Oper.wp; rw [h]; exact hk
/-- The frame behind it, written out: what was written is whatever it is, all else is as it was. -/
def patchL (ds : List Tmp) (s : Tmp → Value) : Nat → List Value → List Value
  | _, [] => []
  | t, v :: l => (if ds.contains t then s t else v) :: patchL ds s (t + 1) l
theorem patchL_get (ds : List Tmp) (s : Tmp → Value) : ∀ (l : List Value) (n i : Nat), (patchL ds s n l)[i]? = (l[i]?).map fun v => if ds.contains (n + i) then s (n + i) else v
  | [], _, _ => by simp [patchL]
  | v :: l, n, 0 => by simp [patchL]
  | v :: l, n, i + 1 => by
    rw [patchL, List.getElem?_cons_succ, patchL_get ds s l (n + 1) i, List.getElem?_cons_succ, Nat.add_assoc, Nat.add_comm 1 i]
theorem act_patch {a a0 : Act} (ds : List Tmp) (hS : a.tmps.size = a0.tmps.size) (hD : a.defers = a0.defers) (h : ∀ t, t ∉ ds → slot a t = slot a0 t) : a = ⟨(patchL ds (slot a) 0 a0.tmps.toList).toArray, a0.defers⟩ := by
  obtain ⟨tm, df⟩ := a
  obtain ⟨tm0, df0⟩ := a0
  simp only at hS hD
  subst hD
  congr 1
  apply Array.ext_getElem?
  intro i
  simp only [List.getElem?_toArray, patchL_get, Nat.zero_add, Array.getElem?_toList]
  by_cases hi : i < tm.size
  · have hi0 : i < tm0.size := by omega
    rw [Array.getElem?_eq_getElem hi, Array.getElem?_eq_getElem hi0]
    simp only [Option.map_some, Option.some.injEq]
    split
    · simp [slot, hi]
    · rename_i hc
      have := h i (by simpa using hc)
      simpa [slot, hi, hi0] using this
  · rw [Array.getElem?_eq_none (by omega), Array.getElem?_eq_none (by omega)]; rfl
/-- A slot that nobody writes. -/
def freeB (ops : Array Oper) (t : Tmp) : Bool := (List.range ops.size).all fun k => !(dstOf ops k == some t)
def dstsOf (ops : Array Oper) : List Tmp := (List.range ops.size).filterMap (dstOf ops)
theorem free_of {t : Tmp} (h : t ∉ dstsOf ops) : ∀ k : Nat, dstOf ops k ≠ some t := fun k hk => by
  refine h (List.mem_filterMap.2 ⟨k, ?_, hk⟩)
  rw [List.mem_range]
  rcases Nat.lt_or_ge k ops.size with h | h
  · exact h
  · unfold dstOf at hk; rw [Array.getElem?_eq_none h] at hk; cases hk
theorem eval_slot (a : Act) (t : Tmp) : a.eval (.tmp t) = slot a t := rfl

/-- ONE PROOF AN OPERATION, WHATEVER THE ORDER. Words with numbers from the region's size on hold ahead of it. -/
theorem wp_region_relyA {id : Nat} {a0 : Act} {w0 : World} (hm : P.follows .mixedOrders = true) (hB : relyB ops a0.tmps.size = true) (T : Nat → World → World → Prop) (G : World → Prop) (V : Nat → Act → World → Prop)
    (m : Nat) (needs : Nat → List Nat) (last : List Nat) (dep : Nat → List Tmp) (hL : leanA ops m needs last dep = true) (hneeds : ∀ i k, k ∈ needs i → k < m)
    (hdep : ∀ k a a' w, k < m → (∀ t ∈ dep k, slot a' t = slot a t) → V k a w → V k a' w)
    (hT : ∀ i k a w w', i < ops.size → k < m → k ≠ i → keptA ops needs last i k = true → V k a w → T i w w' → V k a w')
    (hG : G { w0 with drawn := w0.drawn + 1 }) (hV0 : ∀ k, k < m → ops.size ≤ k → V k a0 { w0 with drawn := w0.drawn + 1 })
    (step : ∀ i (hi : i < ops.size) a w, G w → (∀ k ∈ needs i, V k a w) → (∀ t, (∀ k, dstOf ops k = some t → i ∈ predsOf ops k) → slot a t = slot a0 t) → a.tmps.size = a0.tmps.size →
      (ops[i]).wp P a w (fun a' w' => ∃ v, a' = a.put (ops[i]).dst v ∧ T i w w' ∧ G w' ∧ V i a' w') Q)
    (done : ∀ a w, G w → (∀ k ∈ last, k < m → V k a w) → (∀ t, (∀ k : Nat, dstOf ops k ≠ some t) → slot a t = slot a0 t) → a.tmps.size = a0.tmps.size → a.defers = a0.defers → Q .normal a w) :
    (Code.region id ops true).wp P Q a0 w0 := by
  have hB' : ∀ i, i < ops.size → ((∀ j ∈ predsOf ops i, j < i) ∧ ((ops[i]?).map (·.guard.isNone)).getD false = true) ∧
      (((ops[i]?).bind (·.dst)).map fun t => decide (t < a0.tmps.size) && (List.range ops.size).all fun k => k == i || !(((ops[k]?).bind (·.dst)) == some t)).getD true = true := by
    intro i hi
    have := (List.all_eq_true.1 hB) i (List.mem_range.2 hi)
    simp only [Bool.and_eq_true] at this
    obtain ⟨⟨h1, h2⟩, h3⟩ := this
    exact ⟨⟨fun j hj => by simpa using (List.all_eq_true.1 h1) j hj, h2⟩, h3⟩
  have hL' : ∀ i, i < ops.size → (∀ k ∈ needs i, ops.size ≤ k ∨ k ∈ ancOf ops 3 i) ∧ ∀ k, k < m → k ≠ i → i ∉ ancOf ops 3 k → keptA ops needs last i k = true → ∀ t, dstOf ops i = some t → t ∉ dep k := by
    intro i hi
    have := (List.all_eq_true.1 hL) i (List.mem_range.2 hi)
    rw [Bool.and_eq_true] at this
    obtain ⟨h1, h2⟩ := this
    refine ⟨fun k hk => by simpa using (List.all_eq_true.1 h1) k hk, fun k hk hki hip hke t ht => ?_⟩
    have h3 := (List.all_eq_true.1 h2) k (List.mem_range.2 hk)
    have hip' : (ancOf ops 3 k).contains i = false := by simpa using hip
    have hki' : (k == i) = false := by simpa using hki
    rw [hke, hip', hki', ht] at h3
    simpa using h3
  have key : ∀ fuel listed a w, unl ops.size listed ≤ fuel → RelyInv ops m a0 G V needs last listed a w → wpAny P .any ops Q fuel listed a w := by
    intro fuel
    have fin : ∀ listed a w, RelyInv ops m a0 G V needs last listed a w → (∀ i, i < ops.size → listed.getD i false = true) → Q .normal a w := fun listed a w I hall =>
      done a w I.g (fun k hk hkm => I.val k hkm (by
        rcases Nat.lt_or_ge k ops.size with h | h
        · exact .inr (hall k h)
        · exact .inl h) (.inl hk)) (fun t ht => I.old t fun k hk => absurd hk (ht k)) I.size I.defers
    induction fuel with
    | zero =>
      intro listed a w hu I
      have hall := fun i hi => unl_zero (Nat.le_zero.1 hu) i hi
      refine ⟨?_, fin listed a w I hall⟩
      apply List.eq_nil_iff_forall_not_mem.2
      intro i hi
      obtain ⟨h1, h2, _⟩ := ready_spec hi I.len
      rw [hall i h1] at h2; cases h2
    | succ fuel ih =>
      intro listed a w hu I
      refine ⟨fun hr => fin listed a w I (all_listed I.len (fun i hi => (hB' i hi).1.1) hr), fun i hi => ?_⟩
      obtain ⟨h1, h2, h3⟩ := ready_spec hi I.len
      have hil : i < listed.size := by rw [I.len]; exact h1
      have hst := step i h1 a w I.g (fun k hk => I.val k (hneeds i k hk) (((hL' i h1).1 k hk).imp (fun h => h) (anc_listed I.closed 3 i h3 k)) (.inr ⟨i, h1, h2, hk⟩)) (fun t ht => I.old t fun k hk => by
        by_cases hc : listed.getD k false = true
        · have := I.closed k hc i (ht k hk)
          rw [h2] at this; cases this
        · simpa using hc) I.size
      unfold wpOp
      rw [Array.getElem?_eq_getElem h1]
      have hg := (hB' i h1).1.2
      rw [Array.getElem?_eq_getElem h1] at hg
      simp only [Option.map_some, Option.getD_some, Option.isNone_iff_eq_none] at hg
      have hw : Region.wanted ops[i] (yielded ops a.tmps) = true := by unfold Region.wanted; rw [hg]
      simp only [hw, if_true]
      refine .inl (Oper.wp_mono ?_ hst)
      rintro a' w' ⟨v, rfl, hTi, hG', hv⟩
      refine ih _ _ _ (by have := unl_set h1 hil h2; omega) ⟨hG', by rw [defers_put]; exact I.defers, by rw [size_put]; exact I.size, by simp [I.len], ?_, ?_, ?_⟩
      · intro k hkm hkl hkn
        by_cases e : k = i
        · subst e; exact hv
        · have hkl' : ops.size ≤ k ∨ listed.getD k false = true := hkl.imp (fun h => h) fun h => by rwa [getD_set _ _ _ hil, if_neg e] at h
          have hip : i ∉ ancOf ops 3 k := fun hip => by
            rcases hkl' with h | h
            · have e0 : predsOf ops k = [] := by unfold predsOf; rw [Array.getElem?_eq_none h]; rfl
              simp [ancOf, e0] at hip
            · have := anc_listed I.closed 3 k (I.closed k h) i hip
              rw [h2] at this; cases this
          have hkn' : (k ∈ last ∨ ∃ j, j < ops.size ∧ listed.getD j false = false ∧ k ∈ needs j) ∧ keptA ops needs last i k = true := by
            rcases hkn with h | ⟨j, hj, hjl, hjk⟩
            · exact ⟨.inl h, by simp [keptA, h]⟩
            · rw [getD_set _ _ _ hil] at hjl
              split at hjl
              · cases hjl
              · rename_i hji
                refine ⟨.inr ⟨j, hj, hjl, hjk⟩, ?_⟩
                unfold keptA
                rw [Bool.or_eq_true]
                right
                rw [List.any_eq_true]
                have hja : j ∉ ancOf ops 3 i := fun h => by
                  have := anc_listed I.closed 3 i h3 j h
                  rw [hjl] at this; cases this
                exact ⟨j, List.mem_range.2 hj, by simp [hji, hjk, hja]⟩
          refine hdep k a _ w' hkm (fun t ht => slot_put_other _ _ _ _ fun hd => (hL' i h1).2 k hkm e hip hkn'.2 t (by unfold dstOf; rw [Array.getElem?_eq_getElem h1]; exact hd) ht) ?_
          exact hT i k a w w' h1 hkm e hkn'.2 (I.val k hkm hkl' hkn'.1) hTi
      · intro t ht
        rw [slot_put_other _ _ _ _ (fun hd => by
          have := ht i (by unfold dstOf; rw [Array.getElem?_eq_getElem h1]; exact hd)
          rw [getD_set _ _ _ hil, if_pos rfl] at this; cases this)]
        exact I.old t fun k hk => by
          have := ht k hk
          rw [getD_set _ _ _ hil] at this
          split at this
          · cases this
          · exact this
      · intro k hkl j hj
        rw [getD_set _ _ _ hil]
        split
        · rfl
        · rename_i hji
          rw [getD_set _ _ _ hil] at hkl
          split at hkl
          · rename_i hki; subst hki; exact h3 j hj
          · exact I.closed k hkl j hj
  refine wp_region_any hm (key _ _ _ _ ?_ ⟨hG, rfl, rfl, by simp, ?_, fun t _ => rfl, ?_⟩)
  · unfold unl
    exact Nat.le_trans (List.countP_le_length) (by simp)
  · intro k hkm h _
    rcases h with h | h
    · exact hV0 k hkm h
    · simp [Array.getElem?_replicate] at h
      split at h <;> simp at h
  · intro k h
    simp [Array.getElem?_replicate] at h
    split at h <;> simp at h
theorem wp_region_rely {id : Nat} {a0 : Act} {w0 : World} (hm : P.follows .mixedOrders = true) (hB : relyB ops a0.tmps.size = true) (T : Nat → World → World → Prop) (G : World → Prop) (V : Nat → Act → World → Prop)
    (m : Nat) (needs : Nat → List Nat) (last : List Nat) (dep : Nat → List Tmp) (hL : leanB ops m needs last dep = true) (hneeds : ∀ i k, k ∈ needs i → k < m)
    (hdep : ∀ k a a' w, k < m → (∀ t ∈ dep k, slot a' t = slot a t) → V k a w → V k a' w)
    (hT : ∀ i k a w w', i < ops.size → k < m → k ≠ i → keptB ops.size needs last i k = true → V k a w → T i w w' → V k a w')
    (hG : G { w0 with drawn := w0.drawn + 1 }) (hV0 : ∀ k, k < m → ops.size ≤ k → V k a0 { w0 with drawn := w0.drawn + 1 })
    (step : ∀ i (hi : i < ops.size) a w, G w → (∀ k ∈ needs i, V k a w) → (∀ t, (∀ k, dstOf ops k = some t → i ∈ predsOf ops k) → slot a t = slot a0 t) → a.tmps.size = a0.tmps.size →
      (ops[i]).wp P a w (fun a' w' => ∃ v, a' = a.put (ops[i]).dst v ∧ T i w w' ∧ G w' ∧ V i a' w') Q)
    (done : ∀ a w, G w → (∀ k ∈ last, k < m → V k a w) → (∀ t, (∀ k : Nat, dstOf ops k ≠ some t) → slot a t = slot a0 t) → a.tmps.size = a0.tmps.size → a.defers = a0.defers → Q .normal a w) :
    (Code.region id ops true).wp P Q a0 w0 :=
  wp_region_relyA hm hB T G V m needs last dep (lean_A hL) hneeds hdep (fun i k a w w' h1 h2 h3 h4 => hT i k a w w' h1 h2 h3 (kept_of_A h4)) hG hV0 step done
end
end Go.Proofs.YtohicccbaenegaaGreatDoor
/-
  Operations by themselves, for regions by rely: a call by its contract, a zero laid, a row read, a row stored. Of no program.
-/
set_option linter.unusedVariables false
namespace Go.Proofs.YtohicccbaenegaaGreatDoor
open Go.RowKit

theorem wp_callf {P : Program} {o : Oper} {a : Act} {w : World} {K : Act → World → Prop} {Q : Exit → Act → World → Prop} (f : FuncId) (args : Array Operand) (tys : Array TypeId) (ho : o.op = .call { callee := .value (.func f), args := args, argTypes := tys })
    (hen : ∀ xs w, (callFunc f xs).run P w = .ok (.enter f xs) w) (xs : Array Value) (hxs : args.map a.eval = xs) (v : Value) {R : World → Prop} (h : Calls P f xs w fun e w' => e = .returned v ∧ R w') (hk : ∀ w', R w' → K (a.put o.dst v) w') : o.wp P a w K Q := by
  unfold Oper.wp execOp
  simp only [ho]
  simp [hxs, go_sem, hen]
  refine h.mono ?_
  rintro e w' ⟨rfl, hr⟩
  exact hk w' hr

theorem wp_alloc_zero {P : Program} {o : Oper} {a : Act} {w : World} {K : Act → World → Prop} {Q : Exit → Act → World → Prop} (t : TypeId) (ho : o.op = .alloc t)
    (cells : Array Value) (hz : (P.info? t).bind (fun i => i.zero.map (·.cells)) = some cells)
    (h : K (a.put o.dst (.pointer (some ⟨w.heap.size, 0, none⟩))) (w.alloc (.cells cells t))) : o.wp P a w K Q := by
  cases hi : P.info? t with
  | none => simp [hi] at hz
  | some i =>
    cases hz0 : i.zero with
    | none => simp [hi, hz0] at hz
    | some z =>
      simp only [hi, hz0, Option.bind_some, Option.map_some, Option.some.injEq] at hz
      subst hz
      unfold Oper.wp execOp
      simp [ho, Instr.alloc, zeroValue, typeInfo, hi, hz0, newVar, newRow, go_sem]
      exact h
theorem alloc3 (w : World) (A B C : Array Value) (ta tb tc : TypeId) :
    Row (((w.alloc (.cells A ta)).alloc (.cells B tb)).alloc (.cells C tc)) w.heap.size A ta ∧ Row (((w.alloc (.cells A ta)).alloc (.cells B tb)).alloc (.cells C tc)) (w.heap.size + 1) B tb ∧
      Row (((w.alloc (.cells A ta)).alloc (.cells B tb)).alloc (.cells C tc)) (w.heap.size + 1 + 1) C tc ∧ Below w.heap.size w (((w.alloc (.cells A ta)).alloc (.cells B tb)).alloc (.cells C tc)) ∧
      (((w.alloc (.cells A ta)).alloc (.cells B tb)).alloc (.cells C tc)).heap.size = w.heap.size + 3 := by
  refine ⟨((Row.made _ _ _).alloc _).alloc _, ?_, ?_, (((Below.refl _ _).alloc (Nat.le_refl _) _).alloc (by simp) _).alloc (by simp; omega) _, by simp⟩
  · have := (Row.made (w.alloc (.cells A ta)) B tb).alloc (.cells C tc)
    simpa using this
  · have := Row.made ((w.alloc (.cells A ta)).alloc (.cells B tb)) C tc
    simpa using this
theorem slotE {a : Act} {t : Tmp} {v : Value} (h : slot a t = v) : a.eval (.tmp t) = v := h
end Go.Proofs.YtohicccbaenegaaGreatDoor
/-
  Regions that draw their order, by a word on the value of each operation: XRel's theorem with the words' bookkeeping done. Of no program.
  'U k v w': what is said of what operation k has put into its slot (v), and of the world; k from the region's size on: what holds ahead of it.
-/
set_option linter.unusedVariables false
namespace Go.Proofs.YtohicccbaenegaaGreatDoor
open Go.RowKit

def wordV (ops : Array Oper) (U : Nat → Value → World → Prop) (k : Nat) (a : Act) (w : World) : Prop := U k (((dstOf ops k).map (slot a)).getD undef) w
def needL (l : List (List Nat)) (i : Nat) : List Nat := l.getD i []
def depL (ops : Array Oper) (k : Nat) : List Tmp := (dstOf ops k).toList
def boundL (l : List (List Nat)) (m : Nat) : Bool := l.all fun x => x.all (· < m)
theorem needL_bound {l : List (List Nat)} {m : Nat} (h : boundL l m = true) (i k : Nat) (hk : k ∈ needL l i) : k < m := by
  unfold needL at hk
  rw [List.getD_eq_getElem?_getD] at hk
  cases hi : l[i]? with
  | none => rw [hi] at hk; cases hk
  | some x =>
    rw [hi] at hk
    have h1 := (List.all_eq_true.1 h) x (List.mem_of_getElem? hi)
    simpa using (List.all_eq_true.1 h1) k hk
/-- What is asked of an operation. -/
def StepW (P : Program) (ops : Array Oper) (Q : Exit → Act → World → Prop) (a0 : Act) (T : Nat → World → World → Prop) (G : World → Prop) (U : Nat → Value → World → Prop) (nl : List (List Nat)) (i : Nat) (o : Oper) : Prop :=
  ∀ a w, G w → (∀ k ∈ needL nl i, wordV ops U k a w) → (∀ t, oldB ops i t = true → slot a t = slot a0 t) → o.wp P a w (fun a' w' => ∃ v, a' = a.put o.dst v ∧ T i w w' ∧ G w' ∧ U i (if o.dst.isSome then v else undef) w') Q
theorem wp_region_words {P : Program} {ops : Array Oper} {Q : Exit → Act → World → Prop} {id : Nat} {a0 : Act} {w0 : World} (hm : P.follows .mixedOrders = true) (hB : relyB ops a0.tmps.size = true)
    (T : Nat → World → World → Prop) (G : World → Prop) (U : Nat → Value → World → Prop) (m : Nat) (nl : List (List Nat)) (last : List Nat) (hb : boundL nl m = true) (hL : leanA ops m (needL nl) last (depL ops) = true)
    (bad : List (Nat × Nat)) (hbad : (bad.all fun x => !keptA ops (needL nl) last x.1 x.2) = true) (hT : ∀ i k v w w', i < ops.size → k < m → k ≠ i → (i, k) ∉ bad → U k v w → T i w w' → U k v w')
    (hG : G { w0 with drawn := w0.drawn + 1 }) (hV0 : ∀ k, k < m → ops.size ≤ k → U k undef { w0 with drawn := w0.drawn + 1 })
    (ds : List Tmp) (hds : dstsOf ops = ds) (step : ∀ i (hi : i < ops.size), StepW P ops Q a0 T G U nl i ops[i])
    (done : ∀ a w, G w → (∀ k ∈ last, k < m → wordV ops U k a w) → a.tmps.size = a0.tmps.size → a = ⟨(patchL ds (slot a) 0 a0.tmps.toList).toArray, a0.defers⟩ → Q .normal a w) :
    (Code.region id ops true).wp P Q a0 w0 := by
  subst hds
  refine wp_region_relyA hm hB T G (wordV ops U) m (needL nl) last (depL ops) hL (needL_bound hb) ?_ (fun i k a w w' hi hk hne hke h hTi => hT i k _ w w' hi hk hne (fun hx => by have := (List.all_eq_true.1 hbad) _ hx; simp [hke] at this) h hTi) hG ?_ ?_ ?_
  · intro k a a' w hk h hv
    unfold wordV at hv ⊢
    unfold depL at h
    cases hd : dstOf ops k with
    | none => rw [hd] at hv; exact hv
    | some t =>
      rw [hd] at hv h
      simp only [Option.toList_some, List.mem_singleton, forall_eq] at h
      simp only [Option.map_some, Option.getD_some] at hv ⊢
      rw [h]; exact hv
  · intro k hk hge
    unfold wordV
    have : dstOf ops k = none := by unfold dstOf; rw [Array.getElem?_eq_none hge]; rfl
    rw [this]; exact hV0 k hk hge
  · intro i hi a w hGw hN hO hS
    refine Oper.wp_mono ?_ (step i hi a w hGw hN (fun t ht => hO t (old_of ht)))
    rintro a' w' ⟨v, rfl, h1, h2, h3⟩
    refine ⟨v, rfl, h1, h2, ?_⟩
    unfold wordV
    have hd : dstOf ops i = ops[i].dst := by unfold dstOf; rw [Array.getElem?_eq_getElem hi]; rfl
    rw [hd]
    cases ht : ops[i].dst with
    | none => rw [ht] at h3; exact h3
    | some t =>
      rw [ht] at h3
      have hlt : t < a0.tmps.size := by
        have := (List.all_eq_true.1 hB) i (List.mem_range.2 hi)
        simp only [Bool.and_eq_true] at this
        have h4 := this.2
        have hd' : (ops[i]?).bind (·.dst) = some t := by rw [Array.getElem?_eq_getElem hi]; exact ht
        rw [hd'] at h4
        simp only [Option.map_some, Option.getD_some, Bool.and_eq_true, decide_eq_true_eq] at h4
        exact h4.1
      simp only [Option.map_some, Option.getD_some]
      rw [slot_put_same _ _ _ (by rw [hS]; exact hlt)]
      exact h3
  · intro a w hGw hV hO hS hD
    exact done a w hGw hV hS (act_patch _ hS hD (fun t ht => hO t (free_of ht)))
/-- An operation that only reckons or reads. -/
theorem stepW_value {P : Program} {ops : Array Oper} {Q : Exit → Act → World → Prop} {a0 : Act} {T : Nat → World → World → Prop} {G : World → Prop} {U : Nat → Value → World → Prop} {nl : List (List Nat)} {i : Nat} {o : Oper} {t : Tmp} (v : Value)
    (hd : o.dst = some t) (hTr : ∀ w, T i w w)
    (hrun : ∀ a w, G w → (∀ k ∈ needL nl i, wordV ops U k a w) → (∀ t, oldB ops i t = true → slot a t = slot a0 t) → (execOp a.eval o).run P w = .ok (.value v) w)
    (hU : ∀ w, G w → U i v w) : StepW P ops Q a0 T G U nl i o := by
  intro a w hG hN hO
  exact wp_value (hrun a w hG hN hO) ⟨v, rfl, hTr w, hG, by rw [hd]; exact hU w hG⟩

theorem run_move_slot {P : Program} {a : Act} {w : World} {o : Oper} {s : Tmp} {v : Value} (ho : o.op = .move (.tmp s) ∨ o.op = .assign (.tmp s)) (h : slot a s = v) : (execOp a.eval o).run P w = .ok (.value v) w := by
  have e : a.eval (.tmp s) = v := h
  rcases ho with ho | ho <;> simp [execOp, ho, e]
theorem slot_at {a : Act} {t : Tmp} {v : Value} (h : slot a t = v) : a.tmps[t]?.getD undef = v := by rw [← h]; simp [slot]
end Go.Proofs.YtohicccbaenegaaGreatDoor
/-
  Regions that draw their order, with guarded operations: one proof an operation, by words on values. A guarded operation leans on the word of its guard, and says whether it is wanted. Of no program.
-/
set_option linter.unusedVariables false
namespace Go.Proofs.YtohicccbaenegaaGreatDoor
open Go Go.RowKit

section
variable {P : Program} {ops : Array Oper} {Q : Exit → Act → World → Prop}
/-- The edges lead back, no slot is written twice. -/
def relyGB (ops : Array Oper) (n : Nat) : Bool :=
  (List.range ops.size).all fun i => (predsOf ops i).all (· < i) &&
    (((ops[i]?).bind (·.dst)).map fun t => decide (t < n) && (List.range ops.size).all fun k => k == i || !(((ops[k]?).bind (·.dst)) == some t)).getD true

/-- ONE PROOF AN OPERATION, WHATEVER THE ORDER. Words with numbers from the region's size on hold ahead of it. -/
theorem wp_any_relyG {a0 : Act} {w0 : World} (hB : relyGB ops a0.tmps.size = true) (T : Nat → World → World → Prop) (G : World → Prop) (V : Nat → Act → World → Prop)
    (m : Nat) (needs : Nat → List Nat) (last : List Nat) (dep : Nat → List Tmp) (hL : leanA ops m needs last dep = true) (hneeds : ∀ i k, k ∈ needs i → k < m)
    (hdep : ∀ k a a' w, k < m → (∀ t ∈ dep k, slot a' t = slot a t) → V k a w → V k a' w)
    (hT : ∀ i k a w w', i < ops.size → k < m → k ≠ i → keptA ops needs last i k = true → i ∉ ancOf ops 3 k → V k a w → T i w w' → V k a w')
    (hG : G { w0 with drawn := w0.drawn + 1 }) (hV0 : ∀ k, k < m → ops.size ≤ k → V k a0 { w0 with drawn := w0.drawn + 1 })
    (step : ∀ i (hi : i < ops.size) a w, G w → (∀ k ∈ needs i, V k a w) → (∀ t, (∀ k, dstOf ops k = some t → i ∈ predsOf ops k) → slot a t = slot a0 t) → a.tmps.size = a0.tmps.size →
      (Region.wanted (ops[i]) (yielded ops a.tmps) = true ∧ (ops[i]).wp P a w (fun a' w' => ∃ v, a' = a.put (ops[i]).dst v ∧ T i w w' ∧ G w' ∧ V i a' w') Q) ∨
        (Region.wanted (ops[i]) (yielded ops a.tmps) = false ∧ T i w w ∧ V i (a.put (ops[i]).dst undef) w))
    (done : ∀ a w, G w → (∀ k ∈ last, k < m → V k a w) → (∀ t, (∀ k : Nat, dstOf ops k ≠ some t) → slot a t = slot a0 t) → a.tmps.size = a0.tmps.size → a.defers = a0.defers → Q .normal a w) :
    wpAny P .any ops Q ops.size (Array.replicate ops.size false) a0 { w0 with drawn := w0.drawn + 1 } := by
  have hB' : ∀ i, i < ops.size → (∀ j ∈ predsOf ops i, j < i) ∧
      (((ops[i]?).bind (·.dst)).map fun t => decide (t < a0.tmps.size) && (List.range ops.size).all fun k => k == i || !(((ops[k]?).bind (·.dst)) == some t)).getD true = true := by
    intro i hi
    have := (List.all_eq_true.1 hB) i (List.mem_range.2 hi)
    simp only [Bool.and_eq_true] at this
    obtain ⟨h1, h3⟩ := this
    exact ⟨fun j hj => by simpa using (List.all_eq_true.1 h1) j hj, h3⟩
  have hL' : ∀ i, i < ops.size → (∀ k ∈ needs i, ops.size ≤ k ∨ k ∈ ancOf ops 3 i) ∧ ∀ k, k < m → k ≠ i → i ∉ ancOf ops 3 k → keptA ops needs last i k = true → ∀ t, dstOf ops i = some t → t ∉ dep k := by
    intro i hi
    have := (List.all_eq_true.1 hL) i (List.mem_range.2 hi)
    rw [Bool.and_eq_true] at this
    obtain ⟨h1, h2⟩ := this
    refine ⟨fun k hk => by simpa using (List.all_eq_true.1 h1) k hk, fun k hk hki hip hke t ht => ?_⟩
    have h3 := (List.all_eq_true.1 h2) k (List.mem_range.2 hk)
    have hip' : (ancOf ops 3 k).contains i = false := by simpa using hip
    have hki' : (k == i) = false := by simpa using hki
    rw [hke, hip', hki', ht] at h3
    simpa using h3
  have key : ∀ fuel listed a w, unl ops.size listed ≤ fuel → RelyInv ops m a0 G V needs last listed a w → wpAny P .any ops Q fuel listed a w := by
    intro fuel
    have fin : ∀ listed a w, RelyInv ops m a0 G V needs last listed a w → (∀ i, i < ops.size → listed.getD i false = true) → Q .normal a w := fun listed a w I hall =>
      done a w I.g (fun k hk hkm => I.val k hkm (by
        rcases Nat.lt_or_ge k ops.size with h | h
        · exact .inr (hall k h)
        · exact .inl h) (.inl hk)) (fun t ht => I.old t fun k hk => absurd hk (ht k)) I.size I.defers
    induction fuel with
    | zero =>
      intro listed a w hu I
      have hall := fun i hi => unl_zero (Nat.le_zero.1 hu) i hi
      refine ⟨?_, fin listed a w I hall⟩
      apply List.eq_nil_iff_forall_not_mem.2
      intro i hi
      obtain ⟨h1, h2, _⟩ := ready_spec hi I.len
      rw [hall i h1] at h2; cases h2
    | succ fuel ih =>
      intro listed a w hu I
      refine ⟨fun hr => fin listed a w I (all_listed I.len (fun i hi => (hB' i hi).1) hr), fun i hi => ?_⟩
      obtain ⟨h1, h2, h3⟩ := ready_spec hi I.len
      have hil : i < listed.size := by rw [I.len]; exact h1
      have hst := step i h1 a w I.g (fun k hk => I.val k (hneeds i k hk) (((hL' i h1).1 k hk).imp (fun h => h) (anc_listed I.closed 3 i h3 k)) (.inr ⟨i, h1, h2, hk⟩)) (fun t ht => I.old t fun k hk => by
        by_cases hc : listed.getD k false = true
        · have := I.closed k hc i (ht k hk)
          rw [h2] at this; cases this
        · simpa using hc) I.size
      have next : ∀ v w', T i w w' → G w' → V i (a.put (ops[i]).dst v) w' → wpAny P .any ops Q fuel (listed.setIfInBounds i true) (a.put (ops[i]).dst v) w' := by
        intro v w' hTi hG' hv
        refine ih _ _ _ (by have := unl_set h1 hil h2; omega) ⟨hG', by rw [defers_put]; exact I.defers, by rw [size_put]; exact I.size, by simp [I.len], ?_, ?_, ?_⟩
        · intro k hkm hkl hkn
          by_cases e : k = i
          · subst e; exact hv
          · have hkl' : ops.size ≤ k ∨ listed.getD k false = true := hkl.imp (fun h => h) fun h => by rwa [getD_set _ _ _ hil, if_neg e] at h
            have hip : i ∉ ancOf ops 3 k := fun hip => by
              rcases hkl' with h | h
              · have e0 : predsOf ops k = [] := by unfold predsOf; rw [Array.getElem?_eq_none h]; rfl
                simp [ancOf, e0] at hip
              · have := anc_listed I.closed 3 k (I.closed k h) i hip
                rw [h2] at this; cases this
            have hkn' : (k ∈ last ∨ ∃ j, j < ops.size ∧ listed.getD j false = false ∧ k ∈ needs j) ∧ keptA ops needs last i k = true := by
              rcases hkn with h | ⟨j, hj, hjl, hjk⟩
              · exact ⟨.inl h, by simp [keptA, h]⟩
              · rw [getD_set _ _ _ hil] at hjl
                split at hjl
                · cases hjl
                · rename_i hji
                  refine ⟨.inr ⟨j, hj, hjl, hjk⟩, ?_⟩
                  unfold keptA
                  rw [Bool.or_eq_true]
                  right
                  rw [List.any_eq_true]
                  have hja : j ∉ ancOf ops 3 i := fun h => by
                    have := anc_listed I.closed 3 i h3 j h
                    rw [hjl] at this; cases this
                  exact ⟨j, List.mem_range.2 hj, by simp [hji, hjk, hja]⟩
            refine hdep k a _ w' hkm (fun t ht => slot_put_other _ _ _ _ fun hd => (hL' i h1).2 k hkm e hip hkn'.2 t (by unfold dstOf; rw [Array.getElem?_eq_getElem h1]; exact hd) ht) ?_
            exact hT i k a w w' h1 hkm e hkn'.2 hip (I.val k hkm hkl' hkn'.1) hTi
        · intro t ht
          rw [slot_put_other _ _ _ _ (fun hd => by
            have := ht i (by unfold dstOf; rw [Array.getElem?_eq_getElem h1]; exact hd)
            rw [getD_set _ _ _ hil, if_pos rfl] at this; cases this)]
          exact I.old t fun k hk => by
            have := ht k hk
            rw [getD_set _ _ _ hil] at this
            split at this
            · cases this
            · exact this
        · intro k hkl j hj
          rw [getD_set _ _ _ hil]
          split
          · rfl
          · rename_i hji
            rw [getD_set _ _ _ hil] at hkl
            split at hkl
            · rename_i hki; subst hki; exact h3 j hj
            · exact I.closed k hkl j hj
      unfold wpOp
      rw [Array.getElem?_eq_getElem h1]
      rcases hst with ⟨hw, hst⟩ | ⟨hw, hTi, hv⟩
      · simp only [hw, if_true]
        refine .inl (Oper.wp_mono ?_ hst)
        rintro a' w' ⟨v, rfl, hTi, hG', hv⟩
        exact next v w' hTi hG' hv
      · simp only [hw, Bool.false_eq_true, if_false]
        exact next undef w hTi I.g hv
  refine key _ _ _ _ ?_ ⟨hG, rfl, rfl, by simp, ?_, fun t _ => rfl, ?_⟩
  · unfold unl
    exact Nat.le_trans (List.countP_le_length) (by simp)
  · intro k hkm h _
    rcases h with h | h
    · exact hV0 k hkm h
    · simp [Array.getElem?_replicate] at h
      split at h <;> simp at h
  · intro k h
    simp [Array.getElem?_replicate] at h
    split at h <;> simp at h
/-- A word speaks of the operation's own slot, and of one more slot ('ex'). -/
def exV (ex : Nat → Option Tmp) (k : Nat) (a : Act) : Value := ((ex k).map (slot a)).getD undef
def wordE (ops : Array Oper) (ex : Nat → Option Tmp) (U : Nat → Value → Value → World → Prop) (k : Nat) (a : Act) (w : World) : Prop := U k (((dstOf ops k).map (slot a)).getD undef) (exV ex k a) w
def depE (ops : Array Oper) (ex : Nat → Option Tmp) (k : Nat) : List Tmp := (dstOf ops k).toList ++ (ex k).toList
/-- What is asked of an operation. -/
def StepG (P : Program) (ops : Array Oper) (Q : Exit → Act → World → Prop) (a0 : Act) (T : Nat → World → World → Prop) (G : World → Prop) (ex : Nat → Option Tmp) (U : Nat → Value → Value → World → Prop) (nl : List (List Nat)) (i : Nat) (o : Oper) : Prop :=
  ∀ a w, G w → (∀ k ∈ needL nl i, wordE ops ex U k a w) → (∀ t, oldB ops i t = true → slot a t = slot a0 t) →
    (Region.wanted o (yielded ops a.tmps) = true ∧ o.wp P a w (fun a' w' => ∃ v, a' = a.put o.dst v ∧ T i w w' ∧ G w' ∧ U i (if o.dst.isSome then v else undef) (exV ex i a) w') Q) ∨ (Region.wanted o (yielded ops a.tmps) = false ∧ T i w w ∧ U i undef (exV ex i a) w)
theorem wp_any_wordsG {a0 : Act} {w0 : World} (hB : relyGB ops a0.tmps.size = true)
    (T : Nat → World → World → Prop) (G : World → Prop) (ex : Nat → Option Tmp) (U : Nat → Value → Value → World → Prop) (m : Nat) (nl : List (List Nat)) (last : List Nat) (hb : boundL nl m = true) (hL : leanA ops m (needL nl) last (depE ops ex) = true)
    (hex : ((List.range m).all fun k => (dstOf ops k).isNone || (ex k).isNone || !(dstOf ops k == ex k)) = true)
    (bad : List (Nat × Nat)) (hbad : (bad.all fun x => !keptA ops (needL nl) last x.1 x.2 || (ancOf ops 3 x.2).contains x.1) = true) (hT : ∀ i k v e w w', i < ops.size → k < m → k ≠ i → (i, k) ∉ bad → U k v e w → T i w w' → U k v e w') (hm2 : ops.size ≤ m)
    (hG : G { w0 with drawn := w0.drawn + 1 }) (hV0 : ∀ k, k < m → ops.size ≤ k → U k undef (exV ex k a0) { w0 with drawn := w0.drawn + 1 })
    (ds : List Tmp) (hds : dstsOf ops = ds) (step : ∀ i (hi : i < ops.size), StepG P ops Q a0 T G ex U nl i ops[i])
    (done : ∀ a w, G w → (∀ k ∈ last, k < m → wordE ops ex U k a w) → a.tmps.size = a0.tmps.size → a = ⟨(patchL ds (slot a) 0 a0.tmps.toList).toArray, a0.defers⟩ → Q .normal a w) :
    wpAny P .any ops Q ops.size (Array.replicate ops.size false) a0 { w0 with drawn := w0.drawn + 1 } := by
  subst hds
  refine wp_any_relyG hB T G (wordE ops ex U) m (needL nl) last (depE ops ex) hL (needL_bound hb) ?_ (fun i k a w w' hi hk hne hke hip h hTi => hT i k _ _ w w' hi hk hne (fun hx => by have := (List.all_eq_true.1 hbad) _ hx; simp [hke] at this; exact hip this) h hTi) hG ?_ ?_ ?_
  · intro k a a' w hk h hv
    have h1 : ((dstOf ops k).map (slot a')).getD undef = ((dstOf ops k).map (slot a)).getD undef := by
      cases hd : dstOf ops k with
      | none => rfl
      | some t => simp only [Option.map_some, Option.getD_some]; exact h t (by simp [depE, hd])
    have h2 : exV ex k a' = exV ex k a := by
      unfold exV
      cases hd : ex k with
      | none => rfl
      | some t => simp only [Option.map_some, Option.getD_some]; exact h t (by simp [depE, hd])
    unfold wordE at hv ⊢
    rw [h1, h2]; exact hv
  · intro k hk hge
    unfold wordE
    have : dstOf ops k = none := by unfold dstOf; rw [Array.getElem?_eq_none hge]; rfl
    rw [this]; exact hV0 k hk hge
  · intro i hi a w hGw hN hO hS
    have fin : ∀ v w', U i (if (ops[i]).dst.isSome then v else undef) (exV ex i a) w' → wordE ops ex U i (a.put (ops[i]).dst v) w' := by
      intro v w' h3
      have hd : dstOf ops i = ops[i].dst := by unfold dstOf; rw [Array.getElem?_eq_getElem hi]; rfl
      have h4 : exV ex i (a.put (ops[i]).dst v) = exV ex i a := by
        unfold exV
        cases he : ex i with
        | none => rfl
        | some t =>
          simp only [Option.map_some, Option.getD_some]
          refine slot_put_other _ _ _ _ fun hdt => ?_
          have := (List.all_eq_true.1 hex) i (List.mem_range.2 (by omega))
          rw [hd, hdt, he] at this
          simp at this
      unfold wordE
      rw [hd, h4]
      cases ht : ops[i].dst with
      | none => rw [ht] at h3; exact h3
      | some t =>
        rw [ht] at h3
        have hlt : t < a0.tmps.size := by
          have := (List.all_eq_true.1 hB) i (List.mem_range.2 hi)
          simp only [Bool.and_eq_true] at this
          have h5 := this.2
          have hd' : (ops[i]?).bind (·.dst) = some t := by rw [Array.getElem?_eq_getElem hi]; exact ht
          rw [hd'] at h5
          simp only [Option.map_some, Option.getD_some, Bool.and_eq_true, decide_eq_true_eq] at h5
          exact h5.1
        simp only [Option.map_some, Option.getD_some]
        rw [slot_put_same _ _ _ (by rw [hS]; exact hlt)]
        exact h3
    rcases step i hi a w hGw hN (fun t ht => hO t (old_of ht)) with ⟨hw, hst⟩ | ⟨hw, h1, h3⟩
    · refine .inl ⟨hw, Oper.wp_mono ?_ hst⟩
      rintro a' w' ⟨v, rfl, h1, h2, h3⟩
      exact ⟨v, rfl, h1, h2, fin v w' h3⟩
    · exact .inr ⟨hw, h1, fin undef w (by split <;> exact h3)⟩
  · intro a w hGw hV hO hS hD
    exact done a w hGw hV hS (act_patch _ hS hD (fun t ht => hO t (free_of ht)))
end

section
variable {P : Program} {ops : Array Oper} {Q : Exit → Act → World → Prop} {a0 : Act} {T : Nat → World → World → Prop} {G : World → Prop} {ex : Nat → Option Tmp} {U : Nat → Value → Value → World → Prop} {nl : List (List Nat)} {i : Nat} {o : Oper}
/-- An operation that runs. -/
def StepR (P : Program) (ops : Array Oper) (Q : Exit → Act → World → Prop) (a0 : Act) (T : Nat → World → World → Prop) (G : World → Prop) (ex : Nat → Option Tmp) (U : Nat → Value → Value → World → Prop) (nl : List (List Nat)) (i : Nat) (o : Oper) : Prop :=
  ∀ a w, G w → (∀ k ∈ needL nl i, wordE ops ex U k a w) → (∀ t, oldB ops i t = true → slot a t = slot a0 t) →
    o.wp P a w (fun a' w' => ∃ v, a' = a.put o.dst v ∧ T i w w' ∧ G w' ∧ U i (if o.dst.isSome then v else undef) (exV ex i a) w') Q
/-- An operation without a guard. -/
theorem stepG_of (hg : o.guard = none) (h : StepR P ops Q a0 T G ex U nl i o) : StepG P ops Q a0 T G ex U nl i o := fun a w hG hN hO => .inl ⟨by unfold Region.wanted; rw [hg], h a w hG hN hO⟩
theorem yields_word {j : Nat} {a : Act} {w : World} {b : Bool} (hj : wordE ops ex U j a w) (hU : ∀ v e w, U j v e w → v = .bool b) : yielded ops a.tmps j = some b := by
  have h := hU _ _ _ hj
  unfold yielded
  have hd : (ops[j]?).bind (·.dst) = dstOf ops j := rfl
  rw [hd]
  cases ht : dstOf ops j with
  | none => rw [ht] at h; cases h
  | some t =>
    rw [ht] at h
    simp only [Option.map_some, Option.getD_some, slot, Array.getD_eq_getD_getElem?] at h
    simp only [Option.bind_some]
    cases hv : a.tmps[t]? with
    | none => rw [hv] at h; cases h
    | some v => rw [hv] at h; simp only [Option.getD_some] at h; rw [h]
/-- An operation whose guard lets it run. -/
theorem stepG_on {j : Nat} {b : Bool} (hg : o.guard = some (j, b)) (hj : j ∈ needL nl i) (hU : ∀ v e w, U j v e w → v = .bool b) (h : StepR P ops Q a0 T G ex U nl i o) : StepG P ops Q a0 T G ex U nl i o := fun a w hG hN hO => .inl ⟨by
      unfold Region.wanted; rw [hg]; simp only [yields_word (hN j hj) hU]; simp, h a w hG hN hO⟩
/-- An operation whose guard passes it over. -/
theorem stepG_off {j : Nat} {b : Bool} (hg : o.guard = some (j, b)) (hj : j ∈ needL nl i) (hU : ∀ v e w, U j v e w → v = .bool (!b)) (hTr : ∀ w, T i w w) (hUi : ∀ e w, G w → U i undef e w) : StepG P ops Q a0 T G ex U nl i o := fun a w hG hN hO => .inr ⟨by
      unfold Region.wanted; rw [hg]; simp only [yields_word (hN j hj) hU]; cases b <;> simp, hTr w, hUi _ w hG⟩
/-- An operation that only reckons or reads. -/
theorem stepR_value {t : Tmp} (v : Value) (hd : o.dst = some t) (hTr : ∀ w, T i w w)
    (hrun : ∀ a w, G w → (∀ k ∈ needL nl i, wordE ops ex U k a w) → (∀ t, oldB ops i t = true → slot a t = slot a0 t) → (execOp a.eval o).run P w = .ok (.value v) w)
    (hU : ∀ a w, G w → (∀ k ∈ needL nl i, wordE ops ex U k a w) → U i v (exV ex i a) w) : StepR P ops Q a0 T G ex U nl i o := by
  intro a w hG hN hO
  exact wp_value (hrun a w hG hN hO) ⟨v, rfl, hTr w, hG, by rw [hd]; exact hU a w hG hN⟩
end
variable {P : Program} {ops : Array Oper} {Q : Exit → Act → World → Prop}
theorem wp_region_wordsG {id : Nat} {a0 : Act} {w0 : World} (hm : P.follows .mixedOrders = true) (hB : relyGB ops a0.tmps.size = true)
    (T : Nat → World → World → Prop) (G : World → Prop) (ex : Nat → Option Tmp) (U : Nat → Value → Value → World → Prop) (m : Nat) (nl : List (List Nat)) (last : List Nat) (hb : boundL nl m = true) (hL : leanA ops m (needL nl) last (depE ops ex) = true)
    (hex : ((List.range m).all fun k => (dstOf ops k).isNone || (ex k).isNone || !(dstOf ops k == ex k)) = true)
    (bad : List (Nat × Nat)) (hbad : (bad.all fun x => !keptA ops (needL nl) last x.1 x.2 || (ancOf ops 3 x.2).contains x.1) = true) (hT : ∀ i k v e w w', i < ops.size → k < m → k ≠ i → (i, k) ∉ bad → U k v e w → T i w w' → U k v e w') (hm2 : ops.size ≤ m)
    (hG : G { w0 with drawn := w0.drawn + 1 }) (hV0 : ∀ k, k < m → ops.size ≤ k → U k undef (exV ex k a0) { w0 with drawn := w0.drawn + 1 })
    (ds : List Tmp) (hds : dstsOf ops = ds) (step : ∀ i (hi : i < ops.size), StepG P ops Q a0 T G ex U nl i ops[i])
    (done : ∀ a w, G w → (∀ k ∈ last, k < m → wordE ops ex U k a w) → a.tmps.size = a0.tmps.size → a = ⟨(patchL ds (slot a) 0 a0.tmps.toList).toArray, a0.defers⟩ → Q .normal a w) :
    (Code.region id ops true).wp P Q a0 w0 :=
  wp_region_any hm (wp_any_wordsG hB T G ex U m nl last hb hL hex bad hbad hT hm2 hG hV0 ds hds step done)
end Go.Proofs.YtohicccbaenegaaGreatDoor
/-
  Regions that draw their order, of no program: what one operation does, and all others; a call met by its contract.
-/
set_option linter.unusedVariables false
namespace Go.Proofs.YtohicccbaenegaaGreatDoor
open Go.RowKit

/-- What one operation does (number j), and all others. -/
def appT (j : Nat) (R : World → World → Prop) (i : Nat) (w w' : World) : Prop := if i = j then R w w' else Below w.heap.size w w'
theorem appT_at {j : Nat} {R : World → World → Prop} {w w' : World} (h : R w w') : appT j R j w w' := by unfold appT; rw [if_pos rfl]; exact h
theorem appT_in {j : Nat} {R : World → World → Prop} {w w' : World} (h : appT j R j w w') : R w w' := by unfold appT at h; rw [if_pos rfl] at h; exact h
theorem appT_other {j i : Nat} {R : World → World → Prop} {w w' : World} (hi : i ≠ j) (h : Below w.heap.size w w') : appT j R i w w' := by unfold appT; rw [if_neg hi]; exact h
theorem appT_out {j i : Nat} {R : World → World → Prop} {w w' : World} (hi : i ≠ j) (h : appT j R i w w') : Below w.heap.size w w' := by unfold appT at h; rw [if_neg hi] at h; exact h
def allT (_ : Nat) (w w' : World) : Prop := Below w.heap.size w w'
theorem calls_val {P : Program} {f : FuncId} {xs : Array Value} {w : World} {v : Value} {R : World → Prop} (h : Calls P f xs w fun e w' => e = .returned v ∧ R w') : Calls P f xs w fun e w' => ∃ u, e = .returned u ∧ (u = v ∧ R w') :=
  h.mono fun _ _ ⟨a, b⟩ => ⟨_, a, rfl, b⟩
theorem yields_slice {P : Program} {ρ : Operand → Value} {o : Oper} {t : TypeId} {x : Operand} {lo hi : Option Operand} {vx v : Value} {l h : Option Value} {W : World} (hu : P.underlying t = some .string) (ho : o.op = .slice t x lo hi none) (hx : ρ x = vx) (hl : lo.map ρ = l) (hh : hi.map ρ = h) (hr : (Instr.slice t vx l h none).run P W = .ok v W) : (execOp ρ o).run P W = .ok (.value v) W := by
  subst hx hl hh
  unfold execOp
  rw [ho]
  simp [run_sliceAt_string W t (ρ x) (lo.map ρ) (hi.map ρ) none hu, hr]
theorem wp_callx {P : Program} {o : Oper} {a : Act} {w : World} {K : Act → World → Prop} {Q : Exit → Act → World → Prop} (f : FuncId) (args : Array Operand) (tys : Array TypeId) (ho : o.op = .call { callee := .value (.func f), args := args, argTypes := tys })
    (hen : ∀ xs w, (callFunc f xs).run P w = .ok (.enter f xs) w) (xs : Array Value) (hxs : args.map a.eval = xs) {R : Value → World → Prop} (h : Calls P f xs w fun e w' => ∃ v, e = .returned v ∧ R v w') (hk : ∀ v w', R v w' → K (a.put o.dst v) w') : o.wp P a w K Q := by
  unfold Oper.wp execOp
  simp only [ho]
  simp [hxs, go_sem, hen]
  refine h.mono ?_
  rintro e w' ⟨v, rfl, hr⟩
  exact hk v w' hr
/-- What some operations do (R says of each), and all others. -/
def appTs (l : List Nat) (R : Nat → World → World → Prop) (i : Nat) (w w' : World) : Prop := if i ∈ l then R i w w' else Below w.heap.size w w'
theorem appTs_at {l : List Nat} {R : Nat → World → World → Prop} {i : Nat} {w w' : World} (hi : i ∈ l) (h : R i w w') : appTs l R i w w' := by unfold appTs; rw [if_pos hi]; exact h
theorem appTs_in {l : List Nat} {R : Nat → World → World → Prop} {i : Nat} {w w' : World} (hi : i ∈ l) (h : appTs l R i w w') : R i w w' := by unfold appTs at h; rw [if_pos hi] at h; exact h
theorem appTs_other {l : List Nat} {R : Nat → World → World → Prop} {i : Nat} {w w' : World} (hi : i ∉ l) (h : Below w.heap.size w w') : appTs l R i w w' := by unfold appTs; rw [if_neg hi]; exact h
theorem appTs_out {l : List Nat} {R : Nat → World → World → Prop} {i : Nat} {w w' : World} (hi : i ∉ l) (h : appTs l R i w w') : Below w.heap.size w w' := by unfold appTs at h; rw [if_neg hi] at h; exact h
end Go.Proofs.YtohicccbaenegaaGreatDoor
/-
  Contracts over this translation: strings.IndexRune of a rune that is no ASCII byte in "/\x00".
-/
set_option linter.unusedVariables false
namespace Go.Proofs.YtohicccbaenegaaGreatDoor
open Go.RowKit Go.Shelf
attribute [local go_sem] Oper.semAt_some

abbrev badS : ByteArray := ⟨#[47, 0]⟩

set_option maxRecDepth 100000 in
theorem IndexByte_any (s : ByteArray) (c : UInt8) (w : World) : Calls Tryz.prog 138 #[.string s, .int .u8 c.toNat] w fun e w' => e = .returned (.int .i64 (Lib.indexByte s.data.toList c)) ∧ w = w' := by
  have C := Any.strings_IndexByte Tryz.lays137 s (c.toNat : Int) w
  change Calls Tryz.prog 138 _ _ _ at C
  refine C.mono ?_
  rintro e w' ⟨rfl, rfl⟩
  exact ⟨by simp, rfl⟩

/-- A rune is valid. -/
def runeB (c : Int) : Bool := (decide (0 ≤ c) && decide (c < 55296)) || (decide (57343 < c) && decide (c ≤ 1114111))
theorem ValidRune_any (c : Int) (h0 : 128 ≤ c) (w : World) : Calls Tryz.prog 139 #[.int .i32 c] w fun e w' => e = .returned (.bool (runeB c)) ∧ w = w' := by
  have a0 : decide ((0 : Int) ≤ c) = true := decide_eq_true (by omega)
  by_cases h1 : c < 55296
  · have a1 : decide (c < 55296) = true := decide_eq_true h1
    have HN : Hid (runeB c = true) := by show _ = _; simp [runeB, a0, a1]
    go_enter Tryz.func139, Tryz.ntmps139
    go_wp2
    go_ret
    exact ⟨ret_val (congrArg Value.bool HN.out.symm), rfl⟩
  · have a1 : decide (c < 55296) = false := decide_eq_false h1
    by_cases h2 : 57343 < c
    · have a2 : decide (57343 < c) = true := decide_eq_true h2
      by_cases h3 : c ≤ 1114111
      · have a3 : decide (c ≤ 1114111) = true := decide_eq_true h3
        have HN : Hid (runeB c = true) := by show _ = _; simp [runeB, a2, a3]
        go_enter Tryz.func139, Tryz.ntmps139
        go_wp2
        go_ret
        exact ⟨ret_val (congrArg Value.bool HN.out.symm), rfl⟩
      · have a3 : decide (c ≤ 1114111) = false := decide_eq_false h3
        have HN : Hid (runeB c = false) := by show _ = _; simp [runeB, a1, a3]
        go_enter Tryz.func139, Tryz.ntmps139
        go_wp2
        go_ret
        exact ⟨ret_val (congrArg Value.bool HN.out.symm), rfl⟩
    · have a2 : decide (57343 < c) = false := decide_eq_false h2
      have HN : Hid (runeB c = false) := by show _ = _; simp [runeB, a1, a2]
      go_enter Tryz.func139, Tryz.ntmps139
      go_wp2
      go_ret
      exact ⟨ret_val (congrArg Value.bool HN.out.symm), rfl⟩

/-- A rune's bytes. -/
theorem encode_high {c : Int} (h : 128 ≤ c) : 2 ≤ (Utf8.encode c).size ∧ (Utf8.encode c).size ≤ 4 ∧ ∀ k (hk : k < (Utf8.encode c).size), k + 1 = (Utf8.encode c).size → ((Utf8.encode c)[k].toNat : Int) ≠ 0 := by
  obtain ⟨n, hn⟩ : ∃ n, n = if Utf8.valid c then c.toNat else Utf8.runeError := ⟨_, rfl⟩
  have hn1 : 128 ≤ n := by rw [hn]; split; omega; decide
  have key : ∀ m : Nat, ((UInt8.ofNat (128 + m % 64)).toNat : Int) ≠ 0 := fun m => by
    rw [UInt8.toNat_ofNat']; omega
  have two : ∀ a b : UInt8, (⟨#[a, b]⟩ : ByteArray).size = 2 := fun _ _ => rfl
  have three : ∀ a b c : UInt8, (⟨#[a, b, c]⟩ : ByteArray).size = 3 := fun _ _ _ => rfl
  have four : ∀ a b c d : UInt8, (⟨#[a, b, c, d]⟩ : ByteArray).size = 4 := fun _ _ _ _ => rfl
  unfold Utf8.encode
  rw [← hn]
  simp only
  split
  · omega
  · split
    · refine ⟨by rw [two]; omega, by rw [two]; omega, fun k hk e => ?_⟩
      rw [two] at e; obtain rfl : k = 1 := by omega
      exact key n
    · split
      · refine ⟨by rw [three]; omega, by rw [three]; omega, fun k hk e => ?_⟩
        rw [three] at e; obtain rfl : k = 2 := by omega
        exact key n
      · refine ⟨by rw [four]; omega, by rw [four]; omega, fun k hk e => ?_⟩
        rw [four] at e; obtain rfl : k = 3 := by omega
        exact key n

set_option maxRecDepth 100000 in
set_option maxHeartbeats 4000000 in
theorem IndexRune_high (c : Int) (h : 128 ≤ c) (hc : c ≤ 2147483647) (w : World) : Calls Tryz.prog 126 #[.string badS, .int .i32 c] w fun e w' => e = .returned (.int .i64 (-1)) ∧ Below w.heap.size w w' := by
  have a0 : decide (c < 128) = false := decide_eq_false (by omega)
  have a00 : decide ((0 : Int) ≤ c) = true := decide_eq_true (by omega)
  by_cases he : c = 65533
  · subst he
    go_enter Tryz.func126, Tryz.ntmps126
    go_wp2
    go_loopg [5, 6] 2 (fun g _ _ wx => ∃ i : Nat, i + g = 2 ∧ wx = w.iter badS i)
    case atStart => exact ⟨0, by omega, rfl⟩
    case round =>
      obtain ⟨i, hig, rfl⟩ := hrel
      cases gk with
      | zero =>
        obtain rfl : i = 2 := by omega
        have hnx := run_next_end (P := Tryz.prog) w badS 2
        go_wp2
        go_ret
        exact ⟨rfl, (Below.refl _ _).alloc (Nat.le_refl _) _⟩
      | succ g =>
        have hi : i < badS.size := by show i < 2; omega
        have hx : (badS[i]'hi).toNat < 128 := by
          rcases (show i = 0 ∨ i = 1 by omega) with rfl | rfl
          · exact (by decide : 47 < 128)
          · exact (by decide : 0 < 128)
        have hnx := fun ty => run_next_ascii (P := Tryz.prog) w badS i ty hi hx
        obtain ⟨x, hxx⟩ : ∃ x, x = (badS[i]'hi).toNat := ⟨_, rfl⟩
        rw [← hxx] at hnx hx
        have hne : ((x : Int) == 65533) = false := beq_eq_false_iff_ne.2 (by omega)
        clear hxx
        go_wp2
        go_roundg g
        case measure => omega
        case rel => exact ⟨i + 1, by omega, rfl⟩
  · have a1 : (c == 65533) = false := beq_eq_false_iff_ne.2 he
    have V := Lib.hid (ValidRune_any c h)
    rcases hv : runeB c with _ | _
    · rw [hv] at V
      go_enter Tryz.func126, Tryz.ntmps126
      go_wp2_with fail
      refine (V.out _).mono ?_
      rintro e w1 ⟨rfl, rfl⟩
      go_wp2
      go_ret
      exact ⟨rfl, Below.refl _ _⟩
    · rw [hv] at V
      obtain ⟨hz1, hz2, hlast⟩ := encode_high h
      clear hv
      by_cases hz : (Utf8.encode c).size = 2
      · have hl := hlast 1 (by omega) (by omega)
        have hu0 : (((badS[1]'(by decide)).toNat : Int) != (((Utf8.encode c)[1]'(by omega)).toNat : Int)) = true := bne_iff_ne.2 (fun e => hl e.symm)
        have hw2 : IntKind.i64.wrap 2 = 2 := by rw [IntKind.wrap_i64]; decide
        have hs2 := fun W => run_slice_from (P := Tryz.prog) Tryz.underlying9 badS 2 (by decide) W
        have CI := Lib.hid (fun (x : ByteArray) (hx : x.data.toList = []) (u : UInt8) W => show Calls Tryz.prog 138 #[.string x, .int .u8 u.toNat] W fun e w' => e = .returned (.int .i64 (-1)) ∧ w' = W from (IndexByte_any x u W).mono fun e w' h => ⟨by rw [h.1, hx]; rfl, h.2.symm⟩)
        clear hlast hl
        go_enter Tryz.func126, Tryz.ntmps126
        go_wp2_with fail
        refine (V.out _).mono ?_
        rintro e w1 ⟨rfl, rfl⟩
        go_wp2_with fail
        apply wp_scope_straight
        go_wp2_with fail
        go_loopw [9, 10] (fun i f wx => i = .int .i64 1 ∧ f = .int .i64 0 ∧ wx = w) (fun _ _ _ => 0)
        case atStart => exact ⟨rfl, rfl, rfl⟩
        case round =>
          obtain ⟨rfl, rfl, rfl⟩ := hrel
          go_wp2_with fail
          apply wp_scope_straight
          go_wp2_with fail
          go_quiet (fail)
          go_wp2_with fail
          have hBw := below_drewN (Below.refl wr.heap.size wr) nq
          generalize wr.drewN nq = wq at hBw ⊢
          go_quiet ((go_at_call 138; exact Calls.quiet_of_same (CI.out ByteArray.empty (by rfl) _ _)))
          go_wp2_with fail
          rw [Exit.noGoto_ret]
          go_wp2_with fail
          rw [Exit.noGoto_ret]
          go_wp2
          go_ret
          exact ⟨rfl, below_drewN hBw _⟩
      · have hz3 : 3 ≤ (Utf8.encode c).size := by omega
        obtain ⟨rs, hrs⟩ : ∃ rs, rs = Utf8.encode c := ⟨_, rfl⟩
        have HZ3 := Lib.hid hz3
        clear hlast hz
        go_enter Tryz.func126, Tryz.ntmps126
        go_wp2_with fail
        refine (V.out _).mono ?_
        rintro e w1 ⟨rfl, rfl⟩
        go_wp2_with fail
        apply wp_scope_straight
        go_wp2_with fail
        rw [← hrs] at hz3 hz1 hz2 ⊢
        clear hrs
        have hlt : decide ((rs.size : Int) - 1 < 2) = false := decide_eq_false (by omega)
        go_loopw [9, 10] (fun i f wx => i = .int .i64 ((rs.size : Int) - 1) ∧ f = .int .i64 0 ∧ wx = w) (fun _ _ _ => 0)
        case atStart => exact ⟨rfl, rfl, rfl⟩
        case round =>
          obtain ⟨rfl, rfl, rfl⟩ := hrel
          go_wp2_with fail
          rw [Exit.noGoto_ret]
          go_wp2
          go_ret
          exact ⟨rfl, Below.refl _ _⟩
end Go.Proofs.YtohicccbaenegaaGreatDoor
/-
  Contracts over this translation: strings.IndexAny and strings.ContainsAny of any short text in "/\x00"; path.Name.
-/
set_option linter.unusedVariables false
namespace Go.Proofs.YtohicccbaenegaaGreatDoor
open Go.RowKit Go.Shelf
attribute [local go_sem] Oper.semAt_some

/-- A 0 or a slash is there. -/
def dirtyB (l : List UInt8) : Bool := decide ((0 : UInt8) ∈ l ∨ (47 : UInt8) ∈ l)
theorem index_ge (l c : List UInt8) : -1 ≤ Lib.indexAny l c := by
  induction l with
  | nil => simp [Lib.indexAny]
  | cons b l ih =>
    simp only [Lib.indexAny]
    split
    · omega
    · split <;> omega
theorem index_dirty (l : List UInt8) : decide (0 ≤ Lib.indexAny l [47, 0]) = dirtyB l := by
  unfold dirtyB
  refine decide_eq_decide.2 ?_
  induction l with
  | nil => simp [Lib.indexAny]
  | cons b l ih =>
    have hg := index_ge l [47, 0]
    simp only [Lib.indexAny]
    by_cases hb : b = 0 ∨ b = 47
    · have hc : ([47, 0] : List UInt8).contains b = true := by rcases hb with rfl | rfl <;> decide
      rw [if_pos hc]
      constructor
      · intro _; rcases hb with rfl | rfl <;> simp
      · intro _; omega
    · have hc : ([47, 0] : List UInt8).contains b = false := by
        simp only [List.contains_cons, List.contains_nil, Bool.or_false]
        simp only [not_or] at hb
        simp [hb.1, hb.2]
      rw [hc, if_neg (by decide)]
      have e : ((0 : UInt8) ∈ b :: l ∨ (47 : UInt8) ∈ b :: l) ↔ ((0 : UInt8) ∈ l ∨ (47 : UInt8) ∈ l) := by
        simp only [not_or] at hb
        simp [Ne.symm hb.1, Ne.symm hb.2]
      rw [e, ← ih]
      by_cases h1 : Lib.indexAny l [47, 0] = -1
      · rw [h1]; simp
      · have : (Lib.indexAny l [47, 0] == -1) = false := beq_eq_false_iff_ne.2 h1
        rw [this, if_neg (by decide)]; omega

theorem cont_high (b : Nat) (h : (b / 64 == 2) = true) : 128 ≤ b := by
  have : b / 64 = 2 := by simpa using h
  omega
theorem decode_span (s : ByteArray) (pos : Nat) (h : pos < s.size) (ha : 128 ≤ (s[pos]'h).toNat) :
    1 ≤ (Utf8.decode s pos).2 ∧ pos + (Utf8.decode s pos).2 ≤ s.size ∧ ∀ j (hj : j < s.size), pos ≤ j → j < pos + (Utf8.decode s pos).2 → 128 ≤ (s[j]'hj).toNat := by
  have cont : ∀ k, (decide (pos + k < s.size) && (s.get! (pos + k)).toNat / 64 == 2) = true → ∃ hk : pos + k < s.size, 128 ≤ (s[pos + k]'hk).toNat := fun k hk => by
    rw [Bool.and_eq_true] at hk
    have h1 : pos + k < s.size := of_decide_eq_true hk.1
    refine ⟨h1, ?_⟩
    have := cont_high _ hk.2
    rwa [show s.get! (pos + k) = s[pos + k]'h1 by simp [ByteArray.get!, getElem!_pos, h1]; rfl] at this
  have one : ∀ j (hj : j < s.size), pos ≤ j → j < pos + 1 → 128 ≤ (s[j]'hj).toNat := fun j hj h1 h2 => by
    obtain rfl : j = pos := by omega
    exact ha
  have hn : ¬ (s[pos]'h).toNat < 128 := by omega
  simp only [Utf8.decode, get_at s pos h, hn, if_false]
  split
  · rename_i hc
    split
    · rw [Bool.and_eq_true] at hc
      obtain ⟨k1, h1⟩ := cont 1 hc.2
      refine ⟨by omega, by show pos + 2 ≤ _; omega, fun j hj a b => ?_⟩
      change j < pos + 2 at b
      rcases (show j = pos ∨ j = pos + 1 by omega) with rfl | rfl
      · exact ha
      · exact h1
    · exact ⟨Nat.le_refl _, by show pos + 1 ≤ _; omega, one⟩
  · split
    · rename_i hc
      split
      · simp only [Bool.and_eq_true] at hc
        obtain ⟨k1, h1⟩ := cont 1 (by simp only [Bool.and_eq_true]; exact hc.1.2)
        obtain ⟨k2, h2⟩ := cont 2 (by simp only [Bool.and_eq_true]; exact hc.2)
        refine ⟨by show 1 ≤ 3; omega, by show pos + 3 ≤ _; omega, fun j hj a b => ?_⟩
        change j < pos + 3 at b
        rcases (show j = pos ∨ j = pos + 1 ∨ j = pos + 2 by omega) with rfl | rfl | rfl
        · exact ha
        · exact h1
        · exact h2
      · exact ⟨Nat.le_refl _, by show pos + 1 ≤ _; omega, one⟩
    · split
      · rename_i hc
        split
        · simp only [Bool.and_eq_true] at hc
          obtain ⟨k1, h1⟩ := cont 1 (by simp only [Bool.and_eq_true]; exact hc.1.1.2)
          obtain ⟨k2, h2⟩ := cont 2 (by simp only [Bool.and_eq_true]; exact hc.1.2)
          obtain ⟨k3, h3⟩ := cont 3 (by simp only [Bool.and_eq_true]; exact hc.2)
          refine ⟨by show 1 ≤ 4; omega, by show pos + 4 ≤ _; omega, fun j hj a b => ?_⟩
          change j < pos + 4 at b
          rcases (show j = pos ∨ j = pos + 1 ∨ j = pos + 2 ∨ j = pos + 3 by omega) with rfl | rfl | rfl | rfl
          · exact ha
          · exact h1
          · exact h2
          · exact h3
        · exact ⟨Nat.le_refl _, by show pos + 1 ≤ _; omega, one⟩
      · exact ⟨Nat.le_refl _, by show pos + 1 ≤ _; omega, one⟩

theorem clean_more {s : ByteArray} {k : Nat} (h : CleanTo s.data.toList k) : ∀ n, k + n ≤ s.size → (∀ j (hj : j < s.size), k ≤ j → j < k + n → 128 ≤ (s[j]'hj).toNat) → CleanTo s.data.toList (k + n)
  | 0, _, _ => h
  | n + 1, hn, hh => by
    have := clean_more h n (by omega) (fun j hj a b => hh j hj a (by omega))
    have hb := hh (k + n) (by omega) (by omega) (by omega)
    have hlt : k + n < s.size := by omega
    exact clean_step this hlt (fun (e : s[k + n] = 0) => by rw [e] at hb; exact absurd hb (by decide)) (fun (e : s[k + n] = 47) => by rw [e] at hb; exact absurd hb (by decide))

def RetIx (l : List UInt8) (w : World) (e : Ending) (w' : World) : Prop := ∃ r : Int, e = .returned (.int .i64 r) ∧ decide (0 ≤ r) = dirtyB l ∧ Below w.heap.size w w'

theorem dirty_at {s : ByteArray} {k : Nat} (hk : k < s.size) (h : s[k] = 0 ∨ s[k] = 47) : dirtyB s.data.toList = true := decide_eq_true (by
  rcases h with h | h
  · exact .inl (h ▸ mem_at hk)
  · exact .inr (h ▸ mem_at hk))
theorem dirty_not {s : ByteArray} (h : CleanTo s.data.toList s.size) : dirtyB s.data.toList = false := decide_eq_false (fun hh => by
  rcases hh with e | e
  · exact (clean_all h).1 e
  · exact (clean_all h).2 e)

theorem useSet (n : Nat) (w : World) : Calls Tryz.prog 127 #[.int .i64 n] w fun e w' => e = .returned (.bool (decide ((8 : Int) < (n : Int)))) ∧ w = w' := by
  go_enter Tryz.func127, Tryz.ntmps127
  go_wp2
  go_ret
  exact ⟨rfl, rfl⟩
theorem runeAscii (x : UInt8) (h : x.toNat < 128) (w : World) : Calls Tryz.prog 126 #[.string badS, .int .i32 x.toNat] w fun e w' => e = .returned (.int .i64 (Lib.indexByte [47, 0] x)) ∧ w = w' := by
  have C := Any.strings_IndexRune_ascii Tryz.lays152 badS (x.toNat : Int) w (by omega) (by omega)
  change Calls Tryz.prog 126 _ _ _ at C
  refine C.mono ?_
  rintro e w' ⟨rfl, rfl⟩
  exact ⟨by simp, rfl⟩
theorem index_no {u : UInt8} (h0 : ¬ u = 0) (h47 : ¬ u = 47) : Lib.indexByte [47, 0] u = -1 := by
  have a : ((47 : UInt8) == u) = false := beq_eq_false_iff_ne.2 (fun e => h47 e.symm)
  have b : ((0 : UInt8) == u) = false := beq_eq_false_iff_ne.2 (fun e => h0 e.symm)
  simp [Lib.indexByte, a, b]
theorem badS_list : badS.data.toList = [47, 0] := rfl

set_option maxRecDepth 100000 in
set_option maxHeartbeats 4000000 in
theorem IndexAny_short (s : ByteArray) (h8 : s.size ≤ 8) (w : World) : Calls Tryz.prog 110 #[.string s, .string badS] w (RetIx s.data.toList w) := by
  have h8z : decide ((8 : Int) < (s.size : Int)) = false := decide_eq_false (by omega)
  have US := Lib.hid (useSet s.size)
  rw [h8z] at US
  have RA := Lib.hid runeAscii
  have RH := Lib.hid IndexRune_high
  clear h8z
  go_enter Tryz.func110, Tryz.ntmps110
  go_wp2_with fail
  refine (US.out _).mono ?_
  rintro e w1 ⟨rfl, rfl⟩
  go_wp2_with fail
  go_loopg [9, 10] s.size (fun g _ _ wx => ∃ i : Nat, i ≤ s.size ∧ i + g = s.size ∧ wx.heap[w.heap.size]? = some (.stringIter s i) ∧ CleanTo s.data.toList i ∧ Below w.heap.size w wx)
  case atStart => exact ⟨0, Nat.zero_le _, by omega, World.iter_heap _ _ _, clean_zero _, (Below.refl _ _).alloc (Nat.le_refl _) _⟩
  case round =>
    obtain ⟨i, hi0, hig, hk, hc, hb⟩ := hrel
    have HC := Lib.hid hc; have HK := Lib.hid hk
    clear hc
    by_cases hi : i < s.size
    · by_cases hx : (s[i]'hi).toNat < 128
      · have hnx := fun ty => Lib.run_next_ascii_at (P := Tryz.prog) wr w.heap.size s i ty hk hi hx
        have HK2 := Lib.hid (Lib.iterAt_heap wr w.heap.size s i (i + 1) hk)
        have hb2 := Lib.below_iterAt hb (Nat.le_refl _) s (i + 1)
        have R := Lib.hid (RA.out (s[i]'hi) hx)
        clear hk
        by_cases hbad : s[i] = 0 ∨ s[i] = 47
        · have HD := Lib.hid (dirty_at hi hbad)
          have hr : ∃ r : Int, Lib.indexByte [47, 0] (s[i]'hi) = r ∧ 0 ≤ r := by
            rcases hbad with e | e <;> rw [e]
            · exact ⟨1, by decide, by decide⟩
            · exact ⟨0, by decide, by decide⟩
          obtain ⟨r, hr1, hr2⟩ := hr
          rw [hr1] at R
          have hr3 : decide ((0 : Int) ≤ r) = true := decide_eq_true hr2
          obtain ⟨x, hxx⟩ : ∃ x, x = (s[i]'hi) := ⟨_, rfl⟩
          rw [← hxx] at hnx R hx
          clear hxx hbad hr1
          go_wp2_with ((with_reducible refine (R.out _).mono ?_); rintro e w2 ⟨rfl, rfl⟩)
          go_ret
          exact ⟨_, rfl, by rw [HD.out]; exact decide_eq_true (by omega), hb2⟩
        · have hr : Lib.indexByte [47, 0] (s[i]'hi) = -1 := by
            simp only [not_or] at hbad
            exact index_no hbad.1 hbad.2
          rw [hr] at R
          have HS := Lib.hid (clean_step HC.out hi (fun e => hbad (.inl e)) (fun e => hbad (.inr e)))
          obtain ⟨x, hxx⟩ : ∃ x, x = (s[i]'hi) := ⟨_, rfl⟩
          rw [← hxx] at hnx R hx
          clear hxx hbad hr
          go_wp2_with ((with_reducible refine (R.out _).mono ?_); rintro e w2 ⟨rfl, rfl⟩)
          go_roundg (s.size - (i + 1))
          case measure => omega
          case rel => exact ⟨i + 1, by omega, by omega, HK2.out, HS.out, hb2⟩
      · have hnx := fun ty => Lib.run_next_any_at (P := Tryz.prog) wr w.heap.size s i ty hk hi
        obtain ⟨hd1, hd2⟩ := decode_high s i hi (by omega)
        have hd3 := decode_le s i
        obtain ⟨_, hd4, hd5⟩ := decode_span s i hi (by omega)
        have HS := Lib.hid (clean_more HC.out _ hd4 hd5)
        obtain ⟨r, hr⟩ : ∃ r, r = (Utf8.decode s i).1 := ⟨_, rfl⟩
        obtain ⟨n, hn⟩ : ∃ n, n = (Utf8.decode s i).2 := ⟨_, rfl⟩
        rw [← hr] at hnx hd1 hd3
        rw [← hn] at hnx hd2 hd4 HS
        have HK2 := Lib.hid (Lib.iterAt_heap wr w.heap.size s i (i + n) hk)
        have hb2 := Lib.below_iterAt hb (Nat.le_refl _) s (i + n)
        have R := Lib.hid (RH.out (r : Int) (by omega) (by omega))
        clear hk hr hn hd5 hx
        go_wp2_with ((with_reducible refine (R.out _).mono ?_); rintro e w2 ⟨rfl, hb3⟩)
        have hb4 := hb2.trans (hb3.mono hb2.size)
        have HK3 := Lib.hid ((hb3.block w.heap.size (Array.getElem?_eq_some_iff.1 HK2.out).1).trans HK2.out)
        clear hb3
        go_roundg (s.size - (i + n))
        case measure => omega
        case rel => exact ⟨i + n, by omega, by omega, HK3.out, HS.out, hb4⟩
    · obtain rfl : i = s.size := by omega
      have hnx := fun ty => Lib.run_next_end_at (P := Tryz.prog) wr w.heap.size s s.size ty hk (Nat.lt_irrefl _)
      have HD := Lib.hid (dirty_not HC.out)
      clear hk
      go_wp2
      go_ret
      exact ⟨-1, rfl, by rw [HD.out]; decide, hb⟩

theorem zeroSet : (Tryz.prog.info? 172).map (fun i => (i.zero, i.size)) = some (some (.agg (Array.replicate 256 (.bool false))), 256) := by kernel_rfl
set_option maxRecDepth 100000 in
theorem IndexAny_any (s : ByteArray) (hs : s.size ≤ 1000) (w : World) : Calls Tryz.prog 110 #[.string s, .string badS] w (RetIx s.data.toList w) := by
  by_cases h8 : s.size ≤ 8
  · exact IndexAny_short s h8 w
  · have C := Any.strings_IndexAny_long Tryz.lays153 (zero_of_info zeroSet).1 (zero_of_info zeroSet).2 s badS w (by decide) (by omega) (by omega) (by decide) (fun j b hb => by
      rw [badS_list] at hb
      match j, hb with
      | 0, hb => cases hb; decide
      | 1, hb => cases hb; decide)
    change Calls Tryz.prog 110 _ _ _ at C
    refine C.mono ?_
    rintro e w' ⟨rfl, rfl⟩
    exact ⟨_, rfl, index_dirty _, ((Below.refl _ _).alloc (Nat.le_refl _) _).alloc (by simp) _⟩

set_option maxRecDepth 100000 in
theorem ContainsAny_any (s : ByteArray) (hs : s.size ≤ 1000) (w : World) : Calls Tryz.prog 90 #[.string s, .string badS] w fun e w' => e = .returned (.bool (dirtyB s.data.toList)) ∧ Below w.heap.size w w' := by
  have C := Lib.hid (IndexAny_any s hs)
  go_enter Tryz.func90, Tryz.ntmps90
  go_wp2_with fail
  refine (C.out _).mono ?_
  rintro e w1 ⟨r, rfl, hr, hb⟩
  have HR := Lib.hid hr
  clear hr
  go_wp2
  go_ret
  exact ⟨ret_val (congrArg Value.bool HR.out), hb⟩

theorem name_dirty {l : List UInt8} (h : dirtyB l = true) : nameB l = false := nameB_no fun hh => by
  rcases of_decide_eq_true h with e | e
  · exact hh.2.2.2.2.1 e
  · exact hh.2.2.2.2.2 e
theorem name_clean {l : List UInt8} (h : dirtyB l = false) (h1 : 1 ≤ l.length) (h2 : l.length ≤ 31) (h3 : l ≠ [46]) (h4 : l ≠ [46, 46]) : nameB l = true := by
  have := of_decide_eq_false h
  exact nameB_mk ⟨h1, h2, h3, h4, fun e => this (.inl e), fun e => this (.inr e)⟩
set_option maxRecDepth 100000 in
set_option maxHeartbeats 1000000 in
theorem Name_any (s : ByteArray) (w : World) : Calls Tryz.prog 70 #[.string s] w fun e w' => e = .returned (.bool (nameB s.data.toList)) ∧ Below w.heap.size w w' := by
  by_cases hd : s.data.toList = [46]
  · have e2 : (s.toList == [46]) = true := by rw [one_dot]; exact decide_eq_true hd
    have HN : Hid (nameB s.data.toList = false) := nameB_no (fun hh => hh.2.2.1 hd)
    clear hd
    go_enter Tryz.func70, Tryz.ntmps70
    go_wp2
    go_ret
    exact ⟨ret_val (congrArg Value.bool HN.out.symm), Below.refl _ _⟩
  · have e2 : (s.toList == [46]) = false := by rw [one_dot]; exact decide_eq_false hd
    by_cases hd2 : s.data.toList = [46, 46]
    · have e3 : (s.toList == [46, 46]) = true := by rw [two_dots]; exact decide_eq_true hd2
      have HN : Hid (nameB s.data.toList = false) := nameB_no (fun hh => hh.2.2.2.1 hd2)
      clear hd hd2
      go_enter Tryz.func70, Tryz.ntmps70
      go_wp2
      go_ret
      exact ⟨ret_val (congrArg Value.bool HN.out.symm), Below.refl _ _⟩
    · have e3 : (s.toList == [46, 46]) = false := by rw [two_dots]; exact decide_eq_false hd2
      have HD := Lib.hid hd; have HD2 := Lib.hid hd2
      clear hd hd2
      by_cases h0 : 0 < s.size
      · have z0 : decide ((0 : Int) < (s.size : Int)) = true := decide_eq_true (by omega)
        by_cases h31 : s.size ≤ 31
        · have z1 : decide ((s.size : Int) ≤ 31) = true := decide_eq_true (by omega)
          have C := Lib.hid (ContainsAny_any s (by omega))
          rcases hb : dirtyB s.data.toList with _ | _
          · have HN : Hid (nameB s.data.toList = true) := name_clean hb (by rw [← Lib.size_eq]; omega) (by rw [← Lib.size_eq]; omega) HD.out HD2.out
            rw [hb] at C; clear hb
            go_enter Tryz.func70, Tryz.ntmps70
            go_wp2_with fail
            refine (C.out _).mono ?_
            rintro e w1 ⟨rfl, hb1⟩
            go_wp2
            go_ret
            exact ⟨ret_val (congrArg Value.bool HN.out.symm), hb1⟩
          · have HN : Hid (nameB s.data.toList = false) := name_dirty hb
            rw [hb] at C; clear hb
            go_enter Tryz.func70, Tryz.ntmps70
            go_wp2_with fail
            refine (C.out _).mono ?_
            rintro e w1 ⟨rfl, hb1⟩
            go_wp2
            go_ret
            exact ⟨ret_val (congrArg Value.bool HN.out.symm), hb1⟩
        · have z1 : decide ((s.size : Int) ≤ 31) = false := decide_eq_false (by omega)
          have HN : Hid (nameB s.data.toList = false) := nameB_no (fun hh => by rw [← Lib.size_eq] at hh; omega)
          clear h31
          go_enter Tryz.func70, Tryz.ntmps70
          go_wp2
          go_ret
          exact ⟨ret_val (congrArg Value.bool HN.out.symm), Below.refl _ _⟩
      · have z0 : decide ((0 : Int) < (s.size : Int)) = false := decide_eq_false (by omega)
        have HN : Hid (nameB s.data.toList = false) := nameB_no (fun hh => by rw [← Lib.size_eq] at hh; omega)
        have h0' : ¬ 0 < s.size := h0
        go_enter Tryz.func70, Tryz.ntmps70
        go_wp2
        go_ret
        exact ⟨ret_val (congrArg Value.bool HN.out.symm), Below.refl _ _⟩
end Go.Proofs.YtohicccbaenegaaGreatDoor
/-
  Contracts of strings.Builder's WriteString over this translation.
-/
set_option linter.unusedVariables false
namespace Go.Proofs.YtohicccbaenegaaGreatDoor
open Go.RowKit Go.Shelf

set_option maxHeartbeats 2000000 in
set_option maxRecDepth 100000 in
theorem WriteString_k (B b : Nat) (bs : List Value) (s : ByteArray) (w : World) (h : Lib.IsBuilderF 77 5 B b bs w) (hlen : bs.length + s.size ≤ 140737488355328) (hBw : B ≤ w.heap.size) :
    Calls Tryz.prog 49 #[.pointer (some ⟨b, 0, none⟩), .string s] w fun e w' => e = .returned (.tuple #[.int .i64 s.size, .nilIface]) ∧ (Lib.BuilderAtF 77 5 B b (.pointer (some ⟨b, 0, none⟩)) (bs ++ Lib.strCells s) w' ∧ Below B w w' ∧ Lib.OthersKept 5 (some b) w w') := by
  obtain ⟨i0, hi, hz0, hz1, hz2⟩ := info_parts infoByte
  go_enter Tryz.func49, Tryz.ntmps49
  go_wp2_with (go_at_call 71; refine (copyCheck_k B b bs _ h).mono ?_)
  rintro e w1 ⟨rfl, h1, hb1, hk1⟩
  obtain ⟨hB, v, hbk, hown, hne⟩ := h1
  have c0 : w1.cell? ⟨b, 0, none⟩ = some (.pointer (some ⟨b, 0, none⟩)) := by rw [Lib.cell_of_heap hbk]; rfl
  have c1 : w1.cell? ⟨b, 1, none⟩ = some v := by rw [Lib.cell_of_heap hbk]; rfl
  go_wp2_with (at_builtin; refine Lib.wpList_append_own_stringF _ rfl _ _ 54 9 rfl B 5 i0 Tryz.underlying54 Tryz.underlying9 hi hz0 hz1 hz2 _ _ _ rfl hown s rfl ?c3 ?c4 ?c5 ?_)
  case c3 => unfold maxLen; omega
  case c4 => omega
  case c5 => have := hb1.size; omega
  intro v' w2 hown' hgrow _
  have hlt : b < w1.heap.size := (Array.getElem?_eq_some_iff.1 hbk).1
  have hb2 : w2.heap[b]? = some (.cells #[.pointer (some ⟨b, 0, none⟩), v] 77 (0, 0)) := by
    rw [hgrow.block b hlt (fun e => hne e.symm)]
    exact hbk
  have d0 : w2.cell? ⟨b, 0, none⟩ = some (.pointer (some ⟨b, 0, none⟩)) := by rw [Lib.cell_of_heap hb2]; rfl
  have d1 : w2.cell? ⟨b, 1, none⟩ = some v := by rw [Lib.cell_of_heap hb2]; rfl
  have f1 : w2.frozen? ⟨b, 1, none⟩ = false := Lib.frozen_of_heap hb2 1
  obtain ⟨ao, n', cap, rfl⟩ : ∃ ao n' cap, v' = .slice ao n' cap := by
    rcases hown'.2 with ⟨hv, _⟩ | ⟨g, cap, cur, fz, hv, _⟩
    · exact ⟨_, _, _, hv⟩
    · exact ⟨_, _, _, hv⟩
  go_wp2
  go_ret2
  refine ⟨rfl, ?_, ?_, (hk1.grown hgrow (Lib.ownsRowF_kind hown)).setCell ⟨b, 1, none⟩ rfl _⟩
  · exact Lib.BuilderAtF.put (T := 77) (e := 5) hB hb2 (bs' := bs ++ Lib.strCells s) (by simpa [Lib.strCells_length] using hown') (by decide)
  · exact (hb1.grown hgrow (by have := hb1.size; omega) (fun k hk => (hown.lt k hk).1)).setCell (p := ⟨b, 1, none⟩) hB _
theorem size_mk (l : List UInt8) : (⟨l.toArray⟩ : ByteArray).size = l.length := by simp [ByteArray.size]
theorem builder_step {T e : TypeId} {B b : Nat} {bs : List Value} {w w' : World} (h : Lib.IsBuilderF T e B b bs w) (hb : Below w.heap.size w w') : Lib.IsBuilderF T e B b bs w' := by
  have hg : w.grownBy w' none := ⟨hb.os, hb.tape, hb.output, hb.size, fun k hk _ => hb.block k hk⟩
  have key : ∀ p, Lib.BuilderAtF T e B b p bs w → Lib.BuilderAtF T e B b p bs w' := by
    rintro p ⟨hB, v, hbk, hown, hne⟩
    refine ⟨hB, v, ?_, hown.kept hg ?_, hne⟩
    · rw [hb.block b (Array.getElem?_eq_some_iff.1 hbk).1]; exact hbk
    · cases hv : v.ownBlock with
      | none => exact .inl rfl
      | some g => exact .inr (by simp)
  exact h.imp (key _) (key _)
end Go.Proofs.YtohicccbaenegaaGreatDoor

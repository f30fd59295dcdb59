/-
  Regions that draw their order, by what each operation is good for: one proof an operation, whatever the order. Of no program.
  Each operation has a word 'V i v w' on its value and the world; the words stay true behind whatever the others do ('T'). An operation may lean on the words of those that its edges name.
-/
import Derived.Orders
import Derived.Still
import Derived.Handy
namespace Go.Proofs.YtohicccbaenegaaDoor
open Go

section
variable {P : Program} {ops : Array Oper} {Q : Exit → Act → World → Prop}

def predsOf (ops : Array Oper) (i : Nat) : List Nat := ((ops[i]?).map fun o => (o.after.toList.filter (Region.binds .any)).map (·.on)).getD []
/-- Who comes ahead of i by edges, three steps back. -/
def ancOf (ops : Array Oper) : Nat → Nat → List Nat
  | 0, _ => []
  | f + 1, i => predsOf ops i ++ (predsOf ops i).flatMap (ancOf ops f)
theorem anc_listed {listed : Array Bool} (hc : ∀ k, listed.getD k false = true → ∀ j ∈ predsOf ops k, listed.getD j false = true) : ∀ (f i : Nat), (∀ j ∈ predsOf ops i, listed.getD j false = true) → ∀ k ∈ ancOf ops f i, listed.getD k false = true
  | 0, _, _, k, hk => by cases hk
  | f + 1, i, hp, k, hk => by
    rw [ancOf, List.mem_append, List.mem_flatMap] at hk
    rcases hk with hk | ⟨j, hj, hk⟩
    · exact hp k hk
    · exact anc_listed hc f j (hc j (hp j hj)) k hk
/-- The edges lead back, no operation is guarded, no slot is written twice. -/
def relyB (ops : Array Oper) (n : Nat) : Bool :=
  (List.range ops.size).all fun i => (predsOf ops i).all (· < i) && ((ops[i]?).map (·.guard.isNone)).getD false &&
    (((ops[i]?).bind (·.dst)).map fun t => decide (t < n) && (List.range ops.size).all fun k => k == i || !(((ops[k]?).bind (·.dst)) == some t)).getD true

def slot (a : Act) (t : Tmp) : Value := a.tmps.getD t undef
theorem slot_put_same (a : Act) (t : Tmp) (v : Value) (h : t < a.tmps.size) : slot (a.put (some t) v) t = v := by
  simp [slot, Act.put, h]
theorem slot_put_other (a : Act) (d : Option Tmp) (t : Tmp) (v : Value) (h : d ≠ some t) : slot (a.put d v) t = slot a t := by
  cases d with
  | none => rfl
  | some d =>
    have h' : d ≠ t := fun e => h (by rw [e])
    simp [slot, Act.put, h']
theorem size_put (a : Act) (d : Option Tmp) (v : Value) : (a.put d v).tmps.size = a.tmps.size := by
  cases d <;> simp [Act.put]
theorem defers_put (a : Act) (d : Option Tmp) (v : Value) : (a.put d v).defers = a.defers := by
  cases d <;> simp [Act.put]

/-- What stays true of k while i runs is asked only as long as somebody but i leans on it. -/
def keptB (n : Nat) (needs : Nat → List Nat) (last : List Nat) (i k : Nat) : Bool := last.contains k || (List.range n).any fun j => j != i && (needs j).contains k
def dstOf (ops : Array Oper) (i : Nat) : Option Tmp := (ops[i]?).bind (·.dst)
/-- The closed look: an operation leans on those that its edges name, or on what was there; no word speaks of a slot that is written while it must hold. -/
def leanB (ops : Array Oper) (m : Nat) (needs : Nat → List Nat) (last : List Nat) (dep : Nat → List Tmp) : Bool :=
  (List.range ops.size).all fun i => ((needs i).all fun k => decide (ops.size ≤ k) || (ancOf ops 3 i).contains k) &&
    (List.range m).all fun k => k == i || (ancOf ops 3 k).contains i || !keptB ops.size needs last i k || ((dstOf ops i).map fun t => !(dep k).contains t).getD true

/-- The same, sharper: whoever comes ahead of i by edges leans on nothing any more. -/
def keptA (ops : Array Oper) (needs : Nat → List Nat) (last : List Nat) (i k : Nat) : Bool := last.contains k || (List.range ops.size).any fun j => j != i && !(ancOf ops 3 i).contains j && (needs j).contains k
def leanA (ops : Array Oper) (m : Nat) (needs : Nat → List Nat) (last : List Nat) (dep : Nat → List Tmp) : Bool :=
  (List.range ops.size).all fun i => ((needs i).all fun k => decide (ops.size ≤ k) || (ancOf ops 3 i).contains k) &&
    (List.range m).all fun k => k == i || (ancOf ops 3 k).contains i || !keptA ops needs last i k || ((dstOf ops i).map fun t => !(dep k).contains t).getD true
theorem kept_of_A {ops : Array Oper} {needs : Nat → List Nat} {last : List Nat} {i k : Nat} (h : keptA ops needs last i k = true) : keptB ops.size needs last i k = true := by
  unfold keptA at h
  unfold keptB
  rw [Bool.or_eq_true] at h ⊢
  refine h.imp (fun h => h) fun h => ?_
  rw [List.any_eq_true] at h ⊢
  obtain ⟨j, h1, h2⟩ := h
  simp only [Bool.and_eq_true] at h2 ⊢
  exact ⟨j, h1, h2.1.1, h2.2⟩
theorem lean_A {ops : Array Oper} {m : Nat} {needs : Nat → List Nat} {last : List Nat} {dep : Nat → List Tmp} (h : leanB ops m needs last dep = true) : leanA ops m needs last dep = true := by
  unfold leanB at h
  unfold leanA
  rw [List.all_eq_true] at h ⊢
  intro i hi
  have h1 := h i hi
  rw [Bool.and_eq_true] at h1 ⊢
  refine ⟨h1.1, ?_⟩
  have h2 := h1.2
  rw [List.all_eq_true] at h2 ⊢
  intro k hk
  have h3 := h2 k hk
  cases ha : keptA ops needs last i k with
  | false => simp
  | true => rw [kept_of_A ha] at h3; exact h3

structure RelyInv (ops : Array Oper) (m : Nat) (a0 : Act) (G : World → Prop) (V : Nat → Act → World → Prop) (needs : Nat → List Nat) (last : List Nat) (listed : Array Bool) (a : Act) (w : World) : Prop where
  g : G w
  defers : a.defers = a0.defers
  size : a.tmps.size = a0.tmps.size
  len : listed.size = ops.size
  val : ∀ k, k < m → (ops.size ≤ k ∨ listed.getD k false = true) → (k ∈ last ∨ ∃ j, j < ops.size ∧ listed.getD j false = false ∧ k ∈ needs j) → V k a w
  old : ∀ t, (∀ k, dstOf ops k = some t → listed.getD k false = false) → slot a t = slot a0 t
  closed : ∀ k, listed.getD k false = true → ∀ j ∈ predsOf ops k, listed.getD j false = true

theorem ready_spec {listed : Array Bool} {i : Nat} (h : i ∈ Region.ready .any ops listed) (hl : listed.size = ops.size) : i < ops.size ∧ listed.getD i false = false ∧ ∀ j ∈ predsOf ops i, listed.getD j false = true := by
  unfold Region.ready at h
  rw [List.mem_filter, List.mem_range] at h
  obtain ⟨hi, h2⟩ := h
  simp only [Bool.and_eq_true, Bool.not_eq_true'] at h2
  obtain ⟨h2, h3⟩ := h2
  refine ⟨hi, ?_, ?_⟩
  · have hil : i < listed.size := by omega
    simpa [Array.getD, hil] using h2
  · intro j hj
    unfold predsOf at hj
    rw [Array.getElem?_eq_getElem hi] at hj h3
    simp only [Option.map_some, Option.getD_some, List.mem_map, List.mem_filter] at hj h3
    obtain ⟨e, ⟨he, hb⟩, rfl⟩ := hj
    rw [Array.all_eq_true_iff_forall_mem] at h3
    have := h3 e (by simpa using he)
    simpa [hb] using this
theorem ready_of {listed : Array Bool} {i : Nat} (hi : i < ops.size) (hl : listed.size = ops.size) (h0 : listed.getD i false = false) (hp : ∀ j ∈ predsOf ops i, listed.getD j false = true) : i ∈ Region.ready .any ops listed := by
  unfold Region.ready
  rw [List.mem_filter, List.mem_range]
  refine ⟨hi, ?_⟩
  simp only [Bool.and_eq_true, Bool.not_eq_true']
  refine ⟨?_, ?_⟩
  · have hil : i < listed.size := by omega
    simpa [Array.getD, hil] using h0
  · rw [Array.getElem?_eq_getElem hi]
    simp only [Option.map_some, Option.getD_some]
    rw [Array.all_eq_true_iff_forall_mem]
    intro e he
    by_cases hb : Region.binds .any e = true
    · have := hp e.on (by unfold predsOf; rw [Array.getElem?_eq_getElem hi]; simp only [Option.map_some, Option.getD_some, List.mem_map, List.mem_filter]; exact ⟨e, ⟨by simpa using he, hb⟩, rfl⟩)
      simp [hb, this]
    · simp [hb]

def unl (n : Nat) (listed : Array Bool) : Nat := (List.range n).countP fun i => !listed.getD i false
theorem unl_zero {n : Nat} {listed : Array Bool} (h : unl n listed = 0) (i : Nat) (hi : i < n) : listed.getD i false = true := by
  unfold unl at h
  rw [List.countP_eq_zero] at h
  have := h i (List.mem_range.2 hi)
  simpa using this
theorem getD_set (listed : Array Bool) (i j : Nat) (hi : i < listed.size) : (listed.setIfInBounds i true).getD j false = if j = i then true else listed.getD j false := by
  by_cases h : j = i
  · subst h; simp [hi]
  · have h' : i ≠ j := fun e => h e.symm
    simp [h, h']
theorem countP_flip {l : List Nat} (hn : l.Nodup) {p q : Nat → Bool} {i : Nat} (hi : i ∈ l) (hp : p i = true) (hq : q i = false) (he : ∀ j, j ≠ i → q j = p j) : l.countP p = l.countP q + 1 := by
  induction l with
  | nil => cases hi
  | cons x l ih =>
    rw [List.nodup_cons] at hn
    rw [List.countP_cons, List.countP_cons]
    by_cases hx : x = i
    · subst hx
      have : l.countP p = l.countP q := List.countP_congr fun j hj => by rw [he j (fun e => hn.1 (e ▸ hj))]
      simp [hp, hq, this]
    · rcases List.mem_cons.1 hi with h | h
      · exact absurd h.symm hx
      · have := ih hn.2 h
        rw [he x hx]; omega
theorem unl_set {n : Nat} {listed : Array Bool} {i : Nat} (hi : i < n) (hs : i < listed.size) (h0 : listed.getD i false = false) : unl n listed = unl n (listed.setIfInBounds i true) + 1 := by
  unfold unl
  refine countP_flip List.nodup_range (List.mem_range.2 hi) (by simpa using h0) (by rw [getD_set _ _ _ hs]; simp) fun j hj => ?_
  rw [getD_set _ _ _ hs, if_neg hj]
theorem all_listed {listed : Array Bool} (hl : listed.size = ops.size) (hord : ∀ i, i < ops.size → ∀ j ∈ predsOf ops i, j < i) (hr : Region.ready .any ops listed = []) : ∀ i, i < ops.size → listed.getD i false = true := by
  intro i
  induction i using Nat.strongRecOn with
  | ind i ih =>
    intro hi
    by_cases h : listed.getD i false = true
    · exact h
    · exfalso
      have := ready_of hi hl (by simpa using h) (fun j hj => ih j (hord i hi j hj) (Nat.lt_trans (hord i hi j hj) hi))
      rw [hr] at this
      cases this

def AllFrom (S : Nat → Oper → Prop) : Nat → List Oper → Prop
  | _, [] => True
  | n, o :: l => S n o ∧ AllFrom S (n + 1) l
theorem allFrom_get {S : Nat → Oper → Prop} : ∀ {l : List Oper} {n : Nat}, AllFrom S n l → ∀ i (hi : i < l.length), S (n + i) l[i]
  | _ :: _, _, h, 0, _ => h.1
  | _ :: l, n, h, i + 1, hi => by
    have := allFrom_get h.2 i (by simpa using hi)
    rw [Nat.add_assoc, Nat.add_comm 1 i] at this
    exact this
theorem forall_ops {S : Nat → Oper → Prop} {l : List Oper} (h : AllFrom S 0 l) : ∀ i (hi : i < l.toArray.size), S i (l.toArray[i]) := fun i hi => by
  have := allFrom_get h i (by simpa using hi)
  rw [Nat.zero_add] at this
  simpa using this
/-- A slot that nobody writes but who comes behind i. -/
def oldB (ops : Array Oper) (i : Nat) (t : Tmp) : Bool := (List.range ops.size).all fun k => !(dstOf ops k == some t) || (predsOf ops k).contains i
theorem old_of {i : Nat} {t : Tmp} (h : oldB ops i t = true) : ∀ k, dstOf ops k = some t → i ∈ predsOf ops k := fun k hk => by
  have hkl : k < ops.size := by
    rcases Nat.lt_or_ge k ops.size with h | h
    · exact h
    · unfold dstOf at hk; rw [Array.getElem?_eq_none h] at hk; cases hk
  have := (List.all_eq_true.1 h) k (List.mem_range.2 hkl)
  rw [hk] at this
  simpa using this
theorem wp_value {o : Oper} {a : Act} {w w' : World} {v : Value} {K : Act → World → Prop} (h : (execOp a.eval o).run P w = .ok (.value v) w') (hk : K (a.put o.dst v) w') : o.wp P a w K Q := by
  unfold Oper.wp; rw [h]; exact hk
theorem wp_skip {o : Oper} {a : Act} {w w' : World} {K : Act → World → Prop} (h : (execOp a.eval o).run P w = .ok .skip w') (hk : K (a.put o.dst undef) w') : o.wp P a w K Q := by
  unfold Oper.wp; rw [h]; exact hk
/-- The frame behind it, written out: what was written is whatever it is, all else is as it was. -/
def patchL (ds : List Tmp) (s : Tmp → Value) : Nat → List Value → List Value
  | _, [] => []
  | t, v :: l => (if ds.contains t then s t else v) :: patchL ds s (t + 1) l
theorem patchL_get (ds : List Tmp) (s : Tmp → Value) : ∀ (l : List Value) (n i : Nat), (patchL ds s n l)[i]? = (l[i]?).map fun v => if ds.contains (n + i) then s (n + i) else v
  | [], _, _ => by simp [patchL]
  | v :: l, n, 0 => by simp [patchL]
  | v :: l, n, i + 1 => by
    rw [patchL, List.getElem?_cons_succ, patchL_get ds s l (n + 1) i, List.getElem?_cons_succ, Nat.add_assoc, Nat.add_comm 1 i]
theorem act_patch {a a0 : Act} (ds : List Tmp) (hS : a.tmps.size = a0.tmps.size) (hD : a.defers = a0.defers) (h : ∀ t, t ∉ ds → slot a t = slot a0 t) : a = ⟨(patchL ds (slot a) 0 a0.tmps.toList).toArray, a0.defers⟩ := by
  obtain ⟨tm, df⟩ := a
  obtain ⟨tm0, df0⟩ := a0
  simp only at hS hD
  subst hD
  congr 1
  apply Array.ext_getElem?
  intro i
  simp only [List.getElem?_toArray, patchL_get, Nat.zero_add, Array.getElem?_toList]
  by_cases hi : i < tm.size
  · have hi0 : i < tm0.size := by omega
    rw [Array.getElem?_eq_getElem hi, Array.getElem?_eq_getElem hi0]
    simp only [Option.map_some, Option.some.injEq]
    split
    · simp [slot, hi]
    · rename_i hc
      have := h i (by simpa using hc)
      simpa [slot, hi, hi0] using this
  · rw [Array.getElem?_eq_none (by omega), Array.getElem?_eq_none (by omega)]; rfl
/-- A slot that nobody writes. -/
def freeB (ops : Array Oper) (t : Tmp) : Bool := (List.range ops.size).all fun k => !(dstOf ops k == some t)
def dstsOf (ops : Array Oper) : List Tmp := (List.range ops.size).filterMap (dstOf ops)
theorem free_of {t : Tmp} (h : t ∉ dstsOf ops) : ∀ k : Nat, dstOf ops k ≠ some t := fun k hk => by
  refine h (List.mem_filterMap.2 ⟨k, ?_, hk⟩)
  rw [List.mem_range]
  rcases Nat.lt_or_ge k ops.size with h | h
  · exact h
  · unfold dstOf at hk; rw [Array.getElem?_eq_none h] at hk; cases hk
theorem eval_slot (a : Act) (t : Tmp) : a.eval (.tmp t) = slot a t := rfl

/-- ONE PROOF AN OPERATION, WHATEVER THE ORDER. Words with numbers from the region's size on hold ahead of it. -/
theorem wp_region_relyA {id : Nat} {a0 : Act} {w0 : World} (hm : P.follows .mixedOrders = true) (hB : relyB ops a0.tmps.size = true) (T : Nat → World → World → Prop) (G : World → Prop) (V : Nat → Act → World → Prop)
    (m : Nat) (needs : Nat → List Nat) (last : List Nat) (dep : Nat → List Tmp) (hL : leanA ops m needs last dep = true) (hneeds : ∀ i k, k ∈ needs i → k < m)
    (hdep : ∀ k a a' w, k < m → (∀ t ∈ dep k, slot a' t = slot a t) → V k a w → V k a' w)
    (hT : ∀ i k a w w', i < ops.size → k < m → k ≠ i → keptA ops needs last i k = true → V k a w → T i w w' → V k a w')
    (hG : G { w0 with drawn := w0.drawn + 1 }) (hV0 : ∀ k, k < m → ops.size ≤ k → V k a0 { w0 with drawn := w0.drawn + 1 })
    (step : ∀ i (hi : i < ops.size) a w, G w → (∀ k ∈ needs i, V k a w) → (∀ t, (∀ k, dstOf ops k = some t → i ∈ predsOf ops k) → slot a t = slot a0 t) → a.tmps.size = a0.tmps.size →
      (ops[i]).wp P a w (fun a' w' => ∃ v, a' = a.put (ops[i]).dst v ∧ T i w w' ∧ G w' ∧ V i a' w') Q)
    (done : ∀ a w, G w → (∀ k ∈ last, k < m → V k a w) → (∀ t, (∀ k : Nat, dstOf ops k ≠ some t) → slot a t = slot a0 t) → a.tmps.size = a0.tmps.size → a.defers = a0.defers → Q .normal a w) :
    (Code.region id ops true).wp P Q a0 w0 := by
  have hB' : ∀ i, i < ops.size → ((∀ j ∈ predsOf ops i, j < i) ∧ ((ops[i]?).map (·.guard.isNone)).getD false = true) ∧
      (((ops[i]?).bind (·.dst)).map fun t => decide (t < a0.tmps.size) && (List.range ops.size).all fun k => k == i || !(((ops[k]?).bind (·.dst)) == some t)).getD true = true := by
    intro i hi
    have := (List.all_eq_true.1 hB) i (List.mem_range.2 hi)
    simp only [Bool.and_eq_true] at this
    obtain ⟨⟨h1, h2⟩, h3⟩ := this
    exact ⟨⟨fun j hj => by simpa using (List.all_eq_true.1 h1) j hj, h2⟩, h3⟩
  have hL' : ∀ i, i < ops.size → (∀ k ∈ needs i, ops.size ≤ k ∨ k ∈ ancOf ops 3 i) ∧ ∀ k, k < m → k ≠ i → i ∉ ancOf ops 3 k → keptA ops needs last i k = true → ∀ t, dstOf ops i = some t → t ∉ dep k := by
    intro i hi
    have := (List.all_eq_true.1 hL) i (List.mem_range.2 hi)
    rw [Bool.and_eq_true] at this
    obtain ⟨h1, h2⟩ := this
    refine ⟨fun k hk => by simpa using (List.all_eq_true.1 h1) k hk, fun k hk hki hip hke t ht => ?_⟩
    have h3 := (List.all_eq_true.1 h2) k (List.mem_range.2 hk)
    have hip' : (ancOf ops 3 k).contains i = false := by simpa using hip
    have hki' : (k == i) = false := by simpa using hki
    rw [hke, hip', hki', ht] at h3
    simpa using h3
  have key : ∀ fuel listed a w, unl ops.size listed ≤ fuel → RelyInv ops m a0 G V needs last listed a w → wpAny P .any ops Q fuel listed a w := by
    intro fuel
    have fin : ∀ listed a w, RelyInv ops m a0 G V needs last listed a w → (∀ i, i < ops.size → listed.getD i false = true) → Q .normal a w := fun listed a w I hall =>
      done a w I.g (fun k hk hkm => I.val k hkm (by
        rcases Nat.lt_or_ge k ops.size with h | h
        · exact .inr (hall k h)
        · exact .inl h) (.inl hk)) (fun t ht => I.old t fun k hk => absurd hk (ht k)) I.size I.defers
    induction fuel with
    | zero =>
      intro listed a w hu I
      have hall := fun i hi => unl_zero (Nat.le_zero.1 hu) i hi
      refine ⟨?_, fin listed a w I hall⟩
      apply List.eq_nil_iff_forall_not_mem.2
      intro i hi
      obtain ⟨h1, h2, _⟩ := ready_spec hi I.len
      rw [hall i h1] at h2; cases h2
    | succ fuel ih =>
      intro listed a w hu I
      refine ⟨fun hr => fin listed a w I (all_listed I.len (fun i hi => (hB' i hi).1.1) hr), fun i hi => ?_⟩
      obtain ⟨h1, h2, h3⟩ := ready_spec hi I.len
      have hil : i < listed.size := by rw [I.len]; exact h1
      have hst := step i h1 a w I.g (fun k hk => I.val k (hneeds i k hk) (((hL' i h1).1 k hk).imp (fun h => h) (anc_listed I.closed 3 i h3 k)) (.inr ⟨i, h1, h2, hk⟩)) (fun t ht => I.old t fun k hk => by
        by_cases hc : listed.getD k false = true
        · have := I.closed k hc i (ht k hk)
          rw [h2] at this; cases this
        · simpa using hc) I.size
      unfold wpOp
      rw [Array.getElem?_eq_getElem h1]
      have hg := (hB' i h1).1.2
      rw [Array.getElem?_eq_getElem h1] at hg
      simp only [Option.map_some, Option.getD_some, Option.isNone_iff_eq_none] at hg
      have hw : Region.wanted ops[i] (yielded ops a.tmps) = true := by unfold Region.wanted; rw [hg]
      simp only [hw, if_true]
      refine .inl (Oper.wp_mono ?_ hst)
      rintro a' w' ⟨v, rfl, hTi, hG', hv⟩
      refine ih _ _ _ (by have := unl_set h1 hil h2; omega) ⟨hG', by rw [defers_put]; exact I.defers, by rw [size_put]; exact I.size, by simp [I.len], ?_, ?_, ?_⟩
      · intro k hkm hkl hkn
        by_cases e : k = i
        · subst e; exact hv
        · have hkl' : ops.size ≤ k ∨ listed.getD k false = true := hkl.imp (fun h => h) fun h => by rwa [getD_set _ _ _ hil, if_neg e] at h
          have hip : i ∉ ancOf ops 3 k := fun hip => by
            rcases hkl' with h | h
            · have e0 : predsOf ops k = [] := by unfold predsOf; rw [Array.getElem?_eq_none h]; rfl
              simp [ancOf, e0] at hip
            · have := anc_listed I.closed 3 k (I.closed k h) i hip
              rw [h2] at this; cases this
          have hkn' : (k ∈ last ∨ ∃ j, j < ops.size ∧ listed.getD j false = false ∧ k ∈ needs j) ∧ keptA ops needs last i k = true := by
            rcases hkn with h | ⟨j, hj, hjl, hjk⟩
            · exact ⟨.inl h, by simp [keptA, h]⟩
            · rw [getD_set _ _ _ hil] at hjl
              split at hjl
              · cases hjl
              · rename_i hji
                refine ⟨.inr ⟨j, hj, hjl, hjk⟩, ?_⟩
                unfold keptA
                rw [Bool.or_eq_true]
                right
                rw [List.any_eq_true]
                have hja : j ∉ ancOf ops 3 i := fun h => by
                  have := anc_listed I.closed 3 i h3 j h
                  rw [hjl] at this; cases this
                exact ⟨j, List.mem_range.2 hj, by simp [hji, hjk, hja]⟩
          refine hdep k a _ w' hkm (fun t ht => slot_put_other _ _ _ _ fun hd => (hL' i h1).2 k hkm e hip hkn'.2 t (by unfold dstOf; rw [Array.getElem?_eq_getElem h1]; exact hd) ht) ?_
          exact hT i k a w w' h1 hkm e hkn'.2 (I.val k hkm hkl' hkn'.1) hTi
      · intro t ht
        rw [slot_put_other _ _ _ _ (fun hd => by
          have := ht i (by unfold dstOf; rw [Array.getElem?_eq_getElem h1]; exact hd)
          rw [getD_set _ _ _ hil, if_pos rfl] at this; cases this)]
        exact I.old t fun k hk => by
          have := ht k hk
          rw [getD_set _ _ _ hil] at this
          split at this
          · cases this
          · exact this
      · intro k hkl j hj
        rw [getD_set _ _ _ hil]
        split
        · rfl
        · rename_i hji
          rw [getD_set _ _ _ hil] at hkl
          split at hkl
          · rename_i hki; subst hki; exact h3 j hj
          · exact I.closed k hkl j hj
  refine wp_region_any hm (key _ _ _ _ ?_ ⟨hG, rfl, rfl, by simp, ?_, fun t _ => rfl, ?_⟩)
  · unfold unl
    exact Nat.le_trans (List.countP_le_length) (by simp)
  · intro k hkm h _
    rcases h with h | h
    · exact hV0 k hkm h
    · simp [Array.getElem?_replicate] at h
      split at h <;> simp at h
  · intro k h
    simp [Array.getElem?_replicate] at h
    split at h <;> simp at h
theorem wp_region_rely {id : Nat} {a0 : Act} {w0 : World} (hm : P.follows .mixedOrders = true) (hB : relyB ops a0.tmps.size = true) (T : Nat → World → World → Prop) (G : World → Prop) (V : Nat → Act → World → Prop)
    (m : Nat) (needs : Nat → List Nat) (last : List Nat) (dep : Nat → List Tmp) (hL : leanB ops m needs last dep = true) (hneeds : ∀ i k, k ∈ needs i → k < m)
    (hdep : ∀ k a a' w, k < m → (∀ t ∈ dep k, slot a' t = slot a t) → V k a w → V k a' w)
    (hT : ∀ i k a w w', i < ops.size → k < m → k ≠ i → keptB ops.size needs last i k = true → V k a w → T i w w' → V k a w')
    (hG : G { w0 with drawn := w0.drawn + 1 }) (hV0 : ∀ k, k < m → ops.size ≤ k → V k a0 { w0 with drawn := w0.drawn + 1 })
    (step : ∀ i (hi : i < ops.size) a w, G w → (∀ k ∈ needs i, V k a w) → (∀ t, (∀ k, dstOf ops k = some t → i ∈ predsOf ops k) → slot a t = slot a0 t) → a.tmps.size = a0.tmps.size →
      (ops[i]).wp P a w (fun a' w' => ∃ v, a' = a.put (ops[i]).dst v ∧ T i w w' ∧ G w' ∧ V i a' w') Q)
    (done : ∀ a w, G w → (∀ k ∈ last, k < m → V k a w) → (∀ t, (∀ k : Nat, dstOf ops k ≠ some t) → slot a t = slot a0 t) → a.tmps.size = a0.tmps.size → a.defers = a0.defers → Q .normal a w) :
    (Code.region id ops true).wp P Q a0 w0 :=
  wp_region_relyA hm hB T G V m needs last dep (lean_A hL) hneeds hdep (fun i k a w w' h1 h2 h3 h4 => hT i k a w w' h1 h2 h3 (kept_of_A h4)) hG hV0 step done
end
end Go.Proofs.YtohicccbaenegaaDoor

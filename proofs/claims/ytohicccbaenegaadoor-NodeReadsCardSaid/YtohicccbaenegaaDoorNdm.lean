/-
  Plain mathematics of nodes: which can be, their bytes, what bytes tell. No program.
-/
import Derived.Test.YtohicccbaenegaaDoorVan
import Derived.Test.YtohicccbaenegaaDoorPam
import Derived.Test.YtohicccbaenegaaDoorKem
import Derived.Lib.Hide
namespace Go.Proofs.YtohicccbaenegaaDoor

structure Pt where
  k : ByteArray
  n : Int
structure En where
  m : ByteArray
  kd : Int
  x : Bool
  k : ByteArray
structure Nd where
  kd : Int
  d : ByteArray
  ps : List Pt
  es : List En
theorem pt_ext {a b : Pt} (h1 : a.k = b.k) (h2 : a.n = b.n) : a = b := by cases a; cases b; simp_all
theorem en_ext {a b : En} (h1 : a.m = b.m) (h2 : a.kd = b.kd) (h3 : a.x = b.x) (h4 : a.k = b.k) : a = b := by cases a; cases b; simp_all
theorem nd_ext {a b : Nd} (h1 : a.kd = b.kd) (h2 : a.d = b.d) (h3 : a.ps = b.ps) (h4 : a.es = b.es) : a = b := by cases a; cases b; simp_all
def emp : ByteArray := ⟨#[]⟩
def zeroPt : Pt := ⟨⟨#[]⟩, 0⟩
def zeroEn : En := ⟨⟨#[]⟩, 0, false, ⟨#[]⟩⟩
def zeroNd : Nd := ⟨0, ⟨#[]⟩, [], []⟩

def okPt (p : Pt) : Bool := decide (p.k.size = 32) && decide (1 ≤ p.n) && decide (p.n ≤ 4096)
def sumPt : List Pt → Int
  | [] => 0
  | p :: L => p.n + sumPt L
theorem sumPt_app (L M : List Pt) : sumPt (L ++ M) = sumPt L + sumPt M := by
  induction L with
  | nil => simp [sumPt]
  | cons p L ih => simp only [List.cons_append, sumPt, ih]; omega
def fitFileB (L : List Pt) : Bool := L.all okPt && decide (sumPt L ≤ 32768)
def okEn (e : En) : Bool := nameB e.m.data.toList && decide (e.k.size = 32) && (decide (e.kd = 2) || decide (e.kd = 3) && !e.x)
def RisesN (L : List En) : Prop := ∀ i (h : i < L.length), 0 < i → (L[i - 1]'(by omega)).m.data.toList < L[i].m.data.toList
instance (L : List En) : Decidable (RisesN L) := by unfold RisesN; infer_instance
def fitDirB (L : List En) : Bool := L.all okEn && decide (RisesN L)
def fitN (n : Nd) : Bool :=
  (decide (n.kd = 1) && (decide (1 ≤ n.d.size) && decide (n.d.size ≤ 4096) && decide (n.ps.length = 0) && decide (n.es.length = 0)))
  || (decide (n.kd = 2) && (decide (n.d.size = 0) && decide (n.es.length = 0) && decide (n.ps.length ≤ 1024) && fitFileB n.ps))
  || (decide (n.kd = 3) && (decide (n.d.size = 0) && decide (n.ps.length = 0) && decide (n.es.length ≤ 60) && fitDirB n.es))

theorem fit_piece {n : Nd} (h : n.kd = 1) : fitN n = (decide (1 ≤ n.d.size) && decide (n.d.size ≤ 4096) && decide (n.ps.length = 0) && decide (n.es.length = 0)) := by
  unfold fitN; rw [h]; simp
theorem fit_file {n : Nd} (h : n.kd = 2) : fitN n = (decide (n.d.size = 0) && decide (n.es.length = 0) && decide (n.ps.length ≤ 1024) && fitFileB n.ps) := by
  unfold fitN; rw [h]; simp
theorem fit_dir {n : Nd} (h : n.kd = 3) : fitN n = (decide (n.d.size = 0) && decide (n.ps.length = 0) && decide (n.es.length ≤ 60) && fitDirB n.es) := by
  unfold fitN; rw [h]; simp
theorem fit_none {n : Nd} (h1 : n.kd ≠ 1) (h2 : n.kd ≠ 2) (h3 : n.kd ≠ 3) : fitN n = false := by
  unfold fitN; simp [h1, h2, h3]
theorem fit_kinds {n : Nd} (h : fitN n = true) : n.kd = 1 ∨ n.kd = 2 ∨ n.kd = 3 := by
  by_cases h1 : n.kd = 1
  · exact .inl h1
  · by_cases h2 : n.kd = 2
    · exact .inr (.inl h2)
    · by_cases h3 : n.kd = 3
      · exact .inr (.inr h3)
      · rw [fit_none h1 h2 h3] at h; exact absurd h (by decide)
theorem size_zero {b : ByteArray} (h : b.size = 0) : b = ⟨#[]⟩ := by
  cases b with | mk a => exact congrArg ByteArray.mk (Array.eq_empty_of_size_eq_zero h)

/-! ## their bytes -/
def ptB (p : Pt) : List UInt8 := p.k.data.toList ++ vput p.n.toNat
def enK (e : En) : UInt8 := UInt8.ofNat (e.kd.toNat + if e.x then 4 else 0)
def enB (e : En) : List UInt8 := vputText e.m.data.toList ++ [enK e] ++ e.k.data.toList
def psB (L : List Pt) : List UInt8 := L.flatMap ptB
def esB (L : List En) : List UInt8 := L.flatMap enB
theorem psB_app (L M : List Pt) : psB (L ++ M) = psB L ++ psB M := List.flatMap_append
theorem esB_app (L M : List En) : esB (L ++ M) = esB L ++ esB M := List.flatMap_append
theorem psB_one (p : Pt) : psB [p] = ptB p := List.append_nil _
theorem esB_one (e : En) : esB [e] = enB e := List.append_nil _
def bodyN (n : Nd) : List UInt8 :=
  if n.kd = 1 then n.d.data.toList else if n.kd = 2 then vput n.ps.length ++ psB n.ps else vput n.es.length ++ esB n.es
def wrL (n : Nd) : List UInt8 := UInt8.ofNat n.kd.toNat :: bodyN n
def wrN (n : Nd) : List UInt8 := if fitN n = true then wrL n else []
theorem body_piece {n : Nd} (h : n.kd = 1) : bodyN n = n.d.data.toList := if_pos h
theorem body_file {n : Nd} (h : n.kd = 2) : bodyN n = vput n.ps.length ++ psB n.ps := by unfold bodyN; rw [h]; simp
theorem body_dir {n : Nd} (h : n.kd = 3) : bodyN n = vput n.es.length ++ esB n.es := by unfold bodyN; rw [h]; simp
theorem wrN_fit {n : Nd} (h : fitN n = true) : wrN n = wrL n := if_pos h
theorem wrN_un {n : Nd} (h : fitN n = false) : wrN n = [] := if_neg (by rw [h]; decide)

theorem okPt_iff {p : Pt} : okPt p = true ↔ p.k.size = 32 ∧ 1 ≤ p.n ∧ p.n ≤ 4096 := by
  unfold okPt; simp only [Bool.and_eq_true, decide_eq_true_eq, and_assoc]
theorem okEn_iff {e : En} : okEn e = true ↔ nameB e.m.data.toList = true ∧ e.k.size = 32 ∧ (e.kd = 2 ∨ e.kd = 3 ∧ e.x = false) := by
  unfold okEn; simp only [Bool.and_eq_true, Bool.or_eq_true, decide_eq_true_eq, Bool.not_eq_true', and_assoc]
theorem ptB_len {p : Pt} (h : p.k.size = 32) : (ptB p).length ≤ 42 := by
  unfold ptB; rw [List.length_append, ← Lib.size_eq, h]; have := vput_len p.n.toNat; omega
theorem vputText_len {l : List UInt8} : (vputText l).length ≤ l.length + 10 := by
  unfold vputText; split
  · simp
  · rw [List.length_append]; have := vput_len l.length; omega
theorem enB_len {e : En} (h : okEn e = true) : (enB e).length ≤ 74 := by
  obtain ⟨h1, h2, _⟩ := okEn_iff.1 h
  have h31 := (nameB_iff.1 h1).2.1
  unfold enB; rw [List.length_append, List.length_append, ← Lib.size_eq, h2]
  have := vputText_len (l := e.m.data.toList); simp; omega
theorem psB_len : ∀ (L : List Pt), (∀ p ∈ L, p.k.size = 32) → (psB L).length ≤ 42 * L.length
  | [], _ => by simp [psB]
  | p :: L, h => by
    show (ptB p ++ psB L).length ≤ _
    have h1 := ptB_len (h p (by simp)); have h2 := psB_len L (fun q hq => h q (by simp [hq]))
    rw [List.length_append, List.length_cons]; omega
theorem esB_len : ∀ (L : List En), (∀ p ∈ L, okEn p = true) → (esB L).length ≤ 74 * L.length
  | [], _ => by simp [esB]
  | p :: L, h => by
    show (enB p ++ esB L).length ≤ _
    have h1 := enB_len (h p (by simp)); have h2 := esB_len L (fun q hq => h q (by simp [hq]))
    rw [List.length_append, List.length_cons]; omega
theorem fitFile_iff {L : List Pt} : fitFileB L = true ↔ (∀ p ∈ L, okPt p = true) ∧ sumPt L ≤ 32768 := by
  unfold fitFileB; rw [Bool.and_eq_true, List.all_eq_true, decide_eq_true_eq]
theorem fitDir_iff {L : List En} : fitDirB L = true ↔ (∀ p ∈ L, okEn p = true) ∧ RisesN L := by
  unfold fitDirB; rw [Bool.and_eq_true, List.all_eq_true, decide_eq_true_eq]
theorem fit1 {n : Nd} (h : n.kd = 1) (hf : fitN n = true) : 1 ≤ n.d.size ∧ n.d.size ≤ 4096 ∧ n.ps = [] ∧ n.es = [] := by
  rw [fit_piece h] at hf; simp only [Bool.and_eq_true, decide_eq_true_eq, List.length_eq_zero_iff, and_assoc] at hf; exact hf
theorem fit2 {n : Nd} (h : n.kd = 2) (hf : fitN n = true) : n.d = ⟨#[]⟩ ∧ n.es = [] ∧ n.ps.length ≤ 1024 ∧ fitFileB n.ps = true := by
  rw [fit_file h] at hf; simp only [Bool.and_eq_true, decide_eq_true_eq, List.length_eq_zero_iff, and_assoc] at hf
  exact ⟨size_zero hf.1, hf.2⟩
theorem fit3 {n : Nd} (h : n.kd = 3) (hf : fitN n = true) : n.d = ⟨#[]⟩ ∧ n.ps = [] ∧ n.es.length ≤ 60 ∧ fitDirB n.es = true := by
  rw [fit_dir h] at hf; simp only [Bool.and_eq_true, decide_eq_true_eq, List.length_eq_zero_iff, and_assoc] at hf
  exact ⟨size_zero hf.1, hf.2⟩
theorem wrL_len {n : Nd} (hf : fitN n = true) : 1 ≤ (wrL n).length ∧ (wrL n).length ≤ 50000 := by
  unfold wrL; rw [List.length_cons]
  refine ⟨by omega, ?_⟩
  rcases fit_kinds hf with h | h | h
  · rw [body_piece h, ← Lib.size_eq]; have := fit1 h hf; omega
  · rw [body_file h, List.length_append]
    obtain ⟨_, _, h3, h4⟩ := fit2 h hf
    have := psB_len n.ps (fun p hp => (okPt_iff.1 ((fitFile_iff.1 h4).1 p hp)).1)
    have := vput_len n.ps.length; omega
  · rw [body_dir h, List.length_append]
    obtain ⟨_, _, h3, h4⟩ := fit3 h hf
    have := esB_len n.es (fitDir_iff.1 h4).1
    have := vput_len n.es.length; omega

/-! ## what bytes tell -/
def pPart (l : List UInt8) : Option (Pt × List UInt8) :=
  if l.length < 32 then none
  else if (vtake (l.drop 32)).2.2 ≠ 0 then none
  else if 4096 < (vtake (l.drop 32)).1 then none
  else some (⟨⟨(l.take 32).toArray⟩, (vtake (l.drop 32)).1⟩, l.drop (32 + (vtake (l.drop 32)).2.1))
def kByte (l : List UInt8) : Nat := (l.headD 0).toNat
def pEntry (l : List UInt8) : Option (En × List UInt8) :=
  if (vtakeText l).2.2 ≠ 0 then none
  else if (l.drop (vtakeText l).2.1).length < 33 then none
  else some (⟨⟨(vtakeText l).1.toArray⟩, ((kByte (l.drop (vtakeText l).2.1) - (if kByte (l.drop (vtakeText l).2.1) / 4 % 2 = 1 then 4 else 0) : Nat) : Int), decide (kByte (l.drop (vtakeText l).2.1) / 4 % 2 = 1),
    ⟨((l.drop ((vtakeText l).2.1 + 1)).take 32).toArray⟩⟩, l.drop ((vtakeText l).2.1 + 33))
def pList {α : Type} (next : List UInt8 → Option (α × List UInt8)) : Nat → List UInt8 → Option (List α × List UInt8)
  | 0, l => some ([], l)
  | c + 1, l => match next l with
    | none => none
    | some (x, r) => match pList next c r with
      | none => none
      | some (L, r') => some (x :: L, r')
def pNode (l : List UInt8) : Option (Nd × List UInt8) :=
  match l with
  | [] => none
  | b :: r =>
    if b.toNat = 1 then some (⟨1, ⟨r.toArray⟩, [], []⟩, [])
    else if b.toNat = 2 then
      if (vtake r).2.2 ≠ 0 then none else (pList pPart (vtake r).1 (r.drop (vtake r).2.1)).map fun x => (⟨2, ⟨#[]⟩, x.1, []⟩, x.2)
    else if b.toNat = 3 then
      if (vtake r).2.2 ≠ 0 then none else (pList pEntry (vtake r).1 (r.drop (vtake r).2.1)).map fun x => (⟨3, ⟨#[]⟩, [], x.1⟩, x.2)
    else some (⟨(b.toNat : Int), ⟨#[]⟩, [], []⟩, r)

theorem pPart_full {p : Pt} (h : okPt p = true) (r : List UInt8) : pPart (ptB p ++ r) = some (p, r) := by
  obtain ⟨h1, h2, h3⟩ := okPt_iff.1 h
  have hl : p.k.data.toList.length = 32 := by rw [← Lib.size_eq]; exact h1
  have e1 : (ptB p ++ r).drop 32 = vput p.n.toNat ++ r := by unfold ptB; rw [List.append_assoc, ← hl, List.drop_left]
  have e2 : (ptB p ++ r).take 32 = p.k.data.toList := by unfold ptB; rw [List.append_assoc, ← hl, List.take_left]
  have e3 : vtake (vput p.n.toNat ++ r) = (p.n.toNat, (vput p.n.toNat).length, 0) := take_put (by unfold U64; omega) r
  unfold pPart
  rw [e1, e3, if_neg (by unfold ptB; simp; omega), if_neg (by simp), if_neg (by show ¬ 4096 < p.n.toNat; omega), e2, ← List.drop_drop, e1]
  simp only [List.drop_left, Option.some.injEq, Prod.mk.injEq, and_true]
  exact pt_ext (by cases hk : p.k; rfl) (by show ((p.n.toNat : Nat) : Int) = p.n; omega)
theorem pPart_sound {l r : List UInt8} {p : Pt} (h : pPart l = some (p, r)) : l = ptB p ++ r ∧ p.k.size = 32 ∧ 0 ≤ p.n ∧ p.n ≤ 4096 ∧ r.length < l.length := by
  unfold pPart at h
  split at h
  · cases h
  · rename_i h1
    split at h
    · cases h
    · rename_i h2
      split at h
      · cases h
      · rename_i h3
        simp only [Option.some.injEq, Prod.mk.injEq] at h
        obtain ⟨rfl, rfl⟩ := h
        obtain ⟨n, k, e, hv⟩ : ∃ n k e, vtake (l.drop 32) = (n, k, e) := ⟨_, _, _, rfl⟩
        rw [hv] at h2 h3 ⊢
        simp only [ne_eq, Decidable.not_not] at h2 h3 ⊢
        subst h2
        obtain ⟨g1, g2, g3, _, _⟩ := put_take hv
        rw [List.length_drop] at g3
        refine ⟨?_, by show (l.take 32).length = 32; rw [List.length_take]; omega, by omega, by omega, by rw [List.length_drop]; omega⟩
        show l = (l.take 32 ++ vput n) ++ l.drop (32 + k)
        rw [← g1, ← List.drop_drop, List.append_assoc, List.take_append_drop, List.take_append_drop]
theorem pEntry_full {e : En} (h : okEn e = true) (r : List UInt8) : pEntry (enB e ++ r) = some (e, r) := by
  obtain ⟨h1, h2, h3⟩ := okEn_iff.1 h
  have h31 := (nameB_iff.1 h1).2.1
  have hl : e.k.data.toList.length = 32 := by rw [← Lib.size_eq]; exact h2
  have e0 : enB e ++ r = vputText e.m.data.toList ++ (enK e :: (e.k.data.toList ++ r)) := by unfold enB; simp [List.append_assoc]
  have e3 : vtakeText (enB e ++ r) = (e.m.data.toList, (vputText e.m.data.toList).length, 0) := by rw [e0]; exact takeText_putText (by omega) _
  have e1 : (enB e ++ r).drop (vputText e.m.data.toList).length = enK e :: (e.k.data.toList ++ r) := by rw [e0, List.drop_left]
  have e4 : (enB e ++ r).drop ((vputText e.m.data.toList).length + 1) = e.k.data.toList ++ r := by rw [← List.drop_drop, e1]; rfl
  have e5 : (enB e ++ r).drop ((vputText e.m.data.toList).length + 33) = r := by
    rw [show (vputText e.m.data.toList).length + 33 = (vputText e.m.data.toList).length + 1 + 32 by omega, ← List.drop_drop, e4, ← hl, List.drop_left]
  unfold pEntry
  rw [e3]
  simp only [e1, e4, e5]
  rw [if_neg (by simp), if_neg (by simp; omega)]
  have hk : kByte (enK e :: (e.k.data.toList ++ r)) = e.kd.toNat + if e.x then 4 else 0 := by
    show (enK e).toNat = _
    unfold enK
    rw [UInt8.toNat_ofNat']
    rcases h3 with h | ⟨h, _⟩ <;> rw [h] <;> cases e.x <;> rfl
  rw [hk]
  refine congrArg some (Prod.ext (en_ext (by show (ByteArray.mk _) = e.m; cases e.m; rfl) ?_ ?_ (by show ByteArray.mk _ = e.k; rw [← hl, List.take_left])) rfl)
  · rcases h3 with h | ⟨h, _⟩ <;> rw [h] <;> cases e.x <;> rfl
  · rcases h3 with h | ⟨h, _⟩ <;> rw [h] <;> cases e.x <;> rfl
theorem pEntry_sound {l r : List UInt8} {e : En} (h : pEntry l = some (e, r)) (hk : e.kd = 2 ∨ e.kd = 3) : l = enB e ++ r := by
  unfold pEntry at h
  split at h
  · cases h
  · rename_i h1
    split at h
    · cases h
    · rename_i h2
      simp only [Option.some.injEq, Prod.mk.injEq] at h
      obtain ⟨he, rfl⟩ := h
      obtain ⟨t, k, x, hv⟩ : ∃ n k e, vtakeText l = (n, k, e) := ⟨_, _, _, rfl⟩
      rw [hv] at h1 h2 he ⊢
      simp only [ne_eq, Decidable.not_not] at h1 h2 he ⊢
      subst h1
      obtain ⟨g1, g2⟩ := putText_takeText hv
      obtain ⟨c, rest, hd⟩ : ∃ c rest, l.drop k = c :: rest := by
        cases hh : l.drop k with
        | nil => rw [hh] at h2; simp at h2
        | cons c rest => exact ⟨c, rest, rfl⟩
      have hd1 : l.drop (k + 1) = rest := by rw [← List.drop_drop, hd]; rfl
      have hd2 : l.drop (k + 33) = rest.drop 32 := by rw [show k + 33 = k + 1 + 32 by omega, ← List.drop_drop, hd1]
      rw [hd, hd1] at he
      have hc : kByte (c :: rest) = c.toNat := rfl
      rw [hc] at he
      have hcl : c.toNat < 256 := c.toNat_lt
      subst he
      have hK : enK ⟨⟨t.toArray⟩, ((c.toNat - (if c.toNat / 4 % 2 = 1 then 4 else 0) : Nat) : Int), decide (c.toNat / 4 % 2 = 1), ⟨(rest.take 32).toArray⟩⟩ = c := by
        unfold enK
        show UInt8.ofNat ((((c.toNat - (if c.toNat / 4 % 2 = 1 then 4 else 0) : Nat) : Int)).toNat + if decide (c.toNat / 4 % 2 = 1) = true then 4 else 0) = c
        have : (((c.toNat - (if c.toNat / 4 % 2 = 1 then 4 else 0) : Nat) : Int)).toNat + (if decide (c.toNat / 4 % 2 = 1) = true then 4 else 0) = c.toNat := by
          by_cases hq : c.toNat / 4 % 2 = 1
          · simp [hq]; omega
          · simp [hq]
        rw [this]; simp
      unfold enB
      rw [hK, hd2]
      show l = vputText t ++ [c] ++ rest.take 32 ++ rest.drop 32
      rw [g2, List.append_assoc _ (rest.take 32), List.take_append_drop, List.append_assoc]
      show l = l.take k ++ (c :: rest)
      rw [← hd, List.take_append_drop]
theorem pEntry_less {l r : List UInt8} {e : En} (h : pEntry l = some (e, r)) : r.length < l.length := by
  unfold pEntry at h
  split at h
  · cases h
  · split at h
    · cases h
    · rename_i h2
      simp only [Option.some.injEq, Prod.mk.injEq] at h
      obtain ⟨_, rfl⟩ := h
      rw [List.length_drop] at h2 ⊢
      omega
theorem pList_full {α : Type} {next : List UInt8 → Option (α × List UInt8)} {b : α → List UInt8} : ∀ (L : List α), (∀ x ∈ L, ∀ r, next (b x ++ r) = some (x, r)) → ∀ r, pList next L.length (L.flatMap b ++ r) = some (L, r)
  | [], _, r => rfl
  | x :: L, h, r => by
    show (match next ((b x ++ L.flatMap b) ++ r) with | none => none | some (x, r) => match pList next L.length r with | none => none | some (L, r') => some (x :: L, r')) = _
    rw [List.append_assoc, h x (by simp)]
    simp only [pList_full L (fun y hy => h y (by simp [hy])) r]
theorem pList_sound {α : Type} {next : List UInt8 → Option (α × List UInt8)} {b : α → List UInt8} {F : α → Prop} (hn : ∀ l x r, next l = some (x, r) → F x → l = b x ++ r) :
    ∀ (c : Nat) (l : List UInt8) (L : List α) (r : List UInt8), pList next c l = some (L, r) → (∀ x ∈ L, F x) → L.length = c ∧ l = L.flatMap b ++ r
  | 0, l, L, r, h, _ => by simp only [pList, Option.some.injEq, Prod.mk.injEq] at h; obtain ⟨rfl, rfl⟩ := h; exact ⟨rfl, rfl⟩
  | c + 1, l, L, r, h, hF => by
    simp only [pList] at h
    split at h
    · cases h
    · rename_i x r1 hx
      split at h
      · cases h
      · rename_i M r2 hM
        simp only [Option.some.injEq, Prod.mk.injEq] at h
        obtain ⟨rfl, rfl⟩ := h
        obtain ⟨g1, g2⟩ := pList_sound hn c r1 M r2 hM (fun y hy => hF y (by simp [hy]))
        refine ⟨by rw [List.length_cons, g1], ?_⟩
        rw [hn l x r1 hx (hF x (by simp)), g2]
        simp [List.append_assoc]

/-! ## there and back -/
theorem pNode_full {n : Nd} (hf : fitN n = true) : pNode (wrL n) = some (n, []) := by
  unfold wrL
  rcases fit_kinds hf with h | h | h
  · obtain ⟨_, _, h3, h4⟩ := fit1 h hf
    rw [body_piece h, h]
    unfold pNode
    simp only
    rw [show (UInt8.ofNat (1 : Int).toNat).toNat = 1 from rfl, if_pos rfl]
    exact congrArg some (Prod.ext (nd_ext h.symm (by show ByteArray.mk _ = n.d; cases n.d; rfl) h3.symm h4.symm) rfl)
  · obtain ⟨h1, h2, h3, h4⟩ := fit2 h hf
    rw [body_file h, h]
    unfold pNode
    simp only
    rw [show (UInt8.ofNat (2 : Int).toNat).toNat = 2 from rfl]
    have hv : vtake (vput n.ps.length ++ psB n.ps) = (n.ps.length, (vput n.ps.length).length, 0) := take_put (by unfold U64; omega) _
    have hp := pList_full n.ps (b := ptB) (next := pPart) (fun x hx r => pPart_full ((fitFile_iff.1 h4).1 x hx) r) []
    rw [List.append_nil] at hp
    rw [if_neg (by decide), if_pos rfl, hv, if_neg (by simp)]
    simp only [List.drop_left]
    rw [show psB n.ps = n.ps.flatMap ptB from rfl, hp]
    exact congrArg some (Prod.ext (nd_ext h.symm h1.symm rfl h2.symm) rfl)
  · obtain ⟨h1, h2, h3, h4⟩ := fit3 h hf
    rw [body_dir h, h]
    unfold pNode
    simp only
    rw [show (UInt8.ofNat (3 : Int).toNat).toNat = 3 from rfl]
    have hv : vtake (vput n.es.length ++ esB n.es) = (n.es.length, (vput n.es.length).length, 0) := take_put (by unfold U64; omega) _
    have hp := pList_full n.es (b := enB) (next := pEntry) (fun x hx r => pEntry_full ((fitDir_iff.1 h4).1 x hx) r) []
    rw [List.append_nil] at hp
    rw [if_neg (by decide), if_neg (by decide), if_pos rfl, hv, if_neg (by simp)]
    simp only [List.drop_left]
    rw [show esB n.es = n.es.flatMap enB from rfl, hp]
    exact congrArg some (Prod.ext (nd_ext h.symm h1.symm h2.symm rfl) rfl)
theorem wrL_inj {n m : Nd} (hn : fitN n = true) (hm : fitN m = true) (h : wrL n = wrL m) : n = m := by
  have h1 := pNode_full hn; rw [h, pNode_full hm] at h1
  simp only [Option.some.injEq, Prod.mk.injEq, and_true] at h1
  exact h1.symm
theorem byte_of {b : UInt8} {k : Nat} (h : b.toNat = k) : b = UInt8.ofNat k := by rw [← h]; simp
theorem pNode_sound {l : List UInt8} {n : Nd} (h : pNode l = some (n, [])) (hf : fitN n = true) : wrL n = l := by
  unfold pNode at h
  split at h
  · cases h
  · rename_i b r
    split at h
    · rename_i hb
      simp only [Option.some.injEq, Prod.mk.injEq, and_true] at h
      subst h
      rw [byte_of hb]; rfl
    · rename_i hb1
      split at h
      · rename_i hb
        split at h
        · cases h
        · rename_i he
          cases hp : pList pPart (vtake r).1 (r.drop (vtake r).2.1) with
          | none => rw [hp] at h; cases h
          | some x =>
            rw [hp] at h
            obtain ⟨L, r'⟩ := x
            simp only [Option.map_some, Option.some.injEq, Prod.mk.injEq] at h
            obtain ⟨rfl, rfl⟩ := h
            obtain ⟨g1, g2⟩ := pList_sound (b := ptB) (F := fun _ => True) (fun l x r h _ => (pPart_sound h).1) _ _ _ _ hp (fun _ _ => trivial)
            obtain ⟨c, k, e, hv⟩ : ∃ n k e, vtake r = (n, k, e) := ⟨_, _, _, rfl⟩
            rw [hv] at he g1 g2
            simp only [ne_eq, Decidable.not_not] at he g1 g2
            subst he
            obtain ⟨q1, _, _, _, _⟩ := put_take hv
            rw [byte_of hb, wrL, body_file rfl]
            show UInt8.ofNat 2 :: (vput L.length ++ L.flatMap ptB) = _
            rw [List.append_nil] at g2
            rw [g1, ← q1, ← g2, List.take_append_drop]
      · rename_i hb2
        split at h
        · rename_i hb
          split at h
          · cases h
          · rename_i he
            cases hp : pList pEntry (vtake r).1 (r.drop (vtake r).2.1) with
            | none => rw [hp] at h; cases h
            | some x =>
              rw [hp] at h
              obtain ⟨L, r'⟩ := x
              simp only [Option.map_some, Option.some.injEq, Prod.mk.injEq] at h
              obtain ⟨rfl, rfl⟩ := h
              have hall := (fitDir_iff.1 (fit3 rfl hf).2.2.2).1
              obtain ⟨g1, g2⟩ := pList_sound (b := enB) (F := fun e => e.kd = 2 ∨ e.kd = 3) (fun l x r h hx => pEntry_sound h hx) _ _ _ _ hp
                (fun x hx => by rcases (okEn_iff.1 (hall x hx)).2.2 with g | ⟨g, _⟩; exact .inl g; exact .inr g)
              obtain ⟨c, k, e, hv⟩ : ∃ n k e, vtake r = (n, k, e) := ⟨_, _, _, rfl⟩
              rw [hv] at he g1 g2
              simp only [ne_eq, Decidable.not_not] at he g1 g2
              subst he
              obtain ⟨q1, _, _, _, _⟩ := put_take hv
              rw [byte_of hb, wrL, body_dir rfl]
              show UInt8.ofNat 3 :: (vput L.length ++ L.flatMap enB) = _
              rw [List.append_nil] at g2
              rw [g1, ← q1, ← g2, List.take_append_drop]
        · rename_i hb3
          simp only [Option.some.injEq, Prod.mk.injEq] at h
          obtain ⟨rfl, _⟩ := h
          rw [fit_none (by show (b.toNat : Int) ≠ 1; omega) (by show (b.toNat : Int) ≠ 2; omega) (by show (b.toNat : Int) ≠ 3; omega)] at hf
          exact absurd hf (by decide)

/-- What Read answers: the fit node of the bytes, or none. -/
def RdOk (l : List UInt8) (n : Nd) (e : Int) : Prop := (e = 0 ∧ fitN n = true ∧ wrL n = l) ∨ (e = 2 ∧ n = zeroNd ∧ ∀ m, fitN m = true → wrL m ≠ l)
theorem rdOk_same {l : List UInt8} {n m : Nd} {e f : Int} (h : RdOk l n e) (g : RdOk l m f) : n = m ∧ e = f := by
  rcases h with ⟨rfl, h1, h2⟩ | ⟨rfl, rfl, h2⟩ <;> rcases g with ⟨rfl, g1, g2⟩ | ⟨rfl, rfl, g2⟩
  · exact ⟨wrL_inj h1 g1 (h2.trans g2.symm), rfl⟩
  · exact absurd h2 (g2 _ h1)
  · exact absurd g2 (h2 _ g1)
  · exact ⟨rfl, rfl⟩
theorem rd_good {l : List UInt8} {n : Nd} (h : pNode l = some (n, [])) (hf : fitN n = true) : RdOk l n 0 := .inl ⟨rfl, hf, pNode_sound h hf⟩
theorem rd_bad {l : List UInt8} (h : ∀ n, pNode l = some (n, []) → fitN n = false) : RdOk l zeroNd 2 := .inr ⟨rfl, rfl, fun m hm e => by
  have := h m (by rw [← e]; exact pNode_full hm); rw [hm] at this; cases this⟩
end Go.Proofs.YtohicccbaenegaaDoor

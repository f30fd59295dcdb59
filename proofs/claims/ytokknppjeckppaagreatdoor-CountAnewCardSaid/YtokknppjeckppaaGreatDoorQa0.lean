/-
  Texts put together: contracts and laws that this seat's proofs share.
-/
import Derived.WideKeyArgs
import Derived.Below
import Derived.OpenShut
import Derived.Deep.Slices
import Derived.ProofKit
import Derived.Laws.Rows
import Derived.DataReads
import Derived.Lib.Strings
import Derived.Laws.BitsLemmas
import Derived.Laws.Bits64
import Derived.Lib.VarintBits
import Derived.Lib.SlicesCompact
import Derived.Sort.Walk0
import Derived.Lib.Hide
import Derived.SliceStrings
import Derived.WideShapes
import Derived.OwnWalk
import Derived.Laws.AppendOwn
import Derived.Laws.AppendOwnNone
import Derived.BigFrame
import Derived.Laws.PanicsMore
import Derived.WalkKit
import Derived.Test.YtokknppjeckppaaGreatDoorProg
import Derived.KernelRfl
import Derived.LoopTactic
import Derived.RegionTactic
import Derived.BigRegionIn
import Derived.Sort.CutIn
import Derived.Deep.QuietTactic
import Derived.BigQuiet
import Derived.Outline
import Derived.Laws.Cover1
import Derived.Laws.CopyOwn
import Derived.Laws.BytesArg
import Derived.Deep.WholeRow
import Derived.RangeFuncNested
import Derived.RangeFuncBound
import Derived.RangeFuncCalls
import Derived.RangeFuncLeaves
import Derived.RangeFuncBox
import Derived.Lib.OthersKept
import Derived.Shelf.Strings.BuilderK
import Derived.ChangeAlike
import Derived.Shelf.Strconv.Clone
import Derived.Laws.IdiomStrings
import Derived.Shelf.Abstract
import Derived.Shelf.RegionOpen
import Derived.OwnWalkIn
import Derived.TacticsInMore
import Derived.LoopNIn
import Derived.LoopIn
import Derived.WalkLawsBesides
namespace Go.Proofs.YtokknppjeckppaaGreatDoor
open Go.ChangeShapes Go.WideShapes Go.RowKit Go.Deep
section
variable {H : Type} {enc : TypeId × Value → H} {P : Program}
theorem trodAll_stays (hl : laidOutB P = true) {W W' : World} {sp' : Nat → Bool} (hb : Below W.heap.size W W') : ∀ {ts : List TypeId} {vs : List Value} {ds : List (DataW H)} {ps : List MemPlace},
  (ts.all fun t => P.readableRec t && decide (t < P.types.size)) = true → DataW.TrodAll enc P W 0 (fun _ => true) true ts vs ds ps → (∀ p ∈ ps, p.block < W.heap.size) → (∀ p ∈ ps, sp' p.block = true) →
  DataW.TrodAll enc P W' 0 sp' true ts vs ds ps
 | [], _, _, _, _, h, _, _ => by
  obtain ⟨rfl, rfl, rfl⟩ := trodAll_nil h
  exact trodAll_mk0
 | t :: ts, _, _, _, hr, h, hlt, hsp => by
  obtain ⟨v, vs1, d, ds1, a, b, rfl, rfl, rfl, h1, h2⟩ := trodAll_cons h
  simp only [List.all_cons, Bool.and_eq_true, decide_eq_true_eq] at hr
  obtain ⟨⟨hr1, hr2⟩, hr3⟩ := hr
  exact trodAll_cons_mk (WideElems.Trod_stays hl hr1 hr2 h1 (fun p hp => hb.same (hlt p (List.mem_append.2 (.inl hp)))) (fun p hp => hsp p (List.mem_append.2 (.inl hp))))
   (trodAll_stays hl hb hr3 h2 (fun p hp => hlt p (List.mem_append.2 (.inr hp))) (fun p hp => hsp p (List.mem_append.2 (.inr hp))))
variable {w : World} {base : Nat} {spare : Nat → Bool} {held : Bool} {fuel : Nat} {t e : TypeId} {cs : List Value} {x : DataW H × List MemPlace}
end
theorem u8_of_wf' {a : Int} (h : (Lit.int .u8 a).wf = true) : ∃ u : UInt8, a = u.toNat := by
 simp [Lit.wf, IntKind.min, IntKind.max, IntKind.signed, IntKind.bits] at h
 exact ⟨UInt8.ofNat a.toNat, by simp; omega⟩
end Go.Proofs.YtokknppjeckppaaGreatDoor
namespace Go.Proofs.YtokknppjeckppaaGreatDoor
def vputF : Nat → Nat → List UInt8
 | 0, _ => []
 | k + 1, n => if n < 128 then [UInt8.ofNat n] else UInt8.ofNat (n % 128 + 128) :: vputF k (n / 128)
def vput (n : Nat) : List UInt8 := vputF 10 n
theorem vputF_lo {k n : Nat} (h : n < 128) : vputF (k + 1) n = [UInt8.ofNat n] := by simp [vputF, h]
theorem vputF_hi {k n : Nat} (h : 128 ≤ n) : vputF (k + 1) n = UInt8.ofNat (n % 128 + 128) :: vputF k (n / 128) := by
 simp [vputF, Nat.not_lt.2 h]
theorem vputF_len (k : Nat) : ∀ n, (vputF k n).length ≤ k := by
 induction k with
 | zero => intro n; simp [vputF]
 | succ k ih =>
  intro n
  by_cases h : n < 128
  ·simp [vputF_lo h]
  ·rw [vputF_hi (by omega)]; simp; exact ih _
theorem vputF_pos (k n : Nat) : 1 ≤ (vputF (k + 1) n).length := by
 by_cases h : n < 128
 ·simp [vputF_lo h]
 ·rw [vputF_hi (by omega)]; simp
theorem vput_len (n : Nat) : (vput n).length ≤ 10 := vputF_len 10 n
def U64 (n : Nat) : Prop := n < 18446744073709551616
theorem U64.div {n : Nat} (h : U64 n) (k : Nat) : U64 (n / k) := Nat.lt_of_le_of_lt (Nat.div_le_self n k) h
theorem wraps_u64' (n : Int) (h₀ : 0 ≤ n) (h₁ : n < 2 ^ 64) : IntKind.u64.wrap n = n := by rw [IntKind.wrap_u64]; omega
def vtakeF (i a : Nat) : List UInt8 → Nat × Nat × Nat
 | [] => (0, 0, 1)
 | b :: t =>
  if i = 9 ∧ 1 < b.toNat then (0, 0, 4)
  else if 128 ≤ b.toNat then vtakeF (i + 1) (a + b.toNat % 128 * 2 ^ (7 * i)) t
  else if b.toNat = 0 ∧ 0 < i then (0, 0, 2)
  else (a + b.toNat * 2 ^ (7 * i), i + 1, 0)
def vtake (l : List UInt8) : Nat × Nat × Nat := vtakeF 0 0 l
def enF : Nat → List UInt8 → List (Fin 10 × UInt8)
 | _, [] => []
 | i, b :: t => if h : i < 10 then (⟨i, h⟩, b) :: enF (i + 1) t else []
theorem enF_length : ∀ (l : List UInt8) (i : Nat), (enF i l).length = min l.length (10 - i) := by
 intro l
 induction l with
 | nil => intro i; simp [enF]
 | cons b t ih =>
  intro i
  by_cases h : i < 10
  ·simp [enF, h, ih]; omega
  ·simp [enF, h]; omega
theorem enF_get : ∀ (l : List UInt8) (i j : Nat) (h : i + j < 10) (hj : j < l.length), (enF i l)[j]? = some (⟨i + j, h⟩, l[j]) := by
 intro l
 induction l with
 | nil => intro i j h hj; simp at hj
 | cons b t ih =>
  intro i j h hj
  rw [enF, dif_pos (by omega)]
  cases j with
  | zero => simp
  | succ j =>
   rw [List.getElem?_cons_succ, ih (i + 1) j (by omega) (by simpa using hj)]
   simp; omega
def orstep (a : Int) (x : Fin 10 × UInt8) : Int := bits .or .u64 a (IntKind.u64.wrap (bits .and .u8 x.2.toNat 127 * 2 ^ (7 * x.1.val)))
def accOf (pre : List (Fin 10 × UInt8)) : Int := pre.foldl orstep 0
theorem accOf_snoc (pre : List (Fin 10 × UInt8)) (x : Fin 10 × UInt8) : accOf (pre ++ [x]) = orstep (accOf pre) x := by simp [accOf]
def goesOn (x : Fin 10 × UInt8) : Prop := 128 ≤ x.2.toNat ∧ ¬ (x.1.val = 9 ∧ 1 < x.2.toNat)
def endsAt (x : Fin 10 × UInt8) : Prop := (x.1.val = 9 ∧ 1 < x.2.toNat) ∨ x.2.toNat < 128
def told (a : Int) (x : Fin 10 × UInt8) : Int × Int × Int :=
 if x.1.val = 9 ∧ 1 < x.2.toNat then (0, 0, 4) else if x.2.toNat = 0 ∧ 0 < x.1.val then (0, 0, 2) else (orstep a x, x.1.val + 1, 0)
theorem orstep_eq {a i : Nat} (ha : a < 2 ^ (7 * i)) (hi : i < 10) (b : UInt8) (h : ¬ (i = 9 ∧ 1 < b.toNat)) : orstep (a : Int) (⟨i, hi⟩, b) = ((a + b.toNat % 128 * 2 ^ (7 * i) : Nat) : Int) := by
 have hb : b.toNat < 256 := b.toNat_lt
 have e1 : bits .and .u8 (b.toNat : Int) 127 = ((b.toNat % 128 : Nat) : Int) := by rw [u8_and127 (x := (b.toNat : Int)) (by omega) (by omega)]; omega
 have hlim : b.toNat % 128 * 2 ^ (7 * i) < 2 ^ 64 := by
  by_cases h9 : i = 9
  ·subst h9; have : b.toNat ≤ 1 := by omega
   have h2 : b.toNat % 128 ≤ 1 := by omega
   calc b.toNat % 128 * 2 ^ (7 * 9) ≤ 1 * 2 ^ (7 * 9) := Nat.mul_le_mul_right _ h2
    _ < 2 ^ 64 := by decide
  ·have h8 : i ≤ 8 := by omega
   have h2 : b.toNat % 128 < 128 := by omega
   calc b.toNat % 128 * 2 ^ (7 * i) ≤ 127 * 2 ^ (7 * i) := Nat.mul_le_mul_right _ (by omega)
    _ ≤ 127 * 2 ^ (7 * 8) := Nat.mul_le_mul_left _ (Nat.pow_le_pow_right (by decide) (by omega))
    _ < 2 ^ 64 := by decide
 have ha64 : a < 2 ^ 64 := Nat.lt_of_lt_of_le ha (Nat.pow_le_pow_right (by decide) (by omega))
 have e2 : IntKind.u64.wrap (((b.toNat % 128 : Nat) : Int) * 2 ^ (7 * i)) = ((b.toNat % 128 * 2 ^ (7 * i) : Nat) : Int) := by
  have e3 : (((b.toNat % 128 : Nat) : Int) * 2 ^ (7 * i)) = ((b.toNat % 128 * 2 ^ (7 * i) : Nat) : Int) := by rw [Int.natCast_mul, Int.natCast_pow]; rfl
  rw [e3, IntKind.wrap_u64]
  clear e3; generalize b.toNat % 128 * 2 ^ (7 * i) = X at *; omega
 show bits .or .u64 (a : Int) (IntKind.u64.wrap (bits .and .u8 (b.toNat : Int) 127 * 2 ^ (7 * i))) = _
 rw [e1, e2, (bits_nat .u64 64 (by decide) wraps_u64' a (b.toNat % 128 * 2 ^ (7 * i)) ha64 hlim).2]
 congr 1
 rw [Nat.add_comm, Nat.mul_comm, Nat.or_comm, Nat.two_pow_add_eq_or_of_lt ha]
theorem acc_lt {a i : Nat} (ha : a < 2 ^ (7 * i)) (b : UInt8) : a + b.toNat % 128 * 2 ^ (7 * i) < 2 ^ (7 * (i + 1)) := by
 have h2 : b.toNat % 128 ≤ 127 := by omega
 have e : 2 ^ (7 * (i + 1)) = 2 ^ (7 * i) * 128 := by rw [show 7 * (i + 1) = 7 * i + 7 by omega, Nat.pow_add]
 have := Nat.mul_le_mul_right (2 ^ (7 * i)) h2
 rw [e]
 omega
theorem take_end_gen : ∀ (pre : List (Fin 10 × UInt8)) (l : List UInt8) (i a : Nat) (x : Fin 10 × UInt8), i < 10 → a < 2 ^ (7 * i) → pre ++ [x] <+: enF i l → (∀ y ∈ pre, goesOn y) → endsAt x →
  told (pre.foldl orstep (a : Int)) x = (((vtakeF i a l).1 : Int), ((vtakeF i a l).2.1 : Int), ((vtakeF i a l).2.2 : Int)) := by
 intro pre
 induction pre with
 | nil =>
  intro l i a x hi ha hp _ hx
  cases l with
  | nil => simp [enF] at hp
  | cons b t =>
   rw [enF, dif_pos hi] at hp
   obtain ⟨rfl, _⟩ := by simpa using hp
   simp only [endsAt] at hx
   by_cases h9 : i = 9 ∧ 1 < b.toNat
   ·simp [told, vtakeF, h9]
   ·have hb : b.toNat < 128 := by rcases hx with h | h; exact absurd h h9; exact h
    have hnb : ¬ 128 ≤ b.toNat := by omega
    by_cases h0 : b.toNat = 0 ∧ 0 < i
    ·simp only [told, vtakeF]
     rw [if_neg h9, if_neg h9, if_neg hnb, if_pos h0, if_pos h0]; rfl
    ·simp only [told, vtakeF]
     rw [if_neg h9, if_neg h9, if_neg hnb, if_neg h0, if_neg h0]
     have := orstep_eq ha hi b h9
     rw [Nat.mod_eq_of_lt hb] at this
     simp only [List.foldl_nil]
     rw [this]
     simp
 | cons y p ih =>
  intro l i a x hi ha hp hc hx
  cases l with
  | nil => simp [enF] at hp
  | cons b t =>
   rw [enF, dif_pos hi] at hp
   obtain ⟨rfl, hp'⟩ := by simpa using hp
   have hy := hc (⟨i, hi⟩, b) (by simp)
   obtain ⟨hy1, hy2⟩ := hy
   simp only at hy1 hy2
   have hi9 : i ≠ 9 := fun h => hy2 ⟨h, by omega⟩
   rw [List.foldl_cons, orstep_eq ha hi b hy2]
   have := ih t (i + 1) (a + b.toNat % 128 * 2 ^ (7 * i)) x (by omega) (acc_lt ha b) (by simpa using hp') (fun z hz => hc z (by simp [hz])) hx
   rw [this, vtakeF, if_neg hy2, if_pos hy1]
theorem take_done_gen : ∀ (l : List UInt8) (i a : Nat), i < 10 → (∀ y ∈ enF i l, goesOn y) → vtakeF i a l = (0, 0, 1) := by
 intro l
 induction l with
 | nil => intro i a _ _; rfl
 | cons b t ih =>
  intro i a hi hc
  rw [enF, dif_pos hi] at hc
  obtain ⟨h1, h2⟩ := hc (⟨i, hi⟩, b) (by simp)
  simp only at h1 h2
  have hi9 : i ≠ 9 := fun h => h2 ⟨h, by omega⟩
  rw [vtakeF, if_neg h2, if_pos h1]
  exact ih (i + 1) _ (by omega) (fun z hz => hc z (by simp [hz]))
theorem take_end {l : List UInt8} {pre : List (Fin 10 × UInt8)} {x : Fin 10 × UInt8} (hp : pre ++ [x] <+: enF 0 l) (hc : ∀ y ∈ pre, goesOn y) (hx : endsAt x) :
  told (accOf pre) x = (((vtake l).1 : Int), ((vtake l).2.1 : Int), ((vtake l).2.2 : Int)) := take_end_gen pre l 0 0 x (by decide) (by decide) hp hc hx
theorem take_done {l : List UInt8} (hc : ∀ y ∈ enF 0 l, goesOn y) : vtake l = (0, 0, 1) := take_done_gen l 0 0 (by decide) hc
theorem take_shift (b : UInt8) {i : Nat} (hi : i < 10) :
  Op.shift .shl .u64 (IntKind.u64.wrap (bits .and .u8 (b.toNat : Int) 127)) .i64 (IntKind.i64.wrap (7 * (i : Int))) = pure (.int .u64 (IntKind.u64.wrap (bits .and .u8 (b.toNat : Int) 127 * 2 ^ (7 * i)))) := by
 have hb : b.toNat < 256 := b.toNat_lt
 have e1 : bits .and .u8 (b.toNat : Int) 127 = ((b.toNat % 128 : Nat) : Int) := by rw [u8_and127 (x := (b.toNat : Int)) (by omega) (by omega)]; omega
 have e2 : IntKind.u64.wrap (((b.toNat % 128 : Nat) : Int)) = ((b.toNat % 128 : Nat) : Int) := by rw [IntKind.wrap_u64]; omega
 have e3 : IntKind.i64.wrap (7 * (i : Int)) = 7 * (i : Int) := by rw [IntKind.wrap_i64]; omega
 have e4 : (7 * (i : Int)).toNat = 7 * i := by omega
 rw [e1, e2, e3, shift_shl _ _ _ _ (by omega) (by simp [IntKind.bits]; omega), e4]
theorem U64.wrap {n : Nat} (h : U64 n) : IntKind.u64.wrap (n : Int) = (n : Int) := by rw [IntKind.wrap_u64]; unfold U64 at h; omega
theorem U64.wrap_div {n : Nat} (h : U64 n) (k : Nat) : IntKind.u64.wrap ((n : Int) / (k : Int)) = (n : Int) / (k : Int) := by
 have := (h.div k).wrap
 rwa [Int.natCast_ediv] at this
def refI (l : List UInt8) (i a : Nat) : Prop := i ≤ 9 ∧ i ≤ l.length ∧ a < 2 ^ (7 * i) ∧ vtake l = vtakeF i a (l.drop i)
theorem refI_zero (l : List UInt8) : refI l 0 0 := ⟨by omega, Nat.zero_le _, by decide, rfl⟩
theorem refI_short {l : List UInt8} {i a : Nat} (h : refI l i a) (hi : l.length ≤ i) : vtake l = (0, 0, 1) := by
 rw [h.2.2.2, List.drop_of_length_le hi]; rfl
theorem refI_drop {l : List UInt8} {i a : Nat} (h : refI l i a) (hi : i < l.length) : vtake l = vtakeF i a (l[i] :: l.drop (i + 1)) := by
 rw [h.2.2.2, List.drop_eq_getElem_cons hi]
theorem refI_range {l : List UInt8} {i a : Nat} (h : refI l i a) (hi : i < l.length) (hA : i = 9 ∧ 1 < l[i].toNat) : vtake l = (0, 0, 4) := by
 rw [refI_drop h hi, vtakeF, if_pos hA]
theorem refI_form {l : List UInt8} {i a : Nat} (h : refI l i a) (hi : i < l.length) (hA : ¬ (i = 9 ∧ 1 < l[i].toNat)) (hz : l[i].toNat = 0 ∧ 0 < i) : vtake l = (0, 0, 2) := by
 rw [refI_drop h hi, vtakeF, if_neg hA, if_neg (by omega), if_pos hz]
theorem refI_last {l : List UInt8} {i a : Nat} (h : refI l i a) (hi : i < l.length) (hA : ¬ (i = 9 ∧ 1 < l[i].toNat)) (hz : ¬ (l[i].toNat = 0 ∧ 0 < i)) (hc : l[i].toNat < 128) : vtake l = (a + l[i].toNat * 2 ^ (7 * i), i + 1, 0) := by
 rw [refI_drop h hi, vtakeF, if_neg hA, if_neg (by omega), if_neg hz]
theorem refI_on {l : List UInt8} {i a : Nat} (h : refI l i a) (hi : i < l.length) (hA : ¬ (i = 9 ∧ 1 < l[i].toNat)) (hc : 128 ≤ l[i].toNat) : refI l (i + 1) (a + l[i].toNat % 128 * 2 ^ (7 * i)) := by
 refine ⟨?_, hi, acc_lt h.2.2.1 _, ?_⟩
 ·have := h.1; rcases Nat.lt_or_ge i 9 with h9 | h9
  ·omega
  ·exact absurd ⟨by omega, by omega⟩ hA
 ·rw [refI_drop h hi, vtakeF, if_neg hA, if_pos hc]
theorem ref_sum {a i c : Nat} (ha : a < 2 ^ (7 * i)) (hi : i ≤ 9) (hA : ¬ (i = 9 ∧ 1 < c)) (hc : c < 256) :
  IntKind.u64.wrap ((a : Int) + IntKind.u64.wrap ((c : Int) % 128 * 2 ^ (7 * i))) = ((a + c % 128 * 2 ^ (7 * i) : Nat) : Int) ∧ a + c % 128 * 2 ^ (7 * i) < 18446744073709551616 := by
 have hlim : a + c % 128 * 2 ^ (7 * i) < 18446744073709551616 := by
  by_cases h9 : i = 9
  ·subst h9
   have h2 : c % 128 ≤ 1 := by omega
   have := Nat.mul_le_mul_right (2 ^ (7 * 9)) h2
   omega
  ·have h2 : c % 128 ≤ 127 := by omega
   have h3 : 2 ^ (7 * i) ≤ 2 ^ (7 * 8) := Nat.pow_le_pow_right (by decide) (by omega)
   have := Nat.mul_le_mul h2 h3
   omega
 refine ⟨?_, hlim⟩
 have e : ((c : Int) % 128 * 2 ^ (7 * i)) = ((c % 128 * 2 ^ (7 * i) : Nat) : Int) := by rw [Int.natCast_mul, Int.natCast_pow]; rfl
 rw [e, IntKind.wrap_u64, IntKind.wrap_u64]
 generalize c % 128 * 2 ^ (7 * i) = X at *
 omega
theorem take_put_gen : ∀ (k i a r : Nat) (t : List UInt8), i + k = 10 → r * 2 ^ (7 * i) < 18446744073709551616 → (0 < i → 0 < r) →
  vtakeF i a (vputF k r ++ t) = (a + r * 2 ^ (7 * i), i + (vputF k r).length, 0) := by
 intro k
 induction k with
 | zero =>
  intro i a r t hi hr h0
  obtain rfl : i = 10 := by omega
  have : 0 < r := h0 (by decide)
  omega
 | succ k ih =>
  intro i a r t hi hr h0
  have hi9 : i ≤ 9 := by omega
  have h9 : i = 9 → r ≤ 1 := by
   rintro rfl
   omega
  by_cases h : r < 128
  ·have hb : (UInt8.ofNat r).toNat = r := by rw [UInt8.toNat_ofNat']; omega
   rw [vputF_lo h, List.singleton_append, vtakeF, hb, if_neg (fun hA => by have := h9 hA.1; omega), if_neg (by omega), if_neg (fun hz => by have := h0 hz.2; omega)]
   rfl
  ·have hb : (UInt8.ofNat (r % 128 + 128)).toNat = r % 128 + 128 := by rw [UInt8.toNat_ofNat']; omega
   have e : 2 ^ (7 * (i + 1)) = 2 ^ (7 * i) * 128 := by rw [show 7 * (i + 1) = 7 * i + 7 by omega, Nat.pow_add]
   have hm : r / 128 * (2 ^ (7 * i) * 128) ≤ r * 2 ^ (7 * i) := by
    have := Nat.mul_le_mul_right (2 ^ (7 * i)) (Nat.div_mul_le_self r 128)
    calc r / 128 * (2 ^ (7 * i) * 128) = r / 128 * 128 * 2 ^ (7 * i) := by rw [Nat.mul_assoc, Nat.mul_comm 128]
     _ ≤ _ := this
   rw [vputF_hi (by omega), List.cons_append, vtakeF, hb, if_neg (fun hA => by have := h9 hA.1; omega), if_pos (by omega),
    ih (i + 1) _ (r / 128) t (by omega) (by rw [e]; omega) (fun _ => by omega)]
   have hs : a + (r % 128 + 128) % 128 * 2 ^ (7 * i) + r / 128 * 2 ^ (7 * (i + 1)) = a + r * 2 ^ (7 * i) := by
    have h1 : (r % 128 + 128) % 128 = r % 128 := by omega
    have h2 : r = r % 128 + r / 128 * 128 := by omega
    rw [h1, e]
    conv => rhs; rw [h2, Nat.add_mul, Nat.mul_assoc, Nat.mul_comm 128]
    omega
   rw [hs, List.length_cons]
   congr 2; omega
theorem take_put {n : Nat} (h : U64 n) (t : List UInt8) : vtake (vput n ++ t) = (n, (vput n).length, 0) := by
 unfold U64 at h
 have := take_put_gen 10 0 0 n t (by decide) (by simpa using h) (by simp)
 simpa [vtake, vput] using this
theorem put_take_gen : ∀ (l : List UInt8) (i a n j : Nat), i ≤ 9 → vtakeF i a l = (n, j, 0) →
  ∃ r, n = a + r * 2 ^ (7 * i) ∧ l.take (j - i) = vputF (10 - i) r ∧ i < j ∧ j ≤ i + l.length ∧ j ≤ 10 ∧ r * 2 ^ (7 * i) < 18446744073709551616 ∧ (0 < i → 0 < r) := by
 intro l
 induction l with
 | nil => intro i a n j _ h; simp [vtakeF] at h
 | cons b t ih =>
  intro i a n j hi h
  obtain ⟨k, hk⟩ : ∃ k, 10 - i = k + 1 := ⟨9 - i, by omega⟩
  have hb := b.toNat_lt
  rw [vtakeF] at h
  by_cases hA : i = 9 ∧ 1 < b.toNat
  ·rw [if_pos hA] at h; simp at h
  ·rw [if_neg hA] at h
   by_cases hc : 128 ≤ b.toNat
   ·rw [if_pos hc] at h
    have hi8 : i ≤ 8 := by rcases Nat.lt_or_ge i 9 with h9 | h9; omega; exact absurd ⟨by omega, by omega⟩ hA
    obtain ⟨r, h1, h2, h3, h4, h5, h6, h7⟩ := ih (i + 1) _ n j (by omega) h
    have e : 2 ^ (7 * (i + 1)) = 2 ^ (7 * i) * 128 := by rw [show 7 * (i + 1) = 7 * i + 7 by omega, Nat.pow_add]
    have hr := h7 (by omega)
    have hsum : (b.toNat % 128 + r * 128) * 2 ^ (7 * i) = b.toNat % 128 * 2 ^ (7 * i) + r * 2 ^ (7 * (i + 1)) := by
     rw [Nat.add_mul, e, Nat.mul_assoc, Nat.mul_comm 128]
    have hlt : (b.toNat % 128 + r * 128) * 2 ^ (7 * i) < 18446744073709551616 := by
     -- r * 2^(7(i+1)) below 2^64 is a multiple of 2^(7(i+1)), and so is 2^64 less at most 2^(7(i+1))
     rw [hsum]
     have hdvd : 2 ^ (7 * (i + 1)) ∣ 18446744073709551616 := by
      rw [show (18446744073709551616 : Nat) = 2 ^ 64 by decide]
      exact Nat.pow_dvd_pow 2 (by omega)
     obtain ⟨q, hq⟩ := hdvd
     have hrq : r < q := by
      rw [hq, Nat.mul_comm r] at h6
      exact Nat.lt_of_mul_lt_mul_left h6
     have h8 : (r + 1) * 2 ^ (7 * (i + 1)) ≤ 18446744073709551616 := by
      rw [hq, Nat.mul_comm]; exact Nat.mul_le_mul_left _ hrq
     rw [Nat.add_mul, Nat.one_mul] at h8
     have h9 : b.toNat % 128 * 2 ^ (7 * i) < 2 ^ (7 * (i + 1)) := by
      rw [e, Nat.mul_comm (2 ^ (7 * i))]
      exact Nat.mul_lt_mul_of_pos_right (by omega) (Nat.two_pow_pos _)
     omega
    refine ⟨b.toNat % 128 + r * 128, ?_, ?_, by omega, by simp; omega, h5, hlt, fun _ => by omega⟩
    ·rw [h1, hsum]; omega
    ·have hj : j - i = (j - (i + 1)) + 1 := by omega
     rw [hj, List.take_succ_cons, h2, hk, vputF_hi (by omega)]
     have e1 : (b.toNat % 128 + r * 128) / 128 = r := by omega
     have e2 : (b.toNat % 128 + r * 128) % 128 + 128 = b.toNat := by omega
     rw [e1, e2, UInt8.ofNat_toNat]
     congr 2; omega
   ·rw [if_neg hc] at h
    by_cases hz : b.toNat = 0 ∧ 0 < i
    ·rw [if_pos hz] at h; simp at h
    ·rw [if_neg hz] at h
     simp only [Prod.mk.injEq, and_true] at h
     obtain ⟨rfl, rfl⟩ := h
     refine ⟨b.toNat, rfl, ?_, by omega, by simp, by omega, ?_, fun h0 => ?_⟩
     ·have : i + 1 - i = 1 := by omega
      rw [this, hk, vputF_lo (by omega), UInt8.ofNat_toNat]; rfl
     ·by_cases h9 : i = 9
      ·subst h9; omega
      ·have h3 : 2 ^ (7 * i) ≤ 2 ^ (7 * 8) := Nat.pow_le_pow_right (by decide) (by omega)
       have := Nat.mul_le_mul (show b.toNat ≤ 127 by omega) h3
       omega
     ·rcases Nat.eq_zero_or_pos b.toNat with h1 | h1
      ·exact absurd ⟨h1, h0⟩ hz
      ·exact h1
theorem put_take {l : List UInt8} {n j : Nat} (h : vtake l = (n, j, 0)) : l.take j = vput n ∧ 0 < j ∧ j ≤ l.length ∧ j ≤ 10 ∧ U64 n := by
 obtain ⟨r, h1, h2, h3, h4, h5, h6, _⟩ := put_take_gen l 0 0 n j (by decide) h
 simp at h1 h2 h4 h6
 subst h1
 exact ⟨h2, h3, h4, h5, h6⟩
theorem vtakeF_err : ∀ (l : List UInt8) (i a n j e : Nat), vtakeF i a l = (n, j, e) → e ≠ 0 → n = 0 ∧ j = 0 ∧ e ≤ 4 := by
 intro l
 induction l with
 | nil => intro i a n j e h _; simp [vtakeF] at h; omega
 | cons b t ih =>
  intro i a n j e h he
  rw [vtakeF] at h
  split at h
  ·simp at h; omega
  ·split at h
   ·exact ih _ _ n j e h he
   ·split at h
    ·simp at h; omega
    ·simp at h; omega
theorem vtake_err {l : List UInt8} {n j e : Nat} (h : vtake l = (n, j, e)) (he : e ≠ 0) : n = 0 ∧ j = 0 ∧ e ≤ 4 := vtakeF_err l 0 0 n j e h he
def vputText (l : List UInt8) : List UInt8 := if 65536 < l.length then [] else vput l.length ++ l
def vtakeText (l : List UInt8) : List UInt8 × Nat × Nat :=
 if (vtake l).2.2 ≠ 0 then ([], 0, (vtake l).2.2)
 else if 65536 < (vtake l).1 then ([], 0, 4)
 else if l.length < (vtake l).2.1 + (vtake l).1 then ([], 0, 1)
 else ((l.drop (vtake l).2.1).take (vtake l).1, (vtake l).2.1 + (vtake l).1, 0)
theorem takeText_putText {l : List UInt8} (h : l.length ≤ 65536) (t : List UInt8) : vtakeText (vputText l ++ t) = (l, (vputText l).length, 0) := by
 have hu : U64 l.length := by unfold U64; omega
 have e : vputText l = vput l.length ++ l := by rw [vputText, if_neg (by omega)]
 have hT : vtake (vputText l ++ t) = (l.length, (vput l.length).length, 0) := by rw [e, List.append_assoc, take_put hu]
 rw [vtakeText, hT, if_neg (by simp), if_neg (by simp; omega), if_neg (by rw [e]; simp), e]
 simp
theorem putText_takeText {l b : List UInt8} {m : Nat} (h : vtakeText l = (b, m, 0)) : m ≤ l.length ∧ vputText b = l.take m := by
 rw [vtakeText] at h
 split at h
 ·rename_i he
  simp at h; exact absurd h.2.2 he
 ·rename_i he
  split at h
  ·simp at h
  ·rename_i hn
   split at h
   ·simp at h
   ·rename_i hl
    simp only [Prod.mk.injEq, and_true] at h
    obtain ⟨rfl, rfl⟩ := h
    obtain ⟨n, k, e, hv⟩ : ∃ n k e, vtake l = (n, k, e) := ⟨_, _, _, rfl⟩
    rw [hv] at he hn hl ⊢
    simp only [ne_eq, Decidable.not_not] at he hn hl ⊢
    subst he
    obtain ⟨h1, h2, h3, h4, h5⟩ := put_take hv
    refine ⟨by omega, ?_⟩
    have hlen : ((l.drop k).take n).length = n := by simp; omega
    rw [vputText, if_neg (by omega), hlen, ← h1, List.take_add]
def pts : List UInt8 → List (List UInt8)
 | [] => [[]]
 | c :: r => if c = 47 then [] :: pts r else match pts r with
  | [] => [[c]]
  | h :: t => (c :: h) :: t
def joinS : List (List UInt8) → List UInt8
 | [] => []
 | [a] => a
 | a :: b :: r => a ++ 47 :: joinS (b :: r)
theorem pts_ne (l : List UInt8) : pts l ≠ [] := by
 cases l with
 | nil => simp [pts]
 | cons c r =>
  simp only [pts]
  split
  ·simp
  ·split <;> simp
theorem pts_slash (r : List UInt8) : pts (47 :: r) = [] :: pts r := by simp [pts]
theorem pts_other {c : UInt8} (hc : c ≠ 47) {r h : List UInt8} {t : List (List UInt8)} (e : pts r = h :: t) : pts (c :: r) = (c :: h) :: t := by simp [pts, hc, e]
theorem pts_app (a b : List UInt8) : pts (a ++ 47 :: b) = pts a ++ pts b := by
 induction a with
 | nil => simp [pts]
 | cons c r ih =>
  by_cases hc : c = 47
  ·subst hc; simp [pts, ih]
  ·obtain ⟨h, t, e⟩ := List.exists_cons_of_ne_nil (pts_ne r)
   rw [List.cons_append, pts_other hc (show pts (r ++ 47 :: b) = h :: (t ++ pts b) by rw [ih, e]; rfl), pts_other hc e]; rfl
theorem pts_one {a : List UInt8} (h : (47 : UInt8) ∉ a) : pts a = [a] := by
 induction a with
 | nil => rfl
 | cons c r ih =>
  have hc : c ≠ 47 := fun e => h (by rw [e]; exact List.mem_cons_self ..)
  exact pts_other hc (ih (fun hr => h (List.mem_cons_of_mem _ hr)))
theorem joinS_cons {a : List UInt8} {L : List (List UInt8)} (h : L ≠ []) : joinS (a :: L) = a ++ 47 :: joinS L := by
 cases L with
 | nil => exact absurd rfl h
 | cons b r => rfl
theorem joinS_pts (l : List UInt8) : joinS (pts l) = l := by
 induction l with
 | nil => rfl
 | cons c r ih =>
  by_cases hc : c = 47
  ·subst hc; rw [pts_slash, joinS_cons (pts_ne r), ih]; rfl
  ·obtain ⟨h, t, e⟩ := List.exists_cons_of_ne_nil (pts_ne r)
   rw [pts_other hc e]; rw [e] at ih
   cases t with
   | nil => simp only [joinS] at ih ⊢; rw [ih]
   | cons b t => simp only [joinS] at ih ⊢; rw [List.cons_append, ih]
theorem pts_joinS : ∀ {L : List (List UInt8)}, L ≠ [] → (∀ p ∈ L, (47 : UInt8) ∉ p) → pts (joinS L) = L
 | [], h, _ => absurd rfl h
 | [a], _, h => pts_one (h a (List.mem_cons_self ..))
 | a :: b :: r, _, h => by
  show pts (a ++ 47 :: joinS (b :: r)) = _
  rw [pts_app, pts_one (h a (List.mem_cons_self ..)), pts_joinS (by simp) (fun p hp => h p (List.mem_cons_of_mem _ hp))]; rfl
theorem joinS_snoc {L : List (List UInt8)} (h : L ≠ []) (p : List UInt8) : joinS (L ++ [p]) = joinS L ++ 47 :: p := by
 induction L with
 | nil => exact absurd rfl h
 | cons a r ih =>
  cases r with
  | nil => rfl
  | cons b r => rw [List.cons_append, joinS_cons (L := b :: r ++ [p]) (by simp), ih (by simp), joinS_cons (a := a) (L := b :: r) (by simp), List.append_assoc, List.cons_append]
def nameB (l : List UInt8) : Bool := decide (1 ≤ l.length ∧ l.length ≤ 31 ∧ l ≠ [46] ∧ l ≠ [46, 46] ∧ (0 : UInt8) ∉ l ∧ (47 : UInt8) ∉ l)
theorem nameB_iff {l : List UInt8} : nameB l = true ↔ 1 ≤ l.length ∧ l.length ≤ 31 ∧ l ≠ [46] ∧ l ≠ [46, 46] ∧ (0 : UInt8) ∉ l ∧ (47 : UInt8) ∉ l := by simp [nameB]
theorem nameB_mk {l : List UInt8} (h : 1 ≤ l.length ∧ l.length ≤ 31 ∧ l ≠ [46] ∧ l ≠ [46, 46] ∧ (0 : UInt8) ∉ l ∧ (47 : UInt8) ∉ l) : nameB l = true := nameB_iff.2 h
theorem nameB_no {l : List UInt8} (h : ¬ (1 ≤ l.length ∧ l.length ≤ 31 ∧ l ≠ [46] ∧ l ≠ [46, 46] ∧ (0 : UInt8) ∉ l ∧ (47 : UInt8) ∉ l)) : nameB l = false := by
 rcases hb : nameB l with _ | _
 ·rfl
 ·exact absurd (nameB_iff.1 hb) h
theorem nameB_nil : nameB [] = false := rfl
def joinN (L : List (List UInt8)) : List UInt8 := if L.length ≤ 8 ∧ L.all nameB = true then joinS L else []
def splitS (l : List UInt8) : List (List UInt8) := if (pts l).length ≤ 8 ∧ (pts l).all nameB = true then pts l else []
def dirS (l : List UInt8) : List UInt8 := joinN (splitS l).dropLast
theorem splitS_cases (l : List UInt8) : (splitS l = [] ∧ ¬ ((pts l).length ≤ 8 ∧ (pts l).all nameB = true)) ∨ (splitS l = pts l ∧ (pts l).length ≤ 8 ∧ (pts l).all nameB = true) := by
 by_cases h : (pts l).length ≤ 8 ∧ (pts l).all nameB = true
 ·exact .inr ⟨if_pos h, h⟩
 ·exact .inl ⟨if_neg h, h⟩
theorem splitS_ne {l : List UInt8} (h : splitS l ≠ []) : splitS l = pts l ∧ (pts l).length ≤ 8 ∧ (pts l).all nameB = true := (splitS_cases l).resolve_left fun e => h e.1
theorem joinN_small {L : List (List UInt8)} (h : L.length ≤ 8) (hL : L.all nameB = true) : joinN L = joinS L := if_pos ⟨h, hL⟩
theorem joinN_long {L : List (List UInt8)} (h : 8 < L.length) : joinN L = [] := if_neg fun hh => absurd hh.1 (by omega)
theorem joinN_bad {L : List (List UInt8)} {p : List UInt8} (hp : p ∈ L) (h : nameB p = false) : joinN L = [] := if_neg fun hh => by
 have := List.all_eq_true.1 hh.2 p hp; rw [h] at this; cases this
theorem splitS_short {l : List UInt8} (h : (splitS l).length < 2) : dirS l = [] := by
 unfold dirS
 have : (splitS l).dropLast = [] := by
  cases hs : splitS l with
  | nil => rfl
  | cons a r => cases r with
   | nil => rfl
   | cons b r => rw [hs] at h; simp at h; omega
 rw [this]; rfl
def cmpP : List (List UInt8) → List (List UInt8) → Int
 | [], [] => 0
 | [], _ :: _ => -1
 | _ :: _, [] => 1
 | a :: x, b :: y => if a < b then -1 else if b < a then 1 else cmpP x y
def orderS (a b : List UInt8) : Int := cmpP (pts a) (pts b)
end Go.Proofs.YtokknppjeckppaaGreatDoor
set_option linter.unusedVariables false
namespace Go.Proofs.YtokknppjeckppaaGreatDoor
abbrev Txt := List UInt8
theorem t_irrefl (x : Txt) : ¬ x < x := List.lt_irrefl x
theorem t_trans {x y z : Txt} (h : x < y) (h' : y < z) : x < z := List.lt_trans h h'
theorem t_tri (x y : Txt) (h : ¬ x < y) (h' : ¬ y < x) : x = y := List.le_antisymm (List.not_lt.1 h') (List.not_lt.1 h)
theorem t_asymm {x y : Txt} (h : x < y) : ¬ y < x := fun h' => t_irrefl _ (t_trans h h')
abbrev Rises (l : List Txt) : Prop := l.Pairwise (· < ·)
theorem rises_ext : ∀ {a b : List Txt}, Rises a → Rises b → (∀ x, x ∈ a ↔ x ∈ b) → a = b
 | [], [], _, _, _ => rfl
 | [], y :: b, _, _, h => absurd ((h y).2 (List.mem_cons_self ..)) (by simp)
 | x :: a, [], _, _, h => absurd ((h x).1 (List.mem_cons_self ..)) (by simp)
 | x :: a, y :: b, ha, hb, h => by
  have ha' := List.pairwise_cons.1 ha
  have hb' := List.pairwise_cons.1 hb
  have hxy : x = y := by
   rcases List.mem_cons.1 ((h x).1 (List.mem_cons_self ..)) with e | e
   ·exact e
   ·rcases List.mem_cons.1 ((h y).2 (List.mem_cons_self ..)) with f | f
    ·exact f.symm
    ·exact absurd (ha'.1 y f) (t_asymm (hb'.1 x e))
  subst hxy
  congr 1
  refine rises_ext ha'.2 hb'.2 fun z => ⟨fun hz => ?_, fun hz => ?_⟩
  ·rcases List.mem_cons.1 ((h z).1 (List.mem_cons_of_mem _ hz)) with e | e
   ·subst e; exact absurd (ha'.1 z hz) (t_irrefl _)
   ·exact e
  ·rcases List.mem_cons.1 ((h z).2 (List.mem_cons_of_mem _ hz)) with e | e
   ·subst e; exact absurd (hb'.1 z hz) (t_irrefl _)
   ·exact e
def isK (t : Txt) : Bool := decide (t.length = 32)
def ofL (l : List Txt) : List Txt := Lib.compact ((l.filter isK).mergeSort fun x y => decide (x ≤ y))
theorem t_le_total (a b : Txt) : (decide (a ≤ b) || decide (b ≤ a)) = true := by
 rcases List.le_total a b with h | h <;> simp [h]
theorem t_le_trans (a b c : Txt) (h1 : decide (a ≤ b) = true) (h2 : decide (b ≤ c) = true) : decide (a ≤ c) = true := by
 simp only [decide_eq_true_eq] at *; exact List.le_trans h1 h2
theorem t_lt_of_le_ne {x y : Txt} (h : x ≤ y) (h' : x ≠ y) : x < y := by
 refine Classical.byContradiction fun c => h' ?_
 exact t_tri x y c (List.not_lt.2 h)
theorem compactUpTo_rises (zs : List Txt) (hs : zs.Pairwise (· ≤ ·)) : ∀ m, m ≤ zs.length →
    Rises (Lib.compactUpTo zs.toArray m) ∧ (∀ x, x ∈ Lib.compactUpTo zs.toArray m ↔ x ∈ zs.take m) ∧ (∀ x ∈ Lib.compactUpTo zs.toArray m, ∀ h : 0 < m, ∀ h2 : m - 1 < zs.length, x ≤ zs[m - 1])
  | 0, _ => by simp [Lib.compactUpTo]
  | m + 1, hm => by
    obtain ⟨h1, h2, h3⟩ := compactUpTo_rises zs hs m (by omega)
    have hlt : m < zs.length := by omega
    have hget : zs.toArray[m]! = zs[m] := by simp [hlt]
    have hle : ∀ x ∈ Lib.compactUpTo zs.toArray m, x ≤ zs[m] := fun x hx => by
      have hx' := (h2 x).1 hx
      obtain ⟨i, hi, rfl⟩ := List.mem_iff_getElem.1 hx'
      rw [List.length_take] at hi
      rw [List.getElem_take]
      exact List.pairwise_iff_getElem.1 hs i m (by omega) hlt (by omega)
    rw [Lib.compactUpTo_succ, hget]
    rw [List.take_succ_eq_append_getElem hlt]
    by_cases hk : Lib.keeps zs.toArray m = true
    · rw [if_pos hk]
      have hne : m = 0 ∨ zs[m] ≠ zs[m - 1]'(by omega) := by
        unfold Lib.keeps at hk
        have := of_decide_eq_true hk
        rcases this with h | h
        · exact .inl h
        · right; rw [hget] at h
          intro e; apply h; rw [e]; simp [show m - 1 < zs.length by omega]
      refine ⟨List.pairwise_append.2 ⟨h1, by simp, fun x hx y hy => ?_⟩, fun x => ?_, fun x hx _ _ => ?_⟩
      · obtain rfl := List.mem_singleton.1 hy
        refine t_lt_of_le_ne (hle x hx) fun e => ?_
        subst e
        rcases hne with h | h
        · subst h; simp [Lib.compactUpTo] at hx
        · have h5 := h3 _ hx (by rcases Nat.eq_zero_or_pos m with e | e; · subst e; simp [Lib.compactUpTo] at hx
                                 exact e) (by omega)
          have h6 : zs[m - 1] ≤ zs[m] := by
            by_cases e0 : m = 0
            · subst e0; exact List.le_refl _
            · exact List.pairwise_iff_getElem.1 hs (m - 1) m (by omega) hlt (by omega)
          exact h (List.le_antisymm h5 h6)
      · rw [List.mem_append, List.mem_append, h2]
      · rcases List.mem_append.1 hx with h | h
        · exact hle x h
        · obtain rfl := List.mem_singleton.1 h; exact List.le_refl _
    · rw [if_neg hk, List.append_nil]
      have hk' : m ≠ 0 ∧ zs[m] = zs[m - 1]'(by omega) := by
        unfold Lib.keeps at hk
        have := of_decide_eq_false (Bool.not_eq_true _ ▸ hk)
        rw [not_or] at this
        refine ⟨this.1, ?_⟩
        have h4 := Classical.not_not.1 this.2
        rw [hget] at h4; rw [h4]; simp [show m - 1 < zs.length by omega]
      refine ⟨h1, fun x => ?_, fun x hx _ _ => hle x hx⟩
      rw [h2, List.mem_append]
      refine ⟨fun h => .inl h, fun h => h.elim id fun h => ?_⟩
      obtain rfl := List.mem_singleton.1 h
      rw [hk'.2]
      exact List.mem_iff_getElem.2 ⟨m - 1, by rw [List.length_take]; omega, by rw [List.getElem_take]⟩
theorem compact_rises (zs : List Txt) (hs : zs.Pairwise (· ≤ ·)) : Rises (Lib.compact zs) ∧ ∀ x, x ∈ Lib.compact zs ↔ x ∈ zs := by
 obtain ⟨h1, h2, _⟩ := compactUpTo_rises zs hs zs.length (Nat.le_refl _)
 exact ⟨h1, fun x => by rw [Lib.compact, h2, List.take_length]⟩
theorem ofL_spec (l : List Txt) : Rises (ofL l) ∧ ∀ x, x ∈ ofL l ↔ x ∈ l ∧ x.length = 32 := by
 have hs : ((l.filter isK).mergeSort fun x y => decide (x ≤ y)).Pairwise (· ≤ ·) := by
  have := List.pairwise_mergeSort (le := fun x y : Txt => decide (x ≤ y)) t_le_trans t_le_total (l.filter isK)
  exact this.imp fun h => of_decide_eq_true h
 obtain ⟨h1, h2⟩ := compact_rises _ hs
 refine ⟨h1, fun x => ?_⟩
 rw [ofL, h2, (List.mergeSort_perm _ _).mem_iff, List.mem_filter]
 simp [isK]
def ins : List Txt → Txt → List Txt
 | [], k => [k]
 | x :: l, k => if k < x then k :: x :: l else x :: ins l k
def addL (l : List Txt) (k : Txt) : List Txt := if k ∈ l then l else ins l k
theorem mem_ins : ∀ (l : List Txt) (k z : Txt), z ∈ ins l k ↔ z = k ∨ z ∈ l
 | [], k, z => by simp [ins]
 | x :: l, k, z => by
  rw [ins]; split
  ·simp
  ·rw [List.mem_cons, mem_ins l k z, List.mem_cons]
   exact ⟨fun h => h.elim (fun a => .inr (.inl a)) (·.elim .inl fun a => .inr (.inr a)), fun h => h.elim (fun a => .inr (.inl a)) (·.elim .inl fun a => .inr (.inr a))⟩
theorem ins_rises : ∀ (l : List Txt) (k : Txt), Rises l → k ∉ l → Rises (ins l k)
 | [], k, _, _ => by simp [ins]
 | x :: l, k, h, hk => by
  have h' := List.pairwise_cons.1 h
  rw [ins]
  by_cases c : k < x
  ·rw [if_pos c]
   refine List.pairwise_cons.2 ⟨fun z hz => ?_, h⟩
   rcases List.mem_cons.1 hz with e | e
   ·subst e; exact c
   ·exact t_trans c (h'.1 z e)
  ·rw [if_neg c]
   refine List.pairwise_cons.2 ⟨fun z hz => ?_, ins_rises l k h'.2 fun h => hk (List.mem_cons_of_mem _ h)⟩
   rcases (mem_ins l k z).1 hz with e | e
   ·subst e
    refine Classical.byContradiction fun c2 => hk ?_
    rw [t_tri z x c c2]; exact List.mem_cons_self ..
   ·exact h'.1 z e
theorem addL_spec (l : List Txt) (k : Txt) (h : Rises l) : Rises (addL l k) ∧ ∀ z, z ∈ addL l k ↔ z = k ∨ z ∈ l := by
 unfold addL
 split
 ·next hk => exact ⟨h, fun z => ⟨.inr, fun e => e.elim (fun e => e ▸ hk) id⟩⟩
 ·next hk => exact ⟨ins_rises l k h hk, mem_ins l k⟩
theorem ins_len : ∀ (l : List Txt) (k : Txt), (ins l k).length = l.length + 1
 | [], _ => rfl
 | x :: l, k => by rw [ins]; split <;> simp [ins_len l k]
theorem addL_len (l : List Txt) (k : Txt) : (addL l k).length ≤ l.length + 1 := by
 unfold addL; split
 ·omega
 ·rw [ins_len]; omega
theorem adds_spec : ∀ (m l : List Txt), Rises l → Rises (m.foldl addL l) ∧ ∀ z, z ∈ m.foldl addL l ↔ z ∈ m ∨ z ∈ l
 | [], l, h => ⟨h, fun z => by simp⟩
 | k :: m, l, h => by
  obtain ⟨h1, h2⟩ := addL_spec l k h
  obtain ⟨h3, h4⟩ := adds_spec m _ h1
  refine ⟨h3, fun z => ?_⟩
  rw [List.foldl_cons, h4, h2, List.mem_cons]
  exact ⟨fun h => h.elim (fun a => .inl (.inr a)) (·.elim (fun a => .inl (.inl a)) .inr), fun h => h.elim (·.elim (fun a => .inr (.inl a)) .inl) fun a => .inr (.inr a)⟩
theorem adds_len : ∀ (m l : List Txt), (m.foldl addL l).length ≤ m.length + l.length
 | [], l => by simp
 | k :: m, l => by
  have h1 := adds_len m (addL l k)
  have h2 := addL_len l k
  rw [List.foldl_cons, List.length_cons]; omega
def refOfL (l : List Txt) : List Txt := (l.filter isK).foldl addL []
theorem refOf_eq (l : List Txt) : refOfL l = ofL l := by
 obtain ⟨h1, h2⟩ := adds_spec (l.filter isK) [] List.Pairwise.nil
 refine rises_ext h1 (ofL_spec l).1 fun x => ?_
 rw [refOfL, h2, (ofL_spec l).2, List.mem_filter]
 simp [isK]
def FitP (l : List Txt) : Prop := ∀ i (h : i < l.length), l[i].length = 32 ∧ (0 < i → l[i - 1]'(by omega) < l[i])
theorem fit_rises {l : List Txt} (h : FitP l) : Rises l := by
 refine List.pairwise_iff_getElem.2 ?_
 intro i j hi hj hij
 induction j with
 | zero => omega
 | succ j ih =>
  have h1 := (h (j + 1) hj).2 (by omega)
  rcases Nat.lt_or_ge i j with e | e
  ·exact t_trans (ih (by omega) e) h1
  ·obtain rfl : i = j := by omega
   exact h1
theorem fit_of {l : List Txt} (h : Rises l) (hk : ∀ x ∈ l, x.length = 32) : FitP l := fun i hi =>
 ⟨hk _ (List.getElem_mem ..), fun h0 => List.pairwise_iff_getElem.1 h (i - 1) i (by omega) hi (by omega)⟩
open Classical in
noncomputable def fitB (l : List Txt) : Bool := decide (FitP l)
theorem fitB_true {l : List Txt} (h : FitP l) : fitB l = true := by simp [fitB, h]
theorem fitB_false {l : List Txt} (h : ¬ FitP l) : fitB l = false := by simp [fitB, h]
end Go.Proofs.YtokknppjeckppaaGreatDoor
namespace Go.Proofs.YtokknppjeckppaaGreatDoor
structure Pt where
 k : ByteArray
 n : Int
structure En where
 m : ByteArray
 kd : Int
 x : Bool
 k : ByteArray
structure Nd where
 kd : Int
 d : ByteArray
 ps : List Pt
 es : List En
theorem pt_ext {a b : Pt} (h1 : a.k = b.k) (h2 : a.n = b.n) : a = b := by cases a; cases b; simp_all
theorem en_ext {a b : En} (h1 : a.m = b.m) (h2 : a.kd = b.kd) (h3 : a.x = b.x) (h4 : a.k = b.k) : a = b := by cases a; cases b; simp_all
theorem nd_ext {a b : Nd} (h1 : a.kd = b.kd) (h2 : a.d = b.d) (h3 : a.ps = b.ps) (h4 : a.es = b.es) : a = b := by cases a; cases b; simp_all
def zeroPt : Pt := ⟨⟨#[]⟩, 0⟩
def zeroEn : En := ⟨⟨#[]⟩, 0, false, ⟨#[]⟩⟩
def zeroNd : Nd := ⟨0, ⟨#[]⟩, [], []⟩
def okPt (p : Pt) : Bool := decide (p.k.size = 32) && decide (1 ≤ p.n) && decide (p.n ≤ 4096)
def sumPt : List Pt → Int
 | [] => 0
 | p :: L => p.n + sumPt L
theorem sumPt_app (L M : List Pt) : sumPt (L ++ M) = sumPt L + sumPt M := by
 induction L with
 | nil => simp [sumPt]
 | cons p L ih => simp only [List.cons_append, sumPt, ih]; omega
def fitFileB (L : List Pt) : Bool := L.all okPt && decide (sumPt L ≤ 32768)
def okEn (e : En) : Bool := nameB e.m.data.toList && decide (e.k.size = 32) && (decide (e.kd = 2) || decide (e.kd = 3) && !e.x)
def RisesN (L : List En) : Prop := ∀ i (h : i < L.length), 0 < i → (L[i - 1]'(by omega)).m.data.toList < L[i].m.data.toList
instance (L : List En) : Decidable (RisesN L) := by unfold RisesN; infer_instance
def fitDirB (L : List En) : Bool := L.all okEn && decide (RisesN L)
def fitN (n : Nd) : Bool :=
 (decide (n.kd = 1) && (decide (1 ≤ n.d.size) && decide (n.d.size ≤ 4096) && decide (n.ps.length = 0) && decide (n.es.length = 0)))
 || (decide (n.kd = 2) && (decide (n.d.size = 0) && decide (n.es.length = 0) && decide (n.ps.length ≤ 1024) && fitFileB n.ps))
 || (decide (n.kd = 3) && (decide (n.d.size = 0) && decide (n.ps.length = 0) && decide (n.es.length ≤ 60) && fitDirB n.es))
theorem fit_piece {n : Nd} (h : n.kd = 1) : fitN n = (decide (1 ≤ n.d.size) && decide (n.d.size ≤ 4096) && decide (n.ps.length = 0) && decide (n.es.length = 0)) := by
 unfold fitN; rw [h]; simp
theorem fit_file {n : Nd} (h : n.kd = 2) : fitN n = (decide (n.d.size = 0) && decide (n.es.length = 0) && decide (n.ps.length ≤ 1024) && fitFileB n.ps) := by
 unfold fitN; rw [h]; simp
theorem fit_dir {n : Nd} (h : n.kd = 3) : fitN n = (decide (n.d.size = 0) && decide (n.ps.length = 0) && decide (n.es.length ≤ 60) && fitDirB n.es) := by
 unfold fitN; rw [h]; simp
theorem fit_none {n : Nd} (h1 : n.kd ≠ 1) (h2 : n.kd ≠ 2) (h3 : n.kd ≠ 3) : fitN n = false := by
 unfold fitN; simp [h1, h2, h3]
theorem fit_kinds {n : Nd} (h : fitN n = true) : n.kd = 1 ∨ n.kd = 2 ∨ n.kd = 3 := by
 by_cases h1 : n.kd = 1
 ·exact .inl h1
 ·by_cases h2 : n.kd = 2
  ·exact .inr (.inl h2)
  ·by_cases h3 : n.kd = 3
   ·exact .inr (.inr h3)
   ·rw [fit_none h1 h2 h3] at h; exact absurd h (by decide)
theorem size_zero {b : ByteArray} (h : b.size = 0) : b = ⟨#[]⟩ := by
 cases b with | mk a => exact congrArg ByteArray.mk (Array.eq_empty_of_size_eq_zero h)
def ptB (p : Pt) : List UInt8 := p.k.data.toList ++ vput p.n.toNat
def enK (e : En) : UInt8 := UInt8.ofNat (e.kd.toNat + if e.x then 4 else 0)
def enB (e : En) : List UInt8 := vputText e.m.data.toList ++ [enK e] ++ e.k.data.toList
def psB (L : List Pt) : List UInt8 := L.flatMap ptB
def esB (L : List En) : List UInt8 := L.flatMap enB
theorem psB_app (L M : List Pt) : psB (L ++ M) = psB L ++ psB M := List.flatMap_append
theorem esB_app (L M : List En) : esB (L ++ M) = esB L ++ esB M := List.flatMap_append
theorem psB_one (p : Pt) : psB [p] = ptB p := List.append_nil _
theorem esB_one (e : En) : esB [e] = enB e := List.append_nil _
def bodyN (n : Nd) : List UInt8 :=
 if n.kd = 1 then n.d.data.toList else if n.kd = 2 then vput n.ps.length ++ psB n.ps else vput n.es.length ++ esB n.es
def wrL (n : Nd) : List UInt8 := UInt8.ofNat n.kd.toNat :: bodyN n
def wrN (n : Nd) : List UInt8 := if fitN n = true then wrL n else []
theorem body_piece {n : Nd} (h : n.kd = 1) : bodyN n = n.d.data.toList := if_pos h
theorem body_file {n : Nd} (h : n.kd = 2) : bodyN n = vput n.ps.length ++ psB n.ps := by unfold bodyN; rw [h]; simp
theorem body_dir {n : Nd} (h : n.kd = 3) : bodyN n = vput n.es.length ++ esB n.es := by unfold bodyN; rw [h]; simp
theorem wrN_fit {n : Nd} (h : fitN n = true) : wrN n = wrL n := if_pos h
theorem wrN_un {n : Nd} (h : fitN n = false) : wrN n = [] := if_neg (by rw [h]; decide)
theorem okPt_iff {p : Pt} : okPt p = true ↔ p.k.size = 32 ∧ 1 ≤ p.n ∧ p.n ≤ 4096 := by
 unfold okPt; simp only [Bool.and_eq_true, decide_eq_true_eq, and_assoc]
theorem okEn_iff {e : En} : okEn e = true ↔ nameB e.m.data.toList = true ∧ e.k.size = 32 ∧ (e.kd = 2 ∨ e.kd = 3 ∧ e.x = false) := by
 unfold okEn; simp only [Bool.and_eq_true, Bool.or_eq_true, decide_eq_true_eq, Bool.not_eq_true', and_assoc]
theorem ptB_len {p : Pt} (h : p.k.size = 32) : (ptB p).length ≤ 42 := by
 unfold ptB; rw [List.length_append, ← Lib.size_eq, h]; have := vput_len p.n.toNat; omega
theorem vputText_len {l : List UInt8} : (vputText l).length ≤ l.length + 10 := by
 unfold vputText; split
 ·simp
 ·rw [List.length_append]; have := vput_len l.length; omega
theorem enB_len {e : En} (h : okEn e = true) : (enB e).length ≤ 74 := by
 obtain ⟨h1, h2, _⟩ := okEn_iff.1 h
 have h31 := (nameB_iff.1 h1).2.1
 unfold enB; rw [List.length_append, List.length_append, ← Lib.size_eq, h2]
 have := vputText_len (l := e.m.data.toList); simp; omega
theorem psB_len : ∀ (L : List Pt), (∀ p ∈ L, p.k.size = 32) → (psB L).length ≤ 42 * L.length
 | [], _ => by simp [psB]
 | p :: L, h => by
  show (ptB p ++ psB L).length ≤ _
  have h1 := ptB_len (h p (by simp)); have h2 := psB_len L (fun q hq => h q (by simp [hq]))
  rw [List.length_append, List.length_cons]; omega
theorem esB_len : ∀ (L : List En), (∀ p ∈ L, okEn p = true) → (esB L).length ≤ 74 * L.length
 | [], _ => by simp [esB]
 | p :: L, h => by
  show (enB p ++ esB L).length ≤ _
  have h1 := enB_len (h p (by simp)); have h2 := esB_len L (fun q hq => h q (by simp [hq]))
  rw [List.length_append, List.length_cons]; omega
theorem fitFile_iff {L : List Pt} : fitFileB L = true ↔ (∀ p ∈ L, okPt p = true) ∧ sumPt L ≤ 32768 := by
 unfold fitFileB; rw [Bool.and_eq_true, List.all_eq_true, decide_eq_true_eq]
theorem fitDir_iff {L : List En} : fitDirB L = true ↔ (∀ p ∈ L, okEn p = true) ∧ RisesN L := by
 unfold fitDirB; rw [Bool.and_eq_true, List.all_eq_true, decide_eq_true_eq]
theorem fit1 {n : Nd} (h : n.kd = 1) (hf : fitN n = true) : 1 ≤ n.d.size ∧ n.d.size ≤ 4096 ∧ n.ps = [] ∧ n.es = [] := by
 rw [fit_piece h] at hf; simp only [Bool.and_eq_true, decide_eq_true_eq, List.length_eq_zero_iff, and_assoc] at hf; exact hf
theorem fit2 {n : Nd} (h : n.kd = 2) (hf : fitN n = true) : n.d = ⟨#[]⟩ ∧ n.es = [] ∧ n.ps.length ≤ 1024 ∧ fitFileB n.ps = true := by
 rw [fit_file h] at hf; simp only [Bool.and_eq_true, decide_eq_true_eq, List.length_eq_zero_iff, and_assoc] at hf
 exact ⟨size_zero hf.1, hf.2⟩
theorem fit3 {n : Nd} (h : n.kd = 3) (hf : fitN n = true) : n.d = ⟨#[]⟩ ∧ n.ps = [] ∧ n.es.length ≤ 60 ∧ fitDirB n.es = true := by
 rw [fit_dir h] at hf; simp only [Bool.and_eq_true, decide_eq_true_eq, List.length_eq_zero_iff, and_assoc] at hf
 exact ⟨size_zero hf.1, hf.2⟩
theorem wrL_len {n : Nd} (hf : fitN n = true) : 1 ≤ (wrL n).length ∧ (wrL n).length ≤ 50000 := by
 unfold wrL; rw [List.length_cons]
 refine ⟨by omega, ?_⟩
 rcases fit_kinds hf with h | h | h
 ·rw [body_piece h, ← Lib.size_eq]; have := fit1 h hf; omega
 ·rw [body_file h, List.length_append]
  obtain ⟨_, _, h3, h4⟩ := fit2 h hf
  have := psB_len n.ps (fun p hp => (okPt_iff.1 ((fitFile_iff.1 h4).1 p hp)).1)
  have := vput_len n.ps.length; omega
 ·rw [body_dir h, List.length_append]
  obtain ⟨_, _, h3, h4⟩ := fit3 h hf
  have := esB_len n.es (fitDir_iff.1 h4).1
  have := vput_len n.es.length; omega
def pPart (l : List UInt8) : Option (Pt × List UInt8) :=
 if l.length < 32 then none
 else if (vtake (l.drop 32)).2.2 ≠ 0 then none
 else if 4096 < (vtake (l.drop 32)).1 then none
 else some (⟨⟨(l.take 32).toArray⟩, (vtake (l.drop 32)).1⟩, l.drop (32 + (vtake (l.drop 32)).2.1))
def kByte (l : List UInt8) : Nat := (l.headD 0).toNat
def pEntry (l : List UInt8) : Option (En × List UInt8) :=
 if (vtakeText l).2.2 ≠ 0 then none
 else if (l.drop (vtakeText l).2.1).length < 33 then none
 else some (⟨⟨(vtakeText l).1.toArray⟩, ((kByte (l.drop (vtakeText l).2.1) - (if kByte (l.drop (vtakeText l).2.1) / 4 % 2 = 1 then 4 else 0) : Nat) : Int), decide (kByte (l.drop (vtakeText l).2.1) / 4 % 2 = 1),
  ⟨((l.drop ((vtakeText l).2.1 + 1)).take 32).toArray⟩⟩, l.drop ((vtakeText l).2.1 + 33))
def pList {α : Type} (next : List UInt8 → Option (α × List UInt8)) : Nat → List UInt8 → Option (List α × List UInt8)
 | 0, l => some ([], l)
 | c + 1, l => match next l with
  | none => none
  | some (x, r) => match pList next c r with
   | none => none
   | some (L, r') => some (x :: L, r')
def pNode (l : List UInt8) : Option (Nd × List UInt8) :=
 match l with
 | [] => none
 | b :: r =>
  if b.toNat = 1 then some (⟨1, ⟨r.toArray⟩, [], []⟩, [])
  else if b.toNat = 2 then
   if (vtake r).2.2 ≠ 0 then none else (pList pPart (vtake r).1 (r.drop (vtake r).2.1)).map fun x => (⟨2, ⟨#[]⟩, x.1, []⟩, x.2)
  else if b.toNat = 3 then
   if (vtake r).2.2 ≠ 0 then none else (pList pEntry (vtake r).1 (r.drop (vtake r).2.1)).map fun x => (⟨3, ⟨#[]⟩, [], x.1⟩, x.2)
  else some (⟨(b.toNat : Int), ⟨#[]⟩, [], []⟩, r)
theorem pPart_full {p : Pt} (h : okPt p = true) (r : List UInt8) : pPart (ptB p ++ r) = some (p, r) := by
 obtain ⟨h1, h2, h3⟩ := okPt_iff.1 h
 have hl : p.k.data.toList.length = 32 := by rw [← Lib.size_eq]; exact h1
 have e1 : (ptB p ++ r).drop 32 = vput p.n.toNat ++ r := by unfold ptB; rw [List.append_assoc, ← hl, List.drop_left]
 have e2 : (ptB p ++ r).take 32 = p.k.data.toList := by unfold ptB; rw [List.append_assoc, ← hl, List.take_left]
 have e3 : vtake (vput p.n.toNat ++ r) = (p.n.toNat, (vput p.n.toNat).length, 0) := take_put (by unfold U64; omega) r
 unfold pPart
 rw [e1, e3, if_neg (by unfold ptB; simp; omega), if_neg (by simp), if_neg (by show ¬ 4096 < p.n.toNat; omega), e2, ← List.drop_drop, e1]
 simp only [List.drop_left, Option.some.injEq, Prod.mk.injEq, and_true]
 exact pt_ext (by cases hk : p.k; rfl) (by show ((p.n.toNat : Nat) : Int) = p.n; omega)
theorem pPart_sound {l r : List UInt8} {p : Pt} (h : pPart l = some (p, r)) : l = ptB p ++ r ∧ p.k.size = 32 ∧ 0 ≤ p.n ∧ p.n ≤ 4096 ∧ r.length < l.length := by
 unfold pPart at h
 split at h
 ·cases h
 ·rename_i h1
  split at h
  ·cases h
  ·rename_i h2
   split at h
   ·cases h
   ·rename_i h3
    simp only [Option.some.injEq, Prod.mk.injEq] at h
    obtain ⟨rfl, rfl⟩ := h
    obtain ⟨n, k, e, hv⟩ : ∃ n k e, vtake (l.drop 32) = (n, k, e) := ⟨_, _, _, rfl⟩
    rw [hv] at h2 h3 ⊢
    simp only [ne_eq, Decidable.not_not] at h2 h3 ⊢
    subst h2
    obtain ⟨g1, g2, g3, _, _⟩ := put_take hv
    rw [List.length_drop] at g3
    refine ⟨?_, by show (l.take 32).length = 32; rw [List.length_take]; omega, by omega, by omega, by rw [List.length_drop]; omega⟩
    show l = (l.take 32 ++ vput n) ++ l.drop (32 + k)
    rw [← g1, ← List.drop_drop, List.append_assoc, List.take_append_drop, List.take_append_drop]
theorem pEntry_full {e : En} (h : okEn e = true) (r : List UInt8) : pEntry (enB e ++ r) = some (e, r) := by
 obtain ⟨h1, h2, h3⟩ := okEn_iff.1 h
 have h31 := (nameB_iff.1 h1).2.1
 have hl : e.k.data.toList.length = 32 := by rw [← Lib.size_eq]; exact h2
 have e0 : enB e ++ r = vputText e.m.data.toList ++ (enK e :: (e.k.data.toList ++ r)) := by unfold enB; simp [List.append_assoc]
 have e3 : vtakeText (enB e ++ r) = (e.m.data.toList, (vputText e.m.data.toList).length, 0) := by rw [e0]; exact takeText_putText (by omega) _
 have e1 : (enB e ++ r).drop (vputText e.m.data.toList).length = enK e :: (e.k.data.toList ++ r) := by rw [e0, List.drop_left]
 have e4 : (enB e ++ r).drop ((vputText e.m.data.toList).length + 1) = e.k.data.toList ++ r := by rw [← List.drop_drop, e1]; rfl
 have e5 : (enB e ++ r).drop ((vputText e.m.data.toList).length + 33) = r := by
  rw [show (vputText e.m.data.toList).length + 33 = (vputText e.m.data.toList).length + 1 + 32 by omega, ← List.drop_drop, e4, ← hl, List.drop_left]
 unfold pEntry
 rw [e3]
 simp only [e1, e4, e5]
 rw [if_neg (by simp), if_neg (by simp; omega)]
 have hk : kByte (enK e :: (e.k.data.toList ++ r)) = e.kd.toNat + if e.x then 4 else 0 := by
  show (enK e).toNat = _
  unfold enK
  rw [UInt8.toNat_ofNat']
  rcases h3 with h | ⟨h, _⟩ <;> rw [h] <;> cases e.x <;> rfl
 rw [hk]
 refine congrArg some (Prod.ext (en_ext (by show (ByteArray.mk _) = e.m; cases e.m; rfl) ?_ ?_ (by show ByteArray.mk _ = e.k; rw [← hl, List.take_left])) rfl)
 ·rcases h3 with h | ⟨h, _⟩ <;> rw [h] <;> cases e.x <;> rfl
 ·rcases h3 with h | ⟨h, _⟩ <;> rw [h] <;> cases e.x <;> rfl
theorem pEntry_sound {l r : List UInt8} {e : En} (h : pEntry l = some (e, r)) (hk : e.kd = 2 ∨ e.kd = 3) : l = enB e ++ r := by
 unfold pEntry at h
 split at h
 ·cases h
 ·rename_i h1
  split at h
  ·cases h
  ·rename_i h2
   simp only [Option.some.injEq, Prod.mk.injEq] at h
   obtain ⟨he, rfl⟩ := h
   obtain ⟨t, k, x, hv⟩ : ∃ n k e, vtakeText l = (n, k, e) := ⟨_, _, _, rfl⟩
   rw [hv] at h1 h2 he ⊢
   simp only [ne_eq, Decidable.not_not] at h1 h2 he ⊢
   subst h1
   obtain ⟨g1, g2⟩ := putText_takeText hv
   obtain ⟨c, rest, hd⟩ : ∃ c rest, l.drop k = c :: rest := by
    cases hh : l.drop k with
    | nil => rw [hh] at h2; simp at h2
    | cons c rest => exact ⟨c, rest, rfl⟩
   have hd1 : l.drop (k + 1) = rest := by rw [← List.drop_drop, hd]; rfl
   have hd2 : l.drop (k + 33) = rest.drop 32 := by rw [show k + 33 = k + 1 + 32 by omega, ← List.drop_drop, hd1]
   rw [hd, hd1] at he
   have hc : kByte (c :: rest) = c.toNat := rfl
   rw [hc] at he
   have hcl : c.toNat < 256 := c.toNat_lt
   subst he
   have hK : enK ⟨⟨t.toArray⟩, ((c.toNat - (if c.toNat / 4 % 2 = 1 then 4 else 0) : Nat) : Int), decide (c.toNat / 4 % 2 = 1), ⟨(rest.take 32).toArray⟩⟩ = c := by
    unfold enK
    show UInt8.ofNat ((((c.toNat - (if c.toNat / 4 % 2 = 1 then 4 else 0) : Nat) : Int)).toNat + if decide (c.toNat / 4 % 2 = 1) = true then 4 else 0) = c
    have : (((c.toNat - (if c.toNat / 4 % 2 = 1 then 4 else 0) : Nat) : Int)).toNat + (if decide (c.toNat / 4 % 2 = 1) = true then 4 else 0) = c.toNat := by
     by_cases hq : c.toNat / 4 % 2 = 1
     ·simp [hq]; omega
     ·simp [hq]
    rw [this]; simp
   unfold enB
   rw [hK, hd2]
   show l = vputText t ++ [c] ++ rest.take 32 ++ rest.drop 32
   rw [g2, List.append_assoc _ (rest.take 32), List.take_append_drop, List.append_assoc]
   show l = l.take k ++ (c :: rest)
   rw [← hd, List.take_append_drop]
theorem pEntry_less {l r : List UInt8} {e : En} (h : pEntry l = some (e, r)) : r.length < l.length := by
 unfold pEntry at h
 split at h
 ·cases h
 ·split at h
  ·cases h
  ·rename_i h2
   simp only [Option.some.injEq, Prod.mk.injEq] at h
   obtain ⟨_, rfl⟩ := h
   rw [List.length_drop] at h2 ⊢
   omega
theorem pList_full {α : Type} {next : List UInt8 → Option (α × List UInt8)} {b : α → List UInt8} : ∀ (L : List α), (∀ x ∈ L, ∀ r, next (b x ++ r) = some (x, r)) → ∀ r, pList next L.length (L.flatMap b ++ r) = some (L, r)
 | [], _, r => rfl
 | x :: L, h, r => by
  show (match next ((b x ++ L.flatMap b) ++ r) with | none => none | some (x, r) => match pList next L.length r with | none => none | some (L, r') => some (x :: L, r')) = _
  rw [List.append_assoc, h x (by simp)]
  simp only [pList_full L (fun y hy => h y (by simp [hy])) r]
theorem pList_sound {α : Type} {next : List UInt8 → Option (α × List UInt8)} {b : α → List UInt8} {F : α → Prop} (hn : ∀ l x r, next l = some (x, r) → F x → l = b x ++ r) :
  ∀ (c : Nat) (l : List UInt8) (L : List α) (r : List UInt8), pList next c l = some (L, r) → (∀ x ∈ L, F x) → L.length = c ∧ l = L.flatMap b ++ r
 | 0, l, L, r, h, _ => by simp only [pList, Option.some.injEq, Prod.mk.injEq] at h; obtain ⟨rfl, rfl⟩ := h; exact ⟨rfl, rfl⟩
 | c + 1, l, L, r, h, hF => by
  simp only [pList] at h
  split at h
  ·cases h
  ·rename_i x r1 hx
   split at h
   ·cases h
   ·rename_i M r2 hM
    simp only [Option.some.injEq, Prod.mk.injEq] at h
    obtain ⟨rfl, rfl⟩ := h
    obtain ⟨g1, g2⟩ := pList_sound hn c r1 M r2 hM (fun y hy => hF y (by simp [hy]))
    refine ⟨by rw [List.length_cons, g1], ?_⟩
    rw [hn l x r1 hx (hF x (by simp)), g2]
    simp [List.append_assoc]
theorem pNode_full {n : Nd} (hf : fitN n = true) : pNode (wrL n) = some (n, []) := by
 unfold wrL
 rcases fit_kinds hf with h | h | h
 ·obtain ⟨_, _, h3, h4⟩ := fit1 h hf
  rw [body_piece h, h]
  unfold pNode
  simp only
  rw [show (UInt8.ofNat (1 : Int).toNat).toNat = 1 from rfl, if_pos rfl]
  exact congrArg some (Prod.ext (nd_ext h.symm (by show ByteArray.mk _ = n.d; cases n.d; rfl) h3.symm h4.symm) rfl)
 ·obtain ⟨h1, h2, h3, h4⟩ := fit2 h hf
  rw [body_file h, h]
  unfold pNode
  simp only
  rw [show (UInt8.ofNat (2 : Int).toNat).toNat = 2 from rfl]
  have hv : vtake (vput n.ps.length ++ psB n.ps) = (n.ps.length, (vput n.ps.length).length, 0) := take_put (by unfold U64; omega) _
  have hp := pList_full n.ps (b := ptB) (next := pPart) (fun x hx r => pPart_full ((fitFile_iff.1 h4).1 x hx) r) []
  rw [List.append_nil] at hp
  rw [if_neg (by decide), if_pos rfl, hv, if_neg (by simp)]
  simp only [List.drop_left]
  rw [show psB n.ps = n.ps.flatMap ptB from rfl, hp]
  exact congrArg some (Prod.ext (nd_ext h.symm h1.symm rfl h2.symm) rfl)
 ·obtain ⟨h1, h2, h3, h4⟩ := fit3 h hf
  rw [body_dir h, h]
  unfold pNode
  simp only
  rw [show (UInt8.ofNat (3 : Int).toNat).toNat = 3 from rfl]
  have hv : vtake (vput n.es.length ++ esB n.es) = (n.es.length, (vput n.es.length).length, 0) := take_put (by unfold U64; omega) _
  have hp := pList_full n.es (b := enB) (next := pEntry) (fun x hx r => pEntry_full ((fitDir_iff.1 h4).1 x hx) r) []
  rw [List.append_nil] at hp
  rw [if_neg (by decide), if_neg (by decide), if_pos rfl, hv, if_neg (by simp)]
  simp only [List.drop_left]
  rw [show esB n.es = n.es.flatMap enB from rfl, hp]
  exact congrArg some (Prod.ext (nd_ext h.symm h1.symm h2.symm rfl) rfl)
theorem wrL_inj {n m : Nd} (hn : fitN n = true) (hm : fitN m = true) (h : wrL n = wrL m) : n = m := by
 have h1 := pNode_full hn; rw [h, pNode_full hm] at h1
 simp only [Option.some.injEq, Prod.mk.injEq, and_true] at h1
 exact h1.symm
theorem byte_of {b : UInt8} {k : Nat} (h : b.toNat = k) : b = UInt8.ofNat k := by rw [← h]; simp
theorem pNode_sound {l : List UInt8} {n : Nd} (h : pNode l = some (n, [])) (hf : fitN n = true) : wrL n = l := by
 unfold pNode at h
 split at h
 ·cases h
 ·rename_i b r
  split at h
  ·rename_i hb
   simp only [Option.some.injEq, Prod.mk.injEq, and_true] at h
   subst h
   rw [byte_of hb]; rfl
  ·rename_i hb1
   split at h
   ·rename_i hb
    split at h
    ·cases h
    ·rename_i he
     cases hp : pList pPart (vtake r).1 (r.drop (vtake r).2.1) with
     | none => rw [hp] at h; cases h
     | some x =>
      rw [hp] at h
      obtain ⟨L, r'⟩ := x
      simp only [Option.map_some, Option.some.injEq, Prod.mk.injEq] at h
      obtain ⟨rfl, rfl⟩ := h
      obtain ⟨g1, g2⟩ := pList_sound (b := ptB) (F := fun _ => True) (fun l x r h _ => (pPart_sound h).1) _ _ _ _ hp (fun _ _ => trivial)
      obtain ⟨c, k, e, hv⟩ : ∃ n k e, vtake r = (n, k, e) := ⟨_, _, _, rfl⟩
      rw [hv] at he g1 g2
      simp only [ne_eq, Decidable.not_not] at he g1 g2
      subst he
      obtain ⟨q1, _, _, _, _⟩ := put_take hv
      rw [byte_of hb, wrL, body_file rfl]
      show UInt8.ofNat 2 :: (vput L.length ++ L.flatMap ptB) = _
      rw [List.append_nil] at g2
      rw [g1, ← q1, ← g2, List.take_append_drop]
   ·rename_i hb2
    split at h
    ·rename_i hb
     split at h
     ·cases h
     ·rename_i he
      cases hp : pList pEntry (vtake r).1 (r.drop (vtake r).2.1) with
      | none => rw [hp] at h; cases h
      | some x =>
       rw [hp] at h
       obtain ⟨L, r'⟩ := x
       simp only [Option.map_some, Option.some.injEq, Prod.mk.injEq] at h
       obtain ⟨rfl, rfl⟩ := h
       have hall := (fitDir_iff.1 (fit3 rfl hf).2.2.2).1
       obtain ⟨g1, g2⟩ := pList_sound (b := enB) (F := fun e => e.kd = 2 ∨ e.kd = 3) (fun l x r h hx => pEntry_sound h hx) _ _ _ _ hp
        (fun x hx => by rcases (okEn_iff.1 (hall x hx)).2.2 with g | ⟨g, _⟩; exact .inl g; exact .inr g)
       obtain ⟨c, k, e, hv⟩ : ∃ n k e, vtake r = (n, k, e) := ⟨_, _, _, rfl⟩
       rw [hv] at he g1 g2
       simp only [ne_eq, Decidable.not_not] at he g1 g2
       subst he
       obtain ⟨q1, _, _, _, _⟩ := put_take hv
       rw [byte_of hb, wrL, body_dir rfl]
       show UInt8.ofNat 3 :: (vput L.length ++ L.flatMap enB) = _
       rw [List.append_nil] at g2
       rw [g1, ← q1, ← g2, List.take_append_drop]
    ·rename_i hb3
     simp only [Option.some.injEq, Prod.mk.injEq] at h
     obtain ⟨rfl, _⟩ := h
     rw [fit_none (by show (b.toNat : Int) ≠ 1; omega) (by show (b.toNat : Int) ≠ 2; omega) (by show (b.toNat : Int) ≠ 3; omega)] at hf
     exact absurd hf (by decide)
def RdOk (l : List UInt8) (n : Nd) (e : Int) : Prop := (e = 0 ∧ fitN n = true ∧ wrL n = l) ∨ (e = 2 ∧ n = zeroNd ∧ ∀ m, fitN m = true → wrL m ≠ l)
theorem rd_good {l : List UInt8} {n : Nd} (h : pNode l = some (n, [])) (hf : fitN n = true) : RdOk l n 0 := .inl ⟨rfl, hf, pNode_sound h hf⟩
theorem rd_bad {l : List UInt8} (h : ∀ n, pNode l = some (n, []) → fitN n = false) : RdOk l zeroNd 2 := .inr ⟨rfl, rfl, fun m hm e => by
 have := h m (by rw [← e]; exact pNode_full hm); rw [hm] at this; cases this⟩
end Go.Proofs.YtokknppjeckppaaGreatDoor
namespace Go.Proofs.YtokknppjeckppaaGreatDoor
open Go.ChangeShapes Go.WideShapes Go.RowKit Go.Deep
def strCells (L : List ByteArray) : List Value := L.map Value.string
def IsStrs (w : World) (v : Value) (L : List ByteArray) : Prop :=
 L.length ≤ maxLen ∧ ∃ (a : Option Addr) (cap : Nat), v = .slice a L.length cap ∧ ((a = none → L = [] ∧ cap = 0) ∧ L.length ≤ cap) ∧ (0 < L.length → ∃ b off, a = some ⟨b, off, none⟩ ∧ b < w.heap.size ∧ ∀ i (h : i < L.length), w.cell? ⟨b, off + i, none⟩ = some (.string L[i]))
theorem strCells_len (L : List ByteArray) : (strCells L).length = L.length := List.length_map ..
theorem strCells_get {L : List ByteArray} {i : Nat} (h : i < L.length) : (strCells L)[i]? = some (.string L[i]) := by simp [strCells, h]
theorem strCells_app (L M : List ByteArray) : strCells (L ++ M) = strCells L ++ strCells M := List.map_append
theorem add_plain' (b o i : Nat) : (⟨b, o, none⟩ : Addr).add i = ⟨b, o + i, none⟩ := by unfold Addr.add; split <;> simp_all
theorem isStrs_nil (w : World) : IsStrs w (.slice none 0 0) [] := ⟨Nat.zero_le _, none, 0, rfl, ⟨fun _ => ⟨rfl, rfl⟩, Nat.le_refl _⟩, fun h => absurd h (by simp)⟩
theorem IsStrs.stays {w w' : World} {v : Value} {L : List ByteArray} (h : IsStrs w v L) (hb : Below w.heap.size w w') : IsStrs w' v L := by
 obtain ⟨h0, a, cap, h1, h2, h3⟩ := h
 refine ⟨h0, a, cap, h1, h2, fun hL => ?_⟩
 obtain ⟨b, off, e, hlt, hc⟩ := h3 hL
 exact ⟨b, off, e, Nat.lt_of_lt_of_le hlt hb.size, fun i hi => (hb.cell (p := ⟨b, off + i, none⟩) hlt).trans (hc i hi)⟩
theorem IsStrs.of_owns {w : World} {base : Nat} {e : TypeId} {v : Value} {L : List ByteArray} (h : w.ownsRow base e 1 v L.length (strCells L)) : IsStrs w v L := by
 have hlt := h.lt
 have hc := fun g hg => h.cells (g := g) hg
 rcases h.2 with ⟨rfl, h0⟩ | ⟨g, cap, cur, rfl, hb, hg, hle, hm, _⟩
 ·obtain rfl := List.length_eq_zero_iff.1 h0
  exact isStrs_nil w
 ·refine ⟨Nat.le_trans hle hm, some ⟨g, 0, none⟩, cap, rfl, ⟨fun h => (by cases h), hle⟩, fun _ => ⟨g, 0, rfl, (hlt g rfl).2, fun i hi => ?_⟩⟩
  have := hc g rfl i _ (strCells_get hi)
  rw [add_plain'] at this; exact this
theorem open_isStrs {H : Type} {enc : TypeId × Value → H} {P : Program} {w : World} {r : Reach} {b0 : Nat} {spare : Nat → Bool} {held : Bool} {t e : TypeId} {v : Value} {d : DataW H} {ps : List MemPlace}
  (ht : P.underlying t = some (.slice e)) (he : P.underlying e = some .string) (hc : P.cellsOf e = 1) (hval : Value.okWide P w r b0 t v) (h : DataW.Trod enc P w 0 spare held t v d ps) : ∃ L, IsStrs w v L ∧ ∀ s ∈ L, s.size ≤ maxLen := by
 obtain ⟨a0, len, cap, rfl⟩ := okWide_slice ht hval
 obtain ⟨fuel, hf⟩ := h
 rcases open_strings ht he hc hf with ⟨hcs, _⟩ | ⟨a, len', cap', ss, hcs, _, hl, hm, hz, _, hcell, hsz⟩
 ·simp [Value.cells] at hcs
  obtain ⟨rfl, rfl, rfl⟩ := hcs
  exact ⟨[], isStrs_nil w, fun s hs => (by cases hs)⟩
 ·simp [Value.cells] at hcs
  obtain ⟨rfl, rfl, rfl⟩ := hcs
  have hls : len ≤ ss.length := by rw [hz]; split <;> omega
  have hlen : (ss.take len).length = len := by rw [List.length_take]; omega
  refine ⟨ss.take len, ⟨by omega, some a, cap, by rw [hlen], ⟨fun h => (by cases h), by omega⟩, fun h0 => ?_⟩, fun s hs => hsz s (List.mem_of_mem_take hs)⟩
  rw [hlen] at h0
  have hc0 := hcell 0 (by omega)
  obtain ⟨b, off, spot⟩ := a
  have hspot : spot = none := by simpa [Addr.add] using World.cell?_spot hc0
  subst hspot
  refine ⟨b, off, rfl, ?_, fun i hi => ?_⟩
  ·have := block_lt_of_cell hc0
   simpa [Addr.add] using this
  ·rw [hlen] at hi
   have := hcell i (by omega)
   rw [add_plain'] at this
   rw [this]
   simp [List.getD, show i < ss.length by omega]
theorem grownBy_of_below {W W' : World} (h : Below W.heap.size W W') : W.grownBy W' none := ⟨h.os, h.tape, h.output, h.size, fun k hk _ => h.block k hk⟩
theorem wpList_append_strs {P : Program} {w : World} {ops : Array Oper} {rest : List Oper} {o : Oper} {a : Act} {Q : Exit → Act → World → Prop} (hgd : Region.wanted o (yielded ops a.tmps) = true) (s x : Operand) (t : TypeId)
  (ho : o.op = .call { callee := .builtin .append, args := #[s, x], argTypes := #[t, t] })
  (base : Nat) (e : TypeId) (i : TypeInfo) (z : Value) (bytes : Nat) (ht : P.underlying t = some (.slice e)) (hi : P.info? e = some i) (hz : i.zero = some z)
  (hsize : i.size = 1) (hby : i.bytes = bytes) (hzs : z.cells.size = 1)
  (v : Value) (M : List ByteArray) (hs : a.eval s = v) (hown : w.ownsRow base e 1 v M.length (strCells M)) (y : Value) (L : List ByteArray) (hx : a.eval x = y) (hL : IsStrs w y L)
  (h63 : M.length + L.length ≤ maxLen) (hbytes : (M.length + L.length) * bytes ≤ 140737488355328) (hbase : base ≤ w.heap.size)
  (h : ∀ v' w', w'.ownsRow base e 1 v' (M ++ L).length (strCells (M ++ L)) → w.grownBy w' v.ownBlock → wpList P ops Q rest (a.put o.dst v') w') : wpList P ops Q (o :: rest) a w := by
 obtain ⟨_, ad, cap, rfl, ⟨h0, _⟩, h1⟩ := hL
 refine BigFrame.wpList_want hgd fun K hK => ?_
 cases ad with
 | none =>
  obtain ⟨rfl, rfl⟩ := h0 rfl
  have hrun := run_append_owned_none (P := P) (w := w) base t o.type e i 1 ht hi v M.length (strCells M) hown
  unfold Oper.wp
  simp [execOp, ho, resolve, invoke, builtin, hs, hx, hrun, Result.andThen]
  exact hK _ _ (h v w (by simpa using hown) ⟨rfl, rfl, rfl, Nat.le_refl _, fun _ _ _ => rfl⟩)
 | some ad =>
  refine wp_append_own w s x t ho base e i z 1 bytes ht hi hz hsize hby hzs (by decide) v M.length (strCells M) hs hown ad L.length cap (strCells L) hx (by rw [strCells_len]; omega) ?_ ?_ h63 hbytes hbase ?_
  ·intro j u hj
   have hjl : j < L.length := by
    have := (List.getElem?_eq_some_iff.1 hj).1
    rwa [strCells_len] at this
   rw [strCells_get hjl] at hj
   cases hj
   obtain ⟨b, off, e1, _, hc⟩ := h1 (by omega)
   cases e1
   rw [add_plain']; exact hc j hjl
  ·intro u hu
   obtain ⟨s, _, rfl⟩ := List.mem_map.1 hu
   rfl
  ·intro v' w' hown' hg _
   refine hK _ _ (h v' w' ?_ hg)
   rw [List.length_append, strCells_app]; exact hown'
end Go.Proofs.YtokknppjeckppaaGreatDoor
namespace Go.Proofs.YtokknppjeckppaaGreatDoor
open Go.RowKit
theorem run_slice_str {P : Program} {t : TypeId} (ht : P.underlying t = some .string) (s : ByteArray) (a b : Int) (h0 : 0 ≤ a) (h1 : a ≤ b) (h2 : b ≤ s.size) (w : World) :
  (Instr.slice t (.string s) (some (.int .i64 a)) (some (.int .i64 b)) none).run P w = .ok (.string (s.extract a.toNat b.toNat)) w := by
 have e2 : 0 ≤ b := Int.le_trans h0 h1
 have eb : ∀ (y : Nat) code, b ≤ y → (Instr.sliceBound (.int .i64 b) y code).run P w = .ok b.toNat w := fun y code hy => by
  simp [Instr.sliceBound, asIntOf, e2, go_sem]
  omega
 have ea : ∀ (y : Nat) code, a ≤ y → (Instr.sliceBound (.int .i64 a) y code).run P w = .ok a.toNat w := fun y code hy => by
  simp [Instr.sliceBound, asIntOf, h0, go_sem]
  omega
 simp [Instr.slice, run_underlying ht, Instr.sliceBounds, eb s.size _ h2, go_sem]
 omega
theorem run_slice_to {P : Program} {t : TypeId} (ht : P.underlying t = some .string) (s : ByteArray) (b : Nat) (h2 : b ≤ s.size) (w : World) :
  (Instr.slice t (.string s) none (some (.int .i64 (b : Int))) none).run P w = .ok (.string (s.extract 0 b)) w := by
 have eb : ∀ (y : Nat) code, b ≤ y → (Instr.sliceBound (.int .i64 (b : Int)) y code).run P w = .ok b w := fun y code hy => by
  simp [Instr.sliceBound, asIntOf, go_sem]
  omega
 simp [Instr.slice, run_underlying ht, Instr.sliceBounds, eb s.size _ h2, go_sem]
theorem run_slice_from {P : Program} {t : TypeId} (ht : P.underlying t = some .string) (s : ByteArray) (a : Nat) (h2 : a ≤ s.size) (w : World) :
  (Instr.slice t (.string s) (some (.int .i64 (a : Int))) none none).run P w = .ok (.string (s.extract a s.size)) w := by
 have ea : ∀ (y : Nat) code, a ≤ y → (Instr.sliceBound (.int .i64 (a : Int)) y code).run P w = .ok a w := fun y code hy => by
  simp [Instr.sliceBound, asIntOf, go_sem]
  omega
 simp [Instr.slice, run_underlying ht, Instr.sliceBounds, ea s.size _ h2, go_sem]
theorem below_step {a b c : World} (h : Below a.heap.size a b) (k : Below b.heap.size b c) : Below a.heap.size a c := h.trans (k.mono h.size)
end Go.Proofs.YtokknppjeckppaaGreatDoor
set_option linter.unusedVariables false
namespace Go.Proofs.YtokknppjeckppaaGreatDoor
open Go.RowKit
attribute [local go_sem] Oper.semAt_some
theorem cell_one {w : World} {v : Value} {t : TypeId} : ∀ j u, [v][j]? = some u → (w.alloc (.cells #[v] t)).cell? ((⟨w.heap.size, 0, none⟩ : Addr).add j) = some u := by
 intro j u hj
 match j, hj with
 | 0, hj => simp at hj; subst hj; simp [Addr.add]
theorem ret_val {a b : Value} (h : a = b) : Ending.returned a = .returned b := by rw [h]
theorem str_eq' {x y : ByteArray} (h : x.data.toList = y.data.toList) : x = y := ByteArray.ext (Array.toList_inj.1 h)
theorem beq_true {x y : ByteArray} (h : x = y) : (x.toList == y.toList) = true := by subst h; simp
theorem beq_false {x y : ByteArray} (h : x ≠ y) : (x.toList == y.toList) = false := by
 rw [beq_eq_false_iff_ne]; intro e
 rw [Lib.toList_data, Lib.toList_data] at e
 exact h (str_eq' e)
theorem less_eq (x y : ByteArray) : Op.bytesLess x.toList y.toList = decide (x.data.toList < y.data.toList) := by
 rw [Lib.toList_data, Lib.toList_data, bytesLess_eq]
theorem below_drewN {B : Nat} {a w : World} (h : Below B a w) (n : Nat) : Below B a (w.drewN n) := h.trans ⟨rfl, rfl, rfl, Nat.le_refl _, fun _ _ => rfl⟩
end Go.Proofs.YtokknppjeckppaaGreatDoor
set_option linter.unusedVariables false
namespace Go.Proofs.YtokknppjeckppaaGreatDoor
open Go.RowKit
theorem grownBy_alloc (w : World) (o : Obj) : w.grownBy (w.alloc o) none := grownBy_of_below ((Below.refl _ _).alloc (Nat.le_refl _) _)
theorem grown_after {a b c : World} {row : Option Nat} (h : a.grownBy b none) (k : b.grownBy c row) : a.grownBy c row :=
 ⟨k.os.trans h.os, k.tape.trans h.tape, k.output.trans h.output, Nat.le_trans h.size k.size, fun i hi hr => (k.block i (Nat.lt_of_lt_of_le hi h.size) hr).trans (h.block i hi (by simp))⟩
abbrev ptC (x : Pt) : List Value := [.string x.k, .int .i64 x.n]
abbrev ptV (x : Pt) : Value := .agg #[.string x.k, .int .i64 x.n]
def ptCells (L : List Pt) : List Value := L.flatMap ptC
def PtAt (w : World) (b o : Nat) (x : Pt) : Prop :=
 w.cell? ⟨b, o, none⟩ = some (.string x.k) ∧ w.cell? ⟨b, o + 1, none⟩ = some (.int .i64 x.n)
def IsParts (w : World) (v : Value) (L : List Pt) : Prop :=
 L.length ≤ maxLen ∧ ∃ (a : Option Addr) (cap : Nat), v = .slice a L.length cap ∧ ((a = none → L = [] ∧ cap = 0) ∧ L.length ≤ cap) ∧ (0 < L.length → ∃ b off, a = some ⟨b, off, none⟩ ∧ b < w.heap.size ∧ ∀ i (h : i < L.length), PtAt w b (off + i * 2) L[i])
theorem infoPart : (Tryz.prog.info? 87).map (fun i => (i.zero, i.size, i.bytes)) = some (some (ptV zeroPt), 2, 24) := by kernel_rfl
theorem ptCells_app (L M : List Pt) : ptCells (L ++ M) = ptCells L ++ ptCells M := List.flatMap_append
theorem ptCells_get {L : List Pt} {i j : Nat} (h : i < L.length) (hj : j < 2) : (ptCells L)[i * 2 + j]? = (ptC L[i])[j]? := by
 induction L generalizing i with
 | nil => simp at h
 | cons x L ih =>
  show (ptC x ++ ptCells L)[i * 2 + j]? = _
  cases i with
  | zero => rw [List.getElem?_append_left (by simp; omega)]; simp
  | succ i =>
   rw [List.getElem?_append_right (by simp; omega), show (i + 1) * 2 + j - (ptC x).length = i * 2 + j by simp; omega, ih (by simpa using h)]
   rfl
theorem parts_nil (w : World) : IsParts w (.slice none 0 0) [] := ⟨Nat.zero_le _, none, 0, rfl, ⟨fun _ => ⟨rfl, rfl⟩, Nat.le_refl _⟩, fun h => absurd h (by simp)⟩
theorem PtAt.stays {w w' : World} {b o : Nat} {x : Pt} (h : PtAt w b o x) (hlt : b < w.heap.size) (hb : Below w.heap.size w w') : PtAt w' b o x :=
 ⟨(hb.cell (p := ⟨b, _, none⟩) hlt).trans h.1, (hb.cell (p := ⟨b, _, none⟩) hlt).trans h.2⟩
theorem IsParts.stays {w w' : World} {v : Value} {L : List Pt} (h : IsParts w v L) (hb : Below w.heap.size w w') : IsParts w' v L := by
 obtain ⟨h0, a, cap, h1, h2, h3⟩ := h
 refine ⟨h0, a, cap, h1, h2, fun hL => ?_⟩
 obtain ⟨b, off, e, hlt, hc⟩ := h3 hL
 exact ⟨b, off, e, Nat.lt_of_lt_of_le hlt hb.size, fun i hi => (hc i hi).stays hlt hb⟩
def OwnP (B : Nat) (w : World) (v : Value) (L : List Pt) : Prop := w.ownsRow B 87 2 v L.length (ptCells L)
theorem parts_own_nil (B : Nat) (w : World) : OwnP B w (.slice none 0 0) [] := World.ownsRow_nil _ _ _ _
theorem OwnP.is {B : Nat} {w : World} {v : Value} {L : List Pt} (h : OwnP B w v L) : IsParts w v L := by
 have hlt := h.lt
 have hc := fun g hg => h.cells (g := g) hg
 rcases h.2 with ⟨rfl, h0⟩ | ⟨g, cap, cur, rfl, hb, hg, hle, hm, _⟩
 ·obtain rfl := List.length_eq_zero_iff.1 h0
  exact parts_nil w
 ·refine ⟨Nat.le_trans hle hm, some ⟨g, 0, none⟩, cap, rfl, ⟨fun h => (by cases h), hle⟩, fun _ => ⟨g, 0, rfl, (hlt g rfl).2, fun i hi => ?_⟩⟩
  have hh := fun j (hj : j < 2) u (hu : (ptC L[i])[j]? = some u) => hc g rfl (i * 2 + j) u (by rw [ptCells_get hi hj]; exact hu)
  refine ⟨?_, ?_⟩
  ·have := hh 0 (by decide) _ rfl; rw [add_plain'] at this; exact this
  ·have := hh 1 (by decide) _ rfl; rw [add_plain'] at this; exact this
theorem OwnP.stays {B : Nat} {w w' : World} {v : Value} {L : List Pt} (h : OwnP B w v L) (hb : Below w.heap.size w w') : OwnP B w' v L :=
 World.ownsRow.kept h (grownBy_of_below hb) (by cases hv : v.ownBlock <;> simp)
theorem OwnP.turned {B b : Nat} {w w' : World} {v : Value} {L : List Pt} (h : OwnP B w v L) (hb : w.grownBy w' (some b)) (hlt : b < B) : OwnP B w' v L :=
 World.ownsRow.kept h hb (by
  cases hv : v.ownBlock with
  | none => exact .inl rfl
  | some k =>
   refine .inr fun e => ?_
   have := (h.lt k hv).1
   cases e; omega)
theorem parts_cell {w : World} {y : Pt} {t : TypeId} : ∀ j u, (ptC y)[j]? = some u → (w.alloc (.cells #[.string y.k, .int .i64 y.n] t)).cell? ((⟨w.heap.size, 0, none⟩ : Addr).add j) = some u := by
 intro j u hj
 match j, hj with
 | 0, hj => simp at hj; subst hj; simp [Addr.add]
 | 1, hj => simp at hj; subst hj; simp [Addr.add]
theorem wpList_append_parts {ops : Array Oper} {rest : List Oper} {o : Oper} {a : Act} {B : Nat} {w0 : World} {Q : Exit → Act → World → Prop} (hgd : o.guard = none) (s x : Operand)
  (ho : o.op = .call { callee := .builtin .append, args := #[s, x], argTypes := #[50, 50] })
  {v : Value} {M : List Pt} {y : Pt} (hown : OwnP B w0 v M) (hBs : B ≤ w0.heap.size) (hs : a.eval s = v)
  (hx : a.eval x = .slice (some ⟨w0.heap.size, 0, none⟩) 1 1) (hlen : M.length ≤ 1000000)
  (h : ∀ v' w', OwnP B w' v' (M ++ [y]) → w0.grownBy w' v.ownBlock → wpList Tryz.prog ops Q rest (a.put o.dst v') w') :
  wpList Tryz.prog ops Q (o :: rest) a (w0.alloc (.cells #[.string y.k, .int .i64 y.n] 87)) := by
 obtain ⟨i0, hi, hz0, hz1, hz2⟩ := info_parts infoPart
 refine wpList_append_own _ hgd s x 50 ho B 87 i0 (ptV zeroPt) 2 24 Tryz.underlying50 hi hz0 hz1 hz2 rfl (by decide) v M.length (ptCells M) hs (World.ownsRow.alloc hown _) ⟨w0.heap.size, 0, none⟩ 1 1 (ptC y) hx rfl parts_cell ?_ ?_ ?_ ?_ ?_
 ·intro u hu; simp at hu; rcases hu with rfl | rfl <;> rfl
 ·unfold maxLen; omega
 ·omega
 ·simp; omega
 ·intro v' w' hown' hg _
  refine h v' w' ?_ (grown_after (grownBy_alloc w0 _) hg)
  unfold OwnP
  rw [List.length_append, ptCells_app]
  have : ptCells [y] = ptC y := List.append_nil _
  rw [this]; exact hown'
abbrev enC (x : En) : List Value := [.string x.m, .int .i64 x.kd, .bool x.x, .string x.k]
abbrev enV (x : En) : Value := .agg #[.string x.m, .int .i64 x.kd, .bool x.x, .string x.k]
def enCells (L : List En) : List Value := L.flatMap enC
def EnAt (w : World) (b o : Nat) (x : En) : Prop :=
 w.cell? ⟨b, o, none⟩ = some (.string x.m) ∧ w.cell? ⟨b, o + 1, none⟩ = some (.int .i64 x.kd) ∧ w.cell? ⟨b, o + 2, none⟩ = some (.bool x.x) ∧ w.cell? ⟨b, o + 3, none⟩ = some (.string x.k)
def IsEntries (w : World) (v : Value) (L : List En) : Prop :=
 L.length ≤ maxLen ∧ ∃ (a : Option Addr) (cap : Nat), v = .slice a L.length cap ∧ ((a = none → L = [] ∧ cap = 0) ∧ L.length ≤ cap) ∧ (0 < L.length → ∃ b off, a = some ⟨b, off, none⟩ ∧ b < w.heap.size ∧ ∀ i (h : i < L.length), EnAt w b (off + i * 4) L[i])
theorem infoEntry : (Tryz.prog.info? 91).map (fun i => (i.zero, i.size, i.bytes)) = some (some (enV zeroEn), 4, 48) := by kernel_rfl
theorem enCells_app (L M : List En) : enCells (L ++ M) = enCells L ++ enCells M := List.flatMap_append
theorem enCells_get {L : List En} {i j : Nat} (h : i < L.length) (hj : j < 4) : (enCells L)[i * 4 + j]? = (enC L[i])[j]? := by
 induction L generalizing i with
 | nil => simp at h
 | cons x L ih =>
  show (enC x ++ enCells L)[i * 4 + j]? = _
  cases i with
  | zero => rw [List.getElem?_append_left (by simp; omega)]; simp
  | succ i =>
   rw [List.getElem?_append_right (by simp; omega), show (i + 1) * 4 + j - (enC x).length = i * 4 + j by simp; omega, ih (by simpa using h)]
   rfl
theorem entries_nil (w : World) : IsEntries w (.slice none 0 0) [] := ⟨Nat.zero_le _, none, 0, rfl, ⟨fun _ => ⟨rfl, rfl⟩, Nat.le_refl _⟩, fun h => absurd h (by simp)⟩
theorem EnAt.stays {w w' : World} {b o : Nat} {x : En} (h : EnAt w b o x) (hlt : b < w.heap.size) (hb : Below w.heap.size w w') : EnAt w' b o x :=
 ⟨(hb.cell (p := ⟨b, _, none⟩) hlt).trans h.1, (hb.cell (p := ⟨b, _, none⟩) hlt).trans h.2.1, (hb.cell (p := ⟨b, _, none⟩) hlt).trans h.2.2.1, (hb.cell (p := ⟨b, _, none⟩) hlt).trans h.2.2.2⟩
theorem IsEntries.stays {w w' : World} {v : Value} {L : List En} (h : IsEntries w v L) (hb : Below w.heap.size w w') : IsEntries w' v L := by
 obtain ⟨h0, a, cap, h1, h2, h3⟩ := h
 refine ⟨h0, a, cap, h1, h2, fun hL => ?_⟩
 obtain ⟨b, off, e, hlt, hc⟩ := h3 hL
 exact ⟨b, off, e, Nat.lt_of_lt_of_le hlt hb.size, fun i hi => (hc i hi).stays hlt hb⟩
def OwnE (B : Nat) (w : World) (v : Value) (L : List En) : Prop := w.ownsRow B 91 4 v L.length (enCells L)
theorem entries_own_nil (B : Nat) (w : World) : OwnE B w (.slice none 0 0) [] := World.ownsRow_nil _ _ _ _
theorem OwnE.is {B : Nat} {w : World} {v : Value} {L : List En} (h : OwnE B w v L) : IsEntries w v L := by
 have hlt := h.lt
 have hc := fun g hg => h.cells (g := g) hg
 rcases h.2 with ⟨rfl, h0⟩ | ⟨g, cap, cur, rfl, hb, hg, hle, hm, _⟩
 ·obtain rfl := List.length_eq_zero_iff.1 h0
  exact entries_nil w
 ·refine ⟨Nat.le_trans hle hm, some ⟨g, 0, none⟩, cap, rfl, ⟨fun h => (by cases h), hle⟩, fun _ => ⟨g, 0, rfl, (hlt g rfl).2, fun i hi => ?_⟩⟩
  have hh := fun j (hj : j < 4) u (hu : (enC L[i])[j]? = some u) => hc g rfl (i * 4 + j) u (by rw [enCells_get hi hj]; exact hu)
  refine ⟨?_, ?_, ?_, ?_⟩
  ·have := hh 0 (by decide) _ rfl; rw [add_plain'] at this; exact this
  ·have := hh 1 (by decide) _ rfl; rw [add_plain'] at this; exact this
  ·have := hh 2 (by decide) _ rfl; rw [add_plain'] at this; exact this
  ·have := hh 3 (by decide) _ rfl; rw [add_plain'] at this; exact this
theorem OwnE.stays {B : Nat} {w w' : World} {v : Value} {L : List En} (h : OwnE B w v L) (hb : Below w.heap.size w w') : OwnE B w' v L :=
 World.ownsRow.kept h (grownBy_of_below hb) (by cases hv : v.ownBlock <;> simp)
theorem OwnE.turned {B b : Nat} {w w' : World} {v : Value} {L : List En} (h : OwnE B w v L) (hb : w.grownBy w' (some b)) (hlt : b < B) : OwnE B w' v L :=
 World.ownsRow.kept h hb (by
  cases hv : v.ownBlock with
  | none => exact .inl rfl
  | some k =>
   refine .inr fun e => ?_
   have := (h.lt k hv).1
   cases e; omega)
theorem entries_cell {w : World} {y : En} {t : TypeId} : ∀ j u, (enC y)[j]? = some u → (w.alloc (.cells #[.string y.m, .int .i64 y.kd, .bool y.x, .string y.k] t)).cell? ((⟨w.heap.size, 0, none⟩ : Addr).add j) = some u := by
 intro j u hj
 match j, hj with
 | 0, hj => simp at hj; subst hj; simp [Addr.add]
 | 1, hj => simp at hj; subst hj; simp [Addr.add]
 | 2, hj => simp at hj; subst hj; simp [Addr.add]
 | 3, hj => simp at hj; subst hj; simp [Addr.add]
theorem wpList_append_entries {ops : Array Oper} {rest : List Oper} {o : Oper} {a : Act} {B : Nat} {w0 : World} {Q : Exit → Act → World → Prop} (hgd : o.guard = none) (s x : Operand)
  (ho : o.op = .call { callee := .builtin .append, args := #[s, x], argTypes := #[51, 51] })
  {v : Value} {M : List En} {y : En} (hown : OwnE B w0 v M) (hBs : B ≤ w0.heap.size) (hs : a.eval s = v)
  (hx : a.eval x = .slice (some ⟨w0.heap.size, 0, none⟩) 1 1) (hlen : M.length ≤ 1000000)
  (h : ∀ v' w', OwnE B w' v' (M ++ [y]) → w0.grownBy w' v.ownBlock → wpList Tryz.prog ops Q rest (a.put o.dst v') w') :
  wpList Tryz.prog ops Q (o :: rest) a (w0.alloc (.cells #[.string y.m, .int .i64 y.kd, .bool y.x, .string y.k] 91)) := by
 obtain ⟨i0, hi, hz0, hz1, hz2⟩ := info_parts infoEntry
 refine wpList_append_own _ hgd s x 51 ho B 91 i0 (enV zeroEn) 4 48 Tryz.underlying51 hi hz0 hz1 hz2 rfl (by decide) v M.length (enCells M) hs (World.ownsRow.alloc hown _) ⟨w0.heap.size, 0, none⟩ 1 1 (enC y) hx rfl entries_cell ?_ ?_ ?_ ?_ ?_
 ·intro u hu; simp at hu; rcases hu with rfl | rfl | rfl | rfl <;> rfl
 ·unfold maxLen; omega
 ·omega
 ·simp; omega
 ·intro v' w' hown' hg _
  refine h v' w' ?_ (grown_after (grownBy_alloc w0 _) hg)
  unfold OwnE
  rw [List.length_append, enCells_app]
  have : enCells [y] = enC y := List.append_nil _
  rw [this]; exact hown'
end Go.Proofs.YtokknppjeckppaaGreatDoor
namespace Go.Proofs.YtokknppjeckppaaGreatDoor
open Go.RowKit
theorem wpList_alloc_zero {P : Program} {ops : Array Oper} {rest : List Oper} {o : Oper} {a : Act} {w : World} {Q : Exit → Act → World → Prop} (hg : o.guard = none) (t : TypeId) (ho : o.op = .alloc t)
  (cells : Array Value) (hz : (P.info? t).bind (fun i => i.zero.map (·.cells)) = some cells)
  (h : wpList P ops Q rest (a.put o.dst (.pointer (some ⟨w.heap.size, 0, none⟩))) (w.alloc (.cells cells t))) : wpList P ops Q (o :: rest) a w := by
 cases hi : P.info? t with
 | none => simp [hi] at hz
 | some i =>
  cases hz0 : i.zero with
  | none => simp [hi, hz0] at hz
  | some z =>
   simp only [hi, hz0, Option.bind_some, Option.map_some, Option.some.injEq] at hz
   subst hz
   refine wpList_plain hg fun K hK => ?_
   unfold Oper.wp execOp
   simp [ho, Instr.alloc, zeroValue, typeInfo, hi, hz0, newVar, newRow, go_sem]
   exact hK _ _ h
def Row (W : World) (B : Nat) (xs : Array Value) (T : TypeId) : Prop := W.heap[B]? = some (.cells xs T (0, 0))
theorem Row.cell {W : World} {B : Nat} {xs : Array Value} {T : TypeId} (h : Row W B xs T) (i : Nat) : W.cell? ⟨B, i, none⟩ = xs[i]? := cell_of_row W B i _ _ _ h
theorem Row.free {W : World} {B : Nat} {xs : Array Value} {T : TypeId} (h : Row W B xs T) (i : Nat) : W.frozen? ⟨B, i, none⟩ = false := frozen_of_row W B i _ _ h
theorem Row.lt {W : World} {B : Nat} {xs : Array Value} {T : TypeId} (h : Row W B xs T) : B < W.heap.size := (Array.getElem?_eq_some_iff.1 h).1
theorem Row.set {W : World} {B : Nat} {xs : Array Value} {T : TypeId} (h : Row W B xs T) (i : Nat) (v : Value) : Row (W.setCell ⟨B, i, none⟩ v) B (xs.setIfInBounds i v) T := heap_setCell_same W B i _ _ _ h
theorem Row.other {W : World} {B : Nat} {xs : Array Value} {T : TypeId} (h : Row W B xs T) (a : Addr) (v : Value) (hne : B ≠ a.block) : Row (W.setCell a v) B xs T := by
 unfold Row; rw [heap_setCell_other _ _ _ _ hne]; exact h
theorem Row.setRow {W : World} {B : Nat} {xs : Array Value} {T : TypeId} (h : Row W B xs T) (ys : Array Value) : Row (W.setRow B ys) B ys T := setRow_heap _ _ _ _ _ _ h
theorem Row.setRow_other {W : World} {B : Nat} {xs : Array Value} {T : TypeId} (h : Row W B xs T) (g : Nat) (ys : Array Value) (hne : B ≠ g) : Row (W.setRow g ys) B xs T := by
 unfold Row; rw [Go.setRow_other _ _ _ _ hne]; exact h
theorem Row.alloc {W : World} {B : Nat} {xs : Array Value} {T : TypeId} (h : Row W B xs T) (o : Obj) : Row (W.alloc o) B xs T := by
 show (W.heap.push o)[B]? = _; rw [Array.getElem?_push, if_neg (Nat.ne_of_lt h.lt)]; exact h
theorem Row.made (W : World) (xs : Array Value) (T : TypeId) : Row (W.alloc (.cells xs T)) W.heap.size xs T := heap_alloc_new _ _
theorem Row.below {W W' : World} {B b : Nat} {xs : Array Value} {T : TypeId} (h : Row W B xs T) (hb : Below b W W') (hlt : B < b) : Row W' B xs T := by
 unfold Row; rw [hb.block B hlt]; exact h
theorem Row.step {W W' : World} {B : Nat} {xs : Array Value} {T : TypeId} (h : Row W B xs T) (hb : Below W.heap.size W W') : Row W' B xs T := h.below hb h.lt
theorem Row.drew {W : World} {B : Nat} {xs : Array Value} {T : TypeId} (h : Row W B xs T) : Row W.drew B xs T := h
theorem Row.drewN {W : World} {B : Nat} {xs : Array Value} {T : TypeId} (h : Row W B xs T) (n : Nat) : Row (W.drewN n) B xs T := h
def numV (l : List Nat) : Array Value := (l.map fun n : Nat => Value.int .u32 (n : Int)).toArray
def bytV (l : List UInt8) : Array Value := (l.map fun n : UInt8 => Value.int .u8 (n.toNat : Int)).toArray
def zrow (n : Nat) : Array Value := numV (List.replicate n 0)
theorem zrow_size (n : Nat) : (zrow n).size = n := by simp [zrow, numV]
def zbyt (n : Nat) : Array Value := bytV (List.replicate n 0)
theorem numV_size (l : List Nat) : (numV l).size = l.length := by simp [numV]
theorem bytV_size (l : List UInt8) : (bytV l).size = l.length := by simp [bytV]
theorem numV_get (l : List Nat) (i : Nat) (h : i < l.length) : (numV l)[i]? = some (.int .u32 (l.getD i 0 : Nat)) := by simp [numV, h]
theorem bytV_get (l : List UInt8) (i : Nat) (h : i < l.length) : (bytV l)[i]? = some (.int .u8 ((l.getD i 0).toNat : Nat)) := by simp [bytV, h]
theorem numV_set (l : List Nat) (i n : Nat) : (numV l).setIfInBounds i (.int .u32 (n : Int)) = numV (l.set i n) := by
 simp [numV, List.map_set]
theorem bytV_set (l : List UInt8) (i : Nat) (n : UInt8) : (bytV l).setIfInBounds i (.int .u8 (n.toNat : Int)) = bytV (l.set i n) := by
 simp [bytV, List.map_set]
theorem numV_one (l : List Nat) : (numV l).all (·.oneCell') = true := by
 simp [numV, Value.oneCell']
section
variable {P : Program}
theorem wpList_convert {ops : Array Oper} {rest : List Oper} {o : Oper} {a : Act} {w : World} {Q : Exit → Act → World → Prop} (hgd : o.guard = none) (t t' : TypeId) (x : Operand) (ho : o.op = .convert t t' x)
  (y v : Value) (w' : World) (hx : a.eval x = y) (hrun : (convert t t' y).run P w = .ok v w') (h : wpList P ops Q rest (a.put o.dst v) w') : wpList P ops Q (o :: rest) a w :=
 wpList_plain hgd fun _ hK => by
  unfold Oper.wp execOp
  simp only [ho, hx, Sem.run_bind, hrun, Result.andThen_ok, Sem.run_pure]
  exact hK _ _ h
theorem conv_row (src e dst : TypeId) (hs : P.underlying src = some (.slice e)) (he : P.underlying e = some (.int .u8)) (hd : P.underlying dst = some .string) (w : World) (B : Nat) (t : TypeId) (fr : Nat × Nat) (xs : List Int)
  (hg : w.heap[B]? = some (.cells (xs.map (Value.int .u8)).toArray t fr)) (n cap : Nat) (hn : xs.length = n) :
  (convert src dst (.slice (some ⟨B, 0, none⟩) n cap)).run P w = .ok (.string (strOfNums xs)) w :=
 run_convert_bytes_arg (P := P) w src e hs he B 0 n cap xs hn (fun i hi => by
  rw [Nat.zero_add, cell_of_row w B i _ _ _ hg]
  have hi' : i < xs.length := by omega
  simp [List.getD, List.getElem?_eq_getElem hi']) dst hd
end
end Go.Proofs.YtokknppjeckppaaGreatDoor
set_option linter.unusedVariables false
namespace Go.Proofs.YtokknppjeckppaaGreatDoor
open Go.RowKit
theorem ret_i {k : IntKind} {a b : Int} (h : a = b) : Ending.returned (.int k a) = .returned (.int k b) := by rw [h]
theorem take_on (s : ByteArray) (k : Nat) (h : k < s.size) : s.data.toList.take (k + 1) = s.data.toList.take k ++ [s[k]] := by
 rw [List.take_succ_eq_append_getElem (by simpa using h)]; rfl
theorem take_all (s : ByteArray) (k : Nat) (h : s.size ≤ k) : s.data.toList.take k = s.data.toList := List.take_of_length_le (by simp; omega)
theorem nums_bytes (l : List UInt8) : strOfNums (l.map fun u : UInt8 => (u.toNat : Int)) = ⟨l.toArray⟩ := by
 unfold strOfNums
 rw [List.map_map]
 congr 2
 exact (List.map_congr_left (fun u _ => by simp)).trans (List.map_id l)
theorem bytV_of (l : List UInt8) : bytV l = ((l.map fun u : UInt8 => (u.toNat : Int)).map (Value.int .u8)).toArray := by simp [bytV]
theorem conv_of {W : World} {B : Nat} {l : List UInt8} {T : TypeId} (h : Row W B (bytV l) T) (n cap : Nat) (hn : l.length = n) :
  (convert 111 9 (.slice (some ⟨B, 0, none⟩) n cap)).run Tryz.prog W = .ok (.string ⟨l.toArray⟩) W := by
 have h' : W.heap[B]? = some (.cells ((l.map fun u : UInt8 => (u.toNat : Int)).map (Value.int .u8)).toArray T (0, 0)) := by rw [← bytV_of]; exact h
 rw [conv_row 111 5 9 Tryz.underlying111 Tryz.underlying5 Tryz.underlying9 W B T (0, 0) _ h' n cap (by simpa using hn), nums_bytes]
theorem bytes_app (a b : ByteArray) : (a ++ b).data.toList = a.data.toList ++ b.data.toList := by simp
theorem size_of_app (a b : ByteArray) : (a ++ b).size = a.size + b.size := ByteArray.size_append
end Go.Proofs.YtokknppjeckppaaGreatDoor
set_option linter.unusedVariables false
namespace Go.Proofs.YtokknppjeckppaaGreatDoor
open Go.RowKit
attribute [local go_sem] Oper.semAt_some
theorem one_dot {s : ByteArray} : (s.toList == [46]) = decide (s.data.toList = [46]) := by rw [Lib.toList_data, Bool.eq_iff_iff]; simp
theorem two_dots {s : ByteArray} : (s.toList == [46, 46]) = decide (s.data.toList = [46, 46]) := by rw [Lib.toList_data, Bool.eq_iff_iff]; simp
def CleanTo (l : List UInt8) (k : Nat) : Prop := (0 : UInt8) ∉ l.take k ∧ (47 : UInt8) ∉ l.take k
theorem clean_zero (l : List UInt8) : CleanTo l 0 := ⟨by simp, by simp⟩
theorem clean_step {s : ByteArray} {k : Nat} (h : CleanTo s.data.toList k) (hk : k < s.size) (h0 : s[k] ≠ 0) (h47 : s[k] ≠ 47) : CleanTo s.data.toList (k + 1) := by
 unfold CleanTo; rw [take_on s k hk]
 exact ⟨fun hm => by rcases List.mem_append.1 hm with e | e; exact h.1 e; exact h0 (List.mem_singleton.1 e).symm, fun hm => by rcases List.mem_append.1 hm with e | e; exact h.2 e; exact h47 (List.mem_singleton.1 e).symm⟩
theorem clean_all {s : ByteArray} (h : CleanTo s.data.toList s.size) : (0 : UInt8) ∉ s.data.toList ∧ (47 : UInt8) ∉ s.data.toList := by
 unfold CleanTo at h; rwa [take_all s _ (Nat.le_refl _)] at h
theorem mem_at {s : ByteArray} {k : Nat} (hk : k < s.size) : s[k] ∈ s.data.toList := by
 show s.data[k] ∈ _
 simp
theorem byte_ne {u : UInt8} {n : Nat} (hn : n < 256) (h : u ≠ UInt8.ofNat n) : ((u.toNat : Int) == (n : Int)) = false := by
 rw [beq_eq_false_iff_ne]
 intro e
 have e2 : u.toNat = n := by exact_mod_cast e
 exact h (by rw [← e2]; simp)
set_option maxRecDepth 100000 in
set_option maxHeartbeats 1000000 in
theorem refName_any (s : ByteArray) (w : World) :
  Calls Tryz.prog 88 #[.string s] w fun e w' => e = .returned (.bool (nameB s.data.toList)) ∧ w = w' := by
 by_cases h0 : s.size = 0
 ·have e0 : s.toList.isEmpty = true := by
   rw [Lib.toList_data]; have := Lib.size_eq s; cases h : s.data.toList with
   | nil => rfl
   | cons a t => rw [h] at this; simp at this; omega
  have HN : Hid (nameB s.data.toList = false) := nameB_no (fun hh => by rw [← Lib.size_eq] at hh; omega)
  clear h0
  go_enter Tryz.func88, Tryz.ntmps88
  go_wp2
  go_ret
  exact ⟨ret_val (congrArg Value.bool HN.out.symm), rfl⟩
 ·have e0 : s.toList.isEmpty = false := by
   rw [Lib.toList_data]; have := Lib.size_eq s; cases h : s.data.toList with
   | nil => rw [h] at this; exact absurd this h0
   | cons a t => rfl
  by_cases h31 : 31 < s.size
  ·have e1 : decide ((31 : Int) < (s.size : Int)) = true := decide_eq_true (by omega)
   have HN : Hid (nameB s.data.toList = false) := nameB_no (fun hh => by rw [← Lib.size_eq] at hh; omega)
   clear h0 h31
   go_enter Tryz.func88, Tryz.ntmps88
   go_wp2
   go_ret
   exact ⟨ret_val (congrArg Value.bool HN.out.symm), rfl⟩
  ·have e1 : decide ((31 : Int) < (s.size : Int)) = false := decide_eq_false (by omega)
   by_cases hd : s.data.toList = [46]
   ·have e2 : (s.toList == [46]) = true := by rw [one_dot]; exact decide_eq_true hd
    have HN : Hid (nameB s.data.toList = false) := nameB_no (fun hh => hh.2.2.1 hd)
    clear h0 h31 hd
    go_enter Tryz.func88, Tryz.ntmps88
    go_wp2
    go_ret
    exact ⟨ret_val (congrArg Value.bool HN.out.symm), rfl⟩
   ·have e2 : (s.toList == [46]) = false := by rw [one_dot]; exact decide_eq_false hd
    by_cases hd2 : s.data.toList = [46, 46]
    ·have e3 : (s.toList == [46, 46]) = true := by rw [two_dots]; exact decide_eq_true hd2
     have HN : Hid (nameB s.data.toList = false) := nameB_no (fun hh => hh.2.2.2.1 hd2)
     clear h0 h31 hd hd2
     go_enter Tryz.func88, Tryz.ntmps88
     go_wp2
     go_ret
     exact ⟨ret_val (congrArg Value.bool HN.out.symm), rfl⟩
    ·have e3 : (s.toList == [46, 46]) = false := by rw [two_dots]; exact decide_eq_false hd2
     have HO := Lib.hid (show 1 ≤ s.data.toList.length ∧ s.data.toList.length ≤ 31 ∧ s.data.toList ≠ [46] ∧ s.data.toList ≠ [46, 46] from by rw [← Lib.size_eq]; exact ⟨by omega, by omega, hd, hd2⟩)
     clear h0 hd hd2
     go_enter Tryz.func88, Tryz.ntmps88
     go_wp2
     go_loop [3] (fun i => ∃ k : Nat, k ≤ s.size ∧ i = .int .i64 k ∧ CleanTo s.data.toList k) (fun i => s.size - (intOf i).toNat)
     case atStart => exact ⟨0, Nat.zero_le _, rfl, clean_zero _⟩
     case round =>
      obtain ⟨k, hk, rfl, hc⟩ := hrel
      have HC := Lib.hid hc; clear hc
      by_cases hlt : k < s.size
      ·by_cases b0 : s[k] = 0
       ·have c0 : ((s[k].toNat : Int) == 0) = true := by rw [b0]; rfl
        have HN : Hid (nameB s.data.toList = false) := nameB_no (fun hh => hh.2.2.2.2.1 (b0 ▸ mem_at hlt))
        clear b0
        go_wp2
        go_ret
        exact ⟨ret_val (congrArg Value.bool HN.out.symm), rfl⟩
       ·have c0 : ((s[k].toNat : Int) == 0) = false := byte_ne (n := 0) (by decide) b0
        by_cases b47 : s[k] = 47
        ·have c1 : ((s[k].toNat : Int) == 47) = true := by rw [b47]; rfl
         have HN : Hid (nameB s.data.toList = false) := nameB_no (fun hh => hh.2.2.2.2.2 (b47 ▸ mem_at hlt))
         clear b0 b47
         go_wp2
         go_ret
         exact ⟨ret_val (congrArg Value.bool HN.out.symm), rfl⟩
        ·have c1 : ((s[k].toNat : Int) == 47) = false := byte_ne (n := 47) (by decide) b47
         have HS := Lib.hid (clean_step HC.out hlt b0 b47)
         clear b0 b47
         go_wp2
         go_round
         case rel => exact ⟨k + 1, by omega, by go_num, HS.out⟩
         case measure => simp [intOf]; omega
      ·obtain rfl : k = s.size := by omega
       have HN : Hid (nameB s.data.toList = true) := nameB_mk ⟨HO.out.1, HO.out.2.1, HO.out.2.2.1, HO.out.2.2.2, clean_all HC.out⟩
       go_wp2
       go_ret
       exact ⟨ret_val (congrArg Value.bool HN.out.symm), rfl⟩
end Go.Proofs.YtokknppjeckppaaGreatDoor
namespace Go.Proofs.YtokknppjeckppaaGreatDoor
open Go.RowKit
theorem boxed_keep {A B : World} {row : Option Nat} {b : Nat} {t : TypeId} {v : Value} (h : Boxed A b t v) (hg : A.grownBy B row) (hr : ∀ r, row = some r → ∃ o : Obj, A.heap[r]? = some o ∧ o.isCells = false) : Boxed B b t v := by
 refine h.kept hg fun e => ?_
 obtain ⟨o, ho, hc⟩ := hr b e.symm
 rw [show A.heap[b]? = _ from h] at ho; cases ho; cases hc
theorem boxed_set {W : World} {b b' : Nat} {t : TypeId} {v : Value} (h : Boxed W b t v) (v' : Value) (hne : b ≠ b') : Boxed (W.setCell ⟨b', 0, none⟩ v') b t v := by
 refine h.kept (grownBy_setCell' W b' v') (fun e => hne (by cases e; rfl))
theorem three_set {W : World} {b : Nat} {t0 t1 t2 : TypeId} {u0 u1 u2 : Value} (h0 : Boxed W b t0 u0) (h1 : Boxed W (b + 1) t1 u1) (h2 : Boxed W (b + 2) t2 u2) (v0 v1 v2 : Value) :
  let W' := ((W.setCell ⟨b, 0, none⟩ v0).setCell ⟨b + 1, 0, none⟩ v1).setCell ⟨b + 2, 0, none⟩ v2
  Boxed W' b t0 v0 ∧ Boxed W' (b + 1) t1 v1 ∧ Boxed W' (b + 2) t2 v2 ∧ KeepsOthers W W' ∧ Below b W W' := by
 refine ⟨?_, ?_, ?_, ?_, ?_⟩
 ·exact boxed_set (boxed_set (h0.set v0) v1 (by omega)) v2 (by omega)
 ·exact boxed_set ((boxed_set h1 v0 (by omega)).set v1) v2 (by omega)
 ·exact (boxed_set (boxed_set h2 v0 (by omega)) v1 (by omega)).set v2
 ·exact ((KeepsOthers.setCell _ _ _).trans (KeepsOthers.setCell _ _ _)).trans (KeepsOthers.setCell _ _ _)
 ·exact ((((Below.refl b W).setCell (p := ⟨b, 0, none⟩) (Nat.le_refl _) v0)).setCell (p := ⟨b + 1, 0, none⟩) (by simp) v1).setCell (p := ⟨b + 2, 0, none⟩) (by simp) v2
end Go.Proofs.YtokknppjeckppaaGreatDoor
set_option linter.unusedVariables false
namespace Go.Proofs.YtokknppjeckppaaGreatDoor
open Go.RowKit
attribute [local go_sem] Oper.semAt_some
theorem ie_t {a b : Int} (h : a = b) : (a == b) = true := beq_iff_eq.2 h
theorem ie_f {a b : Int} (h : a ≠ b) : (a == b) = false := beq_eq_false_iff_ne.2 h
theorem in_t {a b : Int} (h : a ≠ b) : (a != b) = true := bne_iff_ne.2 h
theorem in_f {a b : Int} (h : a = b) : (a != b) = false := by rw [h]; simp
theorem all_okPt_step {L : List Pt} {k : Nat} (hk : k < L.length) (h : (L.take k).all okPt = true) (hx : okPt L[k] = true) : (L.take (k + 1)).all okPt = true := by
 rw [List.take_succ_eq_append_getElem hk, List.all_append, h]; simpa using hx
theorem sumPt_step {L : List Pt} {k : Nat} (hk : k < L.length) : sumPt (L.take (k + 1)) = sumPt (L.take k) + L[k].n := by
 rw [List.take_succ_eq_append_getElem hk, sumPt_app]; simp [sumPt]
theorem sumPt_bd : ∀ {L : List Pt}, L.all okPt = true → 0 ≤ sumPt L ∧ sumPt L ≤ 4096 * L.length
 | [], _ => by simp [sumPt]
 | p :: L, h => by
  rw [List.all_cons, Bool.and_eq_true] at h
  have h1 := okPt_iff.1 h.1; have h2 := sumPt_bd h.2
  rw [sumPt, List.length_cons]; push_cast; omega
theorem fitFile_no {L : List Pt} {k : Nat} (hk : k < L.length) (hx : okPt L[k] = false) : fitFileB L = false := by
 unfold fitFileB
 rw [Bool.and_eq_false_iff]; left
 rw [List.all_eq_false]
 exact ⟨L[k], List.getElem_mem _, by rw [hx]; decide⟩
theorem okPt_no1 {x : Pt} (h : x.k.size ≠ 32) : okPt x = false := by unfold okPt; rw [decide_eq_false h]; rfl
theorem okPt_no2 {x : Pt} (h : x.n < 1) : okPt x = false := by unfold okPt; rw [decide_eq_false (by omega : ¬ 1 ≤ x.n)]; simp
theorem okPt_no3 {x : Pt} (h : 4096 < x.n) : okPt x = false := by unfold okPt; rw [decide_eq_false (by omega : ¬ x.n ≤ 4096)]; simp
set_option maxRecDepth 100000 in
set_option maxHeartbeats 2000000 in
theorem rfitFile_any (v : Value) (L : List Pt) (w : World) (h : IsParts w v L) (hl : L.length ≤ 1000000) :
  Calls Tryz.prog 62 #[v] w fun e w' => e = .returned (.bool (fitFileB L)) ∧ w = w' := by
 obtain ⟨hm, a, cap, rfl, _, hc⟩ := h
 have hmm : L.length ≤ 9223372036854775807 := by unfold maxLen at hm; omega
 have H := Lib.hid hc
 clear hc hm
 go_enter Tryz.func62, Tryz.ntmps62
 go_wp2
 go_loop [3, 4] (fun n i => ∃ k : Nat, k ≤ L.length ∧ i = .int .i64 k ∧ n = .int .i64 (sumPt (L.take k)) ∧ (L.take k).all okPt = true) (fun _ i => L.length - (intOf i).toNat)
 case atStart => exact ⟨0, Nat.zero_le _, rfl, rfl, rfl⟩
 case round =>
  obtain ⟨k, hk, rfl, rfl, hall⟩ := hrel
  have HA := Lib.hid hall; clear hall
  by_cases hlt : k < L.length
  ·obtain ⟨b, off, rfl, _, g⟩ := H.out (by omega)
   have g1 := g k hlt
   clear g
   obtain ⟨c0, c1⟩ := g1
   have hbk : decide ((k : Int) < (L.length : Int)) = true := by simpa using (show (k : Int) < L.length by omega)
   have HST := Lib.hid (all_okPt_step hlt HA.out)
   have HNO := Lib.hid (fitFile_no hlt)
   have HSU := Lib.hid (sumPt_step hlt)
   have hbd := sumPt_bd HA.out
   rw [List.length_take] at hbd
   obtain ⟨x, hx⟩ : ∃ x, x = L[k] := ⟨_, rfl⟩
   rw [← hx] at c0 c1 HST HNO HSU
   clear hx
   by_cases h1 : x.k.size = 32
   ·have q1 := in_f (show (x.k.size : Int) = 32 by omega)
    by_cases h2 : x.n < 1
    ·have q2 : decide (x.n < 1) = true := decide_eq_true h2
     have HS := Lib.hid (HNO.out (okPt_no2 h2))
     clear h1 h2
     go_wp2
     go_ret
     exact ⟨by rw [HS.out]; rfl, rfl⟩
    ·have q2 : decide (x.n < 1) = false := decide_eq_false h2
     by_cases h3 : 4096 < x.n
     ·have q3 : decide (4096 < x.n) = true := decide_eq_true h3
      have HS := Lib.hid (HNO.out (okPt_no3 h3))
      clear h1 h2 h3
      go_wp2
      go_ret
      exact ⟨by rw [HS.out]; rfl, rfl⟩
     ·have q3 : decide (4096 < x.n) = false := decide_eq_false h3
      have HS := Lib.hid (HST.out (okPt_iff.2 ⟨h1, by omega, by omega⟩))
      have hb2 : -1000000000000 ≤ sumPt (L.take k) + x.n ∧ sumPt (L.take k) + x.n ≤ 1000000000000 := by omega
      clear h1
      go_wp2
      go_round
      case rel => exact ⟨k + 1, by omega, by go_num, by rw [HSU.out], HS.out⟩
      case measure => simp [intOf]; omega
   ·have q1 := in_t (show (x.k.size : Int) ≠ 32 by omega)
    have HS := Lib.hid (HNO.out (okPt_no1 h1))
    clear h1
    go_wp2
    go_ret
    exact ⟨by rw [HS.out]; rfl, rfl⟩
  ·have HS : Hid (fitFileB L = decide (sumPt (L.take k) ≤ 32768)) := show _ = _ by
    have := HA.out
    rw [List.take_of_length_le (by omega)] at this ⊢
    unfold fitFileB; rw [this]; rfl
   go_wp2
   go_ret
   exact ⟨by rw [HS.out]; rfl, rfl⟩
end Go.Proofs.YtokknppjeckppaaGreatDoor
set_option linter.unusedVariables false
namespace Go.Proofs.YtokknppjeckppaaGreatDoor
open Go.RowKit Go.Shelf
theorem infoByte : (Tryz.prog.info? 5).map (fun i => (i.zero, i.size, i.bytes)) = some (some (.int .u8 0), 1, 1) := by kernel_rfl
theorem cellsByte : Tryz.prog.cellsOf 5 = 1 := by kernel_rfl
set_option maxHeartbeats 4000000 in
set_option maxRecDepth 100000 in
theorem stringslite_Clone (s : ByteArray) (w : World) (hlim : s.size ≤ 281474976710656) :
  Calls Tryz.prog 168 #[.string s] w fun e w' => e = .returned (.string s) ∧ Below w.heap.size w w' := by
 by_cases h0 : s.size = 0
 ·have hs : s = ⟨#[]⟩ := by
   apply ByteArray.ext
   exact Array.eq_empty_of_size_eq_zero h0
  subst hs
  go_enter Tryz.func168, Tryz.ntmps168
  go_wp2
  go_ret
  exact ⟨rfl, Below.refl _ _⟩
 ·obtain ⟨i0, hi, hz0, hz1, hz2⟩ := info_parts infoByte
  have hinfo : (Tryz.prog.info? 5).map (fun i => i.size) = some 1 := by rw [hi]; simp [hz1]
  obtain ⟨M, hM⟩ : ∃ M, M = madeCells (Value.int .u8 0).cells (((s.size : Nat) : Int).toNat * i0.size) := ⟨_, rfl⟩
  have hMs : M.size = s.size := by rw [hM, size_madeCells, hz1]; simp
  have hmk : ∀ W : World, (Instr.makeSlice 111 (.int .i64 (s.size : Int)) (.int .i64 (s.size : Int))).run Tryz.prog W = .ok (.slice (some ⟨W.heap.size, 0, none⟩) s.size s.size) (W.alloc (.cells M 5)) := fun W => by
   have h := run_make (P := Tryz.prog) W 111 5 i0 (.int .u8 0) Tryz.underlying111 hi hz0 .i64 .i64 (s.size : Int) (s.size : Int) (by omega) (by omega) (by rw [hz2]; omega) (by omega)
   rw [← hM] at h
   simpa using h
  clear hM
  have hcp := Lib.run_copy_row_string (P := Tryz.prog) (w.alloc (.cells M 5)) 111 9 3 5 w.heap.size 0 s.size s.size s M 5 Tryz.underlying111 hinfo (heap_alloc_new w _) (Nat.le_refl _) (by omega)
  obtain ⟨Y, hY⟩ : ∃ Y, Y = (M.toList.take 0 ++ Lib.byteCells s.data.toList ++ M.toList.drop (0 + s.size)).toArray := ⟨_, rfl⟩
  rw [← hY] at hcp
  have hYl : Y.toList = Lib.byteCells s.data.toList := by
   rw [hY, List.toList_toArray, List.take_zero, List.nil_append, List.drop_of_length_le (by rw [Array.length_toList]; omega), List.append_nil]
  have hYs : Y.size = s.size := by rw [← Array.length_toList, hYl, Lib.byteCells_length, ← Lib.size_eq]
  have hgY : ((w.alloc (.cells M 5)).setRow w.heap.size Y).heap[w.heap.size]? = some (.cells Y 5 (0, 0)) := setRow_heap _ _ M _ 5 (0, 0) (heap_alloc_new w _)
  have hne : s.data.toList ≠ [] := fun e => h0 (by rw [Lib.size_eq, e]; rfl)
  have hUS := Lib.run_unsafeString_row (P := Tryz.prog) ((w.alloc (.cells M 5)).setRow w.heap.size Y) 241 3 9 5 Tryz.underlying241 cellsByte w.heap.size Y.size (by unfold World.shape?; rw [hgY]) s.data.toList hne (by rw [← Lib.size_eq]; omega) (by rw [← Lib.size_eq]; omega)
   (fun j x hx => Lib.cells_of_row hgY Y.size j _ (by rw [List.take_of_length_le (by rw [Array.length_toList]; exact Nat.le_refl _), hYl]; simp [Lib.byteCells, hx]))
  rw [← Lib.size_eq] at hUS
  clear hY
  go_enter Tryz.func168, Tryz.ntmps168
  go_wp2
  go_ret
  have hb1 : Below w.heap.size w (w.alloc (.cells M 5)) := (Below.refl _ w).alloc (Nat.le_refl _) _
  have hb2 : Below w.heap.size (w.alloc (.cells M 5)) ((w.alloc (.cells M 5)).setRow w.heap.size Y) := ⟨rfl, rfl, rfl, by simp, fun k hk => setRow_other _ _ _ _ (by omega)⟩
  exact ⟨rfl, Lib.below_freeze (hb1.trans hb2) (p := ⟨w.heap.size, 0, none⟩) (Nat.le_refl _) _⟩
theorem Clone_any (s : ByteArray) (w : World) (hlim : s.size ≤ 281474976710656) :
  Calls Tryz.prog 163 #[.string s] w fun e w' => e = .returned (.string s) ∧ Below w.heap.size w w' := by
 go_enter Tryz.func163, Tryz.ntmps163
 go_wp2_with (go_at_call 168; refine (stringslite_Clone s w hlim).mono ?_; rintro e w' ⟨rfl, hb⟩)
 go_ret
 exact ⟨rfl, hb⟩
end Go.Proofs.YtokknppjeckppaaGreatDoor
set_option linter.unusedVariables false
namespace Go.Proofs.YtokknppjeckppaaGreatDoor
open Go.RowKit
def left (v : Nat) (pre : List UInt8) (k r : Nat) : Prop := r < 128 ^ (k + 1) ∧ U64 r ∧ vput v = pre ++ vputF (k + 1) r
theorem left_step {v : Nat} {pre : List UInt8} {k r : Nat} (h : left v pre k r) (hr : 128 ≤ r) : left v (pre ++ [UInt8.ofNat (r % 128 + 128)]) (k - 1) (r / 128) := by
 obtain ⟨h1, h2, h3⟩ := h
 obtain ⟨j, rfl⟩ : ∃ j, k = j + 1 := by
  cases k with
  | zero => simp at h1; omega
  | succ j => exact ⟨j, rfl⟩
 refine ⟨?_, h2.div _, ?_⟩
 ·rw [Nat.add_sub_cancel, Nat.div_lt_iff_lt_mul (by decide)]; rw [Nat.pow_succ] at h1; exact h1
 ·rw [h3, vputF_hi hr]; simp
theorem left_len {v : Nat} {pre : List UInt8} {k r : Nat} (h : left v pre k r) : pre.length ≤ 9 := by
 have h1 := vput_len v
 have h2 := vputF_pos k r
 rw [h.2.2, List.length_append] at h1
 omega
theorem left_end {v : Nat} {pre : List UInt8} {k r : Nat} (h : left v pre k r) (hr : r < 128) : vput v = pre ++ [UInt8.ofNat r] := by rw [h.2.2, vputF_lo hr]
theorem ownsRow_slice {w : World} {base : Nat} {e : TypeId} {v : Value} {n : Nat} {xs : List Value} (h : w.ownsRow base e 1 v (n + 1) xs) : ∃ g cap, v = .slice (some ⟨g, 0, none⟩) (n + 1) cap := by
 rcases h.2 with ⟨_, h0⟩ | ⟨g, cap, _, rfl, _⟩
 ·omega
 ·exact ⟨g, cap, rfl⟩
set_option maxRecDepth 100000 in
set_option maxHeartbeats 2000000 in
theorem refPut_any (v : Nat) (hv : U64 v) (w : World) :
  Calls Tryz.prog 64 #[.int .u64 v] w fun e w' => e = .returned (.string ⟨(vput v).toArray⟩) ∧ Below w.heap.size w w' := by
 obtain ⟨i0, hi, hz0, hz1, hz2⟩ := info_parts infoByte
 go_enter Tryz.func64, Tryz.ntmps64
 go_wp2
 go_loopw [0, 3] (fun t s wr => ∃ (pre : List UInt8) (k r : Nat), t = .int .u64 r ∧ left v pre k r ∧ wr.ownsRow w.heap.size 5 1 s pre.length (Lib.byteCells pre) ∧ Below w.heap.size w wr)
  (fun t s _ => (intOf t).toNat)
 case atStart => exact ⟨[], 9, v, rfl, ⟨by unfold U64 at hv; omega, hv, rfl⟩, World.ownsRow_nil _ _ _ _, Below.refl _ _⟩
 case round =>
  obtain ⟨pre, k, r, rfl, hl, hown, hB⟩ := hrel
  have hu : U64 r := hl.2.1
  have hp9 := left_len hl
  have hsz := hB.size
  by_cases h : 128 ≤ r
  ·have hmod : (0 : Int) ≤ (r : Int) % 128 ∧ (r : Int) % 128 < 128 := by omega
   go_wp2_with (at_builtin; refine wpList_append_own _ rfl _ _ 111 rfl w.heap.size 5 i0 (.int .u8 0) 1 1 Tryz.underlying111 hi hz0 hz1 hz2 rfl (by decide) _ _ _ rfl (hown.alloc _) ⟨wr.heap.size, 0, none⟩ 1 1 [.int .u8 ((r : Int) % 128 + 128)] rfl rfl ?c1 ?c2 ?c3 ?c4 ?c5 ?_)
   case c1 =>
    intro j u hj
    match j, hj with
    | 0, hj => simp at hj; subst hj; simp [Addr.add]
   case c2 => intro u hu; simp at hu; subst hu; rfl
   case c3 => unfold maxLen; omega
   case c4 => omega
   case c5 => simp; omega
   intro v' w1 hown' hgrow _
   obtain ⟨g, cap, rfl⟩ := ownsRow_slice hown'
   have hb1 : Below w.heap.size w w1 := (hB.alloc hsz _).grown hgrow (by simp; omega) (fun j hj => (hown.lt j hj).1)
   have hown2 : w1.ownsRow w.heap.size 5 1 (.slice (some ⟨g, 0, none⟩) (pre.length + 1) cap) (pre ++ [UInt8.ofNat (r % 128 + 128)]).length (Lib.byteCells (pre ++ [UInt8.ofNat (r % 128 + 128)])) := by
    rw [Lib.byteCells_append, List.length_append]
    have e : Lib.byteCells [UInt8.ofNat (r % 128 + 128)] = [Value.int .u8 ((r : Int) % 128 + 128)] := by
     simp [Lib.byteCells]; omega
    rw [e]; exact hown'
   have hl2 := left_step hl h
   clear hown hown' hgrow
   have hwd := hu.wrap_div 128
   simp only [Int.cast_ofNat_Int] at hwd
   go_wp2
   go_roundw
   case rel => exact ⟨_, _, _, by go_num, hl2, hown2, hb1⟩
   case measure => simp [intOf]; omega
  ·have hlt : r < 128 := by omega
   have hfin := left_end hl hlt
   have HF := Lib.hid hfin; clear hfin
   go_wp2_with (at_builtin; refine wpList_append_own _ rfl _ _ 111 rfl w.heap.size 5 i0 (.int .u8 0) 1 1 Tryz.underlying111 hi hz0 hz1 hz2 rfl (by decide) _ _ _ rfl (hown.alloc _) ⟨wr.heap.size, 0, none⟩ 1 1 [.int .u8 (r : Int)] rfl rfl ?c1 ?c2 ?c3 ?c4 ?c5 ?_)
   case c1 =>
    intro j u hj
    match j, hj with
    | 0, hj => simp at hj; subst hj; simp [Addr.add]
   case c2 => intro u hu; simp at hu; subst hu; rfl
   case c3 => unfold maxLen; omega
   case c4 => omega
   case c5 => simp; omega
   intro v' w1 hown' hgrow _
   obtain ⟨g, cap, rfl⟩ := ownsRow_slice hown'
   have hb1 : Below w.heap.size w w1 := (hB.alloc hsz _).grown hgrow (by simp; omega) (fun j hj => (hown.lt j hj).1)
   have hown2 : w1.ownsRow w.heap.size 5 1 (.slice (some ⟨g, 0, none⟩) (pre.length + 1) cap) (pre.length + 1) (Lib.byteCells (vput v)) := by
    have e : Lib.byteCells [UInt8.ofNat r] = [Value.int .u8 (r : Int)] := by
     simp [Lib.byteCells]; omega
    rw [HF.out, Lib.byteCells_append, e]; exact hown'
   have hlv : (vput v).length = pre.length + 1 := by rw [HF.out]; simp
   have hcv := run_convert_bytes_back (P := Tryz.prog) w1 111 9 5 ⟨g, 0, none⟩ cap (vput v) Tryz.underlying111 Tryz.underlying5 Tryz.underlying9
    (fun j hj => hown2.cells (g := g) rfl j _ (by simp [Lib.byteCells, hj]))
   rw [hlv] at hcv
   clear hown hown' hgrow hown2 hlv
   go_wp2
   go_ret
   exact ⟨rfl, hb1⟩
end Go.Proofs.YtokknppjeckppaaGreatDoor
set_option linter.unusedVariables false
namespace Go.Proofs.YtokknppjeckppaaGreatDoor
open Go.RowKit Go.Shelf
attribute [local go_sem] Oper.semAt_some
theorem firstBytes_any (s : ByteArray) (w : World) :
  Calls Tryz.prog 169 #[.string s] w fun e w' => e = .returned (.func (.func 172) #[] #[.pointer (some ⟨w.heap.size, 0, none⟩)]) ∧ w' = w.alloc (.cells #[.string s] 9) := by
 go_enter Tryz.func169, Tryz.ntmps169
 go_wp2
 go_ret
 exact ⟨rfl, rfl⟩
abbrev encE (x : Fin 10 × UInt8) : Array Value := #[.int .i64 (x.1.val : Nat), .int .u8 x.2.toNat]
def KeepsBox (B : Nat) (t : TypeId) (v : Value) (W W' : World) : Prop := Boxed W B t v → Boxed W' B t v
theorem upTo_succ {l : List UInt8} {k : Nat} (h1 : k < 10) (h2 : k < l.length) : (enF 0 l).take (k + 1) = (enF 0 l).take k ++ [(⟨k, h1⟩, l[k])] := by
 have hg := enF_get l 0 k (by omega) h2
 have hlt : k < (enF 0 l).length := by rw [enF_length]; omega
 rw [List.take_succ_eq_append_getElem hlt]
 congr 2
 rw [List.getElem?_eq_getElem hlt] at hg
 simpa using hg
theorem upTo_succ' {s : ByteArray} {k : Nat} (h1 : k < 10) (h2 : k < s.size) : (enF 0 s.data.toList).take (k + 1) = (enF 0 s.data.toList).take k ++ [(⟨k, h1⟩, s[k]'h2)] :=
 upTo_succ (l := s.data.toList) h1 h2
set_option maxHeartbeats 1000000 in
set_option maxRecDepth 100000 in
theorem firstBytes1_stops (F : Fence) (n : Nat) (hf : F.fn 172) (hro : F.round = none) (hn : 1 ≤ n) (Bn : Nat) (s : ByteArray) (hs : s.size ≤ maxLen) (w : World) (hB : Boxed w Bn 9 (.string s)) :
  SeqStopsK F n Tryz.prog 172 #[.pointer (some ⟨Bn, 0, none⟩)] encE (KeepsBox Bn 9 (.string s)) (fun xs => xs = enF 0 s.data.toList) (fun pre => pre <+: enF 0 s.data.toList) (enF 0 s.data.toList).length w := fun l J Jx W hW hJ hJx hY h0 => by
 unfold maxLen at hs
 have hb1 : Boxed W Bn 9 (.string s) := (hW.block Bn hB.lt).trans hB
 have hc1 := hb1.cell
 have HS := Lib.hid (Lib.size_eq s)
 refine callsIn_of_wp Tryz.func172 rfl hf ?_ hro
 simp only [Tryz.ntmps172, List.size_toArray, List.length_cons, List.length_nil, Nat.reduceAdd, Nat.reduceSub, Array.replicate_succ, Array.replicate_zero, List.push_toArray, List.append_toArray, List.nil_append, List.cons_append]
 gi_wp2
 gi_loopw [7] (fun p wr => ∃ k : Nat, k ≤ s.size ∧ k ≤ 10 ∧ p = .int .i64 k ∧ J ((enF 0 s.data.toList).take k) wr ∧ Boxed wr Bn 9 (.string s))
  (fun p wr => 10 - (intOf p).toNat)
 case atStart =>
  exact ⟨0, Nat.zero_le _, Nat.zero_le _, rfl, h0, hb1⟩
 case round =>
  obtain ⟨k, hk1, hk2, rfl, hJs, hbx⟩ := hrel
  by_cases hlt : k < s.size ∧ k < 10
  ·obtain ⟨hlt1, hlt2⟩ := hlt
   have hup := upTo_succ' hlt2 hlt1
   have hY1 := hY _ (⟨k, hlt2⟩, s[k]'hlt1) wr hJs (by rw [List.length_take, enF_length, ← HS.out]; omega)
   rw [← hup] at hY1
   have HUP := Lib.hid hup; clear hup
   obtain ⟨fn, tmps, assign, body, hy, hR⟩ := hY1
   simp only [encE] at hy
   have hcx := hbx.cell
   clear hY
   gi_wp2
   refine hR.mono ?_
   rintro e W3 (⟨rfl, hJ3, hk3⟩ | ⟨rfl, hJx3⟩)
   ·gi_wp2
    go_roundw
    case rel => exact ⟨k + 1, by omega, by omega, by go_num, hJ3, hk3 hbx⟩
    case measure => simp [intOf]; omega
   ·gi_wp2
    refine bodyPost_ret (results_none rfl _ _ _) rfl ?_
    exact ⟨⟨_, rfl⟩, .inr ⟨_, List.take_prefix _ _, hJx3⟩⟩
  ·have hmin : ¬ ((k : Int) < min (s.size : Int) 10) := by omega
   have hall : (enF 0 s.data.toList).take k = enF 0 s.data.toList := List.take_of_length_le (by rw [enF_length, ← HS.out]; omega)
   have HALL := Lib.hid hall; clear hall hY
   gi_wp2
   go_end0
   exact ⟨⟨_, rfl⟩, .inl (by rw [← HALL.out]; exact hJs)⟩
def takeI (b : Nat) (pre : List (Fin 10 × UInt8)) (W : World) : Prop :=
 (∀ y ∈ pre, goesOn y) ∧ Boxed W b 83 (.int .u64 0) ∧ Boxed W (b + 1) 3 (.int .i64 0) ∧ Boxed W (b + 2) 33 (.int .i64 0) ∧ Boxed W (b + 3) 83 (.int .u64 (accOf pre))
def takeX (b : Nat) (pre : List (Fin 10 × UInt8)) (W : World) : Prop :=
 ∃ p x, pre = p ++ [x] ∧ (∀ y ∈ p, goesOn y) ∧ endsAt x ∧ Boxed W b 83 (.int .u64 (told (accOf p) x).1) ∧ Boxed W (b + 1) 3 (.int .i64 (told (accOf p) x).2.1) ∧ Boxed W (b + 2) 33 (.int .i64 (told (accOf p) x).2.2)
theorem takeI_own (b : Nat) : Own (takeI b) := fun s A B row hs hg hr =>
 ⟨hs.1, boxed_keep hs.2.1 hg hr, boxed_keep hs.2.2.1 hg hr, boxed_keep hs.2.2.2.1 hg hr, boxed_keep hs.2.2.2.2 hg hr⟩
theorem takeX_own (b : Nat) : Own (takeX b) := by
 rintro s A B row ⟨p, x, h1, h2, h3, h4, h5, h6⟩ hg hr
 exact ⟨p, x, h1, h2, h3, boxed_keep h4 hg hr, boxed_keep h5 hg hr, boxed_keep h6 hg hr⟩
theorem takeOnV {b : Nat} {pre : List (Fin 10 × UInt8)} {x : Fin 10 × UInt8} {W : World} (hgo : ∀ y ∈ pre, goesOn y) (hx : goesOn x)
  (b0 : Boxed W b 83 (.int .u64 0)) (b1 : Boxed W (b + 1) 3 (.int .i64 0)) (b2 : Boxed W (b + 2) 33 (.int .i64 0)) (b3 : Boxed W (b + 3) 83 (.int .u64 (accOf pre))) :
  takeI b (pre ++ [x]) (W.setCell ⟨b + 3, 0, none⟩ (.int .u64 (orstep (accOf pre) x))) := by
 refine ⟨fun y hy => ?_, boxed_set b0 _ (by omega), boxed_set b1 _ (by omega), boxed_set b2 _ (by omega), ?_⟩
 ·rcases List.mem_append.1 hy with h | h
  ·exact hgo y h
  ·obtain rfl := List.mem_singleton.1 h; exact hx
 ·rw [accOf_snoc]; exact b3.set _
theorem told_eq {t q : Int × Int × Int} (h : t = q) : Ending.returned (.tuple #[.int .u64 t.1, .int .i64 t.2.1, .int .i64 t.2.2]) = .returned (.tuple #[.int .u64 q.1, .int .i64 q.2.1, .int .i64 q.2.2]) := by rw [h]
set_option maxRecDepth 100000 in
set_option maxHeartbeats 4000000 in
theorem Take_any (s : ByteArray) (hs : s.size ≤ maxLen) (w : World) :
  Calls Tryz.prog 164 #[.string s] w fun e w' => e = .returned (.tuple #[.int .u64 ((vtake s.data.toList).1 : Nat), .int .i64 ((vtake s.data.toList).2.1 : Nat), .int .i64 ((vtake s.data.toList).2.2 : Nat)]) ∧ Below w.heap.size w w' := by
 refine (callsIn_wide (n := 5)).1 ?_
 have hro : Fence.wide.round = none := rfl
 refine callsIn_of_wp_marks Tryz.func164 rfl trivial ?_ hro
 simp only [Tryz.ntmps164, List.size_toArray, List.length_cons, List.length_nil, Nat.reduceAdd, Nat.reduceSub, Array.replicate_succ, Array.replicate_zero, List.push_toArray, List.append_toArray, List.nil_append, List.cons_append]
 gi_wp2_with (refine ⟨trivial, ?_⟩; gi_at_call 169; refine (callsIn_wide.2 (firstBytes_any s _)).mono ?_; rintro e w' ⟨rfl, rfl⟩)
 have hB0 : Below w.heap.size w (((((w.alloc (.cells #[.int .u64 0] 83)).alloc (.cells #[.int .i64 0] 3)).alloc (.cells #[.int .i64 0] 33)).alloc (.cells #[.int .u64 0] 83)).alloc (.cells #[.string s] 9)) :=
  (((((Below.refl _ w).alloc (Nat.le_refl _) _).alloc (by simp) _).alloc (by simp; omega) _).alloc (by simp; omega) _).alloc (by simp; omega) _
 have hs0 := Boxed.new ((((w.alloc (.cells #[.int .u64 0] 83)).alloc (.cells #[.int .i64 0] 3)).alloc (.cells #[.int .i64 0] 33)).alloc (.cells #[.int .u64 0] 83)) 9 (.string s)
 have hI0 : takeI w.heap.size [] (((((w.alloc (.cells #[.int .u64 0] 83)).alloc (.cells #[.int .i64 0] 3)).alloc (.cells #[.int .i64 0] 33)).alloc (.cells #[.int .u64 0] 83)).alloc (.cells #[.string s] 9)) := by
  have h0 := ((((Boxed.new w 83 (.int .u64 0)).alloc (.cells #[.int .i64 0] 3)).alloc (.cells #[.int .i64 0] 33)).alloc (.cells #[.int .u64 0] 83)).alloc (.cells #[.string s] 9)
  have h1 := (((Boxed.new (w.alloc (.cells #[.int .u64 0] 83)) 3 (.int .i64 0)).alloc (.cells #[.int .i64 0] 33)).alloc (.cells #[.int .u64 0] 83)).alloc (.cells #[.string s] 9)
  have h2 := ((Boxed.new ((w.alloc (.cells #[.int .u64 0] 83)).alloc (.cells #[.int .i64 0] 3)) 33 (.int .i64 0)).alloc (.cells #[.int .u64 0] 83)).alloc (.cells #[.string s] 9)
  have h3 := (Boxed.new (((w.alloc (.cells #[.int .u64 0] 83)).alloc (.cells #[.int .i64 0] 3)).alloc (.cells #[.int .i64 0] 33)) 83 (.int .u64 0)).alloc (.cells #[.string s] 9)
  simp only [World.size_alloc] at h0 h1 h2 h3
  exact ⟨by simp, h0, h1, h2, h3⟩
 simp only [World.size_alloc] at hs0
 have hs0' : Boxed (((((w.alloc (.cells #[.int .u64 0] 83)).alloc (.cells #[.int .i64 0] 3)).alloc (.cells #[.int .i64 0] 33)).alloc (.cells #[.int .u64 0] 83)).alloc (.cells #[.string s] 9)) (w.heap.size + 4) 9 (.string s) := hs0
 refine wpIn_rangeFunc_ownF hro (by decide) (gf := 172) (lb := #[.pointer (some ⟨w.heap.size + 4, 0, none⟩)]) rfl trivial (enters_of Tryz.func172 (by kernel_rfl) rfl)
  (firstBytes1_stops Fence.wide 4 trivial hro (by decide) (w.heap.size + 4) s hs _ hs0') (fun h k => fun x => k (h x)) (fun W l o o' hl h _ _ hb => hb.kept (grownBy_putObj' W l o') (fun e => by cases e; simp at hl; omega)) (Below.refl _ _) (fun _ => rfl)
  (fun pre W => takeI w.heap.size pre W ∧ Below w.heap.size w W)
  (fun c pre W => (c = .ret ∧ takeX w.heap.size pre W) ∧ Below w.heap.size w W)
  (OwnFrom.and (Own.from (takeI_own _) _) (ownFrom_below (Nat.le_refl _) (by simp; omega)))
  (fun c => OwnFrom.and (Own.from (fun s A B row hs hg hr => ⟨hs.1, takeX_own _ s A B row hs.2 hg hr⟩) _) (ownFrom_below (Nat.le_refl _) (by simp; omega)))
  ⟨hI0, hB0⟩
  (fun x => { tmps := #[.string s, undef, .pointer (some ⟨w.heap.size, 0, none⟩), .pointer (some ⟨w.heap.size + 1, 0, none⟩), .pointer (some ⟨w.heap.size + 2, 0, none⟩), .pointer (some ⟨w.heap.size + 3, 0, none⟩), .int .i64 (x.1.val : Nat), .int .u8 x.2.toNat, .string s, .func (.func 172) #[] #[.pointer (some ⟨w.heap.size + 4, 0, none⟩)], .int .i64 (x.1.val : Nat), .int .u8 x.2.toNat, undef, undef, undef, undef, undef, undef, undef, undef, undef, undef, undef, undef, undef, undef, undef, undef, undef, undef, undef, undef, undef, undef, undef, undef, undef], defers := [] }) ?assign ?body ?done ?stop
 case assign =>
  intro l x W K hK
  gi_wp2
  exact hK
 case body =>
  rintro l pre ⟨⟨i, hi⟩, b⟩ W ⟨⟨hgo, b0, b1, b2, b3⟩, hB⟩ hlen
  have c0 := b0.cell; have c1 := b1.cell; have c2 := b2.cell; have c3 := b3.cell
  have f0 := b0.frozen; have f1 := b1.frozen; have f2 := b2.frozen; have f3 := b3.frozen
  have hbb : b.toNat < 256 := b.toNat_lt
  clear hB0 hs0 hs0' hI0
  by_cases hA : i = 9 ∧ 1 < b.toNat
  ·obtain ⟨h9, h1⟩ := hA
   have h9' : (((i : Nat) : Int) == 9) = true := by rw [h9]; rfl
   have H9 := Lib.hid h9; clear h9
   gi_wp2
   obtain ⟨q0, q1, q2, q3, q4⟩ := three_set b0 b1 b2 (.int .u64 0) (.int .i64 0) (.int .i64 4)
   have ht : told (accOf pre) (⟨i, hi⟩, b) = (0, 0, 4) := by simp only [told]; rw [if_pos ⟨H9.out, h1⟩]
   exact ⟨q3, ⟨rfl, pre, _, rfl, hgo, .inl ⟨H9.out, h1⟩, by rw [ht]; exact q0, by rw [ht]; exact q1, by rw [ht]; exact q2⟩, hB.trans q4⟩
  ·have hAw : (((i : Nat) : Int) == 9) = false ∨ ((((i : Nat) : Int) == 9) = true ∧ b.toNat ≤ 1) := by
    by_cases h9 : i = 9
    ·right; exact ⟨by rw [h9]; rfl, by omega⟩
    ·left; exact beq_eq_false_iff_ne.2 (by omega)
   have HA := Lib.hid hA; clear hA
   have hsh := take_shift b hi
   gi_upto_region 5 with fail
   dsimp only
   gi_cut [17] from 12 (fun s17 wx => s17 = .bool false ∧ W = wx)
   case first =>
    rcases hAw with h9' | ⟨h9', hb1⟩
    ·gi_wp2; gi_meet; exact ⟨rfl, rfl⟩
    ·have hng : ¬ (1 : Int) < (b.toNat : Int) := by omega
     have hd : decide ((1 : Int) < (b.toNat : Int)) = false := decide_eq_false hng
     gi_wp2; gi_meet; exact ⟨by simp, rfl⟩
   case rest =>
    obtain ⟨rfl, rfl⟩ := hcut
    clear hAw
    gi_upto_region 7 with fail
    gi_cut [] from 12 (fun wx => wx = (W.setCell ⟨w.heap.size + 3, 0, none⟩ (.int .u64 (orstep (accOf pre) (⟨i, hi⟩, b)))).drew)
    case first =>
     gi_region
     all_goals (gi_wp2; gi_meet; exact rfl)
    case rest =>
     subst hcut
     clear hsh
     have hon : 128 ≤ b.toNat → takeI w.heap.size (pre ++ [(⟨i, hi⟩, b)]) ((W.setCell ⟨w.heap.size + 3, 0, none⟩ (.int .u64 (orstep (accOf pre) (⟨i, hi⟩, b)))).drew) := fun h128 => takeOnV (b := w.heap.size) (x := (⟨i, hi⟩, b)) hgo ⟨h128, HA.out⟩ b0 b1 b2 b3
     have e0 : Boxed ((W.setCell ⟨w.heap.size + 3, 0, none⟩ (.int .u64 (orstep (accOf pre) (⟨i, hi⟩, b)))).drew) w.heap.size 83 (.int .u64 0) := boxed_set b0 _ (by omega)
     have e1 : Boxed ((W.setCell ⟨w.heap.size + 3, 0, none⟩ (.int .u64 (orstep (accOf pre) (⟨i, hi⟩, b)))).drew) (w.heap.size + 1) 3 (.int .i64 0) := boxed_set b1 _ (by omega)
     have e2 : Boxed ((W.setCell ⟨w.heap.size + 3, 0, none⟩ (.int .u64 (orstep (accOf pre) (⟨i, hi⟩, b)))).drew) (w.heap.size + 2) 33 (.int .i64 0) := boxed_set b2 _ (by omega)
     have e3 : Boxed ((W.setCell ⟨w.heap.size + 3, 0, none⟩ (.int .u64 (orstep (accOf pre) (⟨i, hi⟩, b)))).drew) (w.heap.size + 3) 83 (.int .u64 (orstep (accOf pre) (⟨i, hi⟩, b))) := b3.set _
     have hk : KeepsOthers W ((W.setCell ⟨w.heap.size + 3, 0, none⟩ (.int .u64 (orstep (accOf pre) (⟨i, hi⟩, b)))).drew) := (KeepsOthers.setCell _ _ _).trans (KeepsOthers.drew _)
     have hbl : Below w.heap.size W ((W.setCell ⟨w.heap.size + 3, 0, none⟩ (.int .u64 (orstep (accOf pre) (⟨i, hi⟩, b)))).drew) := Below.drew ((Below.refl w.heap.size W).setCell (p := ⟨w.heap.size + 3, 0, none⟩) (by simp) _)
     have hbx : KeepsBox (w.heap.size + 4) 9 (.string s) W ((W.setCell ⟨w.heap.size + 3, 0, none⟩ (.int .u64 (orstep (accOf pre) (⟨i, hi⟩, b)))).drew) := fun hx => boxed_set hx _ (by omega)
     generalize (W.setCell ⟨w.heap.size + 3, 0, none⟩ (.int .u64 (orstep (accOf pre) (⟨i, hi⟩, b)))).drew = W1 at *
     clear b0 b1 b2 b3 c0 c1 c2 c3 f0 f1 f2 f3
     have c0 := e0.cell; have c1 := e1.cell; have c2 := e2.cell; have c3 := e3.cell
     have f0 := e0.frozen; have f1 := e1.frozen; have f2 := e2.frozen; have f3 := e3.frozen
     by_cases h128 : 128 ≤ b.toNat
     ·have hon' := hon h128
      clear hon
      gi_wp2
      exact ⟨hk, hbx, hon', hB.trans hbl⟩
     ·have hge : ¬ (128 : Int) ≤ (b.toNat : Int) := by omega
      have hend : endsAt (⟨i, hi⟩, b) := .inr (by show b.toNat < 128; omega)
      clear hon
      by_cases h0 : b.toNat = 0 ∧ 0 < i
      ·have hz' : ((b.toNat : Int) == 0) = true := by rw [h0.1]; rfl
       have hi0 : (0 : Int) < (i : Int) := by omega
       have ht : told (accOf pre) (⟨i, hi⟩, b) = (0, 0, 2) := by simp only [told]; rw [if_neg HA.out, if_pos h0]
       have HT := Lib.hid ht
       obtain ⟨q0, q1, q2, q3, q4⟩ := three_set e0 e1 e2 (.int .u64 0) (.int .i64 0) (.int .i64 2)
       clear ht h0
       gi_wp2
       exact ⟨hk.trans q3, ⟨rfl, pre, _, rfl, hgo, hend, by rw [HT.out]; exact q0, by rw [HT.out]; exact q1, by rw [HT.out]; exact q2⟩, hB.trans (hbl.trans q4)⟩
      ·have ht : told (accOf pre) (⟨i, hi⟩, b) = (orstep (accOf pre) (⟨i, hi⟩, b), (i : Int) + 1, 0) := by simp only [told]; rw [if_neg HA.out, if_neg h0]
       have HT := Lib.hid ht
       obtain ⟨q0, q1, q2, q3, q4⟩ := three_set e0 e1 e2 (.int .u64 (orstep (accOf pre) (⟨i, hi⟩, b))) (.int .i64 ((i : Int) + 1)) (.int .i64 0)
       have hw : (((b.toNat : Int) == 0) = false) ∨ (((b.toNat : Int) == 0) = true ∧ ¬ (0 : Int) < (i : Int)) := by
        by_cases hz : b.toNat = 0
        ·right; exact ⟨by rw [hz]; rfl, by omega⟩
        ·left; exact beq_eq_false_iff_ne.2 (by omega)
       clear ht h0
       rcases hw with hw | ⟨hw, hw2⟩
       all_goals
        gi_wp2
        exact ⟨hk.trans q3, ⟨rfl, pre, _, rfl, hgo, hend, by rw [HT.out]; exact q0, by rw [HT.out]; exact q1, by rw [HT.out]; exact q2⟩, hB.trans (hbl.trans q4)⟩
 case done =>
  rintro D xs W hD rfl ⟨⟨hgo, b0, b1, b2, b3⟩, hB⟩ hK
  have c0 := b0.cell; have c1 := b1.cell; have c2 := b2.cell
  have f0 := b0.frozen; have f1 := b1.frozen; have f2 := b2.frozen
  obtain ⟨q0, q1, q2, q3, q4⟩ := three_set b0 b1 b2 (.int .u64 0) (.int .i64 0) (.int .i64 1)
  have HT := Lib.hid (take_done hgo)
  clear hB0 hs0 hs0' hI0 hgo
  gi_wp2
  have hK' := q3.same D _ hK rfl
  refine ⟨by simp, .inl ⟨_, _, rfl, run_takeDeferred hK', ?_⟩⟩
  have d0 := cell_kept q0.cell (grownBy_putObj' _ D (.deferred none)) (fun r e => by cases e; exact ⟨_, hK', rfl⟩)
  have d1 := cell_kept q1.cell (grownBy_putObj' _ D (.deferred none)) (fun r e => by cases e; exact ⟨_, hK', rfl⟩)
  have d2 := cell_kept q2.cell (grownBy_putObj' _ D (.deferred none)) (fun r e => by cases e; exact ⟨_, hK', rfl⟩)
  refine ⟨.tuple #[.int .u64 0, .int .i64 0, .int .i64 1], ?_, by rw [HT.out]; rfl, ((hB.trans q4).trans (belowK_b (w := w) (Nat.le_refl _) _ D _ _ (by simp at hD; omega) hK' rfl rfl))⟩
  simp [results, Tryz.f164, go_sem, d0, d1, d2]
 case stop =>
  rintro D c pre W hD hpre ⟨⟨rfl, p, x, hpx, hgo, hend, q0, q1, q2⟩, hB⟩ hK
  have HT := Lib.hid (take_end (by rw [← hpx]; exact hpre) hgo hend)
  clear hB0 hs0 hs0' hI0 hgo hend hpre hpx
  gi_wp2
  refine ⟨by simp, .inl ⟨_, _, rfl, run_takeDeferred hK, ?_⟩⟩
  have d0 := cell_kept q0.cell (grownBy_putObj' _ D (.deferred none)) (fun r e => by cases e; exact ⟨_, hK, rfl⟩)
  have d1 := cell_kept q1.cell (grownBy_putObj' _ D (.deferred none)) (fun r e => by cases e; exact ⟨_, hK, rfl⟩)
  have d2 := cell_kept q2.cell (grownBy_putObj' _ D (.deferred none)) (fun r e => by cases e; exact ⟨_, hK, rfl⟩)
  refine ⟨.tuple #[.int .u64 (told (accOf p) x).1, .int .i64 (told (accOf p) x).2.1, .int .i64 (told (accOf p) x).2.2], ?_, told_eq HT.out, (hB.trans (belowK_b (w := w) (Nat.le_refl _) W D _ _ (by simp at hD; omega) hK rfl rfl))⟩
  clear HT
  generalize told (accOf p) x = y at *
  simp [results, Tryz.f164, go_sem, d0, d1, d2]
end Go.Proofs.YtokknppjeckppaaGreatDoor
set_option linter.unusedVariables false
namespace Go.Proofs.YtokknppjeckppaaGreatDoor
open Go.RowKit
theorem bytes_append (a : List UInt8) (s : ByteArray) : (⟨a.toArray⟩ : ByteArray) ++ s = ⟨(a ++ s.data.toList).toArray⟩ := by
 apply ByteArray.ext
 rw [ByteArray.data_append]
 simp
set_option maxRecDepth 100000 in
theorem refPutText_any (s : ByteArray) (hs : s.size ≤ maxLen) (w : World) :
  Calls Tryz.prog 65 #[.string s] w fun e w' => e = .returned (.string ⟨(vputText s.data.toList).toArray⟩) ∧ Below w.heap.size w w' := by
 have hsm : s.size ≤ 9223372036854775807 := by unfold maxLen at hs; omega
 have HS := Lib.hid (Lib.size_eq s)
 by_cases h : s.size ≤ 65536
 ·have hu : U64 s.size := by unfold U64; omega
  have hv : vputText s.data.toList = vput s.size ++ s.data.toList := by rw [vputText, if_neg (by rw [← HS.out]; omega), ← HS.out]
  have HV := Lib.hid hv; clear hv
  have hl := vput_len s.size
  have hsum : ¬ 9223372036854775807 < (vput s.size).length + s.size := by omega
  go_enter Tryz.func65, Tryz.ntmps65
  go_wp2_with (go_at_call 64; refine (refPut_any _ hu _).mono ?_; rintro e w' ⟨rfl, hb⟩)
  go_ret
  exact ⟨by rw [HV.out]; exact congrArg (fun x => Ending.returned (.string x)) (bytes_append _ s), hb⟩
 ·have hv : vputText s.data.toList = [] := by rw [vputText, if_pos (by rw [← HS.out]; omega)]
  have HV := Lib.hid hv; clear hv
  go_enter Tryz.func65, Tryz.ntmps65
  go_wp2
  go_ret
  exact ⟨by rw [HV.out]; rfl, Below.refl _ _⟩
theorem takeText_of {l : List UInt8} {n k e : Nat} (h : vtake l = (n, k, e)) :
  vtakeText l = if e ≠ 0 then ([], 0, e) else if 65536 < n then ([], 0, 4) else if l.length < k + n then ([], 0, 1) else ((l.drop k).take n, k + n, 0) := by
 rw [vtakeText, h]
theorem three_of {a b c d e f : Value} (h1 : b = e ∧ c = f) (h : a = d) : Ending.returned (.tuple #[a, b, c]) = .returned (.tuple #[d, e, f]) := by rw [h, h1.1, h1.2]
theorem piece_eq (s : ByteArray) (k n : Nat) : Value.string (s.extract k (k + n)) = .string ⟨((s.data.toList.drop k).take n).toArray⟩ := by
 rw [Lib.extract_eq]; congr 4; omega
theorem run_slice_nat {P : Program} {t : TypeId} (ht : P.underlying t = some .string) (s : ByteArray) (k n : Nat) (h : k + n ≤ s.size) (w : World) :
  (Instr.slice t (.string s) (some (.int .i64 (k : Int))) (some (.int .i64 ((k : Int) + (n : Int)))) none).run P w = .ok (.string (s.extract k (k + n))) w := by
 have := run_slice_str ht s k ((k : Int) + n) (by omega) (by omega) (by omega) w
 rw [this]; congr 3 <;> omega
set_option maxRecDepth 100000 in
set_option maxHeartbeats 1000000 in
theorem TakeText_any (s : ByteArray) (hs : s.size ≤ maxLen) (w : World) :
  Calls Tryz.prog 170 #[.string s] w fun e w' => e = .returned (.tuple #[.string ⟨(vtakeText s.data.toList).1.toArray⟩, .int .i64 ((vtakeText s.data.toList).2.1 : Nat), .int .i64 ((vtakeText s.data.toList).2.2 : Nat)]) ∧ Below w.heap.size w w' := by
 have hsm : s.size ≤ 9223372036854775807 := by unfold maxLen at hs; omega
 have HS := Lib.hid (Lib.size_eq s)
 have hc := Take_any s hs w
 obtain ⟨n, k, e, hv⟩ : ∃ n k e, vtake s.data.toList = (n, k, e) := ⟨_, _, _, rfl⟩
 rw [hv] at hc
 have HV := Lib.hid (takeText_of hv)
 by_cases he : e = 0
 ·subst he
  obtain ⟨h1, h2, h3, h4, h5⟩ := put_take hv
  clear h1
  rw [← HS.out] at h3
  by_cases hn : n ≤ 65536
  ·by_cases hl : s.size < k + n
   ·have HR := Lib.hid (show vtakeText s.data.toList = ([], 0, 1) by rw [HV.out, if_neg (by simp), if_neg (by omega), if_pos (by rw [← HS.out]; exact hl)])
    clear hv
    go_enter Tryz.func170, Tryz.ntmps170
    go_wp2_with (go_at_call 164; refine hc.mono ?_; rintro e w' ⟨rfl, hb⟩)
    go_ret3
    exact ⟨by rw [HR.out]; rfl, hb⟩
   ·have HR := Lib.hid (show vtakeText s.data.toList = ((s.data.toList.drop k).take n, k + n, 0) by rw [HV.out, if_neg (by simp), if_neg (by omega), if_neg (by rw [← HS.out]; exact hl)])
    clear hv
    have hpc : (s.extract k (k + n)).size ≤ 281474976710656 := by rw [ByteArray.size_extract]; omega
    have hsl := fun W => run_slice_nat (P := Tryz.prog) Tryz.underlying9 s k n (by omega) W
    go_enter Tryz.func170, Tryz.ntmps170
    go_wp2_with (first | (go_at_call 164; refine hc.mono ?_; rintro e w' ⟨rfl, hb⟩) | (go_at_call 163; refine (Clone_any _ _ hpc).mono ?_; rintro e w2 ⟨rfl, hb2⟩))
    go_ret3
    exact ⟨by rw [HR.out]; exact three_of ⟨congrArg (Value.int .i64) (Int.natCast_add k n).symm, rfl⟩ (piece_eq s k n), hb.trans (hb2.mono hb.size)⟩
  ·have HR := Lib.hid (show vtakeText s.data.toList = ([], 0, 4) by rw [HV.out, if_neg (by simp), if_pos (by omega)])
   clear hv
   have hn' : (65536 : Int) < (n : Int) := by omega
   go_enter Tryz.func170, Tryz.ntmps170
   go_wp2_with (go_at_call 164; refine hc.mono ?_; rintro e w' ⟨rfl, hb⟩)
   go_ret3
   exact ⟨by rw [HR.out]; rfl, hb⟩
 ·obtain ⟨rfl, rfl, he4⟩ := vtake_err hv he
  have HR := Lib.hid (show vtakeText s.data.toList = ([], 0, e) by rw [HV.out, if_pos he])
  clear hv
  have he' : (!((e : Int) == 0)) = true := by simp; omega
  have he2 : ((e : Int) != 0) = true := by simp; omega
  go_enter Tryz.func170, Tryz.ntmps170
  go_wp2_with (go_at_call 164; refine hc.mono ?_; rintro e w' ⟨rfl, hb⟩)
  go_ret3
  exact ⟨by rw [HR.out]; rfl, hb⟩
end Go.Proofs.YtokknppjeckppaaGreatDoor
set_option linter.unusedVariables false
namespace Go.Proofs.YtokknppjeckppaaGreatDoor
open Go.RowKit
attribute [local go_sem] Oper.semAt_some
abbrev thrV (k : Int) : Value := .iface 156 (.agg #[.int .i64 k])
def Threw (b : Nat) (w : World) (e : Ending) (w' : World) : Prop := (∃ k : Int, e = .panicked [{ v := thrV k, recovered := false }]) ∧ w.grownBy w' (some b)
def Rd (w : World) (b : Nat) (l : List UInt8) : Prop := ∃ S : ByteArray, S.data.toList = l ∧ Row w b #[.string S] 193
def Gave (b : Nat) (w : World) (v : Value) (r : List UInt8) (e : Ending) (w' : World) : Prop := e = .returned v ∧ w.grownBy w' (some b) ∧ Rd w' b r
def RdRet (b : Nat) (w : World) (o : Option (Value × List UInt8)) (e : Ending) (w' : World) : Prop :=
 match o with
 | some x => Gave b w x.1 x.2 e w'
 | none => Threw b w e w'
theorem grownBy_refl (w : World) (r : Option Nat) : w.grownBy w r := ⟨rfl, rfl, rfl, Nat.le_refl _, fun _ _ _ => rfl⟩
theorem grownBy_trans {a b c : World} {r : Option Nat} (h : a.grownBy b r) (k : b.grownBy c r) : a.grownBy c r :=
 ⟨k.os.trans h.os, k.tape.trans h.tape, k.output.trans h.output, Nat.le_trans h.size k.size, fun i hi hr => (k.block i (Nat.lt_of_lt_of_le hi h.size) hr).trans (h.block i hi hr)⟩
theorem grownBy_some {a b : World} {B : Nat} (h : Below a.heap.size a b) : a.grownBy b (some B) := ⟨h.os, h.tape, h.output, h.size, fun k hk _ => h.block k hk⟩
theorem grownBy_then {a b c : World} {r : Option Nat} (h : a.grownBy b r) (k : Below b.heap.size b c) : a.grownBy c r :=
 ⟨k.os.trans h.os, k.tape.trans h.tape, k.output.trans h.output, Nat.le_trans h.size k.size, fun i hi hr => (k.block i (Nat.lt_of_lt_of_le hi h.size)).trans (h.block i hi hr)⟩
theorem grownBy_set (w : World) (b i : Nat) (u : Value) : w.grownBy (w.setCell ⟨b, i, none⟩ u) (some b) :=
 ⟨rfl, rfl, rfl, by simp [World.setCell], fun k hk hr => Below.heap_setCell _ _ _ _ (fun e => hr (by rw [e]))⟩
theorem below_turned {B b : Nat} {a w w' : World} (h : Below B a w) (hg : w.grownBy w' (some b)) (hb : B ≤ b) (hB : B ≤ w.heap.size) : Below B a w' :=
 h.grown hg hB (fun k hk => by cases hk; exact hb)
theorem Rd.stays {w w' : World} {b : Nat} {l : List UInt8} (h : Rd w b l) (hb : Below w.heap.size w w') : Rd w' b l := by
 obtain ⟨S, h1, h2⟩ := h; exact ⟨S, h1, h2.step hb⟩
theorem Rd.lt {w : World} {b : Nat} {l : List UInt8} (h : Rd w b l) : b < w.heap.size := by obtain ⟨S, h1, h2⟩ := h; exact h2.lt
theorem Rd.of {w : World} {b : Nat} {S : ByteArray} (h : Row w b #[.string S] 193) {l : List UInt8} (e : S.data.toList = l) : Rd w b l := ⟨S, e, h⟩
theorem rd_set {w : World} {b : Nat} {S : ByteArray} (h : Row w b #[.string S] 193) (T : ByteArray) : Row (w.setCell ⟨b, 0, none⟩ (.string T)) b #[.string T] 193 := by
 have := h.set 0 (.string T); simpa using this
theorem drop_str (S : ByteArray) (k : Nat) : (S.extract k S.size).data.toList = S.data.toList.drop k := by
 rw [Lib.extract_data, Lib.size_eq]
 exact List.take_of_length_le (by rw [List.length_drop]; omega)
theorem take_str (S : ByteArray) (k : Nat) : (S.extract 0 k).data.toList = S.data.toList.take k := by rw [Lib.extract_data]; simp
theorem pass_ok (b : Nat) (S : ByteArray) (k : Nat) (hk : k ≤ S.size) (w : World) (hR : Row w b #[.string S] 193) :
  Calls Tryz.prog 165 #[.pointer (some ⟨b, 0, none⟩), .int .i64 k, .int .i64 0] w fun e w' => e = .returned (.tuple #[]) ∧ w' = w.setCell ⟨b, 0, none⟩ (.string (S.extract k S.size)) := by
 have c0 := hR.cell 0
 have f0 := hR.free 0
 simp only [List.getElem?_toArray, List.getElem?_cons_zero] at c0
 have hs := fun W => run_slice_from (P := Tryz.prog) Tryz.underlying9 S k hk W
 go_enter Tryz.func165, Tryz.ntmps165
 go_wp2
 go_end0
 exact ⟨rfl, rfl⟩
theorem pass_no (b : Nat) (v : Value) (k : Int) (hk : k ≠ 0) (w : World) :
  Calls Tryz.prog 165 #[.pointer (some ⟨b, 0, none⟩), v, .int .i64 k] w (Threw b w) := by
 have q := in_t hk
 go_enter Tryz.func165, Tryz.ntmps165
 go_wp2
 exact ⟨rfl, ⟨k, rfl⟩, grownBy_refl _ _⟩
theorem end_ok (b : Nat) (w : World) (hR : Rd w b []) :
  Calls Tryz.prog 131 #[.pointer (some ⟨b, 0, none⟩)] w fun e w' => e = .returned (.tuple #[]) ∧ w' = w := by
 obtain ⟨S, hS, hR⟩ := hR
 have c0 := hR.cell 0
 simp only [List.getElem?_toArray, List.getElem?_cons_zero] at c0
 have q : (!S.toList.isEmpty) = false := by rw [Lib.toList_data, hS]; rfl
 have q2 : S.toList.isEmpty = true := by rw [Lib.toList_data, hS]; rfl
 have HS := Lib.hid hS; clear hS
 go_enter Tryz.func131, Tryz.ntmps131
 go_wp2
 go_end0
 exact ⟨rfl, rfl⟩
theorem end_no (b : Nat) (l : List UInt8) (hl : l ≠ []) (w : World) (hR : Rd w b l) :
  Calls Tryz.prog 131 #[.pointer (some ⟨b, 0, none⟩)] w (Threw b w) := by
 obtain ⟨S, hS, hR⟩ := hR
 have c0 := hR.cell 0
 simp only [List.getElem?_toArray, List.getElem?_cons_zero] at c0
 have q2 : S.toList.isEmpty = false := by rw [Lib.toList_data, hS]; cases l with | nil => exact absurd rfl hl | cons => rfl
 have q : (!S.toList.isEmpty) = true := by rw [q2]; rfl
 have HS := Lib.hid hS; clear hS
 go_enter Tryz.func131, Tryz.ntmps131
 go_wp2
 exact ⟨rfl, ⟨2, rfl⟩, grownBy_refl _ _⟩
def oTake (n : Nat) (l : List UInt8) : Option (Value × List UInt8) := if n ≤ l.length then some (.string ⟨(l.take n).toArray⟩, l.drop n) else none
set_option maxRecDepth 100000 in
set_option maxHeartbeats 1000000 in
theorem take_any (b n : Nat) (l : List UInt8) (hl : l.length ≤ 1000000) (w : World) (hR : Rd w b l) :
  Calls Tryz.prog 151 #[.pointer (some ⟨b, 0, none⟩), .int .i64 n] w (RdRet b w (oTake n l)) := by
 obtain ⟨S, hS, hR⟩ := hR
 have c0 := hR.cell 0
 have f0 := hR.free 0
 simp only [List.getElem?_toArray, List.getElem?_cons_zero] at c0
 have hsz : S.size = l.length := by rw [Lib.size_eq, hS]
 by_cases h : n ≤ l.length
 ·have hO : Hid (oTake n l = some (.string ⟨(l.take n).toArray⟩, l.drop n)) := if_pos h
  have hk : n ≤ S.size := by omega
  have hs1 := fun W => run_slice_to (P := Tryz.prog) Tryz.underlying9 S n hk W
  have hs2 := fun W => run_slice_from (P := Tryz.prog) Tryz.underlying9 S n hk W
  have q : decide (S.size < n) = false := decide_eq_false (by omega)
  obtain ⟨T, hT⟩ : ∃ T, T = S.extract 0 n := ⟨_, rfl⟩
  have hT2 : T = ⟨(l.take n).toArray⟩ := str_eq' (by rw [hT, take_str, hS])
  rw [← hT] at hs1
  have CL := Lib.hid (Clone_any T (w := w.setCell ⟨b, 0, none⟩ (.string (S.extract n S.size))) (by rw [hT2]; simp [ByteArray.size]; omega))
  have HT := Lib.hid hT2; have HS := Lib.hid hS; have HR := Lib.hid hR
  clear hT hT2 hS hR hsz
  go_enter Tryz.func151, Tryz.ntmps151
  go_wp2_with fail
  refine CL.out.mono ?_
  rintro e w1 ⟨rfl, hb⟩
  go_wp2
  go_ret
  rw [hO.out]
  refine ⟨by rw [HT.out]; rfl, grownBy_then (grownBy_set _ _ _ _) hb, ?_⟩
  exact (Rd.of (rd_set HR.out _) (by rw [drop_str, HS.out])).stays hb
 ·have hO : Hid (oTake n l = none) := if_neg h
  have q : decide (S.size < n) = true := decide_eq_true (by omega)
  have HS := Lib.hid hS; clear hS hsz
  go_enter Tryz.func151, Tryz.ntmps151
  go_wp2
  refine ⟨rfl, ?_⟩
  rw [hO.out]
  exact ⟨⟨1, rfl⟩, grownBy_refl _ _⟩
def oKind (l : List UInt8) : Option (Value × List UInt8) := match l with | [] => none | c :: r => some (.int .i64 c.toNat, r)
set_option maxRecDepth 100000 in
set_option maxHeartbeats 1000000 in
theorem kind_any (b : Nat) (l : List UInt8) (hl : l.length ≤ 1000000) (w : World) (hR : Rd w b l) :
  Calls Tryz.prog 150 #[.pointer (some ⟨b, 0, none⟩)] w (RdRet b w (oKind l)) := by
 have TA := Lib.hid (take_any b 1 l hl w hR)
 cases l with
 | nil =>
  go_enter Tryz.func150, Tryz.ntmps150
  go_wp2_with fail
  refine TA.out.mono ?_
  rintro e w1 ⟨⟨k, rfl⟩, hg⟩
  go_wp2
  exact ⟨rfl, ⟨k, rfl⟩, hg⟩
 | cons c r =>
  have hT : Hid (oTake 1 (c :: r) = some (.string ⟨#[c]⟩, r)) := show _ = _ by unfold oTake; rw [if_pos (by simp)]; rfl
  rw [hT.out] at TA
  have h1 : (⟨#[c]⟩ : ByteArray).size = 1 := rfl
  have hc := c.toNat_lt
  have h2 : (⟨#[c]⟩ : ByteArray)[0] = c := rfl
  go_enter Tryz.func150, Tryz.ntmps150
  go_wp2_with fail
  refine TA.out.mono ?_
  rintro e w1 ⟨rfl, hg, hR1⟩
  have HR1 := Lib.hid hR1; have HG := Lib.hid hg
  clear hR1 hg
  go_wp2
  go_ret
  exact ⟨rfl, HG.out, HR1.out⟩
def oNumber (l : List UInt8) : Option (Value × List UInt8) := if (vtake l).2.2 ≠ 0 then none else some (.int .u64 ((vtake l).1 : Nat), l.drop (vtake l).2.1)
set_option maxRecDepth 100000 in
set_option maxHeartbeats 1000000 in
theorem number_any (b : Nat) (l : List UInt8) (hl : l.length ≤ 1000000) (w : World) (hR : Rd w b l) :
  Calls Tryz.prog 153 #[.pointer (some ⟨b, 0, none⟩)] w (RdRet b w (oNumber l)) := by
 obtain ⟨S, hS, hR⟩ := hR
 have c0 := hR.cell 0
 simp only [List.getElem?_toArray, List.getElem?_cons_zero] at c0
 have hsz : S.size = l.length := by rw [Lib.size_eq, hS]
 have T := Lib.hid (Take_any S (by unfold maxLen; omega) w)
 rw [hS] at T
 obtain ⟨n, j, x, hv⟩ : ∃ n j x, vtake l = (n, j, x) := ⟨_, _, _, rfl⟩
 have hON : Hid (oNumber l = if x ≠ 0 then none else some (.int .u64 (n : Nat), l.drop j)) := show _ = _ by unfold oNumber; rw [hv]
 rw [hv] at T
 have HS := Lib.hid hS; have HR := Lib.hid hR
 by_cases hx : x = 0
 ·subst hx
  have hj := (put_take hv).2.2.1
  rw [if_neg (by simp)] at hON
  clear hS hv
  go_enter Tryz.func153, Tryz.ntmps153
  go_wp2_with fail
  refine T.out.mono ?_
  rintro e w1 ⟨rfl, hb⟩
  have hb1 : Below w.heap.size w w1 := hb
  have P := Lib.hid (pass_ok b S j (by omega) w1 (HR.out.step hb1))
  go_wp2_with fail
  refine P.out.mono ?_
  rintro e w2 ⟨rfl, hw2⟩
  have HW := Lib.hid hw2; clear hw2 hR c0
  go_wp2
  go_ret
  rw [hON.out]
  refine ⟨rfl, ?_, ?_⟩
  ·rw [HW.out]; exact grownBy_trans (grownBy_some hb1) (grownBy_set _ _ _ _)
  ·rw [HW.out]; exact Rd.of (rd_set (HR.out.step hb1) _) (by rw [drop_str, HS.out])
 ·have hN := fun v w => pass_no b v (x : Int) (by omega) w
  rw [if_pos hx] at hON
  have HN := Lib.hid hN
  clear hS hv hN
  go_enter Tryz.func153, Tryz.ntmps153
  go_wp2_with fail
  refine T.out.mono ?_
  rintro e w1 ⟨rfl, hb⟩
  have hb1 : Below w.heap.size w w1 := hb
  go_wp2_with fail
  refine (HN.out _ _).mono ?_
  rintro e w2 ⟨⟨k, rfl⟩, hg⟩
  go_wp2
  refine ⟨rfl, ?_⟩
  rw [hON.out]
  exact ⟨⟨k, rfl⟩, grownBy_trans (grownBy_some hb1) hg⟩
def oText (l : List UInt8) : Option (Value × List UInt8) := if (vtakeText l).2.2 ≠ 0 then none else some (.string ⟨(vtakeText l).1.toArray⟩, l.drop (vtakeText l).2.1)
set_option maxRecDepth 100000 in
set_option maxHeartbeats 1000000 in
theorem text_any (b : Nat) (l : List UInt8) (hl : l.length ≤ 1000000) (w : World) (hR : Rd w b l) :
  Calls Tryz.prog 166 #[.pointer (some ⟨b, 0, none⟩)] w (RdRet b w (oText l)) := by
 obtain ⟨S, hS, hR⟩ := hR
 have c0 := hR.cell 0
 simp only [List.getElem?_toArray, List.getElem?_cons_zero] at c0
 have hsz : S.size = l.length := by rw [Lib.size_eq, hS]
 have T := Lib.hid (TakeText_any S (by unfold maxLen; omega) w)
 rw [hS] at T
 obtain ⟨n, j, x, hv⟩ : ∃ n j x, vtakeText l = (n, j, x) := ⟨_, _, _, rfl⟩
 have hON : Hid (oText l = if x ≠ 0 then none else some (.string ⟨n.toArray⟩, l.drop j)) := show _ = _ by unfold oText; rw [hv]
 rw [hv] at T
 have HS := Lib.hid hS; have HR := Lib.hid hR
 by_cases hx : x = 0
 ·subst hx
  have hj := (putText_takeText hv).1
  rw [if_neg (by simp)] at hON
  clear hS hv
  go_enter Tryz.func166, Tryz.ntmps166
  go_wp2_with fail
  refine T.out.mono ?_
  rintro e w1 ⟨rfl, hb⟩
  have hb1 : Below w.heap.size w w1 := hb
  have P := Lib.hid (pass_ok b S j (by omega) w1 (HR.out.step hb1))
  go_wp2_with fail
  refine P.out.mono ?_
  rintro e w2 ⟨rfl, hw2⟩
  have HW := Lib.hid hw2; clear hw2 hR c0
  go_wp2
  go_ret
  rw [hON.out]
  refine ⟨rfl, ?_, ?_⟩
  ·rw [HW.out]; exact grownBy_trans (grownBy_some hb1) (grownBy_set _ _ _ _)
  ·rw [HW.out]; exact Rd.of (rd_set (HR.out.step hb1) _) (by rw [drop_str, HS.out])
 ·have hN := fun v w => pass_no b v (x : Int) (by omega) w
  rw [if_pos hx] at hON
  have HN := Lib.hid hN
  clear hS hv hN
  go_enter Tryz.func166, Tryz.ntmps166
  go_wp2_with fail
  refine T.out.mono ?_
  rintro e w1 ⟨rfl, hb⟩
  have hb1 : Below w.heap.size w w1 := hb
  go_wp2_with fail
  refine (HN.out _ _).mono ?_
  rintro e w2 ⟨⟨k, rfl⟩, hg⟩
  go_wp2
  refine ⟨rfl, ?_⟩
  rw [hON.out]
  exact ⟨⟨k, rfl⟩, grownBy_trans (grownBy_some hb1) hg⟩
theorem Row.turned {w w' : World} {b B : Nat} {xs : Array Value} {T : TypeId} (h : Row w B xs T) (hg : w.grownBy w' (some b)) (hne : B ≠ b) : Row w' B xs T := by
 unfold Row; rw [hg.block B h.lt (fun e => hne (by cases e; rfl))]; exact h
theorem Rd.other {w : World} {b : Nat} {l : List UInt8} (h : Rd w b l) (p : Addr) (hne : b ≠ p.block) (u : Value) : Rd (w.setCell p u) b l := by
 obtain ⟨S, h1, h2⟩ := h; exact ⟨S, h1, h2.other p u hne⟩
theorem grownBy_setNew {w0 w : World} {r : Option Nat} (h : w0.grownBy w r) {p : Addr} (hp : w0.heap.size ≤ p.block) (u : Value) : w0.grownBy (w.setCell p u) r :=
 ⟨h.os, h.tape, h.output, Nat.le_trans h.size (by simp [World.setCell]), fun k hk hr => (Below.heap_setCell _ _ _ _ (by omega)).trans (h.block k hk hr)⟩
theorem cs_same {w : World} {b i : Nat} {u v : Value} (h : w.cell? ⟨b, i, none⟩ = some u) : (w.setCell ⟨b, i, none⟩ v).cell? ⟨b, i, none⟩ = some v := World.cell?_setCell_same _ _ _ h
theorem cs_other {w : World} {b i j : Nat} {v : Value} (h : i ≠ j) : (w.setCell ⟨b, i, none⟩ v).cell? ⟨b, j, none⟩ = w.cell? ⟨b, j, none⟩ := World.cell?_setCell_other _ _ _ _ (fun e => h (by cases e; rfl))
theorem row4_set {w : World} {B : Nat} {a b c d : Value} {T : TypeId} (h : Row w B #[a, b, c, d] T) (p q r s : Value) :
  ((((w.setCell ⟨B, 0, none⟩ p).setCell ⟨B, 1, none⟩ q).setCell ⟨B, 2, none⟩ r).setCell ⟨B, 3, none⟩ s).cell? ⟨B, 0, none⟩ = some p ∧
  ((((w.setCell ⟨B, 0, none⟩ p).setCell ⟨B, 1, none⟩ q).setCell ⟨B, 2, none⟩ r).setCell ⟨B, 3, none⟩ s).cell? ⟨B, 1, none⟩ = some q ∧
  ((((w.setCell ⟨B, 0, none⟩ p).setCell ⟨B, 1, none⟩ q).setCell ⟨B, 2, none⟩ r).setCell ⟨B, 3, none⟩ s).cell? ⟨B, 2, none⟩ = some r ∧
  ((((w.setCell ⟨B, 0, none⟩ p).setCell ⟨B, 1, none⟩ q).setCell ⟨B, 2, none⟩ r).setCell ⟨B, 3, none⟩ s).cell? ⟨B, 3, none⟩ = some s := by
 have h1 := (((h.set 0 p).set 1 q).set 2 r).set 3 s
 exact ⟨h1.cell 0, h1.cell 1, h1.cell 2, h1.cell 3⟩
def oPart (l : List UInt8) : Option (Value × List UInt8) := (pPart l).map fun x => (ptV x.1, x.2)
theorem oPart_short {l : List UInt8} (h : l.length < 32) : oPart l = none := by unfold oPart pPart; rw [if_pos h]; rfl
theorem oPart_bad {l : List UInt8} (h : ¬ l.length < 32) (h2 : (vtake (l.drop 32)).2.2 ≠ 0) : oPart l = none := by unfold oPart pPart; rw [if_neg h, if_pos h2]; rfl
theorem oPart_great {l : List UInt8} {n j : Nat} (h : ¬ l.length < 32) (h2 : vtake (l.drop 32) = (n, j, 0)) (h3 : 4096 < n) : oPart l = none := by
 unfold oPart pPart; rw [if_neg h, h2, if_neg (by simp), if_pos h3]; rfl
theorem oPart_good {l : List UInt8} {n j : Nat} (h : ¬ l.length < 32) (h2 : vtake (l.drop 32) = (n, j, 0)) (h3 : ¬ 4096 < n) : oPart l = some (.agg #[.string ⟨(l.take 32).toArray⟩, .int .i64 (n : Int)], (l.drop 32).drop j) := by
 unfold oPart pPart; rw [if_neg h, h2, if_neg (by simp), if_neg h3, List.drop_drop]; rfl
set_option maxRecDepth 100000 in
set_option maxHeartbeats 4000000 in
theorem part_any (b : Nat) (l : List UInt8) (hl : l.length ≤ 1000000) (w : World) (hR : Rd w b l) :
  Calls Tryz.prog 154 #[.pointer (some ⟨b, 0, none⟩)] w (RdRet b w (oPart l)) := by
 have hb0 := (Below.refl w.heap.size w).alloc (Nat.le_refl _) (.cells #[.string ⟨#[]⟩, .int .i64 0] 87)
 have hlt := hR.lt
 have TA := Lib.hid (take_any b 32 l hl _ (hR.stays hb0))
 have HBX := Lib.hid (Row.made w #[.string ⟨#[]⟩, .int .i64 0] 87)
 have hne : w.heap.size ≠ b := by omega
 by_cases h32 : l.length < 32
 ·have hO := Lib.hid (oPart_short h32)
  have hT : Hid (oTake 32 l = none) := if_neg (by omega)
  rw [hT.out] at TA
  clear hT h32
  go_enter Tryz.func154, Tryz.ntmps154
  go_wp2_with fail
  refine TA.out.mono ?_
  rintro e w1 ⟨⟨k, rfl⟩, hg⟩
  go_wp2
  refine ⟨rfl, ?_⟩
  rw [hO.out]
  exact ⟨⟨k, rfl⟩, grownBy_trans (grownBy_some hb0) hg⟩
 ·have hT : Hid (oTake 32 l = some (.string ⟨(l.take 32).toArray⟩, l.drop 32)) := if_pos (by omega)
  rw [hT.out] at TA
  have NA := Lib.hid (fun w h => number_any b (l.drop 32) (by rw [List.length_drop]; omega) w h)
  obtain ⟨n, j, x, hv⟩ : ∃ n j x, vtake (l.drop 32) = (n, j, x) := ⟨_, _, _, rfl⟩
  have hON : Hid (oNumber (l.drop 32) = if x ≠ 0 then none else some (.int .u64 (n : Nat), (l.drop 32).drop j)) := show _ = _ by unfold oNumber; rw [hv]
  by_cases hx : x = 0
  ·subst hx
   rw [if_neg (by simp)] at hON
   rw [hON.out] at NA
   by_cases h4 : 4096 < n
   ·have hO := Lib.hid (oPart_great h32 hv h4)
    have q : decide ((4096 : Int) < (n : Int)) = true := decide_eq_true (by omega)
    clear hv h32 hT hON
    go_enter Tryz.func154, Tryz.ntmps154
    go_wp2_with fail
    refine TA.out.mono ?_
    rintro e w1 ⟨rfl, hg1, hR1⟩
    go_wp2_with fail
    refine (NA.out _ hR1).mono ?_
    rintro e w2 ⟨rfl, hg2, hR2⟩
    have HG := Lib.hid (grownBy_trans (grownBy_some (B := b) hb0) (grownBy_trans hg1 hg2))
    clear hg1 hg2 hR1 hR2
    go_wp2
    refine ⟨rfl, ?_⟩
    rw [hO.out]
    exact ⟨⟨4, rfl⟩, HG.out⟩
   ·have hO := Lib.hid (oPart_good h32 hv h4)
    have q : decide ((4096 : Int) < (n : Int)) = false := decide_eq_false (by omega)
    have hn : n ≤ 4096 := by omega
    clear hv h32 hT hON h4
    go_enter Tryz.func154, Tryz.ntmps154
    go_wp2_with fail
    refine TA.out.mono ?_
    rintro e w1 ⟨rfl, hg1, hR1⟩
    go_wp2_with fail
    refine (NA.out _ hR1).mono ?_
    rintro e w2 ⟨rfl, hg2, hR2⟩
    have HG := Lib.hid (grownBy_trans (grownBy_some (B := b) hb0) (grownBy_trans hg1 hg2))
    have hX := (HBX.out.turned hg1 hne).turned hg2 hne
    have HR2 := Lib.hid hR2
    clear hg1 hg2 hR1 hR2
    have c0 := hX.cell 0; have c1 := hX.cell 1; have f0 := hX.free 0; have f1 := hX.free 1
    simp only [List.getElem?_toArray, List.getElem?_cons_zero, List.getElem?_cons_succ] at c0 c1
    clear hX
    go_wp2
    have d0 := cs_same (v := .string ⟨(l.take 32).toArray⟩) c0
    have d1 := cs_same (v := .int .i64 (n : Int)) ((cs_other (v := .string ⟨(l.take 32).toArray⟩) (i := 0) (j := 1) (by decide)).trans c1)
    have d2 := (cs_other (w := w2.setCell ⟨w.heap.size, 0, none⟩ (.string ⟨(l.take 32).toArray⟩)) (b := w.heap.size) (i := 1) (j := 0) (v := .int .i64 (n : Int)) (by decide)).trans d0
    refine bodyPost_ret (v := .agg #[.string ⟨(l.take 32).toArray⟩, .int .i64 (n : Int)]) (by simp [results, Tryz.results154, go_sem, d1, d2]) rfl ?_
    rw [hO.out]
    exact ⟨rfl, grownBy_setNew (grownBy_setNew HG.out (Nat.le_refl _) _) (Nat.le_refl _) _, (HR2.out.other _ (Ne.symm hne) _).other _ (Ne.symm hne) _⟩
  ·rw [if_pos hx] at hON
   rw [hON.out] at NA
   have hO := Lib.hid (oPart_bad h32 (by rw [hv]; exact hx))
   clear hv h32 hT hON hx
   go_enter Tryz.func154, Tryz.ntmps154
   go_wp2_with fail
   refine TA.out.mono ?_
   rintro e w1 ⟨rfl, hg1, hR1⟩
   go_wp2_with fail
   refine (NA.out _ hR1).mono ?_
   rintro e w2 ⟨⟨k, rfl⟩, hg2⟩
   have HG := Lib.hid (grownBy_trans (grownBy_some (B := b) hb0) (grownBy_trans hg1 hg2))
   clear hg1 hg2 hR1
   go_wp2
   refine ⟨rfl, ?_⟩
   rw [hO.out]
   exact ⟨⟨k, rfl⟩, HG.out⟩
def oEntry (l : List UInt8) : Option (Value × List UInt8) := (pEntry l).map fun x => (enV x.1, x.2)
theorem oEntry_bad {l : List UInt8} (h : (vtakeText l).2.2 ≠ 0) : oEntry l = none := by unfold oEntry pEntry; rw [if_pos h]; rfl
theorem oEntry_short {l t : List UInt8} {j : Nat} (h : vtakeText l = (t, j, 0)) (h2 : (l.drop j).length < 33) : oEntry l = none := by
 unfold oEntry pEntry; rw [h, if_neg (by simp), if_pos h2]; rfl
theorem oEntry_good {l t r : List UInt8} {c : UInt8} {j : Nat} (h : vtakeText l = (t, j, 0)) (hd : l.drop j = c :: r) (h2 : 32 ≤ r.length) (q : Nat) (x : Bool) (hq : q = if c.toNat / 4 % 2 = 1 then 4 else 0) (hx : x = decide (c.toNat / 4 % 2 = 1)) :
  oEntry l = some (.agg #[.string ⟨t.toArray⟩, .int .i64 ((c.toNat - q : Nat) : Int), .bool x, .string ⟨(r.take 32).toArray⟩], r.drop 32) := by
 subst hq hx
 have h1 : l.drop (j + 1) = r := by rw [← List.drop_drop, hd]; rfl
 have h3 : l.drop (j + 33) = r.drop 32 := by rw [show j + 33 = j + 1 + 32 by omega, ← List.drop_drop, h1]
 unfold oEntry pEntry
 rw [h, if_neg (by simp)]
 simp only [hd, h1, h3]
 rw [if_neg (by simp; omega)]
 rfl
theorem and4_all : ∀ c : Fin 256, bits .and .i64 (c.val : Int) 4 = if c.val / 4 % 2 = 1 then 4 else 0 := by decide +kernel
theorem and4 (c : UInt8) : bits .and .i64 (c.toNat : Int) 4 = if c.toNat / 4 % 2 = 1 then 4 else 0 := and4_all ⟨c.toNat, c.toNat_lt⟩
set_option maxRecDepth 100000 in
set_option maxHeartbeats 4000000 in
theorem entry_any (b : Nat) (l : List UInt8) (hl : l.length ≤ 1000000) (w : World) (hR : Rd w b l) :
  Calls Tryz.prog 156 #[.pointer (some ⟨b, 0, none⟩)] w (RdRet b w (oEntry l)) := by
 have hb0 := (Below.refl w.heap.size w).alloc (Nat.le_refl _) (.cells #[.string ⟨#[]⟩, .int .i64 0, .bool false, .string ⟨#[]⟩] 91)
 have hlt := hR.lt
 have TX := Lib.hid (text_any b l hl _ (hR.stays hb0))
 have HBX := Lib.hid (Row.made w #[.string ⟨#[]⟩, .int .i64 0, .bool false, .string ⟨#[]⟩] 91)
 have hne : w.heap.size ≠ b := by omega
 obtain ⟨t, j, x, hv⟩ : ∃ n j x, vtakeText l = (n, j, x) := ⟨_, _, _, rfl⟩
 have hON : Hid (oText l = if x ≠ 0 then none else some (.string ⟨t.toArray⟩, l.drop j)) := show _ = _ by unfold oText; rw [hv]
 by_cases hx : x = 0
 ·subst hx
  rw [if_neg (by simp)] at hON
  rw [hON.out] at TX
  have KA := Lib.hid (fun w h => kind_any b (l.drop j) (by rw [List.length_drop]; omega) w h)
  cases hd : l.drop j with
  | nil =>
   have hO := Lib.hid (oEntry_short hv (by rw [hd]; decide))
   rw [hd] at KA TX
   clear hv hON hd
   go_enter Tryz.func156, Tryz.ntmps156
   go_wp2_with fail
   refine TX.out.mono ?_
   rintro e w1 ⟨rfl, hg1, hR1⟩
   go_wp2_with fail
   refine (KA.out _ hR1).mono ?_
   rintro e w2 ⟨⟨k, rfl⟩, hg2⟩
   have HG := Lib.hid (grownBy_trans (grownBy_some (B := b) hb0) (grownBy_trans hg1 hg2))
   clear hg1 hg2 hR1
   go_wp2
   refine ⟨rfl, ?_⟩
   rw [hO.out]
   exact ⟨⟨k, rfl⟩, HG.out⟩
  | cons c r =>
   have hrl : r.length ≤ 1000000 := by have := congrArg List.length hd; rw [List.length_drop, List.length_cons] at this; omega
   have TA := Lib.hid (fun w h => take_any b 32 r hrl w h)
   rw [hd] at KA TX
   by_cases h32 : 32 ≤ r.length
   ·have hT : Hid (oTake 32 r = some (.string ⟨(r.take 32).toArray⟩, r.drop 32)) := if_pos h32
    rw [hT.out] at TA
    have hc := c.toNat_lt
    have h4 := and4 c
    by_cases hq : c.toNat / 4 % 2 = 1
    ·rw [if_pos hq] at h4
     have hO := Lib.hid (oEntry_good hv hd h32 4 true (by rw [if_pos hq]) (decide_eq_true hq).symm)
     have hc4 : 4 ≤ c.toNat := by omega
     have hI : ((c.toNat - 4 : Nat) : Int) = (c.toNat : Int) - 4 := by omega
     rw [hI] at hO
     clear hv hON hd hT h32 hq hI
     go_enter Tryz.func156, Tryz.ntmps156
     go_wp2_with fail
     refine TX.out.mono ?_
     rintro e w1 ⟨rfl, hg1, hR1⟩
     go_wp2_with fail
     refine (KA.out _ hR1).mono ?_
     rintro e w2 ⟨rfl, hg2, hR2⟩
     go_wp2_with fail
     refine (TA.out _ hR2).mono ?_
     rintro e w3 ⟨rfl, hg3, hR3⟩
     have HG := Lib.hid (grownBy_trans (grownBy_some (B := b) hb0) (grownBy_trans hg1 (grownBy_trans hg2 hg3)))
     have hX := ((HBX.out.turned hg1 hne).turned hg2 hne).turned hg3 hne
     have HR3 := Lib.hid hR3
     clear hg1 hg2 hg3 hR1 hR2 hR3
     have c0 := hX.cell 0; have c1 := hX.cell 1; have c2 := hX.cell 2; have c3 := hX.cell 3
     have f0 := hX.free 0; have f1 := hX.free 1; have f2 := hX.free 2; have f3 := hX.free 3
     simp only [List.getElem?_toArray, List.getElem?_cons_zero, List.getElem?_cons_succ] at c0 c1 c2 c3
     have HX := Lib.hid hX
     clear hX
     go_wp2
     have HW := row4_set HX.out (.string ⟨t.toArray⟩) (.int .i64 ((c.toNat : Int) - 4)) (.bool true) (.string ⟨(r.take 32).toArray⟩)
     obtain ⟨d0, d1, d2, d3⟩ := HW
     refine bodyPost_ret (v := .agg #[.string ⟨t.toArray⟩, .int .i64 ((c.toNat : Int) - 4), .bool true, .string ⟨(r.take 32).toArray⟩]) (by simp [results, Tryz.results156, go_sem, d0, d1, d2, d3]) rfl ?_
     rw [hO.out]
     exact ⟨rfl, grownBy_setNew (grownBy_setNew (grownBy_setNew (grownBy_setNew HG.out (Nat.le_refl _) _) (Nat.le_refl _) _) (Nat.le_refl _) _) (Nat.le_refl _) _, (((HR3.out.other _ (Ne.symm hne) _).other _ (Ne.symm hne) _).other _ (Ne.symm hne) _).other _ (Ne.symm hne) _⟩
    ·rw [if_neg hq] at h4
     have hO := Lib.hid (oEntry_good hv hd h32 0 false (by rw [if_neg hq]) (decide_eq_false hq).symm)
     rw [Nat.sub_zero] at hO
     clear hv hON hd hT h32 hq
     go_enter Tryz.func156, Tryz.ntmps156
     go_wp2_with fail
     refine TX.out.mono ?_
     rintro e w1 ⟨rfl, hg1, hR1⟩
     go_wp2_with fail
     refine (KA.out _ hR1).mono ?_
     rintro e w2 ⟨rfl, hg2, hR2⟩
     go_wp2_with fail
     refine (TA.out _ hR2).mono ?_
     rintro e w3 ⟨rfl, hg3, hR3⟩
     have HG := Lib.hid (grownBy_trans (grownBy_some (B := b) hb0) (grownBy_trans hg1 (grownBy_trans hg2 hg3)))
     have hX := ((HBX.out.turned hg1 hne).turned hg2 hne).turned hg3 hne
     have HR3 := Lib.hid hR3
     clear hg1 hg2 hg3 hR1 hR2 hR3
     have c0 := hX.cell 0; have c1 := hX.cell 1; have c2 := hX.cell 2; have c3 := hX.cell 3
     have f0 := hX.free 0; have f1 := hX.free 1; have f2 := hX.free 2; have f3 := hX.free 3
     simp only [List.getElem?_toArray, List.getElem?_cons_zero, List.getElem?_cons_succ] at c0 c1 c2 c3
     have HX := Lib.hid hX
     clear hX
     go_wp2
     have HW := row4_set HX.out (.string ⟨t.toArray⟩) (.int .i64 (c.toNat : Int)) (.bool false) (.string ⟨(r.take 32).toArray⟩)
     obtain ⟨d0, d1, d2, d3⟩ := HW
     refine bodyPost_ret (v := .agg #[.string ⟨t.toArray⟩, .int .i64 (c.toNat : Int), .bool false, .string ⟨(r.take 32).toArray⟩]) (by simp [results, Tryz.results156, go_sem, d0, d1, d2, d3]) rfl ?_
     rw [hO.out]
     exact ⟨rfl, grownBy_setNew (grownBy_setNew (grownBy_setNew (grownBy_setNew HG.out (Nat.le_refl _) _) (Nat.le_refl _) _) (Nat.le_refl _) _) (Nat.le_refl _) _, (((HR3.out.other _ (Ne.symm hne) _).other _ (Ne.symm hne) _).other _ (Ne.symm hne) _).other _ (Ne.symm hne) _⟩
   ·have hO := Lib.hid (oEntry_short hv (by rw [hd, List.length_cons]; omega))
    have hT : Hid (oTake 32 r = none) := if_neg (by omega)
    rw [hT.out] at TA
    have hc := c.toNat_lt
    clear hv hON hd hT h32
    go_enter Tryz.func156, Tryz.ntmps156
    go_wp2_with fail
    refine TX.out.mono ?_
    rintro e w1 ⟨rfl, hg1, hR1⟩
    go_wp2_with fail
    refine (KA.out _ hR1).mono ?_
    rintro e w2 ⟨rfl, hg2, hR2⟩
    go_wp2_with fail
    refine (TA.out _ hR2).mono ?_
    rintro e w3 ⟨⟨k, rfl⟩, hg3⟩
    have HG := Lib.hid (grownBy_trans (grownBy_some (B := b) hb0) (grownBy_trans hg1 (grownBy_trans hg2 hg3)))
    clear hg1 hg2 hg3 hR1 hR2
    go_wp2
    refine ⟨rfl, ?_⟩
    rw [hO.out]
    exact ⟨⟨k, rfl⟩, HG.out⟩
 ·rw [if_pos hx] at hON
  rw [hON.out] at TX
  have hO := Lib.hid (oEntry_bad (by rw [hv]; exact hx))
  clear hv hON hx
  go_enter Tryz.func156, Tryz.ntmps156
  go_wp2_with fail
  refine TX.out.mono ?_
  rintro e w1 ⟨⟨k, rfl⟩, hg1⟩
  have HG := Lib.hid (grownBy_trans (grownBy_some (B := b) hb0) hg1)
  go_wp2
  refine ⟨rfl, ?_⟩
  rw [hO.out]
  exact ⟨⟨k, rfl⟩, HG.out⟩
theorem pList_none {α : Type} {next : List UInt8 → Option (α × List UInt8)} {c : Nat} {l : List UInt8} (h : next l = none) : pList next (c + 1) l = none := by simp only [pList, h]
theorem pList_some {α : Type} {next : List UInt8 → Option (α × List UInt8)} {c : Nat} {l r : List UInt8} {x : α} (h : next l = some (x, r)) : pList next (c + 1) l = (pList next c r).map fun y => (x :: y.1, y.2) := by
 simp only [pList, h]
 cases pList next c r with
 | none => rfl
 | some y => rfl
def Went {α : Type} (next : List UInt8 → Option (α × List UInt8)) (n : Nat) (l : List UInt8) (k : Nat) (L : List α) (r : List UInt8) : Prop :=
 L.length = k ∧ k ≤ n ∧ L.length + r.length ≤ l.length ∧ pList next n l = (pList next (n - k) r).map fun y => (L ++ y.1, y.2)
theorem went_zero {α : Type} (next : List UInt8 → Option (α × List UInt8)) (n : Nat) (l : List UInt8) : Went next n l 0 [] l :=
 ⟨rfl, Nat.zero_le _, by simp, by rw [Nat.sub_zero]; cases pList next n l <;> rfl⟩
theorem went_none {α : Type} {next : List UInt8 → Option (α × List UInt8)} {n k : Nat} {l r : List UInt8} {L : List α} (h : Went next n l k L r) (hk : k < n) (hn : next r = none) : pList next n l = none := by
 rw [h.2.2.2, show n - k = (n - k - 1) + 1 by omega, pList_none hn]; rfl
theorem went_some {α : Type} {next : List UInt8 → Option (α × List UInt8)} {n k : Nat} {l r r' : List UInt8} {L : List α} {x : α} (h : Went next n l k L r) (hk : k < n) (hn : next r = some (x, r')) (hr : r'.length < r.length) : Went next n l (k + 1) (L ++ [x]) r' := by
 refine ⟨by rw [List.length_append, h.1]; rfl, by omega, by rw [List.length_append]; have := h.2.2.1; simp; omega, ?_⟩
 rw [h.2.2.2, show n - k = (n - (k + 1)) + 1 by omega, pList_some hn, Option.map_map]
 congr 1
 funext y
 simp
theorem went_done {α : Type} {next : List UInt8 → Option (α × List UInt8)} {n k : Nat} {l r : List UInt8} {L : List α} (h : Went next n l k L r) (hk : n ≤ k) : pList next n l = some (L, r) := by
 have := h.2.1
 rw [h.2.2.2, show n - k = 0 by omega]
 simp [pList]
theorem pPart_less {l r : List UInt8} {p : Pt} (h : pPart l = some (p, r)) : r.length < l.length := (pPart_sound h).2.2.2.2
def RetPts (b : Nat) (w : World) (o : Option (List Pt × List UInt8)) (e : Ending) (w' : World) : Prop :=
 match o with
 | some x => (∃ v, e = .returned v ∧ OwnP w.heap.size w' v x.1) ∧ w.grownBy w' (some b) ∧ Rd w' b x.2
 | none => Threw b w e w'
theorem oPart_none {l : List UInt8} (h : pPart l = none) : oPart l = none := by unfold oPart; rw [h]; rfl
theorem oPart_some {l r : List UInt8} {x : Pt} (h : pPart l = some (x, r)) : oPart l = some (.agg #[.string x.k, .int .i64 x.n], r) := by unfold oPart; rw [h]; rfl
set_option maxRecDepth 100000 in
set_option maxHeartbeats 4000000 in
theorem listP_any (b n : Nat) (hn : U64 n) (l : List UInt8) (hl : l.length ≤ 1000000) (w : World) (hR : Rd w b l) :
  Calls Tryz.prog 152 #[.int .u64 n, .func (.func 154) #[.pointer (some ⟨b, 0, none⟩)] #[]] w (RetPts b w (pList pPart n l)) := by
 have hlt := hR.lt
 have PA := Lib.hid (fun l hl w hR => part_any b l hl w hR)
 have HU := Lib.hid hn
 have HR0 := Lib.hid hR
 clear hR hn
 go_enter Tryz.func152, Tryz.ntmps152
 go_wp2
 go_loopw [5, 7] (fun v i wr => ∃ (k : Nat) (L : List Pt) (r : List UInt8), i = .int .u64 k ∧ Went pPart n l k L r ∧ OwnP w.heap.size wr v L ∧ w.grownBy wr (some b) ∧ Rd wr b r) (fun _ i _ => n - (intOf i).toNat)
 case atStart => exact ⟨0, [], l, rfl, went_zero _ _ _, parts_own_nil _ _, grownBy_refl _ _, HR0.out⟩
 case round =>
  obtain ⟨k, L, r, rfl, hW, hO, hG, hR⟩ := hrel
  have HW := Lib.hid hW; have HO := Lib.hid hO; have HG := Lib.hid hG; have HR := Lib.hid hR
  have hkn := hW.2.1
  have hrl : r.length ≤ 1000000 := by have := hW.2.2.1; omega
  have hLl : L.length ≤ 1000000 := by have := hW.2.2.1; omega
  clear hW hO hG hR
  by_cases hk : k < n
  ·have hk2 : k + 1 ≤ n := hk
   have q1 : decide (k < n) = true := decide_eq_true hk
   have hw1 : IntKind.u64.wrap ((k : Int) + 1) = (k : Int) + 1 := by rw [IntKind.wrap_u64]; have := HU.out; unfold U64 at this; omega
   have P1 := Lib.hid (PA.out r hrl _ HR.out)
   cases hp : pPart r with
   | none =>
    have HN := Lib.hid (went_none HW.out hk hp)
    rw [oPart_none hp] at P1
    clear hp hk
    go_wp2_with fail
    refine P1.out.mono ?_
    rintro e w1 ⟨⟨j, rfl⟩, hg1⟩
    have HG1 := Lib.hid (grownBy_trans HG.out hg1)
    clear hg1
    go_wp2
    refine ⟨rfl, ?_⟩
    rw [HN.out]
    exact ⟨⟨j, rfl⟩, HG1.out⟩
   | some x =>
    obtain ⟨x, r'⟩ := x
    have HN := Lib.hid (went_some HW.out hk hp (pPart_less hp))
    rw [oPart_some hp] at P1
    clear hp hk
    go_wp2_with fail
    refine P1.out.mono ?_
    rintro e w1 ⟨rfl, hg1, hR1⟩
    have HO1 := Lib.hid (HO.out.turned hg1 hlt)
    have HG1 := Lib.hid (grownBy_trans HG.out hg1)
    have HR1 := Lib.hid hR1
    have hsz : w.heap.size ≤ w1.heap.size := HG1.out.size
    clear hg1 hR1
    go_wp2_with (at_builtin; refine wpList_append_parts rfl _ _ rfl HO1.out hsz rfl rfl hLl ?_)
    intro v' w2 hown hg2
    have HR2 : Hid (Rd w2 b r') := Lib.hid (by
     obtain ⟨S, h1, h2⟩ := HR1.out
     refine ⟨S, h1, ?_⟩
     unfold Row
     rw [hg2.block b h2.lt (fun e => by have := (HO1.out.lt b e.symm).1; omega)]
     exact h2)
    have HG2 : Hid (w.grownBy w2 (some b)) := Lib.hid ⟨hg2.os.trans HG1.out.os, hg2.tape.trans HG1.out.tape, hg2.output.trans HG1.out.output, Nat.le_trans HG1.out.size hg2.size, fun i hi hr =>
     (hg2.block i (Nat.lt_of_lt_of_le hi hsz) (fun e => by have := (HO1.out.lt i e.symm).1; omega)).trans (HG1.out.block i hi hr)⟩
    have HO2 := Lib.hid hown
    clear hown hg2 HR1 HG1 HO1
    go_wp2
    go_roundw
    case rel => exact ⟨k + 1, L ++ [x], r', by go_num, HN.out, HO2.out, HG2.out, HR2.out⟩
    case measure => simp [intOf]; omega
  ·have q1 : decide (k < n) = false := decide_eq_false hk
   have HN := Lib.hid (went_done HW.out (by omega))
   go_wp2
   go_ret
   rw [HN.out]
   exact ⟨⟨_, rfl, HO.out⟩, HG.out, HR.out⟩
def RetEns (b : Nat) (w : World) (o : Option (List En × List UInt8)) (e : Ending) (w' : World) : Prop :=
 match o with
 | some x => (∃ v, e = .returned v ∧ OwnE w.heap.size w' v x.1) ∧ w.grownBy w' (some b) ∧ Rd w' b x.2
 | none => Threw b w e w'
theorem oEntry_none {l : List UInt8} (h : pEntry l = none) : oEntry l = none := by unfold oEntry; rw [h]; rfl
theorem oEntry_some {l r : List UInt8} {x : En} (h : pEntry l = some (x, r)) : oEntry l = some (.agg #[.string x.m, .int .i64 x.kd, .bool x.x, .string x.k], r) := by unfold oEntry; rw [h]; rfl
set_option maxRecDepth 100000 in
set_option maxHeartbeats 4000000 in
theorem listE_any (b n : Nat) (hn : U64 n) (l : List UInt8) (hl : l.length ≤ 1000000) (w : World) (hR : Rd w b l) :
  Calls Tryz.prog 155 #[.int .u64 n, .func (.func 156) #[.pointer (some ⟨b, 0, none⟩)] #[]] w (RetEns b w (pList pEntry n l)) := by
 have hlt := hR.lt
 have PA := Lib.hid (fun l hl w hR => entry_any b l hl w hR)
 have HU := Lib.hid hn
 have HR0 := Lib.hid hR
 clear hR hn
 go_enter Tryz.func155, Tryz.ntmps155
 go_wp2
 go_loopw [5, 7] (fun v i wr => ∃ (k : Nat) (L : List En) (r : List UInt8), i = .int .u64 k ∧ Went pEntry n l k L r ∧ OwnE w.heap.size wr v L ∧ w.grownBy wr (some b) ∧ Rd wr b r) (fun _ i _ => n - (intOf i).toNat)
 case atStart => exact ⟨0, [], l, rfl, went_zero _ _ _, entries_own_nil _ _, grownBy_refl _ _, HR0.out⟩
 case round =>
  obtain ⟨k, L, r, rfl, hW, hO, hG, hR⟩ := hrel
  have HW := Lib.hid hW; have HO := Lib.hid hO; have HG := Lib.hid hG; have HR := Lib.hid hR
  have hkn := hW.2.1
  have hrl : r.length ≤ 1000000 := by have := hW.2.2.1; omega
  have hLl : L.length ≤ 1000000 := by have := hW.2.2.1; omega
  clear hW hO hG hR
  by_cases hk : k < n
  ·have hk2 : k + 1 ≤ n := hk
   have q1 : decide (k < n) = true := decide_eq_true hk
   have hw1 : IntKind.u64.wrap ((k : Int) + 1) = (k : Int) + 1 := by rw [IntKind.wrap_u64]; have := HU.out; unfold U64 at this; omega
   have P1 := Lib.hid (PA.out r hrl _ HR.out)
   cases hp : pEntry r with
   | none =>
    have HN := Lib.hid (went_none HW.out hk hp)
    rw [oEntry_none hp] at P1
    clear hp hk
    go_wp2_with fail
    refine P1.out.mono ?_
    rintro e w1 ⟨⟨j, rfl⟩, hg1⟩
    have HG1 := Lib.hid (grownBy_trans HG.out hg1)
    clear hg1
    go_wp2
    refine ⟨rfl, ?_⟩
    rw [HN.out]
    exact ⟨⟨j, rfl⟩, HG1.out⟩
   | some x =>
    obtain ⟨x, r'⟩ := x
    have HN := Lib.hid (went_some HW.out hk hp (pEntry_less hp))
    rw [oEntry_some hp] at P1
    clear hp hk
    go_wp2_with fail
    refine P1.out.mono ?_
    rintro e w1 ⟨rfl, hg1, hR1⟩
    have HO1 := Lib.hid (HO.out.turned hg1 hlt)
    have HG1 := Lib.hid (grownBy_trans HG.out hg1)
    have HR1 := Lib.hid hR1
    have hsz : w.heap.size ≤ w1.heap.size := HG1.out.size
    clear hg1 hR1
    go_wp2_with (at_builtin; refine wpList_append_entries rfl _ _ rfl HO1.out hsz rfl rfl hLl ?_)
    intro v' w2 hown hg2
    have HR2 : Hid (Rd w2 b r') := Lib.hid (by
     obtain ⟨S, h1, h2⟩ := HR1.out
     refine ⟨S, h1, ?_⟩
     unfold Row
     rw [hg2.block b h2.lt (fun e => by have := (HO1.out.lt b e.symm).1; omega)]
     exact h2)
    have HG2 : Hid (w.grownBy w2 (some b)) := Lib.hid ⟨hg2.os.trans HG1.out.os, hg2.tape.trans HG1.out.tape, hg2.output.trans HG1.out.output, Nat.le_trans HG1.out.size hg2.size, fun i hi hr =>
     (hg2.block i (Nat.lt_of_lt_of_le hi hsz) (fun e => by have := (HO1.out.lt i e.symm).1; omega)).trans (HG1.out.block i hi hr)⟩
    have HO2 := Lib.hid hown
    clear hown hg2 HR1 HG1 HO1
    go_wp2
    go_roundw
    case rel => exact ⟨k + 1, L ++ [x], r', by go_num, HN.out, HO2.out, HG2.out, HR2.out⟩
    case measure => simp [intOf]; omega
  ·have q1 : decide (k < n) = false := decide_eq_false hk
   have HN := Lib.hid (went_done HW.out (by omega))
   go_wp2
   go_ret
   rw [HN.out]
   exact ⟨⟨_, rfl, HO.out⟩, HG.out, HR.out⟩
def DirTo (L : List En) (k : Nat) : Prop := ∀ i (h : i < L.length), i < k → okEn L[i] = true ∧ (0 < i → (L[i - 1]'(by omega)).m.data.toList < L[i].m.data.toList)
theorem dirTo_zero (L : List En) : DirTo L 0 := fun i _ h => absurd h (by omega)
theorem dirTo_step {L : List En} {k : Nat} (h : DirTo L k) (hk : k < L.length) (h1 : okEn L[k] = true) (hr : 0 < k → (L[k - 1]'(by omega)).m.data.toList < L[k].m.data.toList) : DirTo L (k + 1) := fun i hi hik => by
 by_cases e : i = k
 ·subst e; exact ⟨h1, hr⟩
 ·exact h i hi (by omega)
theorem fitDir_all {L : List En} {k : Nat} (h : DirTo L k) (hk : L.length ≤ k) : fitDirB L = true := fitDir_iff.2 ⟨fun p hp => by
 obtain ⟨i, hi, rfl⟩ := List.mem_iff_getElem.1 hp
 exact (h i hi (by omega)).1, fun i hi h0 => (h i hi (by omega)).2 h0⟩
theorem fitDir_no {L : List En} {k : Nat} (hk : k < L.length) (hx : okEn L[k] = false) : fitDirB L = false := by
 rcases h : fitDirB L with _ | _
 ·rfl
 ·have := (fitDir_iff.1 h).1 _ (List.getElem_mem hk); rw [hx] at this; cases this
theorem fitDir_norise {L : List En} {k : Nat} (hk : k < L.length) (h0 : 0 < k) (hr : ¬ (L[k - 1]'(by omega)).m.data.toList < L[k].m.data.toList) : fitDirB L = false := by
 rcases h : fitDirB L with _ | _
 ·rfl
 ·exact absurd ((fitDir_iff.1 h).2 k hk h0) hr
theorem okEn_no1 {x : En} (h : nameB x.m.data.toList = false) : okEn x = false := by unfold okEn; rw [h]; rfl
theorem okEn_no2 {x : En} (h : x.k.size ≠ 32) : okEn x = false := by unfold okEn; rw [decide_eq_false h]; simp
theorem okEn_no3 {x : En} (h2 : x.kd ≠ 2) (h3 : x.kd ≠ 3) : okEn x = false := by unfold okEn; rw [decide_eq_false h2, decide_eq_false h3]; simp
theorem okEn_no4 {x : En} (h2 : x.kd ≠ 2) (h : x.x = true) : okEn x = false := by unfold okEn; rw [decide_eq_false h2, h]; simp
set_option maxRecDepth 100000 in
set_option maxHeartbeats 8000000 in
theorem rfitDir_any (v : Value) (L : List En) (w : World) (h : IsEntries w v L) :
  Calls Tryz.prog 63 #[v] w fun e w' => e = .returned (.bool (fitDirB L)) ∧ Below w.heap.size w w' := by
 have HI := Lib.hid h
 obtain ⟨hm, a, cap, rfl, _, hc⟩ := h
 have hmm : L.length ≤ 9223372036854775807 := by unfold maxLen at hm; omega
 clear hc hm
 have RN := Lib.hid refName_any
 go_enter Tryz.func63, Tryz.ntmps63
 go_wp2
 go_loopw [3] (fun i wr => ∃ k : Nat, k ≤ L.length ∧ i = .int .i64 k ∧ DirTo L k ∧ Below w.heap.size w wr) (fun i _ => L.length - (intOf i).toNat)
 case atStart => exact ⟨0, Nat.zero_le _, rfl, dirTo_zero _, Below.refl _ _⟩
 case round =>
  obtain ⟨k, hk, rfl, hn, hB⟩ := hrel
  have HN := Lib.hid hn; clear hn
  have hsz := hB.size
  by_cases hlt : k < L.length
  ·obtain ⟨_, _, _, e, _, hc⟩ := HI.out.stays hB
   cases e
   obtain ⟨b, off, rfl, hbl, g⟩ := hc (by omega)
   have g1 := g k hlt
   obtain ⟨c0, c1, c2, c3⟩ := g1
   have hbk : decide ((k : Int) < (L.length : Int)) = true := by simpa using (show (k : Int) < L.length by omega)
   have HST := Lib.hid (dirTo_step HN.out hlt)
   have HNO := Lib.hid (fitDir_no hlt)
   have HNR := Lib.hid (fitDir_norise hlt)
   by_cases h0 : k = 0
   ·subst h0
    simp only [Nat.zero_mul, Nat.add_zero] at c0 c1 c2 c3
    clear g HNR
    obtain ⟨x, hx0⟩ : ∃ x, x = L[0] := ⟨_, rfl⟩
    rw [← hx0] at c0 c1 c2 c3 HST HNO
    clear hx0
    have R1 := Lib.hid (RN.out x.m)
    rcases hnm : nameB x.m.data.toList with _ | _
    ·rw [hnm] at R1
     have HS := Lib.hid (HNO.out (okEn_no1 hnm))
     clear hnm
     go_wp2_with fail
     go_quiet ((go_at_call 88; exact Calls.quiet_of_same ((R1.out _).mono fun e w' h => ⟨h.1, h.2.symm⟩)))
     go_wp2
     go_ret
     exact ⟨by rw [HS.out]; rfl, below_drewN (hB.alloc hsz _) _⟩
    ·rw [hnm] at R1
     have HNM := Lib.hid hnm; clear hnm
     by_cases k2 : x.kd = 2
     ·have q2 := in_f k2
      have K2 := Lib.hid k2; clear k2
      rcases hx : x.x with _ | _
      ·rw [hx] at c2
       have CL : True := trivial; clear hx
       by_cases h32 : x.k.size = 32
       ·have q5 := in_f (show (x.k.size : Int) = 32 by omega)
        have HS := Lib.hid (HST.out (okEn_iff.2 ⟨HNM.out, h32, .inl K2.out⟩) (fun h => absurd h (by omega)))
        clear h32 CL
        go_wp2_with fail
        go_quiet ((go_at_call 88; exact Calls.quiet_of_same ((R1.out _).mono fun e w' h => ⟨h.1, h.2.symm⟩)))
        go_wp2
        go_roundw
        case rel => exact ⟨1, by omega, by go_num, HS.out, below_drewN (hB.alloc hsz _) _⟩
        case measure => simp [intOf]; omega
       ·have q5 := in_t (show (x.k.size : Int) ≠ 32 by omega)
        have HS := Lib.hid (HNO.out (okEn_no2 h32))
        clear h32 CL
        go_wp2_with fail
        go_quiet ((go_at_call 88; exact Calls.quiet_of_same ((R1.out _).mono fun e w' h => ⟨h.1, h.2.symm⟩)))
        go_wp2
        go_ret
        exact ⟨by rw [HS.out]; rfl, below_drewN (hB.alloc hsz _) _⟩
      ·rw [hx] at c2
       have CL : True := trivial; clear hx
       by_cases h32 : x.k.size = 32
       ·have q5 := in_f (show (x.k.size : Int) = 32 by omega)
        have HS := Lib.hid (HST.out (okEn_iff.2 ⟨HNM.out, h32, .inl K2.out⟩) (fun h => absurd h (by omega)))
        clear h32 CL
        go_wp2_with fail
        go_quiet ((go_at_call 88; exact Calls.quiet_of_same ((R1.out _).mono fun e w' h => ⟨h.1, h.2.symm⟩)))
        go_wp2
        go_roundw
        case rel => exact ⟨1, by omega, by go_num, HS.out, below_drewN (hB.alloc hsz _) _⟩
        case measure => simp [intOf]; omega
       ·have q5 := in_t (show (x.k.size : Int) ≠ 32 by omega)
        have HS := Lib.hid (HNO.out (okEn_no2 h32))
        clear h32 CL
        go_wp2_with fail
        go_quiet ((go_at_call 88; exact Calls.quiet_of_same ((R1.out _).mono fun e w' h => ⟨h.1, h.2.symm⟩)))
        go_wp2
        go_ret
        exact ⟨by rw [HS.out]; rfl, below_drewN (hB.alloc hsz _) _⟩
     ·have q2 := in_t k2
      by_cases k3 : x.kd = 3
      ·have q3 := in_f k3
       have K3 := Lib.hid k3; clear k3
       rcases hx : x.x with _ | _
       ·rw [hx] at c2
        have HX := Lib.hid hx; clear hx k2
        have CL : True := trivial
        by_cases h32 : x.k.size = 32
        ·have q5 := in_f (show (x.k.size : Int) = 32 by omega)
         have HS := Lib.hid (HST.out (okEn_iff.2 ⟨HNM.out, h32, .inr ⟨K3.out, HX.out⟩⟩) (fun h => absurd h (by omega)))
         clear h32 CL
         go_wp2_with fail
         go_quiet ((go_at_call 88; exact Calls.quiet_of_same ((R1.out _).mono fun e w' h => ⟨h.1, h.2.symm⟩)))
         go_wp2
         go_roundw
         case rel => exact ⟨1, by omega, by go_num, HS.out, below_drewN (hB.alloc hsz _) _⟩
         case measure => simp [intOf]; omega
        ·have q5 := in_t (show (x.k.size : Int) ≠ 32 by omega)
         have HS := Lib.hid (HNO.out (okEn_no2 h32))
         clear h32 CL
         go_wp2_with fail
         go_quiet ((go_at_call 88; exact Calls.quiet_of_same ((R1.out _).mono fun e w' h => ⟨h.1, h.2.symm⟩)))
         go_wp2
         go_ret
         exact ⟨by rw [HS.out]; rfl, below_drewN (hB.alloc hsz _) _⟩
       ·rw [hx] at c2
        have HS := Lib.hid (HNO.out (okEn_no4 k2 hx)); clear hx k2
        go_wp2_with fail
        go_quiet ((go_at_call 88; exact Calls.quiet_of_same ((R1.out _).mono fun e w' h => ⟨h.1, h.2.symm⟩)))
        go_wp2
        go_ret
        exact ⟨by rw [HS.out]; rfl, below_drewN (hB.alloc hsz _) _⟩
      ·have q3 := in_t k3
       have HS := Lib.hid (HNO.out (okEn_no3 k2 k3)); clear k2 k3
       go_wp2_with fail
       go_quiet ((go_at_call 88; exact Calls.quiet_of_same ((R1.out _).mono fun e w' h => ⟨h.1, h.2.symm⟩)))
       go_wp2
       go_ret
       exact ⟨by rw [HS.out]; rfl, below_drewN (hB.alloc hsz _) _⟩
   ·obtain ⟨j, rfl⟩ : ∃ j, k = j + 1 := ⟨k - 1, by omega⟩
    have p0 := (g j (by omega)).1
    obtain ⟨z, hz⟩ : ∃ z, z = L[j] := ⟨_, rfl⟩
    have HZ : Hid (L[j + 1 - 1] = z) := show _ = _ from hz.symm
    rw [← hz] at p0
    clear g hz h0
    have hk0 : decide ((0 : Int) < ((j + 1 : Nat) : Int)) = true := by simp
    obtain ⟨x, hx0⟩ : ∃ x, x = L[j + 1] := ⟨_, rfl⟩
    rw [← hx0] at c0 c1 c2 c3 HST HNO HNR
    clear hx0
    have R1 := Lib.hid (RN.out x.m)
    rcases hnm : nameB x.m.data.toList with _ | _
    ·rw [hnm] at R1
     have HS := Lib.hid (HNO.out (okEn_no1 hnm))
     clear hnm
     go_wp2_with fail
     go_quiet ((go_at_call 88; exact Calls.quiet_of_same ((R1.out _).mono fun e w' h => ⟨h.1, h.2.symm⟩)))
     go_wp2
     go_ret
     exact ⟨by rw [HS.out]; rfl, below_drewN (hB.alloc hsz _) _⟩
    ·rw [hnm] at R1
     have HNM := Lib.hid hnm; clear hnm
     by_cases hr : z.m.data.toList < x.m.data.toList
     ·have hrb : Op.bytesLess z.m.toList x.m.toList = true := by rw [less_eq]; exact decide_eq_true hr
      have HR := Lib.hid hr; clear hr
      by_cases k2 : x.kd = 2
      ·have q2 := in_f k2
       have K2 := Lib.hid k2; clear k2
       rcases hx : x.x with _ | _
       ·rw [hx] at c2
        have CL : True := trivial; clear hx
        by_cases h32 : x.k.size = 32
        ·have q5 := in_f (show (x.k.size : Int) = 32 by omega)
         have HS := Lib.hid (HST.out (okEn_iff.2 ⟨HNM.out, h32, .inl K2.out⟩) (fun _ => by rw [HZ.out]; exact HR.out))
         clear h32 CL
         go_wp2_with fail
         go_quiet ((go_at_call 88; exact Calls.quiet_of_same ((R1.out _).mono fun e w' h => ⟨h.1, h.2.symm⟩)))
         go_wp2
         go_roundw
         case rel => exact ⟨j + 2, by omega, by go_num, HS.out, below_drewN (hB.alloc hsz _) _⟩
         case measure => simp [intOf]; omega
        ·have q5 := in_t (show (x.k.size : Int) ≠ 32 by omega)
         have HS := Lib.hid (HNO.out (okEn_no2 h32))
         clear h32 CL
         go_wp2_with fail
         go_quiet ((go_at_call 88; exact Calls.quiet_of_same ((R1.out _).mono fun e w' h => ⟨h.1, h.2.symm⟩)))
         go_wp2
         go_ret
         exact ⟨by rw [HS.out]; rfl, below_drewN (hB.alloc hsz _) _⟩
       ·rw [hx] at c2
        have CL : True := trivial; clear hx
        by_cases h32 : x.k.size = 32
        ·have q5 := in_f (show (x.k.size : Int) = 32 by omega)
         have HS := Lib.hid (HST.out (okEn_iff.2 ⟨HNM.out, h32, .inl K2.out⟩) (fun _ => by rw [HZ.out]; exact HR.out))
         clear h32 CL
         go_wp2_with fail
         go_quiet ((go_at_call 88; exact Calls.quiet_of_same ((R1.out _).mono fun e w' h => ⟨h.1, h.2.symm⟩)))
         go_wp2
         go_roundw
         case rel => exact ⟨j + 2, by omega, by go_num, HS.out, below_drewN (hB.alloc hsz _) _⟩
         case measure => simp [intOf]; omega
        ·have q5 := in_t (show (x.k.size : Int) ≠ 32 by omega)
         have HS := Lib.hid (HNO.out (okEn_no2 h32))
         clear h32 CL
         go_wp2_with fail
         go_quiet ((go_at_call 88; exact Calls.quiet_of_same ((R1.out _).mono fun e w' h => ⟨h.1, h.2.symm⟩)))
         go_wp2
         go_ret
         exact ⟨by rw [HS.out]; rfl, below_drewN (hB.alloc hsz _) _⟩
      ·have q2 := in_t k2
       by_cases k3 : x.kd = 3
       ·have q3 := in_f k3
        have K3 := Lib.hid k3; clear k3
        rcases hx : x.x with _ | _
        ·rw [hx] at c2
         have HX := Lib.hid hx; clear hx k2
         have CL : True := trivial
         by_cases h32 : x.k.size = 32
         ·have q5 := in_f (show (x.k.size : Int) = 32 by omega)
          have HS := Lib.hid (HST.out (okEn_iff.2 ⟨HNM.out, h32, .inr ⟨K3.out, HX.out⟩⟩) (fun _ => by rw [HZ.out]; exact HR.out))
          clear h32 CL
          go_wp2_with fail
          go_quiet ((go_at_call 88; exact Calls.quiet_of_same ((R1.out _).mono fun e w' h => ⟨h.1, h.2.symm⟩)))
          go_wp2
          go_roundw
          case rel => exact ⟨j + 2, by omega, by go_num, HS.out, below_drewN (hB.alloc hsz _) _⟩
          case measure => simp [intOf]; omega
         ·have q5 := in_t (show (x.k.size : Int) ≠ 32 by omega)
          have HS := Lib.hid (HNO.out (okEn_no2 h32))
          clear h32 CL
          go_wp2_with fail
          go_quiet ((go_at_call 88; exact Calls.quiet_of_same ((R1.out _).mono fun e w' h => ⟨h.1, h.2.symm⟩)))
          go_wp2
          go_ret
          exact ⟨by rw [HS.out]; rfl, below_drewN (hB.alloc hsz _) _⟩
        ·rw [hx] at c2
         have HS := Lib.hid (HNO.out (okEn_no4 k2 hx)); clear hx k2
         go_wp2_with fail
         go_quiet ((go_at_call 88; exact Calls.quiet_of_same ((R1.out _).mono fun e w' h => ⟨h.1, h.2.symm⟩)))
         go_wp2
         go_ret
         exact ⟨by rw [HS.out]; rfl, below_drewN (hB.alloc hsz _) _⟩
       ·have q3 := in_t k3
        have HS := Lib.hid (HNO.out (okEn_no3 k2 k3)); clear k2 k3
        go_wp2_with fail
        go_quiet ((go_at_call 88; exact Calls.quiet_of_same ((R1.out _).mono fun e w' h => ⟨h.1, h.2.symm⟩)))
        go_wp2
        go_ret
        exact ⟨by rw [HS.out]; rfl, below_drewN (hB.alloc hsz _) _⟩
     ·have hrb : Op.bytesLess z.m.toList x.m.toList = false := by rw [less_eq]; exact decide_eq_false hr
      have HS := Lib.hid (HNR.out (by omega) (by rw [HZ.out]; exact hr))
      clear hr
      go_wp2_with fail
      go_quiet ((go_at_call 88; exact Calls.quiet_of_same ((R1.out _).mono fun e w' h => ⟨h.1, h.2.symm⟩)))
      go_wp2
      go_ret
      exact ⟨by rw [HS.out]; rfl, below_drewN (hB.alloc hsz _) _⟩
  ·have HS := Lib.hid (fitDir_all HN.out (by omega))
   go_wp2
   go_ret
   exact ⟨by rw [HS.out]; rfl, hB⟩
abbrev ndV (n : Nd) (pv ev : Value) : Value := .agg #[.int .i64 n.kd, .string n.d, pv, ev]
theorem emp_t {b : ByteArray} (h : b.size = 0) : b.toList.isEmpty = true := by rw [size_zero h, Lib.toList_data]; rfl
theorem emp_f {b : ByteArray} (h : b.size ≠ 0) : b.toList.isEmpty = false := by
 rw [Lib.toList_data]
 cases hd : b.data.toList with
 | nil => exact absurd (by rw [Lib.size_eq, hd]; rfl) h
 | cons => rfl
set_option maxRecDepth 100000 in
set_option maxHeartbeats 8000000 in
theorem rFit_any (n : Nd) (pv ev : Value) (w : World) (hp : IsParts w pv n.ps) (he : IsEntries w ev n.es) :
  Calls Tryz.prog 48 #[ndV n pv ev] w fun e w' => e = .returned (.bool (fitN n)) ∧ Below w.heap.size w w' := by
 have HP := Lib.hid hp; have HE := Lib.hid he
 obtain ⟨_, a1, cap1, hv1, _, _⟩ := hp
 obtain ⟨_, a2, cap2, hv2, _, _⟩ := he
 subst hv1 hv2
 have FF := Lib.hid rfitFile_any
 have FD := Lib.hid rfitDir_any
 by_cases k1 : n.kd = 1
 ·have t1 := ie_t k1
  have k := Lib.hid k1; clear k1
  by_cases d1 : 1 ≤ n.d.size
  ·have qd1 := (show decide ((1 : Int) ≤ (n.d.size : Int)) = true from decide_eq_true (by omega))
   by_cases d2 : n.d.size ≤ 4096
   ·have qd2 := (show decide ((n.d.size : Int) ≤ 4096) = true from decide_eq_true (by omega))
    by_cases p0 : n.ps.length = 0
    ·have qp0 := ie_t (show (n.ps.length : Int) = 0 by omega)
     by_cases e0 : n.es.length = 0
     ·have qe0 := ie_t (show (n.es.length : Int) = 0 by omega)
      have HF : Hid (fitN n = true) := show _ = _ by rw [fit_piece k.out]; simp only [Bool.and_eq_true, decide_eq_true_eq]; exact ⟨⟨⟨d1, d2⟩, p0⟩, e0⟩
      clear d1 d2 p0 e0
      go_enter Tryz.func48, Tryz.ntmps48
      go_wp2
      go_ret
      exact ⟨by rw [HF.out]; rfl, (Below.refl _ _).alloc (Nat.le_refl _) _⟩
     ·have qe0 := ie_f (show (n.es.length : Int) ≠ 0 by omega)
      have HF : Hid (fitN n = false) := show _ = _ by rw [fit_piece k.out, decide_eq_false e0]; simp
      clear e0
      go_enter Tryz.func48, Tryz.ntmps48
      go_wp2
      go_ret
      exact ⟨by rw [HF.out]; rfl, (Below.refl _ _).alloc (Nat.le_refl _) _⟩
    ·have qp0 := ie_f (show (n.ps.length : Int) ≠ 0 by omega)
     have HF : Hid (fitN n = false) := show _ = _ by rw [fit_piece k.out, decide_eq_false p0]; simp
     clear p0
     go_enter Tryz.func48, Tryz.ntmps48
     go_wp2
     go_ret
     exact ⟨by rw [HF.out]; rfl, (Below.refl _ _).alloc (Nat.le_refl _) _⟩
   ·have qd2 := (show decide ((n.d.size : Int) ≤ 4096) = false from decide_eq_false (by omega))
    have HF : Hid (fitN n = false) := show _ = _ by rw [fit_piece k.out, decide_eq_false d2]; simp
    clear d2
    go_enter Tryz.func48, Tryz.ntmps48
    go_wp2
    go_ret
    exact ⟨by rw [HF.out]; rfl, (Below.refl _ _).alloc (Nat.le_refl _) _⟩
  ·have qd1 := (show decide ((1 : Int) ≤ (n.d.size : Int)) = false from decide_eq_false (by omega))
   have HF : Hid (fitN n = false) := show _ = _ by rw [fit_piece k.out, decide_eq_false d1]; simp
   clear d1
   go_enter Tryz.func48, Tryz.ntmps48
   go_wp2
   go_ret
   exact ⟨by rw [HF.out]; rfl, (Below.refl _ _).alloc (Nat.le_refl _) _⟩
 ·have t1 := ie_f k1
  by_cases k2 : n.kd = 2
  ·have t2 := ie_t k2
   have k := Lib.hid k2; clear k2 k1
   by_cases d0 : n.d.size = 0
   ·have qd0 := emp_t d0
    by_cases e0 : n.es.length = 0
    ·have qe0 := ie_t (show (n.es.length : Int) = 0 by omega)
     by_cases p9 : n.ps.length ≤ 1024
     ·have qp9 := (show decide ((n.ps.length : Int) ≤ 1024) = true from decide_eq_true (by omega))
      have HF : Hid (fitN n = fitFileB n.ps) := show _ = _ by rw [fit_file k.out, decide_eq_true d0, decide_eq_true e0, decide_eq_true p9]; simp
      have F1 := Lib.hid (fun W hW => FF.out _ n.ps W (HP.out.stays hW) (by omega))
      clear d0 e0 p9
      go_enter Tryz.func48, Tryz.ntmps48
      go_wp2_with fail
      refine (F1.out _ ((Below.refl _ _).alloc (Nat.le_refl _) _)).mono ?_
      rintro e w1 ⟨rfl, rfl⟩
      go_wp2
      go_ret
      exact ⟨by rw [HF.out]; rfl, (Below.refl _ _).alloc (Nat.le_refl _) _⟩
     ·have qp9 := (show decide ((n.ps.length : Int) ≤ 1024) = false from decide_eq_false (by omega))
      have HF : Hid (fitN n = false) := show _ = _ by rw [fit_file k.out, decide_eq_false p9]; simp
      clear p9
      go_enter Tryz.func48, Tryz.ntmps48
      go_wp2
      go_ret
      exact ⟨by rw [HF.out]; rfl, (Below.refl _ _).alloc (Nat.le_refl _) _⟩
    ·have qe0 := ie_f (show (n.es.length : Int) ≠ 0 by omega)
     have HF : Hid (fitN n = false) := show _ = _ by rw [fit_file k.out, decide_eq_false e0]; simp
     clear e0
     go_enter Tryz.func48, Tryz.ntmps48
     go_wp2
     go_ret
     exact ⟨by rw [HF.out]; rfl, (Below.refl _ _).alloc (Nat.le_refl _) _⟩
   ·have qd0 := emp_f d0
    have HF : Hid (fitN n = false) := show _ = _ by rw [fit_file k.out, decide_eq_false d0]; simp
    clear d0
    go_enter Tryz.func48, Tryz.ntmps48
    go_wp2
    go_ret
    exact ⟨by rw [HF.out]; rfl, (Below.refl _ _).alloc (Nat.le_refl _) _⟩
  ·have t2 := ie_f k2
   by_cases k3 : n.kd = 3
   ·have t3 := ie_t k3
    have k := Lib.hid k3; clear k3 k2 k1
    by_cases d0 : n.d.size = 0
    ·have qd0 := emp_t d0
     by_cases p0 : n.ps.length = 0
     ·have qp0 := ie_t (show (n.ps.length : Int) = 0 by omega)
      by_cases e9 : n.es.length ≤ 60
      ·have qe9 := (show decide ((n.es.length : Int) ≤ 60) = true from decide_eq_true (by omega))
       have HF : Hid (fitN n = fitDirB n.es) := show _ = _ by rw [fit_dir k.out, decide_eq_true d0, decide_eq_true p0, decide_eq_true e9]; simp
       have F1 := Lib.hid (fun W hW => FD.out _ n.es W (HE.out.stays hW))
       clear d0 p0 e9
       go_enter Tryz.func48, Tryz.ntmps48
       go_wp2_with fail
       refine (F1.out _ ((Below.refl _ _).alloc (Nat.le_refl _) _)).mono ?_
       rintro e w1 ⟨rfl, hb1⟩
       go_wp2
       go_ret
       exact ⟨by rw [HF.out]; rfl, below_step ((Below.refl _ _).alloc (Nat.le_refl _) _) hb1⟩
      ·have qe9 := (show decide ((n.es.length : Int) ≤ 60) = false from decide_eq_false (by omega))
       have HF : Hid (fitN n = false) := show _ = _ by rw [fit_dir k.out, decide_eq_false e9]; simp
       clear e9
       go_enter Tryz.func48, Tryz.ntmps48
       go_wp2
       go_ret
       exact ⟨by rw [HF.out]; rfl, (Below.refl _ _).alloc (Nat.le_refl _) _⟩
     ·have qp0 := ie_f (show (n.ps.length : Int) ≠ 0 by omega)
      have HF : Hid (fitN n = false) := show _ = _ by rw [fit_dir k.out, decide_eq_false p0]; simp
      clear p0
      go_enter Tryz.func48, Tryz.ntmps48
      go_wp2
      go_ret
      exact ⟨by rw [HF.out]; rfl, (Below.refl _ _).alloc (Nat.le_refl _) _⟩
    ·have qd0 := emp_f d0
     have HF : Hid (fitN n = false) := show _ = _ by rw [fit_dir k.out, decide_eq_false d0]; simp
     clear d0
     go_enter Tryz.func48, Tryz.ntmps48
     go_wp2
     go_ret
     exact ⟨by rw [HF.out]; rfl, (Below.refl _ _).alloc (Nat.le_refl _) _⟩
   ·have t3 := ie_f k3
    have HF : Hid (fitN n = false) := fit_none k1 k2 k3
    clear k1 k2 k3
    go_enter Tryz.func48, Tryz.ntmps48
    go_wp2
    go_ret
    exact ⟨by rw [HF.out]; rfl, (Below.refl _ _).alloc (Nat.le_refl _) _⟩
def RdNode (b : Nat) (w : World) (o : Option (Nd × List UInt8)) (e : Ending) (w' : World) : Prop :=
 match o with
 | some x => (∃ pv ev, e = .returned (ndV x.1 pv ev) ∧ OwnP w.heap.size w' pv x.1.ps ∧ OwnE w.heap.size w' ev x.1.es) ∧ w.grownBy w' (some b) ∧ Rd w' b x.2
 | none => Threw b w e w'
theorem row4_row {w : World} {B : Nat} {a b c d : Value} {T : TypeId} (h : Row w B #[a, b, c, d] T) (p q r s : Value) :
  Row ((((w.setCell ⟨B, 0, none⟩ p).setCell ⟨B, 1, none⟩ q).setCell ⟨B, 2, none⟩ r).setCell ⟨B, 3, none⟩ s) B #[p, q, r, s] T := (((h.set 0 p).set 1 q).set 2 r).set 3 s
theorem OwnP.setBelow {B : Nat} {w : World} {v : Value} {L : List Pt} (h : OwnP B w v L) {a : Addr} (ha : a.block < B) (u : Value) : OwnP B (w.setCell a u) v L := ownsRow_setCell_below h ha u
theorem OwnE.setBelow {B : Nat} {w : World} {v : Value} {L : List En} (h : OwnE B w v L) {a : Addr} (ha : a.block < B) (u : Value) : OwnE B (w.setCell a u) v L := ownsRow_setCell_below h ha u
theorem ownsRow_mono {w : World} {base base' : Nat} {e : TypeId} {size : Nat} {v : Value} {n : Nat} {xs : List Value} (h : w.ownsRow base e size v n xs) (hb : base' ≤ base) : w.ownsRow base' e size v n xs := by
 obtain ⟨h1, h2⟩ := h
 refine ⟨h1, ?_⟩
 rcases h2 with h2 | ⟨g, cap, cur, hv, hg, r⟩
 ·exact Or.inl h2
 ·exact Or.inr ⟨g, cap, cur, hv, Nat.le_trans hb hg, r⟩
theorem OwnP.mono {B B' : Nat} {w : World} {v : Value} {L : List Pt} (h : OwnP B w v L) (hb : B' ≤ B) : OwnP B' w v L := ownsRow_mono h hb
theorem OwnE.mono {B B' : Nat} {w : World} {v : Value} {L : List En} (h : OwnE B w v L) (hb : B' ≤ B) : OwnE B' w v L := ownsRow_mono h hb
theorem pNode_one {c : UInt8} {r : List UInt8} (h : c.toNat = 1) : pNode (c :: r) = some (⟨1, ⟨r.toArray⟩, [], []⟩, []) := by unfold pNode; simp only; rw [if_pos h]
theorem pNode_other {c : UInt8} {r : List UInt8} (h1 : c.toNat ≠ 1) (h2 : c.toNat ≠ 2) (h3 : c.toNat ≠ 3) : pNode (c :: r) = some (⟨(c.toNat : Int), ⟨#[]⟩, [], []⟩, r) := by
 unfold pNode; simp only; rw [if_neg h1, if_neg h2, if_neg h3]
theorem pNode_file {c : UInt8} {r : List UInt8} {n j x : Nat} (h : c.toNat = 2) (hv : vtake r = (n, j, x)) : pNode (c :: r) = if x ≠ 0 then none else (pList pPart n (r.drop j)).map fun y => (⟨2, ⟨#[]⟩, y.1, []⟩, y.2) := by
 unfold pNode; simp only; rw [if_neg (by omega), if_pos h, hv]
theorem pNode_dir {c : UInt8} {r : List UInt8} {n j x : Nat} (h : c.toNat = 3) (hv : vtake r = (n, j, x)) : pNode (c :: r) = if x ≠ 0 then none else (pList pEntry n (r.drop j)).map fun y => (⟨3, ⟨#[]⟩, [], y.1⟩, y.2) := by
 unfold pNode; simp only; rw [if_neg (by omega), if_neg (by omega), if_pos h, hv]
set_option maxRecDepth 100000 in
set_option maxHeartbeats 2000000 in
theorem node_any (b : Nat) (l : List UInt8) (hl : l.length ≤ 1000000) (w : World) (hR : Rd w b l) :
  Calls Tryz.prog 130 #[.pointer (some ⟨b, 0, none⟩)] w (RdNode b w (pNode l)) := by
 have hb0 := (Below.refl w.heap.size w).alloc (Nat.le_refl _) (.cells #[.int .i64 0, .string ⟨#[]⟩, .slice none 0 0, .slice none 0 0] 53)
 have hlt := hR.lt
 have KA := Lib.hid (kind_any b l hl _ (hR.stays hb0))
 have HBX := Lib.hid (Row.made w #[.int .i64 0, .string ⟨#[]⟩, .slice none 0 0, .slice none 0 0] 53)
 have hne : w.heap.size ≠ b := by omega
 cases l with
 | nil =>
  go_enter Tryz.func130, Tryz.ntmps130
  go_wp2_with fail
  refine KA.out.mono ?_
  rintro e w1 ⟨⟨k, rfl⟩, hg⟩
  go_wp2
  exact ⟨rfl, ⟨k, rfl⟩, grownBy_trans (grownBy_some hb0) hg⟩
 | cons c r =>
  have hc := c.toNat_lt
  have hrl : r.length ≤ 1000000 := by rw [List.length_cons] at hl; omega
  by_cases h1 : c.toNat = 1
  ·have q1 : ((c.toNat : Int) == 1) = true := ie_t (by omega)
   have hk1 : (c.toNat : Int) = 1 := by omega
   have HN := Lib.hid (pNode_one (r := r) h1)
   have KA2 : Hid (Calls Tryz.prog 150 #[.pointer (some ⟨b, 0, none⟩)] (w.alloc (.cells #[.int .i64 0, .string ⟨#[]⟩, .slice none 0 0, .slice none 0 0] 53)) (RdRet b (w.alloc (.cells #[.int .i64 0, .string ⟨#[]⟩, .slice none 0 0, .slice none 0 0] 53)) (some (.int .i64 1, r)))) := Lib.hid (by have := KA.out; unfold oKind at this; simp only [hk1] at this; exact this)
   clear KA
   have KA := KA2
   clear KA2 q1 hk1 h1
   go_enter Tryz.func130, Tryz.ntmps130
   go_wp2_with fail
   refine KA.out.mono ?_
   rintro e w1 ⟨rfl, hg1, hR1⟩
   have HG1 := Lib.hid (grownBy_trans (grownBy_some (B := b) hb0) hg1)
   have hX := HBX.out.turned hg1 hne
   have c0 := hX.cell 0; have c1 := hX.cell 1; have c2 := hX.cell 2; have c3 := hX.cell 3
   have f0 := hX.free 0; have f1 := hX.free 1; have f2 := hX.free 2; have f3 := hX.free 3
   simp only [List.getElem?_toArray, List.getElem?_cons_zero, List.getElem?_cons_succ] at c0 c1 c2 c3
   have hlx := hX.lt
   have HX := Lib.hid hX; have HR1 := Lib.hid hR1
   clear hX hR1 hg1
   have r0 := (HR1.out.stays (Below.refl _ _))
   obtain ⟨S, hS, hRS⟩ := r0
   have s0 := hRS.cell 0
   simp only [List.getElem?_toArray, List.getElem?_cons_zero] at s0
   have hblt := hRS.lt
   have hSz : S.size = r.length := by rw [Lib.size_eq, hS]
   go_wp2_with fail
   obtain ⟨V, hV⟩ : ∃ V, V = w1.alloc (.cells #[.int .i64 1, .string ⟨#[]⟩, .slice none 0 0, .slice none 0 0] 53) := ⟨_, rfl⟩
   have hbV : Below w1.heap.size w1 V := by rw [hV]; exact (Below.refl _ _).alloc (Nat.le_refl _) _
   have HB : Hid (Row V w1.heap.size #[.int .i64 1, .string ⟨#[]⟩, .slice none 0 0, .slice none 0 0] 53) := Lib.hid (by rw [hV]; exact Row.made _ _ _)
   have HRV := Lib.hid (HR1.out.stays hbV)
   have HXV := Lib.hid (HX.out.step hbV)
   have HGV := Lib.hid (grownBy_then HG1.out hbV)
   have hbx : w1.heap.size ≠ b := by have := HR1.out.lt; omega
   have hxx : w1.heap.size ≠ w.heap.size := by omega
   obtain ⟨X, hXe⟩ : ∃ X, X = w1.heap.size := ⟨_, rfl⟩
   obtain ⟨B0, hB0⟩ : ∃ B0, B0 = w.heap.size := ⟨_, rfl⟩
   rw [← hV]
   have TA := Lib.hid (take_any b r.length r hrl V HRV.out)
   have hT : Hid (oTake r.length r = some (.string ⟨r.toArray⟩, [])) := Lib.hid (by unfold oTake; rw [if_pos (by omega), List.take_length, List.drop_length])
   rw [hT.out] at TA
   clear hS hRS s0 hSz hT hV c0 c1 c2 c3 f0 f1 f2 f3
   with_reducible refine TA.out.mono ?_
   rintro e w2 ⟨rfl, hg2, hR2⟩
   have HG2 := Lib.hid (grownBy_trans HGV.out hg2)
   have HR2 := Lib.hid hR2
   have hsz2 := hg2.size
   have hbx2 := HB.out.turned hg2 hbx
   have hbx3 := HXV.out.turned hg2 hne
   have HB2 := Lib.hid hbx2; have HX2 := Lib.hid hbx3
   have b0 := hbx2.cell 0; have b1 := hbx2.cell 1; have b2 := hbx2.cell 2; have b3 := hbx2.cell 3
   have g0 := hbx2.free 0; have g1 := hbx2.free 1; have g2 := hbx2.free 2; have g3 := hbx2.free 3
   have c0 := hbx3.cell 0; have c1 := hbx3.cell 1; have c2 := hbx3.cell 2; have c3 := hbx3.cell 3
   have f0 := hbx3.free 0; have f1 := hbx3.free 1; have f2 := hbx3.free 2; have f3 := hbx3.free 3
   simp only [List.getElem?_toArray, List.getElem?_cons_zero, List.getElem?_cons_succ] at b0 b1 b2 b3 c0 c1 c2 c3
   clear hbx2 hbx3
   clear hg2 hR2 hXe hB0
   have hs1 := HB2.out.set 1 (.string ⟨r.toArray⟩)
   have hs2 := HX2.out.other ⟨w1.heap.size, 1, none⟩ (.string ⟨r.toArray⟩) (Ne.symm hxx)
   have e0 := hs1.cell 0; have e1 := hs1.cell 1; have e2 := hs1.cell 2; have e3 := hs1.cell 3
   have p0 := hs2.cell 0; have p1 := hs2.cell 1; have p2 := hs2.cell 2; have p3 := hs2.cell 3
   simp at e0 e1 e2 e3 p0 p1 p2 p3
   go_wp2
   have hR4 := row4_row hs2 (.int .i64 1) (.string ⟨r.toArray⟩) (.slice none 0 0) (.slice none 0 0)
   have d0 := hR4.cell 0; have d1 := hR4.cell 1; have d2 := hR4.cell 2; have d3 := hR4.cell 3
   simp only [List.getElem?_toArray, List.getElem?_cons_zero, List.getElem?_cons_succ] at d0 d1 d2 d3
   refine bodyPost_ret (v := .agg #[.int .i64 1, .string ⟨r.toArray⟩, .slice none 0 0, .slice none 0 0]) (by simp [results, Tryz.results130, go_sem, d0, d1, d2, d3]) rfl ?_
   rw [HN.out]
   refine ⟨⟨_, _, rfl, parts_own_nil _ _, entries_own_nil _ _⟩, ?_, ?_⟩
   ·exact grownBy_setNew (grownBy_setNew (grownBy_setNew (grownBy_setNew (grownBy_setNew HG2.out (by show w.heap.size ≤ w1.heap.size; omega) _) (Nat.le_refl _) _) (Nat.le_refl _) _) (Nat.le_refl _) _) (Nat.le_refl _) _
   ·exact ((((HR2.out.other _ (Ne.symm hbx) _).other _ (Ne.symm hne) _).other _ (Ne.symm hne) _).other _ (Ne.symm hne) _).other _ (Ne.symm hne) _
  ·have q1 : ((c.toNat : Int) == 1) = false := ie_f (by omega)
   by_cases h2 : c.toNat = 2
   ·have hk1 : (c.toNat : Int) = 2 := by omega
    obtain ⟨n, j, x, hv⟩ : ∃ n j x, vtake r = (n, j, x) := ⟨_, _, _, rfl⟩
    have HN := Lib.hid (pNode_file (r := r) h2 hv)
    have KA2 : Hid (Calls Tryz.prog 150 #[.pointer (some ⟨b, 0, none⟩)] (w.alloc (.cells #[.int .i64 0, .string ⟨#[]⟩, .slice none 0 0, .slice none 0 0] 53)) (RdRet b (w.alloc (.cells #[.int .i64 0, .string ⟨#[]⟩, .slice none 0 0, .slice none 0 0] 53)) (some (.int .i64 2, r)))) := Lib.hid (by have := KA.out; unfold oKind at this; simp only [hk1] at this; exact this)
    clear KA
    have KA := KA2
    have NA := Lib.hid (fun w h => number_any b r hrl w h)
    have hON : Hid (oNumber r = if x ≠ 0 then none else some (.int .u64 (n : Nat), r.drop j)) := show _ = _ by unfold oNumber; rw [hv]
    rw [hON.out] at NA
    clear KA2 q1 h1 h2 hk1 hON
    by_cases hx : x = 0
    ·subst hx
     rw [if_neg (by simp)] at HN NA
     have hu := (put_take hv).2.2.2.2
     have LA := Lib.hid (fun w h => listP_any b n hu (r.drop j) (by rw [List.length_drop]; omega) w h)
     clear hv
     go_enter Tryz.func130, Tryz.ntmps130
     go_wp2_with fail
     refine KA.out.mono ?_
     rintro e w1 ⟨rfl, hg1, hR1⟩
     have HG1 := Lib.hid (grownBy_trans (grownBy_some (B := b) hb0) hg1)
     have hX := HBX.out.turned hg1 hne
     have c0 := hX.cell 0; have c1 := hX.cell 1; have c2 := hX.cell 2; have c3 := hX.cell 3
     have f0 := hX.free 0; have f1 := hX.free 1; have f2 := hX.free 2; have f3 := hX.free 3
     simp only [List.getElem?_toArray, List.getElem?_cons_zero, List.getElem?_cons_succ] at c0 c1 c2 c3
     have hlx := hX.lt
     have HX := Lib.hid hX; have HR1 := Lib.hid hR1
     clear hX hR1 hg1
     have hblt := HR1.out.lt
     go_wp2_with fail
     obtain ⟨V, hV⟩ : ∃ V, V = w1.alloc (.cells #[.int .i64 2, .string ⟨#[]⟩, .slice none 0 0, .slice none 0 0] 53) := ⟨_, rfl⟩
     have hbV : Below w1.heap.size w1 V := by rw [hV]; exact (Below.refl _ _).alloc (Nat.le_refl _) _
     have HB : Hid (Row V w1.heap.size #[.int .i64 2, .string ⟨#[]⟩, .slice none 0 0, .slice none 0 0] 53) := Lib.hid (by rw [hV]; exact Row.made _ _ _)
     have HRV := Lib.hid (HR1.out.stays hbV)
     have HXV := Lib.hid (HX.out.step hbV)
     have HGV := Lib.hid (grownBy_then HG1.out hbV)
     have hbx : w1.heap.size ≠ b := by have := HR1.out.lt; omega
     have hxx : w1.heap.size ≠ w.heap.size := by omega
     obtain ⟨X, hXe⟩ : ∃ X, X = w1.heap.size := ⟨_, rfl⟩
     obtain ⟨B0, hB0⟩ : ∃ B0, B0 = w.heap.size := ⟨_, rfl⟩
     rw [← hV]
     clear hV c0 c1 c2 c3 f0 f1 f2 f3
     with_reducible refine (NA.out V HRV.out).mono ?_
     rintro e w2 ⟨rfl, hg2, hR2⟩
     have HG2 := Lib.hid (grownBy_trans HGV.out hg2)
     have HBn := Lib.hid (HB.out.turned hg2 hbx)
     have HXn := Lib.hid (HXV.out.turned hg2 hne)
     have HR2 := Lib.hid hR2
     clear hg2 hR2
     go_wp2_with fail
     have LA2 := Lib.hid (LA.out w2 HR2.out)
     cases hp : pList pPart n (r.drop j) with
     | none =>
      rw [hp] at LA2 HN
      clear hp
      with_reducible refine LA2.out.mono ?_
      rintro e w3 ⟨⟨k, rfl⟩, hg3⟩
      have HG3 := Lib.hid (grownBy_trans HG2.out hg3)
      clear hg3
      go_wp2
      refine ⟨rfl, ?_⟩
      rw [HN.out]
      exact ⟨⟨k, rfl⟩, HG3.out⟩
     | some y =>
      obtain ⟨L, r'⟩ := y
      rw [hp] at LA2 HN
      clear hp
      with_reducible refine LA2.out.mono ?_
      rintro e w3 ⟨⟨v, rfl, hO⟩, hg3, hR3⟩
      have HG3 := Lib.hid (grownBy_trans HG2.out hg3)
      have HR3 := Lib.hid hR3
      have hX2 := HBn.out.lt; have hB2 := HXn.out.lt
      obtain ⟨_, av, cv, hve, _, _⟩ := hO.is
      subst hve
      have HO := Lib.hid hO
      have hbx2 := HBn.out.turned hg3 hbx
      have hbx3 := HXn.out.turned hg3 hne
      have HB2 := Lib.hid hbx2; have HX2 := Lib.hid hbx3
      have b0 := hbx2.cell 0; have b1 := hbx2.cell 1; have b2 := hbx2.cell 2; have b3 := hbx2.cell 3
      have g0 := hbx2.free 0; have g1 := hbx2.free 1; have g2 := hbx2.free 2; have g3 := hbx2.free 3
      have c0 := hbx3.cell 0; have c1 := hbx3.cell 1; have c2 := hbx3.cell 2; have c3 := hbx3.cell 3
      have f0 := hbx3.free 0; have f1 := hbx3.free 1; have f2 := hbx3.free 2; have f3 := hbx3.free 3
      simp only [List.getElem?_toArray, List.getElem?_cons_zero, List.getElem?_cons_succ] at b0 b1 b2 b3 c0 c1 c2 c3
      clear hbx2 hbx3
      clear hg3 hR3 hO hXe hB0
      have hs1 := HB2.out.set 2 (.slice av L.length cv)
      have hs2 := HX2.out.other ⟨w1.heap.size, 2, none⟩ (.slice av L.length cv) (Ne.symm hxx)
      have e0 := hs1.cell 0; have e1 := hs1.cell 1; have e2 := hs1.cell 2; have e3 := hs1.cell 3
      have p0 := hs2.cell 0; have p1 := hs2.cell 1; have p2 := hs2.cell 2; have p3 := hs2.cell 3
      simp at e0 e1 e2 e3 p0 p1 p2 p3
      go_wp2
      have hR4 := row4_row hs2 (.int .i64 2) (.string ⟨#[]⟩) (.slice av L.length cv) (.slice none 0 0)
      have d0 := hR4.cell 0; have d1 := hR4.cell 1; have d2 := hR4.cell 2; have d3 := hR4.cell 3
      simp only [List.getElem?_toArray, List.getElem?_cons_zero, List.getElem?_cons_succ] at d0 d1 d2 d3
      refine bodyPost_ret (v := .agg #[.int .i64 2, .string ⟨#[]⟩, .slice av L.length cv, .slice none 0 0]) (by simp [results, Tryz.results130, go_sem, d0, d1, d2, d3]) rfl ?_
      rw [HN.out]
      refine ⟨⟨_, _, rfl, (((((HO.out.setBelow (a := ⟨w1.heap.size, 2, none⟩) hX2 _).setBelow (a := ⟨w.heap.size, 0, none⟩) hB2 _).setBelow (a := ⟨w.heap.size, 1, none⟩) hB2 _).setBelow (a := ⟨w.heap.size, 2, none⟩) hB2 _).setBelow (a := ⟨w.heap.size, 3, none⟩) hB2 _).mono (Nat.le_of_lt hB2), entries_own_nil _ _⟩, ?_, ?_⟩
      ·exact grownBy_setNew (grownBy_setNew (grownBy_setNew (grownBy_setNew (grownBy_setNew HG3.out (by show w.heap.size ≤ w1.heap.size; omega) _) (Nat.le_refl _) _) (Nat.le_refl _) _) (Nat.le_refl _) _) (Nat.le_refl _) _
      ·exact ((((HR3.out.other _ (Ne.symm hbx) _).other _ (Ne.symm hne) _).other _ (Ne.symm hne) _).other _ (Ne.symm hne) _).other _ (Ne.symm hne) _
    ·rw [if_pos hx] at HN NA
     clear hv hx
     go_enter Tryz.func130, Tryz.ntmps130
     go_wp2_with fail
     refine KA.out.mono ?_
     rintro e w1 ⟨rfl, hg1, hR1⟩
     have HG1 := Lib.hid (grownBy_trans (grownBy_some (B := b) hb0) hg1)
     have hX := HBX.out.turned hg1 hne
     have c0 := hX.cell 0; have c1 := hX.cell 1; have c2 := hX.cell 2; have c3 := hX.cell 3
     have f0 := hX.free 0; have f1 := hX.free 1; have f2 := hX.free 2; have f3 := hX.free 3
     simp only [List.getElem?_toArray, List.getElem?_cons_zero, List.getElem?_cons_succ] at c0 c1 c2 c3
     have hlx := hX.lt
     have HX := Lib.hid hX; have HR1 := Lib.hid hR1
     clear hX hR1 hg1
     have hblt := HR1.out.lt
     go_wp2_with fail
     obtain ⟨V, hV⟩ : ∃ V, V = w1.alloc (.cells #[.int .i64 2, .string ⟨#[]⟩, .slice none 0 0, .slice none 0 0] 53) := ⟨_, rfl⟩
     have hbV : Below w1.heap.size w1 V := by rw [hV]; exact (Below.refl _ _).alloc (Nat.le_refl _) _
     have HB : Hid (Row V w1.heap.size #[.int .i64 2, .string ⟨#[]⟩, .slice none 0 0, .slice none 0 0] 53) := Lib.hid (by rw [hV]; exact Row.made _ _ _)
     have HRV := Lib.hid (HR1.out.stays hbV)
     have HXV := Lib.hid (HX.out.step hbV)
     have HGV := Lib.hid (grownBy_then HG1.out hbV)
     have hbx : w1.heap.size ≠ b := by have := HR1.out.lt; omega
     have hxx : w1.heap.size ≠ w.heap.size := by omega
     obtain ⟨X, hXe⟩ : ∃ X, X = w1.heap.size := ⟨_, rfl⟩
     obtain ⟨B0, hB0⟩ : ∃ B0, B0 = w.heap.size := ⟨_, rfl⟩
     rw [← hV]
     clear hV c0 c1 c2 c3 f0 f1 f2 f3
     with_reducible refine (NA.out V HRV.out).mono ?_
     rintro e w2 ⟨⟨k, rfl⟩, hg2⟩
     have HG2 := Lib.hid (grownBy_trans HGV.out hg2)
     clear hg2
     go_wp2
     refine ⟨rfl, ?_⟩
     rw [HN.out]
     exact ⟨⟨k, rfl⟩, HG2.out⟩
   ·have q2 : ((c.toNat : Int) == 2) = false := ie_f (by omega)
    by_cases h3 : c.toNat = 3
    ·have hk1 : (c.toNat : Int) = 3 := by omega
     obtain ⟨n, j, x, hv⟩ : ∃ n j x, vtake r = (n, j, x) := ⟨_, _, _, rfl⟩
     have HN := Lib.hid (pNode_dir (r := r) h3 hv)
     have KA2 : Hid (Calls Tryz.prog 150 #[.pointer (some ⟨b, 0, none⟩)] (w.alloc (.cells #[.int .i64 0, .string ⟨#[]⟩, .slice none 0 0, .slice none 0 0] 53)) (RdRet b (w.alloc (.cells #[.int .i64 0, .string ⟨#[]⟩, .slice none 0 0, .slice none 0 0] 53)) (some (.int .i64 3, r)))) := Lib.hid (by have := KA.out; unfold oKind at this; simp only [hk1] at this; exact this)
     clear KA
     have KA := KA2
     have NA := Lib.hid (fun w h => number_any b r hrl w h)
     have hON : Hid (oNumber r = if x ≠ 0 then none else some (.int .u64 (n : Nat), r.drop j)) := show _ = _ by unfold oNumber; rw [hv]
     rw [hON.out] at NA
     clear KA2 q1 h1 q2 h2 h3 hk1 hON
     by_cases hx : x = 0
     ·subst hx
      rw [if_neg (by simp)] at HN NA
      have hu := (put_take hv).2.2.2.2
      have LA := Lib.hid (fun w h => listE_any b n hu (r.drop j) (by rw [List.length_drop]; omega) w h)
      clear hv
      go_enter Tryz.func130, Tryz.ntmps130
      go_wp2_with fail
      refine KA.out.mono ?_
      rintro e w1 ⟨rfl, hg1, hR1⟩
      have HG1 := Lib.hid (grownBy_trans (grownBy_some (B := b) hb0) hg1)
      have hX := HBX.out.turned hg1 hne
      have c0 := hX.cell 0; have c1 := hX.cell 1; have c2 := hX.cell 2; have c3 := hX.cell 3
      have f0 := hX.free 0; have f1 := hX.free 1; have f2 := hX.free 2; have f3 := hX.free 3
      simp only [List.getElem?_toArray, List.getElem?_cons_zero, List.getElem?_cons_succ] at c0 c1 c2 c3
      have hlx := hX.lt
      have HX := Lib.hid hX; have HR1 := Lib.hid hR1
      clear hX hR1 hg1
      have hblt := HR1.out.lt
      go_wp2_with fail
      obtain ⟨V, hV⟩ : ∃ V, V = w1.alloc (.cells #[.int .i64 3, .string ⟨#[]⟩, .slice none 0 0, .slice none 0 0] 53) := ⟨_, rfl⟩
      have hbV : Below w1.heap.size w1 V := by rw [hV]; exact (Below.refl _ _).alloc (Nat.le_refl _) _
      have HB : Hid (Row V w1.heap.size #[.int .i64 3, .string ⟨#[]⟩, .slice none 0 0, .slice none 0 0] 53) := Lib.hid (by rw [hV]; exact Row.made _ _ _)
      have HRV := Lib.hid (HR1.out.stays hbV)
      have HXV := Lib.hid (HX.out.step hbV)
      have HGV := Lib.hid (grownBy_then HG1.out hbV)
      have hbx : w1.heap.size ≠ b := by have := HR1.out.lt; omega
      have hxx : w1.heap.size ≠ w.heap.size := by omega
      obtain ⟨X, hXe⟩ : ∃ X, X = w1.heap.size := ⟨_, rfl⟩
      obtain ⟨B0, hB0⟩ : ∃ B0, B0 = w.heap.size := ⟨_, rfl⟩
      rw [← hV]
      clear hV c0 c1 c2 c3 f0 f1 f2 f3
      with_reducible refine (NA.out V HRV.out).mono ?_
      rintro e w2 ⟨rfl, hg2, hR2⟩
      have HG2 := Lib.hid (grownBy_trans HGV.out hg2)
      have HBn := Lib.hid (HB.out.turned hg2 hbx)
      have HXn := Lib.hid (HXV.out.turned hg2 hne)
      have HR2 := Lib.hid hR2
      clear hg2 hR2
      go_wp2_with fail
      have LA2 := Lib.hid (LA.out w2 HR2.out)
      cases hp : pList pEntry n (r.drop j) with
      | none =>
       rw [hp] at LA2 HN
       clear hp
       with_reducible refine LA2.out.mono ?_
       rintro e w3 ⟨⟨k, rfl⟩, hg3⟩
       have HG3 := Lib.hid (grownBy_trans HG2.out hg3)
       clear hg3
       go_wp2
       refine ⟨rfl, ?_⟩
       rw [HN.out]
       exact ⟨⟨k, rfl⟩, HG3.out⟩
      | some y =>
       obtain ⟨L, r'⟩ := y
       rw [hp] at LA2 HN
       clear hp
       with_reducible refine LA2.out.mono ?_
       rintro e w3 ⟨⟨v, rfl, hO⟩, hg3, hR3⟩
       have HG3 := Lib.hid (grownBy_trans HG2.out hg3)
       have HR3 := Lib.hid hR3
       have hX2 := HBn.out.lt; have hB2 := HXn.out.lt
       obtain ⟨_, av, cv, hve, _, _⟩ := hO.is
       subst hve
       have HO := Lib.hid hO
       have hbx2 := HBn.out.turned hg3 hbx
       have hbx3 := HXn.out.turned hg3 hne
       have HB2 := Lib.hid hbx2; have HX2 := Lib.hid hbx3
       have b0 := hbx2.cell 0; have b1 := hbx2.cell 1; have b2 := hbx2.cell 2; have b3 := hbx2.cell 3
       have g0 := hbx2.free 0; have g1 := hbx2.free 1; have g2 := hbx2.free 2; have g3 := hbx2.free 3
       have c0 := hbx3.cell 0; have c1 := hbx3.cell 1; have c2 := hbx3.cell 2; have c3 := hbx3.cell 3
       have f0 := hbx3.free 0; have f1 := hbx3.free 1; have f2 := hbx3.free 2; have f3 := hbx3.free 3
       simp only [List.getElem?_toArray, List.getElem?_cons_zero, List.getElem?_cons_succ] at b0 b1 b2 b3 c0 c1 c2 c3
       clear hbx2 hbx3
       clear hg3 hR3 hO hXe hB0
       have hs1 := HB2.out.set 3 (.slice av L.length cv)
       have hs2 := HX2.out.other ⟨w1.heap.size, 3, none⟩ (.slice av L.length cv) (Ne.symm hxx)
       have e0 := hs1.cell 0; have e1 := hs1.cell 1; have e2 := hs1.cell 2; have e3 := hs1.cell 3
       have p0 := hs2.cell 0; have p1 := hs2.cell 1; have p2 := hs2.cell 2; have p3 := hs2.cell 3
       simp at e0 e1 e2 e3 p0 p1 p2 p3
       go_wp2
       have hR4 := row4_row hs2 (.int .i64 3) (.string ⟨#[]⟩) (.slice none 0 0) (.slice av L.length cv)
       have d0 := hR4.cell 0; have d1 := hR4.cell 1; have d2 := hR4.cell 2; have d3 := hR4.cell 3
       simp only [List.getElem?_toArray, List.getElem?_cons_zero, List.getElem?_cons_succ] at d0 d1 d2 d3
       refine bodyPost_ret (v := .agg #[.int .i64 3, .string ⟨#[]⟩, .slice none 0 0, .slice av L.length cv]) (by simp [results, Tryz.results130, go_sem, d0, d1, d2, d3]) rfl ?_
       rw [HN.out]
       refine ⟨⟨_, _, rfl, parts_own_nil _ _, (((((HO.out.setBelow (a := ⟨w1.heap.size, 3, none⟩) hX2 _).setBelow (a := ⟨w.heap.size, 0, none⟩) hB2 _).setBelow (a := ⟨w.heap.size, 1, none⟩) hB2 _).setBelow (a := ⟨w.heap.size, 2, none⟩) hB2 _).setBelow (a := ⟨w.heap.size, 3, none⟩) hB2 _).mono (Nat.le_of_lt hB2)⟩, ?_, ?_⟩
       ·exact grownBy_setNew (grownBy_setNew (grownBy_setNew (grownBy_setNew (grownBy_setNew HG3.out (by show w.heap.size ≤ w1.heap.size; omega) _) (Nat.le_refl _) _) (Nat.le_refl _) _) (Nat.le_refl _) _) (Nat.le_refl _) _
       ·exact ((((HR3.out.other _ (Ne.symm hbx) _).other _ (Ne.symm hne) _).other _ (Ne.symm hne) _).other _ (Ne.symm hne) _).other _ (Ne.symm hne) _
     ·rw [if_pos hx] at HN NA
      clear hv hx
      go_enter Tryz.func130, Tryz.ntmps130
      go_wp2_with fail
      refine KA.out.mono ?_
      rintro e w1 ⟨rfl, hg1, hR1⟩
      have HG1 := Lib.hid (grownBy_trans (grownBy_some (B := b) hb0) hg1)
      have hX := HBX.out.turned hg1 hne
      have c0 := hX.cell 0; have c1 := hX.cell 1; have c2 := hX.cell 2; have c3 := hX.cell 3
      have f0 := hX.free 0; have f1 := hX.free 1; have f2 := hX.free 2; have f3 := hX.free 3
      simp only [List.getElem?_toArray, List.getElem?_cons_zero, List.getElem?_cons_succ] at c0 c1 c2 c3
      have hlx := hX.lt
      have HX := Lib.hid hX; have HR1 := Lib.hid hR1
      clear hX hR1 hg1
      have hblt := HR1.out.lt
      go_wp2_with fail
      obtain ⟨V, hV⟩ : ∃ V, V = w1.alloc (.cells #[.int .i64 3, .string ⟨#[]⟩, .slice none 0 0, .slice none 0 0] 53) := ⟨_, rfl⟩
      have hbV : Below w1.heap.size w1 V := by rw [hV]; exact (Below.refl _ _).alloc (Nat.le_refl _) _
      have HB : Hid (Row V w1.heap.size #[.int .i64 3, .string ⟨#[]⟩, .slice none 0 0, .slice none 0 0] 53) := Lib.hid (by rw [hV]; exact Row.made _ _ _)
      have HRV := Lib.hid (HR1.out.stays hbV)
      have HXV := Lib.hid (HX.out.step hbV)
      have HGV := Lib.hid (grownBy_then HG1.out hbV)
      have hbx : w1.heap.size ≠ b := by have := HR1.out.lt; omega
      have hxx : w1.heap.size ≠ w.heap.size := by omega
      obtain ⟨X, hXe⟩ : ∃ X, X = w1.heap.size := ⟨_, rfl⟩
      obtain ⟨B0, hB0⟩ : ∃ B0, B0 = w.heap.size := ⟨_, rfl⟩
      rw [← hV]
      clear hV c0 c1 c2 c3 f0 f1 f2 f3
      with_reducible refine (NA.out V HRV.out).mono ?_
      rintro e w2 ⟨⟨k, rfl⟩, hg2⟩
      have HG2 := Lib.hid (grownBy_trans HGV.out hg2)
      clear hg2
      go_wp2
      refine ⟨rfl, ?_⟩
      rw [HN.out]
      exact ⟨⟨k, rfl⟩, HG2.out⟩
    ·have q3 : ((c.toNat : Int) == 3) = false := ie_f (by omega)
     have HN := Lib.hid (pNode_other (r := r) h1 h2 h3)
     clear h1 h2 h3
     go_enter Tryz.func130, Tryz.ntmps130
     go_wp2_with fail
     refine KA.out.mono ?_
     rintro e w1 ⟨rfl, hg1, hR1⟩
     have HG1 := Lib.hid (grownBy_trans (grownBy_some (B := b) hb0) hg1)
     have hX := HBX.out.turned hg1 hne
     have c0 := hX.cell 0; have c1 := hX.cell 1; have c2 := hX.cell 2; have c3 := hX.cell 3
     have f0 := hX.free 0; have f1 := hX.free 1; have f2 := hX.free 2; have f3 := hX.free 3
     simp only [List.getElem?_toArray, List.getElem?_cons_zero, List.getElem?_cons_succ] at c0 c1 c2 c3
     have hlx := hX.lt
     have HX := Lib.hid hX; have HR1 := Lib.hid hR1
     clear hX hR1 hg1
     go_wp2
     have hR4 := (row4_row HX.out (.int .i64 c.toNat) (.string ⟨#[]⟩) (.slice none 0 0) (.slice none 0 0)).alloc (.cells #[.int .i64 c.toNat, .string ⟨#[]⟩, .slice none 0 0, .slice none 0 0] 53)
     have d0 := hR4.cell 0; have d1 := hR4.cell 1; have d2 := hR4.cell 2; have d3 := hR4.cell 3
     simp only [List.getElem?_toArray, List.getElem?_cons_zero, List.getElem?_cons_succ] at d0 d1 d2 d3
     refine bodyPost_ret (v := .agg #[.int .i64 c.toNat, .string ⟨#[]⟩, .slice none 0 0, .slice none 0 0]) (by simp [results, Tryz.results130, go_sem, d0, d1, d2, d3]) rfl ?_
     rw [HN.out]
     refine ⟨⟨_, _, rfl, parts_own_nil _ _, entries_own_nil _ _⟩, ?_, ?_⟩
     ·exact grownBy_then (grownBy_setNew (grownBy_setNew (grownBy_setNew (grownBy_setNew HG1.out (Nat.le_refl _) _) (Nat.le_refl _) _) (Nat.le_refl _) _) (Nat.le_refl _) _) ((Below.refl _ _).alloc (Nat.le_refl _) _)
     ·exact ((((HR1.out.other _ (Ne.symm hne) _).other _ (Ne.symm hne) _).other _ (Ne.symm hne) _).other _ (Ne.symm hne) _).stays ((Below.refl _ _).alloc (Nat.le_refl _) _)
end Go.Proofs.YtokknppjeckppaaGreatDoor

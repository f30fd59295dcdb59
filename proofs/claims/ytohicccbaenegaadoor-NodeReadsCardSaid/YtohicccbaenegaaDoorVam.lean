/-
  Plain mathematics of varint: a number as bytes of 7 bits, the lowest first; what a text begins with. No program.
-/
import Derived.Lib.Strings
import Derived.Laws.BitsLemmas
import Derived.Laws.Bits64
import Derived.Lib.VarintBits
namespace Go.Proofs.YtohicccbaenegaaDoor

/-- The bytes of n, at most k of them. -/
def vputF : Nat → Nat → List UInt8
  | 0, _ => []
  | k + 1, n => if n < 128 then [UInt8.ofNat n] else UInt8.ofNat (n % 128 + 128) :: vputF k (n / 128)
def vput (n : Nat) : List UInt8 := vputF 10 n

theorem vputF_lo {k n : Nat} (h : n < 128) : vputF (k + 1) n = [UInt8.ofNat n] := by simp [vputF, h]
theorem vputF_hi {k n : Nat} (h : 128 ≤ n) : vputF (k + 1) n = UInt8.ofNat (n % 128 + 128) :: vputF k (n / 128) := by
  simp [vputF, Nat.not_lt.2 h]
theorem vputF_len (k : Nat) : ∀ n, (vputF k n).length ≤ k := by
  induction k with
  | zero => intro n; simp [vputF]
  | succ k ih =>
    intro n
    by_cases h : n < 128
    · simp [vputF_lo h]
    · rw [vputF_hi (by omega)]; simp; exact ih _
theorem vputF_pos (k n : Nat) : 1 ≤ (vputF (k + 1) n).length := by
  by_cases h : n < 128
  · simp [vputF_lo h]
  · rw [vputF_hi (by omega)]; simp
theorem vput_len (n : Nat) : (vput n).length ≤ 10 := vputF_len 10 n
theorem vput_pos (n : Nat) : 1 ≤ (vput n).length := vputF_pos 9 n

/-- n is a number of 64 bits. -/
def U64 (n : Nat) : Prop := n < 18446744073709551616
theorem U64.div {n : Nat} (h : U64 n) (k : Nat) : U64 (n / k) := Nat.lt_of_le_of_lt (Nat.div_le_self n k) h
theorem wraps_u64' (n : Int) (h₀ : 0 ≤ n) (h₁ : n < 2 ^ 64) : IntKind.u64.wrap n = n := by rw [IntKind.wrap_u64]; omega

theorem u64_and127 {r : Nat} (h : U64 r) : bits .and .u64 (r : Int) 127 = ((r % 128 : Nat) : Int) := by
  have := bits_mask .u64 64 (by decide) wraps_u64' 7 (by decide) (r : Int) (by omega) (by unfold U64 at h; omega)
  simpa using this
theorem low_byte {r : Nat} (h : U64 r) : bits .or .u8 (bits .and .u64 (r : Int) 127 % 256) 128 = ((UInt8.ofNat (r % 128 + 128)).toNat : Int) := by
  rw [u64_and127 h]
  have h2 : ((UInt8.ofNat (r % 128 + 128)).toNat : Int) = ((r % 128 : Nat) : Int) + 128 := by
    rw [UInt8.toNat_ofNat']; omega
  have h3 : ((r % 128 : Nat) : Int) % 256 = ((r % 128 : Nat) : Int) := by omega
  rw [h2, h3]
  have := bits_join_low .u8 8 (by decide) wraps_u8 7 ((r % 128 : Nat) : Int) 128 (by omega) (by omega) (by omega) (by decide) (by decide) (by decide)
  exact this
theorem last_byte {r : Nat} (h : r < 128) : ((UInt8.ofNat r).toNat : Int) = (r : Int) := by
  rw [UInt8.toNat_ofNat']; omega

/-! What a text begins with. -/

/-- From place i on, a having come: the number, how many bytes, the error (0: none). -/
def vtakeF (i a : Nat) : List UInt8 → Nat × Nat × Nat
  | [] => (0, 0, 1)
  | b :: t =>
    if i = 9 ∧ 1 < b.toNat then (0, 0, 4)
    else if 128 ≤ b.toNat then vtakeF (i + 1) (a + b.toNat % 128 * 2 ^ (7 * i)) t
    else if b.toNat = 0 ∧ 0 < i then (0, 0, 2)
    else (a + b.toNat * 2 ^ (7 * i), i + 1, 0)
def vtake (l : List UInt8) : Nat × Nat × Nat := vtakeF 0 0 l

/-- The bytes of which a number can be made, with their places. -/
def enF : Nat → List UInt8 → List (Fin 10 × UInt8)
  | _, [] => []
  | i, b :: t => if h : i < 10 then (⟨i, h⟩, b) :: enF (i + 1) t else []
theorem enF_length : ∀ (l : List UInt8) (i : Nat), (enF i l).length = min l.length (10 - i) := by
  intro l
  induction l with
  | nil => intro i; simp [enF]
  | cons b t ih =>
    intro i
    by_cases h : i < 10
    · simp [enF, h, ih]; omega
    · simp [enF, h]; omega
theorem enF_get : ∀ (l : List UInt8) (i j : Nat) (h : i + j < 10) (hj : j < l.length), (enF i l)[j]? = some (⟨i + j, h⟩, l[j]) := by
  intro l
  induction l with
  | nil => intro i j h hj; simp at hj
  | cons b t ih =>
    intro i j h hj
    rw [enF, dif_pos (by omega)]
    cases j with
    | zero => simp
    | succ j =>
      rw [List.getElem?_cons_succ, ih (i + 1) j (by omega) (by simpa using hj)]
      simp; omega

/-- What a byte adds, as the call reckons it. -/
def orstep (a : Int) (x : Fin 10 × UInt8) : Int := bits .or .u64 a (IntKind.u64.wrap (bits .and .u8 x.2.toNat 127 * 2 ^ (7 * x.1.val)))
def accOf (pre : List (Fin 10 × UInt8)) : Int := pre.foldl orstep 0
theorem accOf_snoc (pre : List (Fin 10 × UInt8)) (x : Fin 10 × UInt8) : accOf (pre ++ [x]) = orstep (accOf pre) x := by simp [accOf]
def goesOn (x : Fin 10 × UInt8) : Prop := 128 ≤ x.2.toNat ∧ ¬ (x.1.val = 9 ∧ 1 < x.2.toNat)
def endsAt (x : Fin 10 × UInt8) : Prop := (x.1.val = 9 ∧ 1 < x.2.toNat) ∨ x.2.toNat < 128
/-- What is told where the last byte is x, or none can follow it. -/
def told (a : Int) (x : Fin 10 × UInt8) : Int × Int × Int :=
  if x.1.val = 9 ∧ 1 < x.2.toNat then (0, 0, 4) else if x.2.toNat = 0 ∧ 0 < x.1.val then (0, 0, 2) else (orstep a x, x.1.val + 1, 0)

theorem orstep_eq {a i : Nat} (ha : a < 2 ^ (7 * i)) (hi : i < 10) (b : UInt8) (h : ¬ (i = 9 ∧ 1 < b.toNat)) : orstep (a : Int) (⟨i, hi⟩, b) = ((a + b.toNat % 128 * 2 ^ (7 * i) : Nat) : Int) := by
  have hb : b.toNat < 256 := b.toNat_lt
  have e1 : bits .and .u8 (b.toNat : Int) 127 = ((b.toNat % 128 : Nat) : Int) := by rw [u8_and127 (x := (b.toNat : Int)) (by omega) (by omega)]; omega
  have hlim : b.toNat % 128 * 2 ^ (7 * i) < 2 ^ 64 := by
    by_cases h9 : i = 9
    · subst h9; have : b.toNat ≤ 1 := by omega
      have h2 : b.toNat % 128 ≤ 1 := by omega
      calc b.toNat % 128 * 2 ^ (7 * 9) ≤ 1 * 2 ^ (7 * 9) := Nat.mul_le_mul_right _ h2
        _ < 2 ^ 64 := by decide
    · have h8 : i ≤ 8 := by omega
      have h2 : b.toNat % 128 < 128 := by omega
      calc b.toNat % 128 * 2 ^ (7 * i) ≤ 127 * 2 ^ (7 * i) := Nat.mul_le_mul_right _ (by omega)
        _ ≤ 127 * 2 ^ (7 * 8) := Nat.mul_le_mul_left _ (Nat.pow_le_pow_right (by decide) (by omega))
        _ < 2 ^ 64 := by decide
  have ha64 : a < 2 ^ 64 := Nat.lt_of_lt_of_le ha (Nat.pow_le_pow_right (by decide) (by omega))
  have e2 : IntKind.u64.wrap (((b.toNat % 128 : Nat) : Int) * 2 ^ (7 * i)) = ((b.toNat % 128 * 2 ^ (7 * i) : Nat) : Int) := by
    have e3 : (((b.toNat % 128 : Nat) : Int) * 2 ^ (7 * i)) = ((b.toNat % 128 * 2 ^ (7 * i) : Nat) : Int) := by rw [Int.natCast_mul, Int.natCast_pow]; rfl
    rw [e3, IntKind.wrap_u64]
    clear e3; generalize b.toNat % 128 * 2 ^ (7 * i) = X at *; omega
  show bits .or .u64 (a : Int) (IntKind.u64.wrap (bits .and .u8 (b.toNat : Int) 127 * 2 ^ (7 * i))) = _
  rw [e1, e2, (bits_nat .u64 64 (by decide) wraps_u64' a (b.toNat % 128 * 2 ^ (7 * i)) ha64 hlim).2]
  congr 1
  rw [Nat.add_comm, Nat.mul_comm, Nat.or_comm, Nat.two_pow_add_eq_or_of_lt ha]

theorem acc_lt {a i : Nat} (ha : a < 2 ^ (7 * i)) (b : UInt8) : a + b.toNat % 128 * 2 ^ (7 * i) < 2 ^ (7 * (i + 1)) := by
  have h2 : b.toNat % 128 ≤ 127 := by omega
  have e : 2 ^ (7 * (i + 1)) = 2 ^ (7 * i) * 128 := by rw [show 7 * (i + 1) = 7 * i + 7 by omega, Nat.pow_add]
  have := Nat.mul_le_mul_right (2 ^ (7 * i)) h2
  rw [e]
  omega

theorem take_end_gen : ∀ (pre : List (Fin 10 × UInt8)) (l : List UInt8) (i a : Nat) (x : Fin 10 × UInt8), i < 10 → a < 2 ^ (7 * i) → pre ++ [x] <+: enF i l → (∀ y ∈ pre, goesOn y) → endsAt x →
    told (pre.foldl orstep (a : Int)) x = (((vtakeF i a l).1 : Int), ((vtakeF i a l).2.1 : Int), ((vtakeF i a l).2.2 : Int)) := by
  intro pre
  induction pre with
  | nil =>
    intro l i a x hi ha hp _ hx
    cases l with
    | nil => simp [enF] at hp
    | cons b t =>
      rw [enF, dif_pos hi] at hp
      obtain ⟨rfl, _⟩ := by simpa using hp
      simp only [endsAt] at hx
      by_cases h9 : i = 9 ∧ 1 < b.toNat
      · simp [told, vtakeF, h9]
      · have hb : b.toNat < 128 := by rcases hx with h | h; exact absurd h h9; exact h
        have hnb : ¬ 128 ≤ b.toNat := by omega
        by_cases h0 : b.toNat = 0 ∧ 0 < i
        · simp only [told, vtakeF]
          rw [if_neg h9, if_neg h9, if_neg hnb, if_pos h0, if_pos h0]; rfl
        · simp only [told, vtakeF]
          rw [if_neg h9, if_neg h9, if_neg hnb, if_neg h0, if_neg h0]
          have := orstep_eq ha hi b h9
          rw [Nat.mod_eq_of_lt hb] at this
          simp only [List.foldl_nil]
          rw [this]
          simp
  | cons y p ih =>
    intro l i a x hi ha hp hc hx
    cases l with
    | nil => simp [enF] at hp
    | cons b t =>
      rw [enF, dif_pos hi] at hp
      obtain ⟨rfl, hp'⟩ := by simpa using hp
      have hy := hc (⟨i, hi⟩, b) (by simp)
      obtain ⟨hy1, hy2⟩ := hy
      simp only at hy1 hy2
      have hi9 : i ≠ 9 := fun h => hy2 ⟨h, by omega⟩
      rw [List.foldl_cons, orstep_eq ha hi b hy2]
      have := ih t (i + 1) (a + b.toNat % 128 * 2 ^ (7 * i)) x (by omega) (acc_lt ha b) (by simpa using hp') (fun z hz => hc z (by simp [hz])) hx
      rw [this, vtakeF, if_neg hy2, if_pos hy1]

theorem take_done_gen : ∀ (l : List UInt8) (i a : Nat), i < 10 → (∀ y ∈ enF i l, goesOn y) → vtakeF i a l = (0, 0, 1) := by
  intro l
  induction l with
  | nil => intro i a _ _; rfl
  | cons b t ih =>
    intro i a hi hc
    rw [enF, dif_pos hi] at hc
    obtain ⟨h1, h2⟩ := hc (⟨i, hi⟩, b) (by simp)
    simp only at h1 h2
    have hi9 : i ≠ 9 := fun h => h2 ⟨h, by omega⟩
    rw [vtakeF, if_neg h2, if_pos h1]
    exact ih (i + 1) _ (by omega) (fun z hz => hc z (by simp [hz]))

theorem take_end {l : List UInt8} {pre : List (Fin 10 × UInt8)} {x : Fin 10 × UInt8} (hp : pre ++ [x] <+: enF 0 l) (hc : ∀ y ∈ pre, goesOn y) (hx : endsAt x) :
    told (accOf pre) x = (((vtake l).1 : Int), ((vtake l).2.1 : Int), ((vtake l).2.2 : Int)) := take_end_gen pre l 0 0 x (by decide) (by decide) hp hc hx
theorem take_done {l : List UInt8} (hc : ∀ y ∈ enF 0 l, goesOn y) : vtake l = (0, 0, 1) := take_done_gen l 0 0 (by decide) hc

/-- The shift of Take, as the walk spells it. -/
theorem take_shift (b : UInt8) {i : Nat} (hi : i < 10) :
    Op.shift .shl .u64 (IntKind.u64.wrap (bits .and .u8 (b.toNat : Int) 127)) .i64 (IntKind.i64.wrap (7 * (i : Int))) = pure (.int .u64 (IntKind.u64.wrap (bits .and .u8 (b.toNat : Int) 127 * 2 ^ (7 * i)))) := by
  have hb : b.toNat < 256 := b.toNat_lt
  have e1 : bits .and .u8 (b.toNat : Int) 127 = ((b.toNat % 128 : Nat) : Int) := by rw [u8_and127 (x := (b.toNat : Int)) (by omega) (by omega)]; omega
  have e2 : IntKind.u64.wrap (((b.toNat % 128 : Nat) : Int)) = ((b.toNat % 128 : Nat) : Int) := by rw [IntKind.wrap_u64]; omega
  have e3 : IntKind.i64.wrap (7 * (i : Int)) = 7 * (i : Int) := by rw [IntKind.wrap_i64]; omega
  have e4 : (7 * (i : Int)).toNat = 7 * i := by omega
  rw [e1, e2, e3, shift_shl _ _ _ _ (by omega) (by simp [IntKind.bits]; omega), e4]

theorem U64.wrap {n : Nat} (h : U64 n) : IntKind.u64.wrap (n : Int) = (n : Int) := by rw [IntKind.wrap_u64]; unfold U64 at h; omega
theorem U64.wrap_div {n : Nat} (h : U64 n) (k : Nat) : IntKind.u64.wrap ((n : Int) / (k : Int)) = (n : Int) / (k : Int) := by
  have := (h.div k).wrap
  rwa [Int.natCast_ediv] at this

/-- What the document's loop holds: i bytes have come, which make a. -/
def refI (l : List UInt8) (i a : Nat) : Prop := i ≤ 9 ∧ i ≤ l.length ∧ a < 2 ^ (7 * i) ∧ vtake l = vtakeF i a (l.drop i)
theorem refI_zero (l : List UInt8) : refI l 0 0 := ⟨by omega, Nat.zero_le _, by decide, rfl⟩
theorem refI_short {l : List UInt8} {i a : Nat} (h : refI l i a) (hi : l.length ≤ i) : vtake l = (0, 0, 1) := by
  rw [h.2.2.2, List.drop_of_length_le hi]; rfl
theorem refI_drop {l : List UInt8} {i a : Nat} (h : refI l i a) (hi : i < l.length) : vtake l = vtakeF i a (l[i] :: l.drop (i + 1)) := by
  rw [h.2.2.2, List.drop_eq_getElem_cons hi]
theorem refI_range {l : List UInt8} {i a : Nat} (h : refI l i a) (hi : i < l.length) (hA : i = 9 ∧ 1 < l[i].toNat) : vtake l = (0, 0, 4) := by
  rw [refI_drop h hi, vtakeF, if_pos hA]
theorem refI_form {l : List UInt8} {i a : Nat} (h : refI l i a) (hi : i < l.length) (hA : ¬ (i = 9 ∧ 1 < l[i].toNat)) (hz : l[i].toNat = 0 ∧ 0 < i) : vtake l = (0, 0, 2) := by
  rw [refI_drop h hi, vtakeF, if_neg hA, if_neg (by omega), if_pos hz]
theorem refI_last {l : List UInt8} {i a : Nat} (h : refI l i a) (hi : i < l.length) (hA : ¬ (i = 9 ∧ 1 < l[i].toNat)) (hz : ¬ (l[i].toNat = 0 ∧ 0 < i)) (hc : l[i].toNat < 128) : vtake l = (a + l[i].toNat * 2 ^ (7 * i), i + 1, 0) := by
  rw [refI_drop h hi, vtakeF, if_neg hA, if_neg (by omega), if_neg hz]
theorem refI_on {l : List UInt8} {i a : Nat} (h : refI l i a) (hi : i < l.length) (hA : ¬ (i = 9 ∧ 1 < l[i].toNat)) (hc : 128 ≤ l[i].toNat) : refI l (i + 1) (a + l[i].toNat % 128 * 2 ^ (7 * i)) := by
  refine ⟨?_, hi, acc_lt h.2.2.1 _, ?_⟩
  · have := h.1; rcases Nat.lt_or_ge i 9 with h9 | h9
    · omega
    · exact absurd ⟨by omega, by omega⟩ hA
  · rw [refI_drop h hi, vtakeF, if_neg hA, if_pos hc]
/-- The sum of a round, as the walk spells it. -/
theorem ref_sum {a i c : Nat} (ha : a < 2 ^ (7 * i)) (hi : i ≤ 9) (hA : ¬ (i = 9 ∧ 1 < c)) (hc : c < 256) :
    IntKind.u64.wrap ((a : Int) + IntKind.u64.wrap ((c : Int) % 128 * 2 ^ (7 * i))) = ((a + c % 128 * 2 ^ (7 * i) : Nat) : Int) ∧ a + c % 128 * 2 ^ (7 * i) < 18446744073709551616 := by
  have hlim : a + c % 128 * 2 ^ (7 * i) < 18446744073709551616 := by
    by_cases h9 : i = 9
    · subst h9
      have h2 : c % 128 ≤ 1 := by omega
      have := Nat.mul_le_mul_right (2 ^ (7 * 9)) h2
      omega
    · have h2 : c % 128 ≤ 127 := by omega
      have h3 : 2 ^ (7 * i) ≤ 2 ^ (7 * 8) := Nat.pow_le_pow_right (by decide) (by omega)
      have := Nat.mul_le_mul h2 h3
      omega
  refine ⟨?_, hlim⟩
  have e : ((c : Int) % 128 * 2 ^ (7 * i)) = ((c % 128 * 2 ^ (7 * i) : Nat) : Int) := by rw [Int.natCast_mul, Int.natCast_pow]; rfl
  rw [e, IntKind.wrap_u64, IntKind.wrap_u64]
  generalize c % 128 * 2 ^ (7 * i) = X at *
  omega
end Go.Proofs.YtohicccbaenegaaDoor

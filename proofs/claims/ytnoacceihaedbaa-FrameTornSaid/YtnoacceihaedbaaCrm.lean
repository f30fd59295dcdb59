/-
  Plain mathematics of checksums: a bit of one gone, a byte done, parts, unlike texts; of no program.
-/
namespace Go.Proofs.Ytnoacceihaedbaa

/-- A checksum on its way behind its lowest bit. -/
def bitG (n : Nat) : Nat := if n % 2 = 1 then n / 2 ^^^ 2197175160 else n / 2
def bits4 (n : Nat) : Nat := bitG (bitG (bitG (bitG n)))
def bits8 (n : Nat) : Nat := bits4 (bits4 n)
def crcF (r : Nat) (l : List UInt8) : Nat := l.foldl (fun r b => bits8 (r ^^^ b.toNat)) r
def crcMore (c : Nat) (l : List UInt8) : Nat := 4294967295 - crcF (4294967295 - c) l
def U32 (n : Nat) : Prop := n < 4294967296

theorem xor_u32 {a b : Nat} (ha : U32 a) (hb : U32 b) : U32 (a ^^^ b) := by
  unfold U32 at *; exact Nat.xor_lt_two_pow (n := 32) ha hb
theorem bitG_lt {n : Nat} (h : U32 n) : U32 (bitG n) := by
  unfold bitG
  split
  · exact xor_u32 (by unfold U32 at *; omega) (by unfold U32; omega)
  · unfold U32 at *; omega
theorem bits4_lt {n : Nat} (h : U32 n) : U32 (bits4 n) := bitG_lt (bitG_lt (bitG_lt (bitG_lt h)))
theorem bits8_lt {n : Nat} (h : U32 n) : U32 (bits8 n) := bits4_lt (bits4_lt h)
theorem byte_u32 (b : UInt8) : U32 b.toNat := by have := b.toNat_lt; unfold U32; omega
theorem crcF_lt {r : Nat} (h : U32 r) (l : List UInt8) : U32 (crcF r l) := by
  induction l generalizing r with
  | nil => exact h
  | cons b l ih => exact ih (bits8_lt (xor_u32 h (byte_u32 b)))
theorem inv_lt (n : Nat) : U32 (4294967295 - n) := by unfold U32; omega
theorem crcMore_lt (c : Nat) (l : List UInt8) : U32 (crcMore c l) := inv_lt _

theorem xor_cancel {a b p : Nat} (h : a ^^^ p = b ^^^ p) : a = b := by
  have : (a ^^^ p) ^^^ p = (b ^^^ p) ^^^ p := by rw [h]
  rwa [Nat.xor_assoc, Nat.xor_assoc, Nat.xor_self, Nat.xor_zero, Nat.xor_zero] at this
theorem xor_eq {a b : Nat} (h : a ^^^ b = 0) : a = b := xor_cancel (p := b) (by rw [h, Nat.xor_self])
theorem bitG_xor (a b : Nat) : bitG (a ^^^ b) = bitG a ^^^ bitG b := by
  unfold bitG
  have hd : (a ^^^ b) / 2 = a / 2 ^^^ b / 2 := Nat.xor_div_two
  have hm : (a ^^^ b) % 2 = 1 ↔ ¬ (a % 2 = 1 ↔ b % 2 = 1) := by
    rw [Nat.xor_mod_two_eq_one]
  rw [hd]
  by_cases h1 : a % 2 = 1 <;> by_cases h2 : b % 2 = 1
  · rw [if_neg (by rw [hm]; simp [h1, h2]), if_pos h1, if_pos h2]
    rw [show ∀ x y p : Nat, (x ^^^ p) ^^^ (y ^^^ p) = x ^^^ y ^^^ (p ^^^ p) by intro x y p; ac_rfl]
    simp
  · rw [if_pos (by rw [hm]; simp [h1, h2]), if_pos h1, if_neg h2]; ac_rfl
  · rw [if_pos (by rw [hm]; simp [h1, h2]), if_neg h1, if_pos h2]; ac_rfl
  · rw [if_neg (by rw [hm]; simp [h1, h2]), if_neg h1, if_neg h2]
theorem bits4_xor (a b : Nat) : bits4 (a ^^^ b) = bits4 a ^^^ bits4 b := by unfold bits4; simp only [bitG_xor]
theorem bits8_xor (a b : Nat) : bits8 (a ^^^ b) = bits8 a ^^^ bits8 b := by unfold bits8; simp only [bits4_xor]
theorem bitG_zero : bitG 0 = 0 := rfl
theorem bitG_even (n : Nat) : bitG (2 * n) = n := by unfold bitG; rw [if_neg (by omega)]; omega
theorem bits4_16 (n : Nat) : bits4 (16 * n) = n := by
  unfold bits4
  rw [show 16 * n = 2 * (2 * (2 * (2 * n))) by omega, bitG_even, bitG_even, bitG_even, bitG_even]
theorem bits8_256 (n : Nat) : bits8 (256 * n) = n := by
  unfold bits8
  rw [show 256 * n = 16 * (16 * n) by omega, bits4_16, bits4_16]
theorem split16 (n : Nat) : 16 * (n / 16) ^^^ n % 16 = n := by
  apply Nat.eq_of_testBit_eq
  intro i
  rw [Nat.testBit_xor, show (16 : Nat) = 2 ^ 4 by decide, Nat.testBit_two_pow_mul, Nat.testBit_mod_two_pow]
  by_cases h : 4 ≤ i
  · rw [Nat.testBit_div_two_pow]
    have : ¬ i < 4 := by omega
    simp [h, this]
  · have : i < 4 := by omega
    simp [h, this]
/-- A table of halves does what the four bits do. -/
theorem half_step (n : Nat) : n / 16 ^^^ bits4 (n % 16) = bits4 n := by
  have h := bits4_xor (16 * (n / 16)) (n % 16)
  rw [split16, bits4_16] at h
  exact h.symm

/-- The highest bit tells the one that went. -/
theorem bitG_high {n : Nat} (h : U32 n) : bitG n / 2147483648 = n % 2 := by
  unfold bitG
  unfold U32 at h
  have hd : ∀ x : Nat, (x ^^^ 2197175160) / 2147483648 = x / 2147483648 ^^^ 2197175160 / 2147483648 := fun x => by
    rw [show (2147483648 : Nat) = 2 ^ 31 by decide, Nat.xor_div_two_pow]
  split
  · rw [hd, show n / 2 / 2147483648 = 0 by omega]
    simp; omega
  · omega
theorem bitG_inj {a b : Nat} (ha : U32 a) (hb : U32 b) (h : bitG a = bitG b) : a = b := by
  have hm : a % 2 = b % 2 := by rw [← bitG_high ha, ← bitG_high hb, h]
  have hd : a / 2 = b / 2 := by
    unfold bitG at h
    by_cases h1 : a % 2 = 1
    · rw [if_pos h1, if_pos (by omega)] at h
      exact xor_cancel h
    · rw [if_neg h1, if_neg (by omega)] at h; exact h
  omega
theorem bits4_inj {a b : Nat} (ha : U32 a) (hb : U32 b) (h : bits4 a = bits4 b) : a = b :=
  bitG_inj ha hb (bitG_inj (bitG_lt ha) (bitG_lt hb) (bitG_inj (bitG_lt (bitG_lt ha)) (bitG_lt (bitG_lt hb)) (bitG_inj (bitG_lt (bitG_lt (bitG_lt ha))) (bitG_lt (bitG_lt (bitG_lt hb))) h)))
theorem bits8_inj {a b : Nat} (ha : U32 a) (hb : U32 b) (h : bits8 a = bits8 b) : a = b :=
  bits4_inj ha hb (bits4_inj (bits4_lt ha) (bits4_lt hb) h)

theorem crcF_append (r : Nat) (a b : List UInt8) : crcF r (a ++ b) = crcF (crcF r a) b := List.foldl_append
theorem inv_inv {n : Nat} (h : U32 n) : 4294967295 - (4294967295 - n) = n := by unfold U32 at h; omega
/-- Parts. -/
theorem crcMore_append (c : Nat) (a b : List UInt8) : crcMore (crcMore c a) b = crcMore c (a ++ b) := by
  unfold crcMore
  rw [inv_inv (crcF_lt (inv_lt _) _), crcF_append]
theorem crcMore_nil {c : Nat} (h : U32 c) : crcMore c [] = c := by unfold crcMore crcF; exact inv_inv h

theorem crcF_inj {a b : Nat} (ha : U32 a) (hb : U32 b) (l : List UInt8) (h : crcF a l = crcF b l) : a = b := by
  induction l generalizing a b with
  | nil => exact h
  | cons x l ih =>
    have := bits8_inj (xor_u32 ha (byte_u32 x)) (xor_u32 hb (byte_u32 x)) (ih (bits8_lt (xor_u32 ha (byte_u32 x))) (bits8_lt (xor_u32 hb (byte_u32 x))) h)
    exact xor_cancel this
theorem bits8_back {a z : Nat} (ha : U32 a) (hz : z < 16777216) (h : bits8 a = z) : a = 256 * z :=
  bits8_inj ha (by unfold U32; omega) (by rw [h, bits8_256])
/-- The difference of two that go on by unlike bytes. -/
theorem diff_step (p q x y : Nat) : bits8 (p ^^^ x) ^^^ bits8 (q ^^^ y) = bits8 ((p ^^^ q) ^^^ (x ^^^ y)) := by
  rw [← bits8_xor]
  congr 1; ac_rfl
theorem four {d0 d1 d2 d3 : Nat} (h0 : d0 < 256) (h1 : d1 < 256) (h2 : d2 < 256) (h3 : d3 < 256)
    (h : bits8 (bits8 (bits8 (bits8 d0 ^^^ d1) ^^^ d2) ^^^ d3) = 0) : d0 = 0 ∧ d1 = 0 ∧ d2 = 0 ∧ d3 = 0 := by
  have u : ∀ {x}, x < 256 → U32 x := fun h => by unfold U32; omega
  have e3 := bits8_back (xor_u32 (bits8_lt (xor_u32 (bits8_lt (xor_u32 (bits8_lt (u h0)) (u h1))) (u h2))) (u h3)) (by omega) h
  have e3' := xor_eq e3
  have e2 := bits8_back (xor_u32 (bits8_lt (xor_u32 (bits8_lt (u h0)) (u h1))) (u h2)) (by omega) e3'
  have e2' : bits8 (bits8 d0 ^^^ d1) = 256 * d3 ^^^ d2 := by rw [← e2, Nat.xor_assoc, Nat.xor_self, Nat.xor_zero]
  have l2 : 256 * d3 ^^^ d2 < 65536 := Nat.xor_lt_two_pow (n := 16) (by omega) (by omega)
  have e1 := bits8_back (xor_u32 (bits8_lt (u h0)) (u h1)) (by omega) e2'
  have e1' : bits8 d0 = 256 * (256 * d3 ^^^ d2) ^^^ d1 := by rw [← e1, Nat.xor_assoc, Nat.xor_self, Nat.xor_zero]
  have l1 : 256 * (256 * d3 ^^^ d2) ^^^ d1 < 16777216 := Nat.xor_lt_two_pow (n := 24) (by omega) (by omega)
  have e0 := bits8_back (u h0) l1 e1'
  have z1 : 256 * (256 * d3 ^^^ d2) ^^^ d1 = 0 := by omega
  have z1' := xor_eq z1
  have z2 : 256 * d3 ^^^ d2 = 0 := by omega
  have z2' := xor_eq z2
  omega
theorem xor_byte {a b : Nat} (ha : a < 256) (hb : b < 256) : a ^^^ b < 256 := Nat.xor_lt_two_pow (n := 8) ha hb
/-- Four bytes in a row: unlike ones make unlike checksums. -/
theorem crcF_four {r : Nat} (x0 x1 x2 x3 y0 y1 y2 y3 : UInt8) (h : crcF r [x0, x1, x2, x3] = crcF r [y0, y1, y2, y3]) : x0 = y0 ∧ x1 = y1 ∧ x2 = y2 ∧ x3 = y3 := by
  have e : crcF r [x0, x1, x2, x3] ^^^ crcF r [y0, y1, y2, y3] = 0 := by rw [h, Nat.xor_self]
  simp only [crcF, List.foldl_cons, List.foldl_nil, diff_step, Nat.xor_self, Nat.zero_xor] at e
  obtain ⟨a, b, c, d⟩ := four (xor_byte x0.toNat_lt y0.toNat_lt) (xor_byte x1.toNat_lt y1.toNat_lt) (xor_byte x2.toNat_lt y2.toNat_lt) (xor_byte x3.toNat_lt y3.toNat_lt) e
  exact ⟨UInt8.toNat_inj.1 (xor_eq a), UInt8.toNat_inj.1 (xor_eq b), UInt8.toNat_inj.1 (xor_eq c), UInt8.toNat_inj.1 (xor_eq d)⟩
theorem inv_inj {a b : Nat} (ha : U32 a) (hb : U32 b) (h : 4294967295 - a = 4294967295 - b) : a = b := by unfold U32 at *; omega
theorem crcMore_four (c : Nat) (a b : List UInt8) (x0 x1 x2 x3 y0 y1 y2 y3 : UInt8) :
    (crcMore c (a ++ [x0, x1, x2, x3] ++ b) = crcMore c (a ++ [y0, y1, y2, y3] ++ b)) ↔ (x0 = y0 ∧ x1 = y1 ∧ x2 = y2 ∧ x3 = y3) := by
  constructor
  · intro h
    unfold crcMore at h
    have h1 := inv_inj (crcF_lt (inv_lt _) _) (crcF_lt (inv_lt _) _) h
    rw [crcF_append, crcF_append, crcF_append, crcF_append] at h1
    exact crcF_four _ _ _ _ _ _ _ _ (crcF_inj (crcF_lt (crcF_lt (inv_lt c) a) _) (crcF_lt (crcF_lt (inv_lt c) a) _) b h1)
  · rintro ⟨rfl, rfl, rfl, rfl⟩; rfl

theorem inv_xor {n : Nat} (h : U32 n) : 4294967295 - n = 4294967295 ^^^ n := by
  unfold U32 at h
  have h1 := BitVec.toNat_not (x := BitVec.ofNat 32 n)
  rw [BitVec.not_def] at h1
  rw [BitVec.toNat_xor, BitVec.toNat_ofNat, BitVec.toNat_allOnes, Nat.mod_eq_of_lt (by omega)] at h1
  simpa using h1.symm
/-- Of three rows of one length, xored. -/
theorem crcF_xor3 (l : List (UInt8 × UInt8 × UInt8)) : ∀ a b c : Nat, crcF a (l.map (·.1)) ^^^ crcF b (l.map (·.2.1)) ^^^ crcF c (l.map (·.2.2)) = crcF (a ^^^ b ^^^ c) (l.map fun t => t.1 ^^^ t.2.1 ^^^ t.2.2) := by
  induction l with
  | nil => intro a b c; rfl
  | cons t l ih =>
    intro a b c
    have h := ih (bits8 (a ^^^ t.1.toNat)) (bits8 (b ^^^ t.2.1.toNat)) (bits8 (c ^^^ t.2.2.toNat))
    show crcF (bits8 (a ^^^ t.1.toNat)) _ ^^^ crcF (bits8 (b ^^^ t.2.1.toNat)) _ ^^^ crcF (bits8 (c ^^^ t.2.2.toNat)) _ = crcF (bits8 ((a ^^^ b ^^^ c) ^^^ (t.1 ^^^ t.2.1 ^^^ t.2.2).toNat)) _
    rw [h, ← bits8_xor, ← bits8_xor, UInt8.toNat_xor, UInt8.toNat_xor]
    congr 2; ac_rfl
theorem crc_xor3 (l : List (UInt8 × UInt8 × UInt8)) : crcMore 0 (l.map (·.1)) ^^^ crcMore 0 (l.map (·.2.1)) ^^^ crcMore 0 (l.map (·.2.2)) = crcMore 0 (l.map fun t => t.1 ^^^ t.2.1 ^^^ t.2.2) := by
  unfold crcMore
  have k : ∀ m, U32 (crcF (4294967295 - 0) m) := fun m => crcF_lt (inv_lt 0) m
  rw [inv_xor (k _), inv_xor (k _), inv_xor (k _), inv_xor (k _)]
  have h := crcF_xor3 l (4294967295 - 0) (4294967295 - 0) (4294967295 - 0)
  rw [show (4294967295 - 0) ^^^ (4294967295 - 0) ^^^ (4294967295 - 0) = 4294967295 - 0 by rw [Nat.xor_self, Nat.zero_xor]] at h
  rw [← h]
  generalize crcF _ (l.map (·.1)) = p
  generalize crcF _ (l.map (·.2.1)) = q
  generalize crcF _ (l.map (·.2.2)) = r
  rw [show 4294967295 ^^^ p ^^^ (4294967295 ^^^ q) ^^^ (4294967295 ^^^ r) = (4294967295 ^^^ 4294967295) ^^^ (4294967295 ^^^ (p ^^^ q ^^^ r)) by ac_rfl, Nat.xor_self, Nat.zero_xor]

/-- A checksum's four bytes, the lowest first. -/
def le4 (c : Nat) : List UInt8 := [UInt8.ofNat c, UInt8.ofNat (c / 256), UInt8.ofNat (c / 65536), UInt8.ofNat (c / 16777216)]
end Go.Proofs.Ytnoacceihaedbaa

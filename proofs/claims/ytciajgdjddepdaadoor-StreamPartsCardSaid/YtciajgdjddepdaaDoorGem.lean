/-
  Mathematics of gear, of no program: what a byte adds, rolling hashes as a fold.
-/
import Derived.Laws.BitsAllLaws
set_option linter.unusedVariables false
namespace Go.Proofs.YtciajgdjddepdaaDoor

/-- 2^64. -/
def M64 : Nat := 18446744073709551616
def fld (n d : Nat) : Nat := n ^^^ n / 2 ^ d
def tabN (b : Nat) : Nat := fld (fld (fld ((b + 1) * 11400714819323198485 % M64) 30 * 13787848793156543929 % M64) 27 * 10723151780598845931 % M64) 31
theorem m64_pos : 0 < M64 := by decide
theorem fld_lt {n : Nat} (h : n < M64) (d : Nat) : fld n d < M64 := by
  have e : M64 = 2 ^ 64 := by decide
  rw [e] at h ⊢
  exact Nat.xor_lt_two_pow h (Nat.lt_of_le_of_lt (Nat.div_le_self _ _) h)
theorem tabN_lt (b : Nat) : tabN b < M64 := fld_lt (Nat.mod_lt _ m64_pos) _

/-- The way back, of a byte. -/
def unfld (n d : Nat) : Nat := n ^^^ n / 2 ^ d ^^^ n / 2 ^ (2 * d)
def invTab (n : Nat) : Nat := unfld (unfld (unfld n 31 * 3573116690164977347 % M64) 27 * 10871156337175269513 % M64) 30 * 17428512612931826493 % M64
theorem invTab_tabN : ∀ b : Fin 256, invTab (tabN b.val) = b.val + 1 := by decide +kernel
theorem tabN_inj {a b : Nat} (ha : a < 256) (hb : b < 256) (h : tabN a = tabN b) : a = b := by
  have h1 := invTab_tabN ⟨a, ha⟩
  have h2 := invTab_tabN ⟨b, hb⟩
  simp only at h1 h2
  rw [h] at h1
  omega
theorem tabN_zero_ne : tabN 0 ≠ 0 := by decide +kernel
theorem tabN_zero : tabN 0 = 16294208416658607535 := by decide +kernel

def rollN (h b : Nat) : Nat := (2 * h + tabN b) % M64
def hashF (h : Nat) (l : List UInt8) : Nat := l.foldl (fun h b => rollN h b.toNat) h
theorem rollN_lt (h b : Nat) : rollN h b < M64 := Nat.mod_lt _ m64_pos
theorem foldG_cons (f : Nat → Nat → Nat) (h : Nat) (b : UInt8) (l : List UInt8) : List.foldl (fun h b => f h b.toNat) h (b :: l) = List.foldl (fun h b => f h b.toNat) (f h b.toNat) l := rfl
theorem foldG_snoc (f : Nat → Nat → Nat) (h : Nat) (b : UInt8) (l : List UInt8) : List.foldl (fun h b => f h b.toNat) h (l ++ [b]) = f (List.foldl (fun h b => f h b.toNat) h l) b.toNat := by
  rw [List.foldl_append]; rfl
theorem hashF_cons (h : Nat) (b : UInt8) (l : List UInt8) : hashF h (b :: l) = hashF (rollN h b.toNat) l := foldG_cons rollN h b l
theorem hashF_lt {h : Nat} (hh : h < M64) (l : List UInt8) : hashF h l < M64 := by
  induction l generalizing h with
  | nil => exact hh
  | cons b l ih => rw [hashF_cons]; exact ih (rollN_lt _ _)
theorem hashF_append (h : Nat) (a b : List UInt8) : hashF h (a ++ b) = hashF (hashF h a) b := List.foldl_append
theorem hashF_snoc (h : Nat) (l : List UInt8) (b : UInt8) : hashF h (l ++ [b]) = rollN (hashF h l) b.toNat := foldG_snoc rollN h b l
theorem hash_one : hashF 0 [97] = tabN 97 := by decide +kernel
theorem hashF_mod (h : Nat) (l : List UInt8) : hashF h l % M64 = (h * 2 ^ l.length + hashF 0 l) % M64 := by
  suffices H : ∀ (l : List UInt8) (h g : Nat), hashF (h + g) l % M64 = (h * 2 ^ l.length + hashF g l) % M64 by
    have := H l h 0; rwa [Nat.add_zero] at this
  intro l
  induction l with
  | nil => intro h g; simp [hashF]
  | cons b l ih =>
    intro h g
    have e : hashF (h + g) (b :: l) = hashF (rollN (h + g) b.toNat) l := hashF_cons _ _ _
    have e2 : hashF g (b :: l) = hashF (rollN g b.toNat) l := hashF_cons _ _ _
    have e3 : hashF (rollN (h + g) b.toNat) l % M64 = hashF (2 * h + rollN g b.toNat) l % M64 := by
      have c1 := ih (rollN (h + g) b.toNat) 0
      have c2 := ih (2 * h + rollN g b.toNat) 0
      rw [Nat.add_zero] at c1 c2
      rw [c1, c2]
      have : rollN (h + g) b.toNat % M64 = (2 * h + rollN g b.toNat) % M64 := by
        unfold rollN; rw [Nat.mod_mod, Nat.add_mod_mod]; congr 1; omega
      rw [Nat.add_mod, Nat.mul_mod, this, ← Nat.mul_mod, ← Nat.add_mod]
    rw [e, e2, e3, ih (2 * h) (rollN g b.toNat), List.length_cons, Nat.pow_succ]
    congr 2
    rw [Nat.mul_comm 2 h, Nat.mul_assoc, Nat.mul_comm 2]
theorem hash_two (a b : List UInt8) : hashF 0 (a ++ b) = (hashF 0 a * 2 ^ b.length + hashF 0 b) % M64 := by
  rw [hashF_append, ← hashF_mod, Nat.mod_eq_of_lt (hashF_lt (hashF_lt m64_pos _) _)]
theorem hash_last (a b : List UInt8) (hb : 64 ≤ b.length) : hashF 0 (a ++ b) = hashF 0 b := by
  have e : hashF 0 a * 2 ^ b.length = M64 * (hashF 0 a * 2 ^ (b.length - 64)) := by
    rw [show M64 = 2 ^ 64 by decide, show 2 ^ b.length = 2 ^ 64 * 2 ^ (b.length - 64) by rw [← Nat.pow_add]; congr 1; omega, Nat.mul_left_comm]
  rw [hash_two, e, Nat.mul_add_mod, Nat.mod_eq_of_lt (hashF_lt m64_pos _)]
/-- A hash, doubled k times. -/
def dbl (h k : Nat) : Nat := h * 2 ^ k % M64
theorem dbl_lt (h k : Nat) : dbl h k < M64 := Nat.mod_lt _ m64_pos
theorem dbl_succ (h k : Nat) : dbl h (k + 1) = dbl h k * 2 % M64 := by
  unfold dbl; rw [Nat.pow_succ, ← Nat.mul_assoc, Nat.mod_mul_mod]
theorem dbl_zero {h : Nat} (hh : h < M64) : dbl h 0 = h := by unfold dbl; rw [Nat.pow_zero, Nat.mul_one, Nat.mod_eq_of_lt hh]
theorem hash_parts (a b : List UInt8) : hashF 0 (a ++ b) = (dbl (hashF 0 a) b.length + hashF 0 b) % M64 := by
  unfold dbl; rw [hash_two, Nat.mod_add_mod]
theorem back_x {h : Nat} (a : Nat) : (((rollN h a : Nat) : Int) - (tabN a : Nat)) % (M64 : Nat) = ((h : Int) + (h : Int)) % (M64 : Nat) := by
  unfold rollN
  rw [Int.natCast_emod, Int.emod_sub_emod]
  congr 1
  omega
theorem back_y (h a b : Nat) : rollN (rollN h a) b = ((4 * h % M64 + 2 * tabN a % M64) % M64 + tabN b) % M64 := by
  unfold rollN
  rw [← Nat.add_mod, Nat.mod_add_mod, ← Nat.mod_add_mod, Nat.mul_mod_mod, Nat.mod_add_mod]
  congr 1
  omega
end Go.Proofs.YtciajgdjddepdaaDoor

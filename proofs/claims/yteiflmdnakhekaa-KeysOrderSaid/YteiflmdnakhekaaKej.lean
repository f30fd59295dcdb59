/-
  Bytes as digits, of no program: there and back, and in order.
-/
import Derived.Test.YteiflmdnakhekaaKem
set_option linter.unusedVariables false
namespace Go.Proofs.Yteiflmdnakhekaa

def dgt (n : Nat) : UInt8 := if n < 10 then UInt8.ofNat (48 + n) else UInt8.ofNat (87 + n)
def h2 (b : UInt8) : List UInt8 := [dgt (b.toNat / 16), dgt (b.toNat % 16)]
def hexL (l : List UInt8) : List UInt8 := l.flatMap h2
/-- What a digit tells; below 0: it is none. -/
def val (c : UInt8) : Int := if 48 ≤ c.toNat ∧ c.toNat ≤ 57 then (c.toNat : Int) - 48 else if 97 ≤ c.toNat ∧ c.toNat ≤ 102 then (c.toNat : Int) - 87 else -1

theorem all_u8 {p : UInt8 → Prop} (h : ∀ n : Fin 256, p (UInt8.ofNat n)) (c : UInt8) : p c := by
  have := h ⟨c.toNat, c.toNat_lt⟩
  simpa using this
theorem val_lt (c : UInt8) : val c < 16 := by unfold val; split <;> (try split) <;> omega
theorem val_ge (c : UInt8) : -1 ≤ val c := by unfold val; split <;> (try split) <;> omega
theorem dgt_val {n : Nat} (h : n < 16) : val (dgt n) = n := by
  have : ∀ n : Fin 16, val (dgt n) = (n : Nat) := by decide
  exact this ⟨n, h⟩
theorem val_dgt (c : UInt8) (h : 0 ≤ val c) : dgt (val c).toNat = c := by
  have : ∀ c : UInt8, 0 ≤ val c → dgt (val c).toNat = c := all_u8 (by decide +kernel)
  exact this c h
theorem dgt_lt {a b : Nat} (ha : a < 16) (hb : b < 16) : dgt a < dgt b ↔ a < b := by
  have : ∀ a b : Fin 16, dgt a < dgt b ↔ (a : Nat) < b := by decide
  exact this ⟨a, ha⟩ ⟨b, hb⟩
theorem dgt_inj {a b : Nat} (ha : a < 16) (hb : b < 16) (h : dgt a = dgt b) : a = b := by
  have h1 := dgt_val ha
  rw [h, dgt_val hb] at h1; omega

theorem hexL_nil : hexL [] = [] := rfl
theorem hexL_cons (b : UInt8) (l : List UInt8) : hexL (b :: l) = h2 b ++ hexL l := by simp [hexL]
theorem hexL_snoc (l : List UInt8) (b : UInt8) : hexL (l ++ [b]) = hexL l ++ h2 b := by simp [hexL]
theorem hexL_len (l : List UInt8) : (hexL l).length = 2 * l.length := by
  induction l with
  | nil => rfl
  | cons b l ih => rw [hexL_cons, List.length_append, ih]; simp [h2]; omega
theorem hexL_get : ∀ (l : List UInt8) (i : Nat) (h : i < l.length), (hexL l)[2 * i]? = some (dgt (l[i].toNat / 16)) ∧ (hexL l)[2 * i + 1]? = some (dgt (l[i].toNat % 16))
  | [], i, h => absurd h (by simp)
  | b :: l, 0, h => by rw [hexL_cons]; simp [h2]
  | b :: l, i + 1, h => by
    obtain ⟨h1, h3⟩ := hexL_get l i (by simpa using h)
    rw [hexL_cons, show 2 * (i + 1) = 2 * i + 2 by omega, show 2 * i + 2 + 1 = (2 * i + 1) + 2 by omega]
    simp only [h2, List.cons_append, List.nil_append, List.getElem?_cons_succ, List.getElem_cons_succ]
    exact ⟨h1, h3⟩

theorem h2_lt {a b : UInt8} (h : a < b) (r s : List UInt8) : h2 a ++ r < h2 b ++ s := by
  have h' : a.toNat < b.toNat := h
  have ha := a.toNat_lt; have hb := b.toNat_lt
  simp only [h2, List.cons_append, List.nil_append, List.cons_lt_cons_iff]
  by_cases e : a.toNat / 16 = b.toNat / 16
  · refine .inr ⟨by rw [e], .inl ?_⟩
    exact (dgt_lt (by omega) (by omega)).2 (by omega)
  · exact .inl ((dgt_lt (by omega) (by omega)).2 (by omega))
theorem hexL_lt : ∀ {x y : List UInt8}, x < y → hexL x < hexL y
  | [], [], h => absurd h (by simp)
  | [], b :: y, _ => by rw [hexL_cons]; simp [h2, hexL]
  | a :: x, [], h => absurd h (by simp)
  | a :: x, b :: y, h => by
    rw [hexL_cons, hexL_cons]
    rcases List.cons_lt_cons_iff.1 h with h1 | ⟨rfl, h1⟩
    · exact h2_lt h1 _ _
    · simp only [h2, List.cons_append, List.nil_append, List.cons_lt_cons_iff]
      exact .inr ⟨by trivial, .inr ⟨by trivial, hexL_lt h1⟩⟩
theorem hexL_iff (x y : List UInt8) : hexL x < hexL y ↔ x < y := by
  refine ⟨fun h => ?_, hexL_lt⟩
  refine Classical.byContradiction fun c => ?_
  by_cases e : y < x
  · exact t_asymm h (hexL_lt e)
  · rw [t_tri x y c e] at h; exact t_irrefl _ h

/-! ## Back -/
def Good (s : List UInt8) : Prop := s.length = 64 ∧ ∀ c ∈ s, 0 ≤ val c
def one (s : List UInt8) (i : Nat) : UInt8 := UInt8.ofNat (16 * val (s.getD (2 * i) 0) + val (s.getD (2 * i + 1) 0)).toNat
def unTo (s : List UInt8) (k : Nat) : List UInt8 := (List.range k).map (one s)
open Classical in
noncomputable def unhexV (s : List UInt8) : List UInt8 × Int := if Good s then (unTo s 32, 0) else ([], 2)
theorem unhexV_good {s : List UInt8} (h : Good s) : unhexV s = (unTo s 32, 0) := by simp [unhexV, h]
theorem unhexV_bad {s : List UInt8} (h : ¬ Good s) : unhexV s = ([], 2) := by simp [unhexV, h]
def GoodTo (s : List UInt8) (k : Nat) : Prop := ∀ j, j < 2 * k → 0 ≤ val (s.getD j 0)
theorem goodTo_step {s : List UInt8} {k : Nat} (h : GoodTo s k) (h1 : 0 ≤ val (s.getD (2 * k) 0)) (h2 : 0 ≤ val (s.getD (2 * k + 1) 0)) : GoodTo s (k + 1) := fun j hj => by
  rcases Nat.lt_or_ge j (2 * k) with e | e
  · exact h j e
  · rcases Nat.lt_or_ge j (2 * k + 1) with e2 | e2
    · obtain rfl : j = 2 * k := by omega
      exact h1
    · obtain rfl : j = 2 * k + 1 := by omega
      exact h2
theorem good_of {s : List UInt8} (hl : s.length = 64) (h : GoodTo s 32) : Good s := ⟨hl, fun c hc => by
  obtain ⟨i, hi, rfl⟩ := List.mem_iff_getElem.1 hc
  have := h i (by omega)
  simpa [hi] using this⟩
theorem bad_of {s : List UInt8} {j : Nat} (hl : s.length = 64) (hj : j < 64) (h : val (s.getD j 0) < 0) : ¬ Good s := fun g => by
  have := g.2 (s.getD j 0) (by simp [show j < s.length by omega])
  omega
theorem unTo_len (s : List UInt8) (k : Nat) : (unTo s k).length = k := by simp [unTo]
theorem unTo_succ (s : List UInt8) (k : Nat) : unTo s (k + 1) = unTo s k ++ [one s k] := by simp [unTo, List.range_succ]
theorem one_toNat {s : List UInt8} {k : Nat} (h1 : 0 ≤ val (s.getD (2 * k) 0)) (h2 : 0 ≤ val (s.getD (2 * k + 1) 0)) : ((one s k).toNat : Int) = 16 * val (s.getD (2 * k) 0) + val (s.getD (2 * k + 1) 0) := by
  have a := val_lt (s.getD (2 * k) 0); have b := val_lt (s.getD (2 * k + 1) 0)
  unfold one
  rw [UInt8.toNat_ofNat']
  omega
theorem hex_unTo {s : List UInt8} (h : Good s) : hexL (unTo s 32) = s := by
  have hl := hexL_len (unTo s 32)
  rw [unTo_len] at hl
  have hv : ∀ j, j < 64 → 0 ≤ val (s.getD j 0) := fun j hj => h.2 _ (by simp [show j < s.length by rw [h.1]; exact hj])
  apply List.ext_getElem?
  intro j
  by_cases hj : j < 64
  · obtain ⟨i, hi⟩ : ∃ i, i = j / 2 := ⟨_, rfl⟩
    have hi32 : i < 32 := by omega
    have hg := hexL_get (unTo s 32) i (by rw [unTo_len]; exact hi32)
    have h1 := hv (2 * i) (by omega); have h2 := hv (2 * i + 1) (by omega)
    have a := val_lt (s.getD (2 * i) 0); have b := val_lt (s.getD (2 * i + 1) 0)
    have ho := one_toNat h1 h2
    have hgi : (unTo s 32)[i]'(by rw [unTo_len]; exact hi32) = one s i := by simp [unTo]
    rw [hgi] at hg
    have hsj : s[j]? = some (s.getD j 0) := by simp [show j < s.length by rw [h.1]; exact hj]
    rw [hsj]
    rcases (by omega : j = 2 * i ∨ j = 2 * i + 1) with e | e
    · subst e
      rw [hg.1, show (one s i).toNat / 16 = (val (s.getD (2 * i) 0)).toNat by omega, val_dgt _ h1]
    · subst e
      rw [hg.2, show (one s i).toNat % 16 = (val (s.getD (2 * i + 1) 0)).toNat by omega, val_dgt _ h2]
  · rw [List.getElem?_eq_none (by omega), List.getElem?_eq_none (by rw [h.1]; omega)]
theorem good_hex {k : List UInt8} (h : k.length = 32) : Good (hexL k) := ⟨by rw [hexL_len, h], fun c hc => by
  obtain ⟨b, _, hb⟩ := List.mem_flatMap.1 hc
  have hlt := b.toNat_lt
  simp only [h2, List.mem_cons, List.not_mem_nil, or_false] at hb
  rcases hb with rfl | rfl
  · rw [dgt_val (by omega)]; omega
  · rw [dgt_val (by omega)]; omega⟩
theorem unTo_hex {k : List UInt8} (h : k.length = 32) : unTo (hexL k) 32 = k := by
  apply List.ext_getElem
  · rw [unTo_len, h]
  · intro i h1 h2
    have hi : i < k.length := h2
    have hg := hexL_get k i hi
    have hlt := k[i].toNat_lt
    have e1 : (hexL k).getD (2 * i) 0 = dgt (k[i].toNat / 16) := by rw [List.getD_eq_getElem?_getD, hg.1]; rfl
    have e2 : (hexL k).getD (2 * i + 1) 0 = dgt (k[i].toNat % 16) := by rw [List.getD_eq_getElem?_getD, hg.2]; rfl
    have : (unTo (hexL k) 32)[i] = one (hexL k) i := by simp [unTo]
    rw [this]
    unfold one
    rw [e1, e2, dgt_val (by omega), dgt_val (by omega)]
    apply UInt8.toNat_inj.1
    rw [UInt8.toNat_ofNat']
    omega
theorem unhex_hex {k : List UInt8} (h : k.length = 32) : unhexV (hexL k) = (k, 0) := by rw [unhexV_good (good_hex h), unTo_hex h]
theorem unhex_short {k : List UInt8} (h : k.length ≠ 32) : unhexV (hexL k) = ([], 2) := unhexV_bad fun g => h (by have := g.1; rw [hexL_len] at this; omega)
theorem unhex_back {s : List UInt8} (h : (unhexV s).2 = 0) : hexL (unhexV s).1 = s := by
  by_cases g : Good s
  · rw [unhexV_good g]; exact hex_unTo g
  · rw [unhexV_bad g] at h; exact absurd h (by decide)
end Go.Proofs.Yteiflmdnakhekaa

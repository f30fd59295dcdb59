

/-
  Plain mathematics of SHA-256: words, rounds, blocks, sums; of no program.
-/
namespace Go.Proofs.YtohicccbaenegaaGreatDoor

def rotr (x n : Nat) : Nat := x / 2 ^ n ||| x * 2 ^ (32 - n) % 4294967296
def ad (a b : Nat) : Nat := (a + b) % 4294967296
def sg0 (x : Nat) : Nat := rotr x 7 ^^^ rotr x 18 ^^^ x / 8
def sg1 (x : Nat) : Nat := rotr x 17 ^^^ rotr x 19 ^^^ x / 1024
def bs0 (x : Nat) : Nat := rotr x 2 ^^^ rotr x 13 ^^^ rotr x 22
def bs1 (x : Nat) : Nat := rotr x 6 ^^^ rotr x 11 ^^^ rotr x 25
def chs (e f g : Nat) : Nat := (e &&& f) ^^^ ((4294967295 - e) &&& g)
def mj (a b c : Nat) : Nat := (a &&& b) ^^^ (a &&& c) ^^^ (b &&& c)

/-- The constants. -/
def ktab : List Nat := [
  0x428a2f98, 0x71374491, 0xb5c0fbcf, 0xe9b5dba5, 0x3956c25b, 0x59f111f1, 0x923f82a4, 0xab1c5ed5,
  0xd807aa98, 0x12835b01, 0x243185be, 0x550c7dc3, 0x72be5d74, 0x80deb1fe, 0x9bdc06a7, 0xc19bf174,
  0xe49b69c1, 0xefbe4786, 0x0fc19dc6, 0x240ca1cc, 0x2de92c6f, 0x4a7484aa, 0x5cb0a9dc, 0x76f988da,
  0x983e5152, 0xa831c66d, 0xb00327c8, 0xbf597fc7, 0xc6e00bf3, 0xd5a79147, 0x06ca6351, 0x14292967,
  0x27b70a85, 0x2e1b2138, 0x4d2c6dfc, 0x53380d13, 0x650a7354, 0x766a0abb, 0x81c2c92e, 0x92722c85,
  0xa2bfe8a1, 0xa81a664b, 0xc24b8b70, 0xc76c51a3, 0xd192e819, 0xd6990624, 0xf40e3585, 0x106aa070,
  0x19a4c116, 0x1e376c08, 0x2748774c, 0x34b0bcb5, 0x391c0cb3, 0x4ed8aa4a, 0x5b9cca4f, 0x682e6ff3,
  0x748f82ee, 0x78a5636f, 0x84c87814, 0x8cc70208, 0x90befffa, 0xa4506ceb, 0xbef9a3f7, 0xc67178f2]
def kt (i : Nat) : Nat := ktab.getD i 0

/-- A block's i-th word as it stands. -/
def lead (b : Nat → Nat) (i : Nat) : Nat := b (i * 4) * 16777216 % 4294967296 ||| b (i * 4 + 1) * 65536 % 4294967296 ||| b (i * 4 + 2) * 256 % 4294967296 ||| b (i * 4 + 3)
/-- The word behind those that are there. -/
def nxt (b : Nat → Nat) (l : List Nat) (k : Nat) : Nat :=
  if k < 16 then lead b k else ad (ad (ad (l.getD (k - 16) 0) (sg0 (l.getD (k - 15) 0))) (l.getD (k - 7) 0)) (sg1 (l.getD (k - 2) 0))
def wlist (b : Nat → Nat) : Nat → List Nat
  | 0 => []
  | k + 1 => wlist b k ++ [nxt b (wlist b k) k]
def wd (b : Nat → Nat) (i : Nat) : Nat := (wlist b 64).getD i 0

structure St where
  (a b c d e f g h : Nat)
def rnd (s : St) (k w : Nat) : St :=
  let t := ad (ad (ad (ad s.h (bs1 s.e)) (chs s.e s.f s.g)) k) w
  let u := ad (bs0 s.a) (mj s.a s.b s.c)
  ⟨ad t u, s.a, s.b, s.c, ad s.d t, s.e, s.f, s.g⟩
def rounds (b : Nat → Nat) (s : St) : Nat → St
  | 0 => s
  | k + 1 => rnd (rounds b s k) (kt k) (wd b k)
def St.add (s t : St) : St := ⟨ad s.a t.a, ad s.b t.b, ad s.c t.c, ad s.d t.d, ad s.e t.e, ad s.f t.f, ad s.g t.g, ad s.h t.h⟩
def blkS (s : St) (b : Nat → Nat) : St := s.add (rounds b s 64)
def first : St := ⟨0x6a09e667, 0xbb67ae85, 0x3c6ef372, 0xa54ff53a, 0x510e527f, 0x9b05688c, 0x1f83d9ab, 0x5be0cd19⟩
def St.list (s : St) : List Nat := [s.a, s.b, s.c, s.d, s.e, s.f, s.g, s.h]

def abc : Nat → Nat := fun i => ([97, 98, 99, 128] ++ List.replicate 59 0 ++ [24]).getD i 0
set_option maxRecDepth 100000 in
theorem abc_sum : (blkS first abc).list = [0xba7816bf, 0x8f01cfea, 0x414140de, 0x5dae2223, 0xb00361a3, 0x96177a9c, 0xb410ff61, 0xf20015ad] := by decide +kernel

theorem ad_lt (a b : Nat) : ad a b < 4294967296 := Nat.mod_lt _ (by decide)
theorem xor_lt {a b : Nat} (ha : a < 4294967296) (hb : b < 4294967296) : a ^^^ b < 4294967296 := Nat.xor_lt_two_pow (n := 32) ha hb
theorem or_lt {a b : Nat} (ha : a < 4294967296) (hb : b < 4294967296) : a ||| b < 4294967296 := Nat.or_lt_two_pow (n := 32) ha hb
theorem and_lt' {a b : Nat} (ha : a < 4294967296) : a &&& b < 4294967296 := Nat.lt_of_le_of_lt Nat.and_le_left ha
theorem div_lt' {a : Nat} (b : Nat) (ha : a < 4294967296) : a / b < 4294967296 := Nat.lt_of_le_of_lt (Nat.div_le_self _ _) ha
theorem rotr_lt {x : Nat} (n : Nat) (hx : x < 4294967296) : rotr x n < 4294967296 := or_lt (div_lt' _ hx) (Nat.mod_lt _ (by decide))
theorem lead_lt (b : Nat → Nat) (h : ∀ i, b i < 256) (k : Nat) : lead b k < 4294967296 := by
  unfold lead
  have := h (k * 4 + 3)
  exact or_lt (or_lt (or_lt (Nat.mod_lt _ (by decide)) (Nat.mod_lt _ (by decide))) (Nat.mod_lt _ (by decide))) (by omega)
theorem nxt_lt (b : Nat → Nat) (h : ∀ i, b i < 256) (l : List Nat) (k : Nat) : nxt b l k < 4294967296 := by
  unfold nxt
  split
  · exact lead_lt b h k
  · exact ad_lt _ _
theorem wlist_len (b : Nat → Nat) (k : Nat) : (wlist b k).length = k := by
  induction k with
  | zero => rfl
  | succ k ih => simp [wlist, ih]
theorem wlist_mem (b : Nat → Nat) (h : ∀ i, b i < 256) (k : Nat) : ∀ x ∈ wlist b k, x < 4294967296 := by
  induction k with
  | zero => intro x hx; cases hx
  | succ k ih =>
    intro x hx
    rw [wlist, List.mem_append] at hx
    rcases hx with hx | hx
    · exact ih x hx
    · rw [List.mem_singleton] at hx; rw [hx]; exact nxt_lt b h _ _
theorem getD_lt {l : List Nat} (h : ∀ x ∈ l, x < 4294967296) (i : Nat) : l.getD i 0 < 4294967296 := by
  rw [List.getD_eq_getElem?_getD]
  cases hi : l[i]? with
  | none => simp
  | some x => exact h x (List.mem_of_getElem? hi)
/-- A block's words, of which k are there. -/
def wrow (b : Nat → Nat) (k : Nat) : List Nat := wlist b k ++ List.replicate (64 - k) 0
theorem wrow_len (b : Nat → Nat) (k : Nat) (h : k ≤ 64) : (wrow b k).length = 64 := by unfold wrow; simp [wlist_len]; omega
theorem wrow_zero (b : Nat → Nat) : wrow b 0 = List.replicate 64 0 := rfl
theorem wrow_full (b : Nat → Nat) : wrow b 64 = wlist b 64 := by simp [wrow]
theorem wrow_get (b : Nat → Nat) (k j : Nat) (h : j < k) : (wrow b k).getD j 0 = (wlist b k).getD j 0 := by
  unfold wrow
  rw [List.getD_eq_getElem?_getD, List.getElem?_append_left (by rw [wlist_len]; exact h), ← List.getD_eq_getElem?_getD]
theorem wrow_set (b : Nat → Nat) (k : Nat) (h : k < 64) : (wrow b k).set k (nxt b (wlist b k) k) = wrow b (k + 1) := by
  unfold wrow
  rw [List.set_append_right _ _ (by rw [wlist_len]; exact Nat.le_refl _), wlist_len, Nat.sub_self, show 64 - k = (64 - (k + 1)) + 1 by omega, List.replicate_succ, List.set_cons_zero, wlist, List.append_assoc]
  rfl
theorem nxt_lead (b : Nat → Nat) (l : List Nat) (k : Nat) (h : k < 16) : nxt b l k = lead b k := by rw [nxt, if_pos h]
theorem nxt_on (b : Nat → Nat) (l : List Nat) (k : Nat) (h : 16 ≤ k) : nxt b l k = ad (ad (ad (l.getD (k - 16) 0) (sg0 (l.getD (k - 15) 0))) (l.getD (k - 7) 0)) (sg1 (l.getD (k - 2) 0)) := by rw [nxt, if_neg (by omega)]
def St.ok (s : St) : Prop := s.a < 4294967296 ∧ s.b < 4294967296 ∧ s.c < 4294967296 ∧ s.d < 4294967296 ∧ s.e < 4294967296 ∧ s.f < 4294967296 ∧ s.g < 4294967296 ∧ s.h < 4294967296
theorem rnd_ok {s : St} (h : s.ok) (k w : Nat) : (rnd s k w).ok := ⟨ad_lt _ _, h.1, h.2.1, h.2.2.1, ad_lt _ _, h.2.2.2.2.1, h.2.2.2.2.2.1, h.2.2.2.2.2.2.1⟩
theorem rounds_ok (b : Nat → Nat) {s : St} (h : s.ok) (k : Nat) : (rounds b s k).ok := by
  induction k with
  | zero => exact h
  | succ k ih => exact rnd_ok ih _ _
theorem add_ok (s t : St) : (s.add t).ok := ⟨ad_lt _ _, ad_lt _ _, ad_lt _ _, ad_lt _ _, ad_lt _ _, ad_lt _ _, ad_lt _ _, ad_lt _ _⟩
theorem first_ok : first.ok := by refine ⟨?_, ?_, ?_, ?_, ?_, ?_, ?_, ?_⟩ <;> decide
theorem kt_lt (i : Nat) : kt i < 4294967296 := getD_lt (by decide) i
theorem wd_lt (b : Nat → Nat) (h : ∀ i, b i < 256) (i : Nat) : wd b i < 4294967296 := getD_lt (wlist_mem b h 64) i
theorem list_len (s : St) : s.list.length = 8 := rfl
end Go.Proofs.YtohicccbaenegaaGreatDoor

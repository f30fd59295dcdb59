/-
  Plain mathematics of SHA-256's texts: what is fed, what closes, bytes; of no program.
-/
import Derived.Test.YtohicccbaenegaaGreatDoorYShm
set_option linter.unusedVariables false
namespace Go.Proofs.YtohicccbaenegaaGreatDoor

def byt (l : List UInt8) (i : Nat) : Nat := (l.getD i 0).toNat
def blk (s : St) (l : List UInt8) : St := blkS s (byt l)
/-- What is fed behind a hash: the hash behind its whole blocks, and what is left. -/
def absorb (s : St) (l : List UInt8) : St × List UInt8 := if h : l.length < 64 then (s, l) else absorb (blk s (l.take 64)) (l.drop 64)
termination_by l.length
decreasing_by simp; omega
theorem absorb_lt (s : St) {l : List UInt8} (h : l.length < 64) : absorb s l = (s, l) := by rw [absorb, dif_pos h]
theorem absorb_ge (s : St) {l : List UInt8} (h : 64 ≤ l.length) : absorb s l = absorb (blk s (l.take 64)) (l.drop 64) := by rw [absorb, dif_neg (by omega)]
theorem blk_ok (s : St) (l : List UInt8) : (blk s l).ok := add_ok _ _
theorem absorb_ok (l : List UInt8) : ∀ {s : St}, s.ok → (absorb s l).1.ok := by
  induction h : l.length using Nat.strongRecOn generalizing l with
  | ind n ih =>
    intro s hs
    by_cases hl : l.length < 64
    · rw [absorb_lt s hl]; exact hs
    · rw [absorb_ge s (by omega)]
      exact ih _ (by simp; omega) (l.drop 64) rfl (blk_ok _ _)
theorem absorb_len (l : List UInt8) : ∀ (s : St), (absorb s l).2.length = l.length % 64 := by
  induction h : l.length using Nat.strongRecOn generalizing l with
  | ind n ih =>
    intro s
    by_cases hl : l.length < 64
    · rw [absorb_lt s hl, h, Nat.mod_eq_of_lt (by omega)]
    · rw [absorb_ge s (by omega)]
      have := ih (l.drop 64).length (by simp; omega) (l.drop 64) rfl (blk s (l.take 64))
      rw [this, List.length_drop]; omega
theorem absorb_append (l m : List UInt8) : ∀ (s : St), absorb (absorb s l).1 ((absorb s l).2 ++ m) = absorb s (l ++ m) := by
  induction h : l.length using Nat.strongRecOn generalizing l with
  | ind n ih =>
    intro s
    by_cases hl : l.length < 64
    · rw [absorb_lt s hl]
    · rw [absorb_ge s (by omega), absorb_ge s (l := l ++ m) (by simp; omega)]
      have := ih (l.drop 64).length (by simp; omega) (l.drop 64) rfl (blk s (l.take 64))
      rw [this, List.take_append_of_le_length (by omega), List.drop_append_of_le_length (by omega)]
/-- A step of the reader: what is there and as much of what comes as has room. -/
theorem absorb_fill (s : St) (p t : List UInt8) (h : p.length < 64) (hf : 64 ≤ p.length + t.length) : absorb s (p ++ t) = absorb (blk s (p ++ t.take (64 - p.length))) (t.drop (64 - p.length)) := by
  rw [absorb_ge s (by simp; omega), List.take_append, List.drop_append]
  rw [List.take_of_length_le (by omega), List.drop_of_length_le (by omega)]
  rfl

def wbytes (n : Nat) : List UInt8 := [UInt8.ofNat (n / 16777216), UInt8.ofNat (n / 65536), UInt8.ofNat (n / 256), UInt8.ofNat n]
def St.bytes (s : St) : List UInt8 := s.list.flatMap wbytes
theorem bytes_len (s : St) : s.bytes.length = 32 := rfl
def byteAt (s : St) (i : Nat) : UInt8 := UInt8.ofNat (s.list.getD (i / 4) 0 / 2 ^ (8 * (3 - i % 4)))
def zerosN (n : Nat) : Nat := (119 - n % 64) % 64
def be8 (n : Nat) : List UInt8 := (List.range 8).map fun i => UInt8.ofNat (n / 2 ^ (8 * (7 - i)))
def closing (n : Nat) : List UInt8 := 128 :: (List.replicate (zerosN n) 0 ++ be8 (n * 8))
def shaSum (l : List UInt8) : List UInt8 := (absorb first (l ++ closing l.length)).1.bytes
theorem bytes_row (s : St) : (List.range 32).map (byteAt s) = s.bytes := by
  obtain ⟨a, b, c, d, e, f, g, h⟩ := s
  simp [List.range_succ, byteAt, St.bytes, St.list, wbytes]
theorem be8_len (n : Nat) : (be8 n).length = 8 := by simp [be8]
theorem closing_len (n : Nat) : (closing n).length = 9 + zerosN n := by simp [closing, be8_len]; omega
theorem closed_len (l : List UInt8) : (l ++ closing l.length).length % 64 = 0 := by
  rw [List.length_append, closing_len, zerosN]; omega
theorem shaSum_len (l : List UInt8) : (shaSum l).length = 32 := rfl
theorem closed_rest (l : List UInt8) (s : St) : (absorb s (l ++ closing l.length)).2 = [] := by
  have := absorb_len (l ++ closing l.length) s
  rw [closed_len] at this
  exact List.length_eq_zero_iff.1 this
/-- One block. -/
theorem absorb_one (s : St) {l : List UInt8} (h : l.length = 64) : absorb s l = (blk s l, []) := by
  rw [absorb_ge s (by omega), List.take_of_length_le (by omega), List.drop_of_length_le (by omega), absorb_lt _ (by simp)]
theorem absorb_cons (s : St) {b m : List UInt8} (h : b.length = 64) : absorb s (b ++ m) = absorb (blk s b) m := by
  rw [← absorb_append b m s, absorb_one s h]; rfl

theorem byt_eq (l : List UInt8) : byt l = fun i => (l.getD i 0).toNat := rfl
def abcL : List UInt8 := [97, 98, 99]
theorem abc_pad : abcL ++ closing 3 = [97, 98, 99, 128] ++ List.replicate 59 0 ++ [24] := by decide
theorem abc_byt : blkS first (byt ([97, 98, 99, 128] ++ List.replicate 59 0 ++ [24])) = blkS first abc := by
  have : byt ([97, 98, 99, 128] ++ List.replicate 59 0 ++ [24]) = abc := by
    funext i
    unfold byt abc
    rw [List.getD_eq_getElem?_getD, List.getD_eq_getElem?_getD, show ([97, 98, 99, 128] ++ List.replicate 59 0 ++ [24] : List Nat) = ([97, 98, 99, 128] ++ List.replicate 59 0 ++ [24] : List UInt8).map (·.toNat) by decide, List.getElem?_map]
    cases ([97, 98, 99, 128] ++ List.replicate 59 0 ++ [24] : List UInt8)[i]? <;> rfl
  rw [this]
theorem sha_abc : shaSum abcL = [0xba, 0x78, 0x16, 0xbf, 0x8f, 0x01, 0xcf, 0xea, 0x41, 0x41, 0x40, 0xde, 0x5d, 0xae, 0x22, 0x23, 0xb0, 0x03, 0x61, 0xa3, 0x96, 0x17, 0x7a, 0x9c, 0xb4, 0x10, 0xff, 0x61, 0xf2, 0x00, 0x15, 0xad] := by
  have h1 : (absorb first (abcL ++ closing 3)).1.list = [0xba7816bf, 0x8f01cfea, 0x414140de, 0x5dae2223, 0xb00361a3, 0x96177a9c, 0xb410ff61, 0xf20015ad] := by
    rw [abc_pad, absorb_one first (by decide)]
    show (blkS first (byt _)).list = _
    rw [abc_byt]
    exact abc_sum
  show ((absorb first (abcL ++ closing 3)).1.list).flatMap wbytes = _
  rw [h1]
  decide
end Go.Proofs.YtohicccbaenegaaGreatDoor

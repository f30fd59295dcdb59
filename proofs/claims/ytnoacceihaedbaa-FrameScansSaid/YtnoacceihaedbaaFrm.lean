/-
  Plain mathematics of frames: wrapped, opened, one behind the other, torn; of no program.
-/
import Derived.Test.YtnoacceihaedbaaVan
import Derived.Test.YtnoacceihaedbaaCrm
set_option linter.unusedVariables false
namespace Go.Proofs.Ytnoacceihaedbaa

/-- A text's frame; none of one that is too long. -/
def fwrap (l : List UInt8) : List UInt8 := if 65536 < l.length then [] else vputText l ++ le4 (crcMore 0 (vputText l))
/-- The text that bytes begin with, how many they are, and what is wrong. -/
def fopen (l : List UInt8) : List UInt8 × Nat × Nat :=
  if (vtakeText l).2.2 ≠ 0 then ([], 0, (vtakeText l).2.2)
  else if l.length < (vtakeText l).2.1 + 4 then ([], 0, 1)
  else if (l.drop (vtakeText l).2.1).take 4 ≠ le4 (crcMore 0 (l.take (vtakeText l).2.1)) then ([], 0, 3)
  else ((vtakeText l).1, (vtakeText l).2.1 + 4, 0)

theorem takeText_ok {l b : List UInt8} {m : Nat} (h : vtakeText l = (b, m, 0)) : 1 ≤ m ∧ b.length ≤ 65536 ∧ m ≤ l.length ∧ vputText b = l.take m := by
  obtain ⟨h1, h2⟩ := putText_takeText h
  have hb : b.length ≤ 65536 := by
    rw [vtakeText] at h
    split at h
    · rename_i he; simp at h; exact absurd h.2.2 he
    · split at h
      · simp at h
      · rename_i hn
        split at h
        · simp at h
        · simp only [Prod.mk.injEq, and_true] at h
          rw [← h.1, List.length_take]; omega
  refine ⟨?_, hb, h1, h2⟩
  have := congrArg List.length h2
  rw [List.length_take, vputText, if_neg (by omega), List.length_append] at this
  have := vput_pos b.length
  omega
theorem takeText_code {l b : List UInt8} {m e : Nat} (h : vtakeText l = (b, m, e)) : e ≤ 4 := by
  rw [vtakeText] at h
  split at h
  · rename_i he
    simp only [Prod.mk.injEq] at h
    have := (vtake_err (l := l) (n := (vtake l).1) (j := (vtake l).2.1) (e := (vtake l).2.2) rfl he).2.2
    omega
  · split at h
    · simp only [Prod.mk.injEq] at h; omega
    · split at h
      · simp only [Prod.mk.injEq] at h; omega
      · simp only [Prod.mk.injEq] at h; omega
theorem le4_len (c : Nat) : (le4 c).length = 4 := rfl
theorem fwrap_eq {l : List UInt8} (h : l.length ≤ 65536) : fwrap l = vputText l ++ le4 (crcMore 0 (vputText l)) := by rw [fwrap, if_neg (by omega)]
theorem putText_len {l : List UInt8} (h : l.length ≤ 65536) : l.length < (vputText l).length ∧ (vputText l).length ≤ l.length + 10 := by
  rw [vputText, if_neg (by omega), List.length_append]
  have := vput_len l.length
  have := vput_pos l.length
  omega
theorem fwrap_len {l : List UInt8} (h : l.length ≤ 65536) : l.length + 5 ≤ (fwrap l).length ∧ (fwrap l).length ≤ l.length + 14 := by
  rw [fwrap_eq h, List.length_append, le4_len]
  have := putText_len h
  omega
theorem fopen_fwrap {l : List UInt8} (h : l.length ≤ 65536) (t : List UInt8) : fopen (fwrap l ++ t) = (l, (fwrap l).length, 0) := by
  have e : fwrap l ++ t = vputText l ++ (le4 (crcMore 0 (vputText l)) ++ t) := by rw [fwrap_eq h, List.append_assoc]
  have hT : vtakeText (fwrap l ++ t) = (l, (vputText l).length, 0) := by rw [e, takeText_putText h]
  have hl : (fwrap l).length = (vputText l).length + 4 := by rw [fwrap_eq h, List.length_append, le4_len]
  rw [fopen, hT, if_neg (by simp), if_neg (by rw [List.length_append]; simp only; omega), if_neg (by rw [e, List.drop_left, List.take_left' (le4_len _), List.take_left]; simp), hl]
theorem fopen_ok {l t : List UInt8} {u : Nat} (h : fopen l = (t, u, 0)) : t.length ≤ 65536 ∧ u ≤ l.length ∧ l.take u = fwrap t ∧ 5 ≤ u := by
  rw [fopen] at h
  split at h
  · rename_i he; simp at h; exact absurd h.2.2 he
  · rename_i he
    split at h
    · simp at h
    · rename_i hl
      split at h
      · simp at h
      · rename_i hs
        obtain ⟨b, m, e, hv⟩ : ∃ b m e, vtakeText l = (b, m, e) := ⟨_, _, _, rfl⟩
        rw [hv] at he hl hs h
        simp only [ne_eq, Decidable.not_not] at he hl hs
        subst he
        simp only [Prod.mk.injEq, and_true] at h
        obtain ⟨rfl, rfl⟩ := h
        obtain ⟨h1, h2, h3, h4⟩ := takeText_ok hv
        refine ⟨h2, by omega, ?_, by omega⟩
        rw [List.take_add, hs, fwrap_eq h2, h4]
theorem fopen_err {l t : List UInt8} {u e : Nat} (h : fopen l = (t, u, e)) (he : e ≠ 0) : t = [] ∧ u = 0 ∧ e ≤ 4 := by
  have hc := takeText_code (l := l) (b := (vtakeText l).1) (m := (vtakeText l).2.1) (e := (vtakeText l).2.2) rfl
  rw [fopen] at h
  split at h
  · simp only [Prod.mk.injEq] at h
    exact ⟨h.1.symm, h.2.1.symm, by omega⟩
  · split at h
    · simp only [Prod.mk.injEq] at h; exact ⟨h.1.symm, h.2.1.symm, by omega⟩
    · split at h
      · simp only [Prod.mk.injEq] at h; exact ⟨h.1.symm, h.2.1.symm, by omega⟩
      · simp only [Prod.mk.injEq] at h; exact absurd h.2.2.symm he
/-- A part of a frame is none. -/
theorem fopen_part {s : List UInt8} (h : s.length ≤ 65536) (k : Nat) (hk : k < (fwrap s).length) : (fopen ((fwrap s).take k)).2.2 ≠ 0 := by
  intro he
  obtain ⟨t, u, e, hv⟩ : ∃ t u e, fopen ((fwrap s).take k) = (t, u, e) := ⟨_, _, _, rfl⟩
  rw [hv] at he; simp only at he; subst he
  obtain ⟨h1, h2, h3, _⟩ := fopen_ok hv
  rw [List.length_take] at h2
  rw [List.take_take, Nat.min_eq_left (by omega)] at h3
  have h4 := fopen_fwrap h1 ((fwrap s).drop u)
  rw [← h3, List.take_append_drop] at h4
  have h5 := fopen_fwrap h []
  rw [List.append_nil, h4] at h5
  simp only [Prod.mk.injEq, and_true, List.length_take] at h5
  omega

/-! ## Frames, one behind the other -/
def framesF : Nat → Nat → List UInt8 → List (List UInt8 × Nat)
  | 0, _, _ => []
  | n + 1, p, l => if (fopen (l.drop p)).2.2 ≠ 0 then [] else ((fopen (l.drop p)).1, p + (fopen (l.drop p)).2.1) :: framesF n (p + (fopen (l.drop p)).2.1) l
def frames (l : List UInt8) : List (List UInt8 × Nat) := framesF l.length 0 l
/-- The place behind the last of them. -/
def endOf (fs : List (List UInt8 × Nat)) : Nat := (fs.getLast?.map (·.2)).getD 0
theorem endOf_snoc (fs : List (List UInt8 × Nat)) (t : List UInt8) (p : Nat) : endOf (fs ++ [(t, p)]) = p := by simp [endOf]

def scanI (l : List UInt8) (pre : List (List UInt8 × Nat)) (p : Nat) : Prop :=
  ∃ n, frames l = pre ++ framesF n p l ∧ l.length < p + 5 * n + 5 ∧ p = endOf pre ∧ p ≤ l.length ∧ 5 * pre.length ≤ p
theorem scanI_zero (l : List UInt8) : scanI l [] 0 := ⟨l.length, rfl, by omega, rfl, Nat.zero_le _, Nat.zero_le _⟩
theorem scanI_le {l : List UInt8} {pre : List (List UInt8 × Nat)} {p : Nat} (h : scanI l pre p) : p ≤ l.length := by
  obtain ⟨n, _, _, _, h, _⟩ := h; exact h
theorem scanI_pre {l : List UInt8} {pre : List (List UInt8 × Nat)} {p : Nat} (h : scanI l pre p) : pre <+: frames l := by
  obtain ⟨n, h1, _⟩ := h; rw [h1]; exact List.prefix_append _ _
theorem scanI_len {l : List UInt8} {pre : List (List UInt8 × Nat)} {p : Nat} (h : scanI l pre p) : 5 * pre.length ≤ l.length := by
  obtain ⟨n, _, _, _, h4, h5⟩ := h; omega
theorem scanI_step {l t : List UInt8} {pre : List (List UInt8 × Nat)} {p u : Nat} (h : scanI l pre p) (hv : fopen (l.drop p) = (t, u, 0)) : scanI l (pre ++ [(t, p + u)]) (p + u) := by
  obtain ⟨n, h1, h2, h3, h4, h5⟩ := h
  obtain ⟨_, g2, _, g4⟩ := fopen_ok hv
  rw [List.length_drop] at g2
  cases n with
  | zero => omega
  | succ n =>
    refine ⟨n, ?_, by omega, (endOf_snoc _ _ _).symm, by omega, by rw [List.length_append, List.length_singleton]; omega⟩
    rw [h1, framesF, hv, if_neg (by simp)]
    simp
theorem scanI_end {l t : List UInt8} {pre : List (List UInt8 × Nat)} {p u e : Nat} (h : scanI l pre p) (hv : fopen (l.drop p) = (t, u, e)) (he : e ≠ 0) : frames l = pre := by
  obtain ⟨n, h1, h2, h3, h4, h5⟩ := h
  cases n with
  | zero => rw [h1]; simp [framesF]
  | succ n => rw [h1, framesF, hv, if_pos he]; simp
theorem scanI_fin {l : List UInt8} {pre : List (List UInt8 × Nat)} {p : Nat} (h : scanI l pre p) (hf : frames l = pre) : endOf (frames l) = p := by
  rw [hf]; obtain ⟨n, _, _, h, _⟩ := h; exact h.symm
/-- All of it is frames, or what is next is none. -/
theorem scan_nil : frames [] = [] := rfl
theorem scanI_over {l : List UInt8} {pre : List (List UInt8 × Nat)} {p : Nat} (h : scanI l pre p) (hp : l.length ≤ p) : frames l = pre := by
  obtain ⟨t, u, e, hv⟩ : ∃ t u e, fopen (l.drop p) = (t, u, e) := ⟨_, _, _, rfl⟩
  by_cases he : e = 0
  · subst he
    obtain ⟨_, g2, _, g4⟩ := fopen_ok hv
    rw [List.length_drop] at g2
    omega
  · exact scanI_end h hv he
theorem frames_exists (l : List UInt8) : ∃ p, scanI l (frames l) p := by
  have key : ∀ n p pre, l.length < p + n → scanI l pre p → ∃ q, scanI l (frames l) q := by
    intro n
    induction n with
    | zero => intro p pre h1 h2; have := scanI_le h2; omega
    | succ n ih =>
      intro p pre h1 h2
      obtain ⟨t, u, e, hv⟩ : ∃ t u e, fopen (l.drop p) = (t, u, e) := ⟨_, _, _, rfl⟩
      by_cases he : e = 0
      · subst he
        have := (fopen_ok hv).2.2.2
        exact ih _ _ (by omega) (scanI_step h2 hv)
      · rw [scanI_end h2 hv he]; exact ⟨p, h2⟩
  exact key (l.length + 1) 0 [] (by omega) (scanI_zero l)

def textsOf (l : List UInt8) : List (List UInt8) := (frames l).map (·.1)
def scanEnd (l : List UInt8) : Nat := endOf (frames l)
theorem scanEnd_le (l : List UInt8) : scanEnd l ≤ l.length := by
  obtain ⟨p, h⟩ := frames_exists l
  unfold scanEnd; rw [scanI_fin h rfl]; exact scanI_le h
theorem frames_len (l : List UInt8) : 5 * (frames l).length ≤ l.length := by
  obtain ⟨p, h⟩ := frames_exists l
  exact scanI_len h
theorem texts_len (l : List UInt8) : 5 * (textsOf l).length ≤ l.length := by
  unfold textsOf; rw [List.length_map]; exact frames_len l

/-- Whatever the fuel, as long as there is enough. -/
theorem framesF_fuel : ∀ (n m p : Nat) (l : List UInt8), l.length < p + 5 * n + 5 → l.length < p + 5 * m + 5 → framesF n p l = framesF m p l
  | 0, 0, _, _, _, _ => rfl
  | 0, m + 1, p, l, h, _ => by
    rw [framesF, framesF]
    obtain ⟨t, u, e, hv⟩ : ∃ t u e, fopen (l.drop p) = (t, u, e) := ⟨_, _, _, rfl⟩
    rw [hv]
    by_cases he : e = 0
    · subst he
      have := fopen_ok hv
      rw [List.length_drop] at this
      omega
    · rw [if_pos he]
  | n + 1, 0, p, l, _, h => by
    rw [framesF, framesF]
    obtain ⟨t, u, e, hv⟩ : ∃ t u e, fopen (l.drop p) = (t, u, e) := ⟨_, _, _, rfl⟩
    rw [hv]
    by_cases he : e = 0
    · subst he
      have := fopen_ok hv
      rw [List.length_drop] at this
      omega
    · rw [if_pos he]
  | n + 1, m + 1, p, l, h1, h2 => by
    rw [framesF, framesF]
    obtain ⟨t, u, e, hv⟩ : ∃ t u e, fopen (l.drop p) = (t, u, e) := ⟨_, _, _, rfl⟩
    rw [hv]
    by_cases he : e = 0
    · subst he
      have := (fopen_ok hv).2.2.2
      simp only []
      rw [framesF_fuel n m (p + u) l (by omega) (by omega)]
    · rw [if_pos he, if_pos he]
/-- Behind what lies ahead. -/
theorem framesF_shift (a l : List UInt8) : ∀ (n p : Nat), framesF n (a.length + p) (a ++ l) = (framesF n p l).map fun f => (f.1, a.length + f.2)
  | 0, _ => rfl
  | n + 1, p => by
    rw [framesF, framesF]
    have e : (a ++ l).drop (a.length + p) = l.drop p := by rw [List.drop_append]; simp
    rw [e]
    by_cases he : (fopen (l.drop p)).2.2 = 0
    · rw [if_neg (by simpa using he), if_neg (by simpa using he), Nat.add_assoc, framesF_shift a l n]; rfl
    · rw [if_pos he, if_pos he]; rfl
theorem frames_wrap {t : List UInt8} (h : t.length ≤ 65536) (l : List UInt8) : frames (fwrap t ++ l) = (t, (fwrap t).length) :: (frames l).map fun f => (f.1, (fwrap t).length + f.2) := by
  have h5 := (fwrap_len h).1
  obtain ⟨N, hN⟩ : ∃ N, (fwrap t ++ l).length = N + 1 := ⟨(fwrap t ++ l).length - 1, by rw [List.length_append]; omega⟩
  unfold frames
  rw [hN, framesF, List.drop_zero, fopen_fwrap h, if_neg (by simp)]
  simp only [Nat.zero_add]
  have := framesF_shift (fwrap t) l N 0
  rw [Nat.add_zero] at this
  rw [List.length_append] at hN
  rw [this, framesF_fuel N l.length 0 l (by omega) (by omega)]
theorem endOf_cons (t : List UInt8) (k : Nat) : ∀ fs : List (List UInt8 × Nat), endOf ((t, k) :: fs.map fun f => (f.1, k + f.2)) = k + endOf fs
  | [] => by simp [endOf]
  | f :: fs => by
    unfold endOf
    rw [List.getLast?_cons, List.getLast?_cons, List.getLast?_map]
    cases h : fs.getLast? with
    | none =>
      rw [List.getLast?_eq_none_iff] at h
      subst h; simp
    | some g => simp [h, List.getLast?_cons]

/-- Texts' frames, one behind the other. -/
def wraps (L : List (List UInt8)) : List UInt8 := (L.map fwrap).flatten
theorem wraps_snoc (L : List (List UInt8)) (t : List UInt8) : wraps (L ++ [t]) = wraps L ++ fwrap t := by simp [wraps]
theorem wraps_len : ∀ {L : List (List UInt8)} {m : Nat}, (∀ t ∈ L, t.length ≤ m) → (wraps L).length ≤ (m + 14) * L.length
  | [], _, _ => by simp [wraps]
  | t :: L, m, h => by
    have ih := wraps_len (L := L) (m := m) (fun x hx => h x (List.mem_cons_of_mem _ hx))
    have ht := h t List.mem_cons_self
    have : (fwrap t).length ≤ m + 14 := by
      by_cases h6 : t.length ≤ 65536
      · have := (fwrap_len h6).2; omega
      · rw [fwrap, if_pos (by omega)]; simp
    have e : wraps (t :: L) = fwrap t ++ wraps L := rfl
    rw [e, List.length_append, List.length_cons, Nat.mul_succ]; omega
theorem textsOf_wraps : ∀ {L : List (List UInt8)}, (∀ t ∈ L, t.length ≤ 65536) → ∀ x : List UInt8, textsOf (wraps L ++ x) = L ++ textsOf x ∧ scanEnd (wraps L ++ x) = (wraps L).length + scanEnd x
  | [], _, x => by simp [wraps]
  | t :: L, h, x => by
    have e : wraps (t :: L) = fwrap t ++ wraps L := rfl
    obtain ⟨h1, h2⟩ := textsOf_wraps (L := L) (fun y hy => h y (List.mem_cons_of_mem _ hy)) x
    unfold textsOf at h1
    unfold scanEnd at h2
    unfold textsOf scanEnd
    rw [e, List.append_assoc, frames_wrap (h t List.mem_cons_self)]
    refine ⟨?_, ?_⟩
    · rw [List.map_cons, List.map_map, List.cons_append, ← h1]; rfl
    · rw [endOf_cons, h2, List.length_append]; omega
/-- A part of a frame has none. -/
theorem frames_none {l : List UInt8} (h : (fopen l).2.2 ≠ 0) : frames l = [] :=
  scanI_end (scanI_zero l) (t := (fopen l).1) (u := (fopen l).2.1) (e := (fopen l).2.2) (by rw [List.drop_zero]) h
theorem frames_part {s : List UInt8} (h : s.length ≤ 65536) (k : Nat) (hk : k < (fwrap s).length) : frames ((fwrap s).take k) = [] := frames_none (fopen_part h k hk)
theorem textsOf_wraps_part {L : List (List UInt8)} (hL : ∀ t ∈ L, t.length ≤ 65536) {s : List UInt8} (h : s.length ≤ 65536) (k : Nat) (hk : k < (fwrap s).length) :
    textsOf (wraps L ++ (fwrap s).take k) = L ∧ scanEnd (wraps L ++ (fwrap s).take k) = (wraps L).length := by
  obtain ⟨h1, h2⟩ := textsOf_wraps hL ((fwrap s).take k)
  rw [h1, h2, textsOf, scanEnd, frames_part h k hk]
  simp [endOf]

/-! ## Torn -/
theorem ofNat_eq {a b : Nat} (h : UInt8.ofNat a = UInt8.ofNat b) : a % 256 = b % 256 := by
  have := congrArg UInt8.toNat h
  simpa using this
theorem le4_inj {a b : Nat} (ha : U32 a) (hb : U32 b) (h : le4 a = le4 b) : a = b := by
  unfold le4 at h
  simp only [List.cons.injEq, and_true] at h
  obtain ⟨h0, h1, h2, h3⟩ := h
  have h0 := ofNat_eq h0; have h1 := ofNat_eq h1; have h2 := ofNat_eq h2; have h3 := ofNat_eq h3
  unfold U32 at ha hb
  omega
theorem crcMore_one {c : Nat} (a : List UInt8) (x y : UInt8) (b : List UInt8) (h : crcMore c (a ++ x :: b) = crcMore c (a ++ y :: b)) : x = y := by
  unfold crcMore at h
  have h1 := inv_inj (crcF_lt (inv_lt _) _) (crcF_lt (inv_lt _) _) h
  rw [crcF_append, crcF_append] at h1
  have hr := crcF_lt (inv_lt c) a
  have h2 := crcF_inj (a := bits8 (crcF (4294967295 - c) a ^^^ x.toNat)) (b := bits8 (crcF (4294967295 - c) a ^^^ y.toNat)) (bits8_lt (xor_u32 hr (byte_u32 x))) (bits8_lt (xor_u32 hr (byte_u32 y))) b h1
  have h3 := bits8_inj (xor_u32 hr (byte_u32 x)) (xor_u32 hr (byte_u32 y)) h2
  rw [Nat.xor_comm, Nat.xor_comm _ y.toNat] at h3
  exact UInt8.toNat_inj.1 (xor_cancel h3)
theorem set_ne {l : List UInt8} {j : Nat} {y : UInt8} (hj : j < l.length) (hy : y ≠ l[j]) : l.set j y ≠ l := by
  intro h
  have := List.getElem_set_self (l := l) (i := j) (a := y) (by simpa using hj)
  simp only [h] at this
  exact hy this.symm
theorem crc_set (a l : List UInt8) {j : Nat} {y : UInt8} (hj : j < l.length) (hy : y ≠ l[j]) : crcMore 0 (a ++ l.set j y) ≠ crcMore 0 (a ++ l) := by
  intro h
  have e1 : l = l.take j ++ l[j] :: l.drop (j + 1) := by rw [List.getElem_cons_drop, List.take_append_drop]
  have e2 : l.set j y = l.take j ++ y :: l.drop (j + 1) := List.set_eq_take_append_cons_drop .. ▸ by rw [if_pos hj]
  rw [e2] at h
  rw [show a ++ l = (a ++ l.take j) ++ l[j] :: l.drop (j + 1) by rw [List.append_assoc, ← e1], ← List.append_assoc] at h
  exact hy (crcMore_one _ _ _ _ h)
theorem head_eq {s : List UInt8} (h : s.length ≤ 65536) : (fwrap s).length - s.length - 4 = (vput s.length).length ∧ (fwrap s).length = (vput s.length).length + s.length + 4 := by
  rw [fwrap_eq h, vputText, if_neg (by omega), List.length_append, List.length_append, le4_len]; omega
/-- Bytes that begin with a length, and have room. -/
theorem takeText_head {n : Nat} (hn : n ≤ 65536) (r : List UInt8) : vtakeText (vput n ++ r) = if r.length < n then ([], 0, 1) else (r.take n, (vput n).length + n, 0) := by
  have hT : vtake (vput n ++ r) = (n, (vput n).length, 0) := take_put (by unfold U64; omega) r
  rw [vtakeText, hT, if_neg (by simp), if_neg (by simp; omega), List.length_append]
  simp only [List.drop_left]
  by_cases hr : r.length < n
  · rw [if_pos (by omega), if_pos hr]
  · rw [if_neg (by omega), if_neg hr]
theorem fopen_head {n : Nat} (hn : n ≤ 65536) (r : List UInt8) : fopen (vput n ++ r) = if r.length < n + 4 then ([], 0, 1) else if (r.drop n).take 4 ≠ le4 (crcMore 0 (vput n ++ r.take n)) then ([], 0, 3) else (r.take n, (vput n).length + n + 4, 0) := by
  rw [fopen, takeText_head hn]
  by_cases hr : r.length < n
  · rw [if_pos hr, if_pos (by simp), if_pos (by omega)]
  · rw [if_neg hr, if_neg (by simp), List.length_append]
    simp only []
    by_cases h4 : r.length < n + 4
    · rw [if_pos (by omega), if_pos h4]
    · rw [if_neg (by omega), if_neg h4]
      have e1 : (vput n ++ r).drop ((vput n).length + n) = r.drop n := by rw [List.drop_append]; simp
      have e2 : (vput n ++ r).take ((vput n).length + n) = vput n ++ r.take n := by rw [List.take_append, List.take_of_length_le (by omega), Nat.add_sub_cancel_left]
      rw [e1, e2]
theorem fopen_torn {s : List UInt8} (h : s.length ≤ 65536) {k : Nat} {y : UInt8} (h1 : (vput s.length).length ≤ k) (h2 : k < (fwrap s).length) (hy : y ≠ (fwrap s)[k]) : fopen ((fwrap s).set k y) = ([], 0, 3) := by
  have hw : fwrap s = vput s.length ++ (s ++ le4 (crcMore 0 (vput s.length ++ s))) := by
    rw [fwrap_eq h, vputText, if_neg (by omega), List.append_assoc]
  obtain ⟨j, rfl⟩ : ∃ j, k = (vput s.length).length + j := ⟨k - (vput s.length).length, by omega⟩
  have hj : j < s.length + 4 := by have := (head_eq h).2; omega
  have hy' : y ≠ (s ++ le4 (crcMore 0 (vput s.length ++ s)))[j]'(by rw [List.length_append, le4_len]; exact hj) := by
    intro e; apply hy; rw [e]
    apply Option.some.inj
    rw [← List.getElem?_eq_getElem, ← List.getElem?_eq_getElem, hw, List.getElem?_append_right (l₁ := vput s.length) (by omega), Nat.add_sub_cancel_left]
  rw [hw, List.set_append_right _ _ (by omega), Nat.add_sub_cancel_left, fopen_head h, if_neg (by rw [List.length_set, List.length_append, le4_len]; omega), if_pos ?_]
  by_cases hjs : j < s.length
  · rw [List.set_append_left _ _ hjs]
    have hl : (s.set j y).length = s.length := List.length_set
    rw [List.drop_left' hl, List.take_left' hl, List.take_of_length_le (by rw [le4_len]; omega)]
    intro e
    rw [List.getElem_append_left hjs] at hy'
    exact crc_set _ s hjs hy' (le4_inj (crcMore_lt _ _) (crcMore_lt _ _) e).symm
  · rw [List.set_append_right _ _ (by omega), List.drop_left, List.take_left, List.take_of_length_le (by rw [List.length_set, le4_len]; omega)]
    rw [List.getElem_append_right (by omega)] at hy'
    exact set_ne (by rw [le4_len]; omega) hy'
theorem fopen_short {s : List UInt8} (h : s.length ≤ 65536) {k : Nat} (h1 : (vput s.length).length ≤ k) (h2 : k < (fwrap s).length) : fopen ((fwrap s).take k) = ([], 0, 1) := by
  have hw : fwrap s = vput s.length ++ (s ++ le4 (crcMore 0 (vput s.length ++ s))) := by
    rw [fwrap_eq h, vputText, if_neg (by omega), List.append_assoc]
  have hj := (head_eq h).2
  obtain ⟨j, rfl⟩ : ∃ j, k = (vput s.length).length + j := ⟨k - (vput s.length).length, by omega⟩
  rw [hw, List.take_append, List.take_of_length_le (by omega), Nat.add_sub_cancel_left, fopen_head h, if_pos]
  rw [List.length_take]; omega
end Go.Proofs.Ytnoacceihaedbaa

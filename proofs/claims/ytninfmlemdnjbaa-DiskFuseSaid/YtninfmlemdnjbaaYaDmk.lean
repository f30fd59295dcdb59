/-
  DiskFuse: its mathematics, and the walk over this translation.
-/
import Derived.Test.YtninfmlemdnjbaaQa4
set_option linter.unusedVariables false
namespace Go.Proofs.Ytninfmlemdnjbaa
open Go.RowKit
attribute [local go_sem] Oper.semAt_some
def nF15 : ByteArray := ⟨#[102]⟩
def sX15 : ByteArray := ⟨#[120]⟩
def opsM (m : Nat) : List Dop := (List.range m).map fun i : Nat => ⟨(i : Int), sX15⟩
def filesM (m : Nat) : List Dfl := if m = 0 then [] else [⟨nF15, ⟨#[]⟩, opsM m⟩]
def fuseD (N i : Nat) : Dsk := if i ≤ N then ⟨filesM i, false, (N - i : Nat)⟩ else ⟨filesM N, true, -1⟩
theorem opsM_len (m : Nat) : (opsM m).length = m := by unfold opsM; simp
theorem opsM_succ (m : Nat) : opsM (m + 1) = opsM m ++ [⟨(m : Int), sX15⟩] := by unfold opsM; rw [List.range_succ, List.map_append]; rfl
theorem name_f : nameB nF15.data.toList = true := by kernel_rfl
theorem get_filesM (m : Nat) : getF (filesM m) nF15.data.toList = if m = 0 then none else some ⟨nF15, ⟨#[]⟩, opsM m⟩ := by
  unfold filesM
  by_cases h : m = 0
  · rw [if_pos h, if_pos h]; rfl
  · rw [if_neg h, if_neg h, getF_cons, if_pos (show Dfl.t ⟨nF15, ⟨#[]⟩, opsM m⟩ = nF15.data.toList from rfl)]
theorem with_filesM (m : Nat) : withF (filesM m) ⟨nF15, ⟨#[]⟩, opsM (m + 1)⟩ = filesM (m + 1) := by
  unfold filesM
  rw [if_neg (show ¬ m + 1 = 0 by omega)]
  by_cases h : m = 0
  · rw [if_pos h]; rfl
  · rw [if_neg h]
    show (if Dfl.t ⟨nF15, ⟨#[]⟩, opsM m⟩ < Dfl.t ⟨nF15, ⟨#[]⟩, opsM (m + 1)⟩ then _ else if Dfl.t ⟨nF15, ⟨#[]⟩, opsM m⟩ = Dfl.t ⟨nF15, ⟨#[]⟩, opsM (m + 1)⟩ then _ else _) = _
    have e : Dfl.t ⟨nF15, ⟨#[]⟩, opsM m⟩ = Dfl.t ⟨nF15, ⟨#[]⟩, opsM (m + 1)⟩ := rfl
    rw [if_neg (by rw [e]; exact t_irrefl _), if_pos e]
theorem write_filesM {m : Nat} (hm : m ≤ 100) (fu : Int) : writeD nameB ⟨filesM m, false, fu⟩ nF15 m sX15 = thenD ⟨filesM m, false, fu⟩ (filesM (m + 1)) := by
  unfold writeD
  have h1 : ¬ fullD ⟨filesM m, false, fu⟩ nF15 sX15 := by
    unfold fullD
    dsimp only
    rw [get_filesM]
    by_cases h : m = 0
    · rw [if_pos h, h]; show ¬ 8 ≤ ([] : List Dfl).length; decide
    · rw [if_neg h]; rintro ⟨_, h2⟩; rw [show (Dfl.mk nF15 ⟨#[]⟩ (opsM m)).ops.length = m from opsM_len m] at h2; omega
  have h2 : wroteF ⟨filesM m, false, fu⟩ nF15 m sX15 = ⟨nF15, ⟨#[]⟩, opsM (m + 1)⟩ := by
    unfold wroteF
    dsimp only
    rw [get_filesM, if_neg (by decide), opsM_succ]
    by_cases h : m = 0
    · rw [if_pos h, h]
      rw [show opsM 0 = [] from rfl]; rfl
    · rw [if_neg h]; rfl
  have hs : ¬ ((m : Int) < 0 ∨ 262144 < (m : Int) + (sX15.size : Nat)) := by
    have : sX15.size = 1 := rfl
    omega
  rw [if_neg (by simp), if_neg (by rw [name_f]; simp), if_neg hs, if_neg h1, h2, with_filesM]
theorem fuseD_step {N i : Nat} (hN : N ≤ 29) : writeD nameB (fuseD N i) nF15 (min i N : Nat) sX15 = (fuseD N (i + 1), if i < N then 0 else 13) := by
  by_cases h : i < N
  · have e1 : fuseD N i = ⟨filesM i, false, (N - i : Nat)⟩ := if_pos (by omega)
    have e2 : fuseD N (i + 1) = ⟨filesM (i + 1), false, (N - (i + 1) : Nat)⟩ := if_pos (by omega)
    rw [e1, e2, if_pos h, Nat.min_eq_left (by omega), write_filesM (by omega)]
    have hp : powD ⟨filesM i, false, ((N - i : Nat) : Int)⟩ = (⟨filesM i, false, ((N - (i + 1) : Nat) : Int)⟩, 0) := by
      unfold powD
      dsimp only
      rw [if_neg (show ¬ ((N - i : Nat) : Int) = 0 by omega), if_pos (show (0 : Int) < ((N - i : Nat) : Int) by omega)]
      have : ((N - i : Nat) : Int) - 1 = ((N - (i + 1) : Nat) : Int) := by omega
      rw [this]
    rw [thenD_ok (by rw [hp]), hp]
  · rw [if_neg h]
    have e2 : fuseD N (i + 1) = ⟨filesM N, true, -1⟩ := if_neg (by omega)
    rw [e2, Nat.min_eq_right (by omega)]
    by_cases h2 : i = N
    · have e1 : fuseD N i = ⟨filesM N, false, (0 : Nat)⟩ := by unfold fuseD; rw [if_pos (by omega), h2, Nat.sub_self]
      rw [e1, write_filesM (by omega)]
      have hp : powD ⟨filesM N, false, ((0 : Nat) : Int)⟩ = (⟨filesM N, true, -1⟩, 13) := if_pos rfl
      rw [thenD_bad (by rw [hp]; show (13 : Int) ≠ 0; decide), hp]
    · have e1 : fuseD N i = ⟨filesM N, true, -1⟩ := if_neg (by omega)
      rw [e1]; rfl
theorem fuseD_zero (N : Nat) : fuseD N 0 = ⟨[], false, (N : Int)⟩ := if_pos (Nat.zero_le _)
theorem fuseD_fit {N : Nat} (hN : N ≤ 29) : ∀ i, FitD nameB (fuseD N i)
  | 0 => by
    rw [fuseD_zero]
    exact ⟨Nat.zero_le _, by show (-1 : Int) ≤ (N : Int); omega, by show (N : Int) ≤ 1048576; omega, fun h => (by cases h), fun f h => (by cases h), List.Pairwise.nil⟩
  | i + 1 => by
    have := writeD_fit (fuseD_fit hN i) nF15 (min i N : Nat) sX15
    rwa [fuseD_step hN] at this
theorem fuseD_fs (N i : Nat) : (fuseD N i).fs = filesM (min i N) := by
  unfold fuseD
  by_cases h : i ≤ N
  · rw [if_pos h, Nat.min_eq_left h]
  · rw [if_neg h, Nat.min_eq_right (by omega)]
theorem fuseD_off {N i : Nat} (h : ¬ i < N) : (fuseD N (i + 1)).off = true := by rw [show fuseD N (i + 1) = ⟨filesM N, true, -1⟩ from if_neg (by omega)]
theorem seen_opsM : ∀ m, (seenT [] (opsM m)).length = m
  | 0 => rfl
  | m + 1 => by
    rw [opsM_succ, seenT_one, layT_len, seen_opsM m]
    show max m (Dop.a ⟨(m : Int), sX15⟩ + 1) = m + 1
    have : Dop.a ⟨(m : Int), sX15⟩ = m := by unfold Dop.a; simp
    omega
theorem fuseD_read (N i : Nat) : (strT (readD (fuseD N i) nF15.data.toList).1).size = min i N := by
  rw [strT_size]
  unfold readD
  rw [fuseD_fs, get_filesM]
  by_cases h : min i N = 0
  · rw [if_pos h, h]; rfl
  · rw [if_neg h]; exact seen_opsM _
set_option maxRecDepth 100000 in
set_option maxHeartbeats 16000000 in
theorem diskFuse_w (x y : Nat) (hx : x < 256) (hy : y < 256) (w0 : World) :
    Calls Try.prog 8 #[.int .u8 x, .int .u8 y] w0 fun e w' => e = .returned (.bool true) ∧ Below w0.heap.size w0 w' := by
  have CA := Lib.hid awake15_any
  obtain ⟨N, hN⟩ : ∃ N, N = x % 30 := ⟨_, rfl⟩
  obtain ⟨A, hA⟩ : ∃ A, A = y % 60 := ⟨_, rfl⟩
  have hN29 : N ≤ 29 := by omega
  have hA59 : A ≤ 59 := by omega
  have m1 : (x : Int) % 30 = (N : Int) := by omega
  have m2 : (y : Int) % 60 = (A : Int) := by omega
  have HFT := Lib.hid (fuseD_fit hN29)
  have HST := Lib.hid (fun i => fuseD_step (N := N) (i := i) hN29)
  clear hN hA
  go_enter Try.func8, Try.ntmps8
  go_wp2_with fail
  obtain ⟨V, hV⟩ : ∃ V, V = w0.alloc (.cells #[.slice none 0 0, .bool false, .int .i64 N] 24) := ⟨_, rfl⟩
  have hbV : Below w0.heap.size w0 V := by rw [hV]; exact (Below.refl _ _).alloc (Nat.le_refl _) _
  have hRV : Row V w0.heap.size #[.slice none 0 0, .bool false, .int .i64 N] 24 := by rw [hV]; exact Row.made _ _ _
  rw [← hV, m2]
  have HBV := Lib.hid hbV; have HRV := Lib.hid hRV
  have HX1 := Lib.hid m1; have HX2 := Lib.hid m2
  clear hV hbV hRV m1 m2
  go_loopw [6, 18] (fun dn iv wr => ∃ (k : Nat) (a : Option Addr) (z c : Nat) (o : Bool) (fu : Int), k ≤ A ∧ iv = .int .u8 k ∧ dn = .int .i64 (min k N : Nat) ∧ o = (fuseD N k).off ∧ fu = (fuseD N k).fuse ∧ Row wr w0.heap.size #[.slice a z c, .bool o, .int .i64 fu] 24 ∧ IsDfs wr (.slice a z c) (fuseD N k).fs ∧ Below w0.heap.size w0 wr) (fun _ iv _ => A - (intOf iv).toNat)
  case atStart => exact ⟨0, none, 0, 0, false, N, Nat.zero_le _, rfl, by simp, by rw [fuseD_zero], by rw [fuseD_zero], HRV.out, by rw [fuseD_zero]; exact dfs_nil _, HBV.out⟩
  case round =>
    obtain ⟨k, a, z, c, o, fu, hk, rfl, rfl, ho, hfu, hR, hI, hB⟩ := hrel
    have HR := Lib.hid hR; have HB := Lib.hid hB; have HI := Lib.hid hI; have HO := Lib.hid ho; have HFU := Lib.hid hfu
    obtain ⟨⟨p0, p1, p2⟩, fz⟩ := hR.three
    by_cases hlt : k < A
    · have hbk : decide ((k : Int) < (A : Int)) = true := by simpa using (show (k : Int) < A by omega)
      have C := pWrite_any (fuseD N k) (.slice a z c) nF15 (min k N : Nat) sX15 wr hI (HFT.out k) (by decide) (by have : min k N ≤ N := Nat.min_le_right _ _; omega) (by decide)
      rw [HST.out] at C
      unfold dskV at C
      rw [← ho, ← hfu] at C
      unfold nF15 sX15 at C
      by_cases hkN : k < N
      · rw [if_pos hkN] at C
        have HC := Lib.hid C
        clear C hR hI hB ho hfu
        go_wp2_with fail
        refine HC.out.mono ?_
        rintro e w2 hr
        obtain ⟨a2, z2, c2, rfl, h2, hb2⟩ := hr.open
        obtain ⟨o2, ho2⟩ : ∃ o, o = (fuseD N (k + 1)).off := ⟨_, rfl⟩
        obtain ⟨f2, hf2⟩ : ∃ f, f = (fuseD N (k + 1)).fuse := ⟨_, rfl⟩
        rw [← ho2, ← hf2]
        have HO2 := Lib.hid ho2; have HF2 := Lib.hid hf2
        have hR2 := HR.out.step hb2
        have HI4 := Lib.hid ((h2.put (x := .slice a2 z2 c2) (y := .bool o2) (z := .int .i64 f2) hR2).stays ((Below.refl _ _).alloc (Nat.le_refl _) (.cells #[.slice a2 z2 c2, .bool o2, .int .i64 f2] 24)))
        have HR4 := Lib.hid ((hR2.putB_at (x := .slice a2 z2 c2) (y := .bool o2) (z := .int .i64 f2)).alloc (.cells #[.slice a2 z2 c2, .bool o2, .int .i64 f2] 24))
        have HB4 := Lib.hid (below_step (below_put (x := .slice a2 z2 c2) (y := .bool o2) (z := .int .i64 f2) (below_step HB.out hb2) (Nat.le_refl _)) ((Below.refl _ _).alloc (Nat.le_refl _) (.cells #[.slice a2 z2 c2, .bool o2, .int .i64 f2] 24)))
        unfold putB at HI4 HR4 HB4
        clear p0 p1 p2 fz
        obtain ⟨⟨p0, p1, p2⟩, fz⟩ := hR2.three
        have hl2 := hR2.lt
        clear h2 hb2 hr ho2 hf2 hR2
        have hmn : min k N = k := by omega
        have HM1 : Hid (min (k + 1) N = k + 1) := Lib.hid (by omega)
        have hk9 : k ≤ 29 := by omega
        rw [hmn]
        clear hmn
        go_wp2_with fail
        go_roundw
        case rel => exact ⟨k + 1, a2, z2, c2, _, f2, by omega, by go_num, by rw [HM1.out]; go_num, HO2.out, HF2.out, HR4.out, HI4.out, HB4.out⟩
        case measure => simp [intOf]; omega
      · rw [if_neg hkN] at C
        have HC := Lib.hid C
        clear C hR hI hB ho hfu
        go_wp2_with fail
        refine HC.out.mono ?_
        rintro e w2 hr
        obtain ⟨a2, z2, c2, rfl, h2, hb2⟩ := hr.open
        obtain ⟨o2, ho2⟩ : ∃ o, o = (fuseD N (k + 1)).off := ⟨_, rfl⟩
        obtain ⟨f2, hf2⟩ : ∃ f, f = (fuseD N (k + 1)).fuse := ⟨_, rfl⟩
        rw [← ho2, ← hf2]
        have HO2 := Lib.hid ho2; have HF2 := Lib.hid hf2
        have hR2 := HR.out.step hb2
        have HI4 := Lib.hid ((h2.put (x := .slice a2 z2 c2) (y := .bool o2) (z := .int .i64 f2) hR2).stays ((Below.refl _ _).alloc (Nat.le_refl _) (.cells #[.slice a2 z2 c2, .bool o2, .int .i64 f2] 24)))
        have HR4 := Lib.hid ((hR2.putB_at (x := .slice a2 z2 c2) (y := .bool o2) (z := .int .i64 f2)).alloc (.cells #[.slice a2 z2 c2, .bool o2, .int .i64 f2] 24))
        have HB4 := Lib.hid (below_step (below_put (x := .slice a2 z2 c2) (y := .bool o2) (z := .int .i64 f2) (below_step HB.out hb2) (Nat.le_refl _)) ((Below.refl _ _).alloc (Nat.le_refl _) (.cells #[.slice a2 z2 c2, .bool o2, .int .i64 f2] 24)))
        unfold putB at HI4 HR4 HB4
        clear p0 p1 p2 fz
        obtain ⟨⟨p0, p1, p2⟩, fz⟩ := hR2.three
        have hl2 := hR2.lt
        clear h2 hb2 hr ho2 hf2 hR2
        obtain rfl : o2 = true := by rw [HO2.out]; exact fuseD_off hkN
        have HM1 : Hid (min (k + 1) N = min k N) := Lib.hid (by omega)
        go_wp2_with fail
        go_roundw
        case rel => exact ⟨k + 1, a2, z2, c2, _, f2, by omega, by go_num, by rw [HM1.out], HO2.out, HF2.out, HR4.out, HI4.out, HB4.out⟩
        case measure => simp [intOf]; omega
    · obtain rfl : k = A := by omega
      have hbk : decide ((k : Int) < (k : Int)) = false := by simp
      have m1 := HX1.out; have m2 := HX2.out
      have C1 := Lib.hid (pRead_fit (fuseD N k) (.slice a z c) nF15 wr hI (HFT.out k))
      have hsz := fuseD_read N k
      obtain ⟨S, hS⟩ : ∃ S, S = strT (readD (fuseD N k) nF15.data.toList).1 := ⟨_, rfl⟩
      obtain ⟨rb, hrb⟩ : ∃ b, b = (readD (fuseD N k) nF15.data.toList).2 := ⟨_, rfl⟩
      rw [← hS] at hsz
      rw [← hS, ← hrb] at C1
      unfold dskV nF15 at C1
      rw [← ho, ← hfu] at C1
      have C2 := Lib.hid (fun W (h : IsDfs W (.slice a z c) (fuseD N k).fs) => pCrash_any (fuseD N k) (.slice a z c) (.slice none 0 0) [] W h (bls_nil W) (HFT.out k))
      unfold dskV at C2
      rw [← ho, ← hfu] at C2
      dsimp only [crashD] at C2
      obtain ⟨q, hq⟩ : ∃ q, q = min k N := ⟨_, rfl⟩
      rw [← hq] at hsz ⊢
      have e1 : ((q : Int) == min (N : Int) (k : Int)) = true := by simp; omega
      have e2 : ((S.size : Int) == (q : Int)) = true := by rw [hsz]; simp
      have e3 : (q : Int) = min (N : Int) (k : Int) := by omega
      have e4 : (S.size : Int) = (q : Int) := by rw [hsz]
      clear hR hI hB ho hfu hS hrb hsz hq
      go_wp2_with fail
      refine C1.out.mono ?_
      rintro e w1 ⟨rfl, hb1⟩
      have HI1 := Lib.hid (HI.out.stays hb1); have HR1 := Lib.hid (HR.out.step hb1); have HB1 := Lib.hid (below_step HB.out hb1)
      clear p0 p1 p2 fz hb1
      obtain ⟨⟨p0, p1, p2⟩, fz⟩ := HR1.out.three
      go_wp2_with fail
      refine (C2.out w1 HI1.out).mono ?_
      rintro e w2 ⟨v2, rfl, h2, hb2⟩
      have HB2 := Lib.hid (below_step HB1.out hb2)
      obtain ⟨a2, c2, rfl⟩ := h2.len
      obtain ⟨z2, hz2⟩ : ∃ z, z = (crashL [] 0 (fuseD N k).fs).length := ⟨_, rfl⟩
      rw [← hz2]
      have HB3 := Lib.hid (below_step HB2.out ((Below.refl _ _).alloc (Nat.le_refl _) (.cells #[.slice a2 z2 c2, .bool false, .int .i64 (-1)] 24)))
      clear p0 p1 p2 fz h2 hb2 hz2
      go_wp2_with fail
      refine (CA.out _).mono ?_
      rintro e w9 ⟨rfl, hb9⟩
      have HB9 := Lib.hid (below_step HB3.out hb9)
      clear hb9
      go_wp2_with fail
      go_ret
      exact ⟨rfl, HB9.out⟩
end Go.Proofs.Ytninfmlemdnjbaa

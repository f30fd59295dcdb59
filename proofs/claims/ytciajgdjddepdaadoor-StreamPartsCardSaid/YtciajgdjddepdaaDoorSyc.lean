/-
  Layer 8: the statement StreamParts as a walk over this translation.
-/
import Derived.Test.YtciajgdjddepdaaDoorSya
import Derived.Test.YtciajgdjddepdaaDoorOps
set_option linter.unusedVariables false
namespace Go.Proofs.YtciajgdjddepdaaDoor
open Go.RowKit Go.Shelf

/-- What is said of each operation of a region of StreamParts. -/
def spaU (m av x : Nat) (r s y1 y s1 : ByteArray) (k : Nat) (va : Value) (L1 L2 : List ByteArray) (B : Nat) : Nat → Value → Value → World → Prop
  | 0 => fun v _ _ => v = pV m av x
  | 1 => fun v _ _ => v = sV r
  | 2 => fun v _ _ => v = .string s
  | 3 => fun v _ _ => v = .int .i64 k
  | 4 => fun v _ _ => v = .string s1
  | 5 => fun v _ w => ∃ u, v = .tuple #[sV y1, u] ∧ OwnS w u L1
  | 6 => fun v _ w => ∃ u, v = .tuple #[sV y1, u] ∧ OwnS w u L1
  | 7 => fun v _ _ => v = sV y1
  | 8 => fun v _ w => OwnS w v L1
  | 9 => fun v _ w => ∃ A, B ≤ A ∧ v = .pointer (some ⟨A, 0, none⟩) ∧ ∃ z, Row w A #[z] 25
  | 10 => fun _ e w => ∃ A, B ≤ A ∧ e = .pointer (some ⟨A, 0, none⟩) ∧ Row w A #[.string y1] 25
  | 11 => fun v _ w => OwnS w v L1
  | 12 => fun _ _ w => OwnS w va (L1 ++ L2)
  | _ => fun _ _ _ => True
def spaN : List (List Nat) := [[], [], [], [], [2, 3], [0, 1, 4], [5], [6], [6], [], [9, 7], [8]]
def spaE : Nat → Option Tmp
  | 10 => some 12
  | _ => none
def spaB : List (Nat × Nat) := [(10, 9), (10, 11)]
theorem spa_T (m av x : Nat) (r s y1 y s1 : ByteArray) (k : Nat) (va : Value) (L1 L2 : List ByteArray) (B : Nat) (ix kx : Nat) (v e : Value) (w w' : World) (hk : kx < 13) (hne : kx ≠ ix) (hbd : (ix, kx) ∉ spaB) (hU : (spaU m av x r s y1 y s1 k va L1 L2 B) kx v e w) (hT : (appT 10 (putS (B))) ix w w') : (spaU m av x r s y1 y s1 k va L1 L2 B) kx v e w' := by
  by_cases hi : ix = 10
  · subst hi
    have hR := appT_in hT
    rcases (show kx = 0 ∨ kx = 1 ∨ kx = 2 ∨ kx = 3 ∨ kx = 4 ∨ kx = 5 ∨ kx = 6 ∨ kx = 7 ∨ kx = 8 ∨ kx = 9 ∨ kx = 10 ∨ kx = 11 ∨ kx = 12 by omega) with rfl | rfl | rfl | rfl | rfl | rfl | rfl | rfl | rfl | rfl | rfl | rfl | rfl
    · exact hU
    · exact hU
    · exact hU
    · exact hU
    · exact hU
    · exact (by obtain ⟨u, a, b⟩ := hU; exact ⟨u, a, putS_own hR b⟩)
    · exact (by obtain ⟨u, a, b⟩ := hU; exact ⟨u, a, putS_own hR b⟩)
    · exact hU
    · exact putS_own hR hU
    · exact absurd (by decide) hbd
    · exact absurd rfl hne
    · exact absurd (by decide) hbd
    · exact putS_own hR hU
  have hb : Below w.heap.size w w' := appT_out hi hT
  rcases (show kx = 0 ∨ kx = 1 ∨ kx = 2 ∨ kx = 3 ∨ kx = 4 ∨ kx = 5 ∨ kx = 6 ∨ kx = 7 ∨ kx = 8 ∨ kx = 9 ∨ kx = 10 ∨ kx = 11 ∨ kx = 12 by omega) with rfl | rfl | rfl | rfl | rfl | rfl | rfl | rfl | rfl | rfl | rfl | rfl | rfl
  · exact hU
  · exact hU
  · exact hU
  · exact hU
  · exact hU
  · exact (by obtain ⟨u, a, b⟩ := hU; exact ⟨u, a, b.stays hb⟩)
  · exact (by obtain ⟨u, a, b⟩ := hU; exact ⟨u, a, b.stays hb⟩)
  · exact hU
  · exact OwnS.stays hU hb
  · exact (by obtain ⟨A, a, b, z, c⟩ := hU; exact ⟨A, a, b, z, c.step hb⟩)
  · exact (by obtain ⟨A, a, b, c⟩ := hU; exact ⟨A, a, b, c.step hb⟩)
  · exact OwnS.stays hU hb
  · exact OwnS.stays hU hb
/-- What is said of each operation of a region of StreamParts. -/
def spbU (m av x : Nat) (r s y1 y s2 : ByteArray) (k : Nat) (va vb : Value) (L1 L2 : List ByteArray) (B : Nat) : Nat → Value → Value → World → Prop
  | 0 => fun v _ _ => v = pV m av x
  | 1 => fun v _ _ => v = sV y1
  | 2 => fun v _ _ => v = .string s
  | 3 => fun v _ _ => v = .int .i64 k
  | 4 => fun v _ _ => v = .string s2
  | 5 => fun v _ w => ∃ u, v = .tuple #[sV y, u] ∧ OwnS w u L2
  | 6 => fun v _ w => ∃ u, v = .tuple #[sV y, u] ∧ OwnS w u L2
  | 7 => fun v _ _ => v = sV y
  | 8 => fun v _ w => OwnS w v L2
  | 9 => fun v _ w => ∃ A, B ≤ A ∧ v = .pointer (some ⟨A, 0, none⟩) ∧ ∃ z, Row w A #[z] 25
  | 10 => fun _ e w => ∃ A, B ≤ A ∧ e = .pointer (some ⟨A, 0, none⟩) ∧ Row w A #[.string y] 25
  | 11 => fun v _ w => OwnS w v L2
  | 12 => fun _ _ w => OwnS w va (L1 ++ L2)
  | 13 => fun _ _ w => OwnS w vb L1
  | _ => fun _ _ _ => True
def spbN : List (List Nat) := [[], [], [], [], [2, 3], [0, 1, 4], [5], [6], [6], [], [9, 7], [8]]
def spbE : Nat → Option Tmp
  | 10 => some 14
  | _ => none
def spbB : List (Nat × Nat) := [(10, 9), (10, 11)]
theorem spb_T (m av x : Nat) (r s y1 y s2 : ByteArray) (k : Nat) (va vb : Value) (L1 L2 : List ByteArray) (B : Nat) (ix kx : Nat) (v e : Value) (w w' : World) (hk : kx < 14) (hne : kx ≠ ix) (hbd : (ix, kx) ∉ spbB) (hU : (spbU m av x r s y1 y s2 k va vb L1 L2 B) kx v e w) (hT : (appT 10 (putS (B))) ix w w') : (spbU m av x r s y1 y s2 k va vb L1 L2 B) kx v e w' := by
  by_cases hi : ix = 10
  · subst hi
    have hR := appT_in hT
    rcases (show kx = 0 ∨ kx = 1 ∨ kx = 2 ∨ kx = 3 ∨ kx = 4 ∨ kx = 5 ∨ kx = 6 ∨ kx = 7 ∨ kx = 8 ∨ kx = 9 ∨ kx = 10 ∨ kx = 11 ∨ kx = 12 ∨ kx = 13 by omega) with rfl | rfl | rfl | rfl | rfl | rfl | rfl | rfl | rfl | rfl | rfl | rfl | rfl | rfl
    · exact hU
    · exact hU
    · exact hU
    · exact hU
    · exact hU
    · exact (by obtain ⟨u, a, b⟩ := hU; exact ⟨u, a, putS_own hR b⟩)
    · exact (by obtain ⟨u, a, b⟩ := hU; exact ⟨u, a, putS_own hR b⟩)
    · exact hU
    · exact putS_own hR hU
    · exact absurd (by decide) hbd
    · exact absurd rfl hne
    · exact absurd (by decide) hbd
    · exact putS_own hR hU
    · exact putS_own hR hU
  have hb : Below w.heap.size w w' := appT_out hi hT
  rcases (show kx = 0 ∨ kx = 1 ∨ kx = 2 ∨ kx = 3 ∨ kx = 4 ∨ kx = 5 ∨ kx = 6 ∨ kx = 7 ∨ kx = 8 ∨ kx = 9 ∨ kx = 10 ∨ kx = 11 ∨ kx = 12 ∨ kx = 13 by omega) with rfl | rfl | rfl | rfl | rfl | rfl | rfl | rfl | rfl | rfl | rfl | rfl | rfl | rfl
  · exact hU
  · exact hU
  · exact hU
  · exact hU
  · exact hU
  · exact (by obtain ⟨u, a, b⟩ := hU; exact ⟨u, a, b.stays hb⟩)
  · exact (by obtain ⟨u, a, b⟩ := hU; exact ⟨u, a, b.stays hb⟩)
  · exact hU
  · exact OwnS.stays hU hb
  · exact (by obtain ⟨A, a, b, z, c⟩ := hU; exact ⟨A, a, b, z, c.step hb⟩)
  · exact (by obtain ⟨A, a, b, c⟩ := hU; exact ⟨A, a, b, c.step hb⟩)
  · exact OwnS.stays hU hb
  · exact OwnS.stays hU hb
  · exact OwnS.stays hU hb

theorem bytes_split (s : ByteArray) (k : Nat) (h : k ≤ s.size) : s.data.toList = (s.extract 0 k).data.toList ++ (s.extract k s.size).data.toList := by
  rw [Lib.extract_to_end, ext_take, List.take_append_drop]
theorem feed_parts {mn mx : Nat} {c : List UInt8 → Nat} (H : CutSure mn mx c) (r s : ByteArray) (k : Nat) (hk : k ≤ s.size) (y1 : ByteArray) (hy : y1 = ⟨(left c mx (r ++ s.extract 0 k).data.toList).toArray⟩) :
    left c mx (y1 ++ s.extract k s.size).data.toList = left c mx (r ++ s).data.toList ∧ strsOf (fed c mx (r ++ s).data.toList) = strsOf (fed c mx (r ++ s.extract 0 k).data.toList) ++ strsOf (fed c mx (y1 ++ s.extract k s.size).data.toList) := by
  have e : (r ++ s).data.toList = (r ++ s.extract 0 k).data.toList ++ (s.extract k s.size).data.toList := by
    rw [bytes_app, bytes_app, bytes_split s k hk, List.append_assoc]
  have e2 : (y1 ++ s.extract k s.size).data.toList = left c mx (r ++ s.extract 0 k).data.toList ++ (s.extract k s.size).data.toList := by
    rw [bytes_app, hy]
  obtain ⟨h1, h2⟩ := fed_app H (r ++ s.extract 0 k).data.toList (s.extract k s.size).data.toList
  rw [e, e2, h1, h2, strsOf_app]
  exact ⟨rfl, rfl⟩

set_option maxRecDepth 100000 in
set_option maxHeartbeats 4000000 in
theorem StreamParts_walk (mn av mx : Int) (r s : ByteArray) (c : Nat) (hr : r.size ≤ maxLen) (hs : s.size ≤ maxLen) (hc : c < 65536) (w : World) (hT : Tabs w) :
    Calls Tryd.prog 5 #[pV mn av mx, sV r, .string s, .int .u16 c] w fun e w' => e = .returned (.bool true) ∧ Below w.heap.size w w' := by
  simp only [maxLen] at hr hs
  obtain ⟨V, hV⟩ : ∃ V, V = (w.alloc (.cells #[.int .i64 mn, .int .i64 av, .int .i64 mx] 23)).alloc (.cells #[.string r] 25) := ⟨_, rfl⟩
  have hR0 : Row V w.heap.size #[.int .i64 mn, .int .i64 av, .int .i64 mx] 23 := by rw [hV]; exact (Row.made _ _ _).alloc _
  have hR1 : Row V (w.heap.size + 1) #[.string r] 25 := by
    rw [hV]; have := Row.made (w.alloc (.cells #[.int .i64 mn, .int .i64 av, .int .i64 mx] 23)) #[.string r] 25; simpa using this
  have hBV : Below w.heap.size w V := by rw [hV]; exact ((Below.refl _ _).alloc (Nat.le_refl _) _).alloc (by simp) _
  have hw1 : 1 < w.heap.size := World.block_lt_of_cell? _ _ (hT 0 (by decide))
  have HTV := Lib.hid (hT.stays hBV)
  have HV := Lib.hid hV
  have A := Lib.hid awake_any
  clear hV hT
  by_cases g1 : r.size ≤ 1000
  · have d1 : decide ((1000 : Int) < (r.size : Int)) = false := by simp; omega
    by_cases g2 : s.size ≤ 1000
    · have d2 : decide ((1000 : Int) < (s.size : Int)) = false := by simp; omega
      have F2 := Lib.hid (sFit_any mn av mx)
      obtain ⟨f, hf⟩ : ∃ f, f = fitB mn av mx := ⟨_, rfl⟩
      rw [← hf] at F2
      have HF := Lib.hid hf
      clear hf
      have c0 := hR0.cell 0; have c1 := hR0.cell 1; have c2 := hR0.cell 2; have c3 := hR1.cell 0
      simp only [List.getElem?_toArray, List.getElem?_cons_zero, List.getElem?_cons_succ] at c0 c1 c2 c3
      go_enter Tryd.func5, Tryd.ntmps5
      go_wp2_with fail
      rw [← HV.out]
      refine (F2.out _).mono ?_
      rintro e w1 ⟨rfl, hb1⟩
      replace hR0 := hR0.step hb1; replace hR1 := hR1.step hb1
      have HT1 := Lib.hid (HTV.out.stays hb1)
      have hB1 := hBV.trans (hb1.mono hBV.size)
      clear hb1 HTV HV hBV c0 c1 c2 c3 F2
      rcases f with _ | _
      · go_wp2_with fail
        refine (A.out _ HT1.out).mono ?_
        rintro e w2 ⟨rfl, hb2⟩
        go_wp2
        go_ret
        exact ⟨rfl, below_step hB1 hb2⟩
      · obtain ⟨m, av, x, bb, rfl, rfl, rfl, hfit⟩ := fit_nats HF.out.symm
        have OK := cutN_sure (mn := m) (b := bb) (mx := x) (by have := hfit.h1; omega) (by have := hfit.h2; have := hfit.h3; omega)
        obtain ⟨k, hk⟩ : ∃ k, k = c % (s.size + 1) := ⟨_, rfl⟩
        have hks : k ≤ s.size := by rw [hk]; have := Nat.mod_lt c (show 0 < s.size + 1 by omega); omega
        have hrm : (c : Int).tmod ((s.size : Int) + 1) = (k : Int) := by
          rw [hk, Int.natCast_emod, Int.tmod_eq_emod_of_nonneg (by omega)]; rfl
        clear hk
        have hd1 := fun W => run_slice_to (P := Tryd.prog) Tryd.underlying9 s k hks W
        have hd2 := fun W => run_slice_from (P := Tryd.prog) Tryd.underlying9 s k hks W
        obtain ⟨y1, hy1⟩ : ∃ y : ByteArray, y = ⟨(left (cutN m bb x) x (r ++ s.extract 0 k).data.toList).toArray⟩ := ⟨_, rfl⟩
        obtain ⟨e1, e2⟩ := feed_parts OK r s k hks y1 hy1
        obtain ⟨y, hy⟩ : ∃ y : ByteArray, y = ⟨(left (cutN m bb x) x (r ++ s).data.toList).toArray⟩ := ⟨_, rfl⟩
        obtain ⟨L1, hL1⟩ : ∃ L, L = strsOf (fed (cutN m bb x) x (r ++ s.extract 0 k).data.toList) := ⟨_, rfl⟩
        obtain ⟨L2, hL2⟩ : ∃ L, L = strsOf (fed (cutN m bb x) x (y1 ++ s.extract k s.size).data.toList) := ⟨_, rfl⟩
        rw [← hL1, ← hL2] at e2
        have hl1 : (s.extract 0 k).size ≤ 1000 := by rw [ByteArray.size_extract]; omega
        have hl2 : (s.extract k s.size).size ≤ 1000 := by rw [ByteArray.size_extract]; omega
        have hys1 : y1.size ≤ 2000 := by
          have := left_le OK (r ++ s.extract 0 k).data.toList
          rw [← Lib.size_eq, ByteArray.size_append] at this
          rw [hy1, Lib.size_eq]; simp only; omega
        have HLEN : Hid (L1.length + L2.length ≤ 10000) := by
          have h1 := fed_len OK (r ++ s.extract 0 k).data.toList
          have h2 := fed_len OK (y1 ++ s.extract k s.size).data.toList
          rw [← Lib.size_eq, ByteArray.size_append] at h1 h2
          show _ ≤ _
          rw [hL1, hL2, strsOf_len, strsOf_len]; omega
        have FD : Hid (∀ W, Tabs W → Calls Tryd.prog 9 #[pV m av x, sV r, .string s] W fun e w' => ∃ v, e = .returned (.tuple #[sV y, v]) ∧ OwnS w' v (L1 ++ L2) ∧ Below W.heap.size W w') := by
          intro W hW; rw [hy, ← e2]; exact Feed_any m av bb x hfit r s (r ++ s) rfl (by omega) W hW
        have FD1 : Hid (∀ W, Tabs W → Calls Tryd.prog 9 #[pV m av x, sV r, .string (s.extract 0 k)] W fun e w' => ∃ v, e = .returned v ∧ ((∃ u, v = .tuple #[sV y1, u] ∧ OwnS w' u L1) ∧ Below W.heap.size W w')) := by
          intro W hW; rw [hy1, hL1]; exact (Feed_any m av bb x hfit r (s.extract 0 k) (r ++ s.extract 0 k) rfl (by omega) W hW).mono (fun e w' ⟨v, a, b, c⟩ => ⟨_, a, ⟨v, rfl, b⟩, c⟩)
        have FD2 : Hid (∀ W, Tabs W → Calls Tryd.prog 9 #[pV m av x, sV y1, .string (s.extract k s.size)] W fun e w' => ∃ v, e = .returned v ∧ ((∃ u, v = .tuple #[sV y, u] ∧ OwnS w' u L2) ∧ Below W.heap.size W w')) := by
          intro W hW; rw [hy, ← e1, hL2]; exact (Feed_any m av bb x hfit y1 (s.extract k s.size) (y1 ++ s.extract k s.size) rfl (by omega) W hW).mono (fun e w' ⟨v, a, b, c⟩ => ⟨_, a, ⟨v, rfl, b⟩, c⟩)
        obtain ⟨s1, hs1⟩ : ∃ s1, s1 = s.extract 0 k := ⟨_, rfl⟩
        obtain ⟨s2, hs2⟩ : ∃ s2, s2 = s.extract k s.size := ⟨_, rfl⟩
        rw [← hs1] at hd1 FD1
        rw [← hs2] at hd2 FD2
        clear hy1 e1 e2 hy hL1 hL2 hl1 hl2 hys1 hs1 hs2 hfit HF OK
        have c0 := hR0.cell 0; have c1 := hR0.cell 1; have c2 := hR0.cell 2; have c3 := hR1.cell 0
        simp only [List.getElem?_toArray, List.getElem?_cons_zero, List.getElem?_cons_succ] at c0 c1 c2 c3
        go_wp2_with fail
        refine (FD.out _ HT1.out).mono ?_
        rintro e w2 ⟨va, rfl, h1, hb2⟩
        replace hR0 := hR0.step hb2; replace hR1 := hR1.step hb2
        have HT2 := Lib.hid (HT1.out.stays hb2)
        have hB2 := below_step hB1 hb2
        clear hb2 HT1 hB1 c0 c1 c2 c3 FD
        have LT0 : Hid (w.heap.size ≤ w2.heap.size ∧ 1 < w2.heap.size ∧ w.heap.size < w2.heap.size) := ⟨hB2.size, by have := hB2.size; omega, hR0.lt⟩
        have LT1 : Hid (w.heap.size + 1 < w2.heap.size) := hR1.lt
        clear hw1
        go_wp2_with fail
        obtain ⟨A1, hA1⟩ : ∃ A1, A1 = w2.heap.size := ⟨_, rfl⟩
        rw [← hA1] at LT0 LT1 ⊢
        obtain ⟨V2, hV2⟩ : ∃ V2, V2 = w2.alloc (.cells #[.string y] 25) := ⟨_, rfl⟩
        have hb2 : Below w2.heap.size w2 V2 := by rw [hV2]; exact (Below.refl _ _).alloc (Nat.le_refl _) _
        have hR2 : Row V2 A1 #[.string y] 25 := by rw [hV2, hA1]; exact Row.made _ _ _
        rw [← hV2]
        replace hR0 := hR0.step hb2; replace hR1 := hR1.step hb2; replace h1 := h1.stays hb2
        have hT5 := HT2.out.stays hb2
        have hB5 := below_step hB2 hb2
        clear hb2 HT2 hB2 hV2 hA1
        obtain ⟨b0, hb0⟩ : ∃ b0, b0 = w.heap.size := ⟨_, rfl⟩
        obtain ⟨b1, hb1⟩ : ∃ b1, b1 = w.heap.size + 1 := ⟨_, rfl⟩
        replace LT0 : Hid (w.heap.size ≤ A1 ∧ 1 < A1 ∧ b0 < A1) := by rw [hb0]; exact LT0
        rw [← hb1] at hR1 LT1 ⊢
        rw [← hb0] at hR0 ⊢
        clear hb0 hb1
        have HG := Lib.hid (show Held w [(b0, #[.int .i64 m, .int .i64 av, .int .i64 x], 23), (b1, #[.string r], 25), (A1, #[.string y], 25)] V2 from ⟨by
          intro z hz
          simp only [List.mem_cons, List.not_mem_nil, or_false] at hz
          rcases hz with rfl | rfl | rfl
          · exact hR0
          · exact hR1
          · exact hR2, hT5, hB5⟩)
        have HB : Hid (∀ u u' : World, Held w [(b0, #[.int .i64 m, .int .i64 av, .int .i64 x], 23), (b1, #[.string r], 25), (A1, #[.string y], 25)] u → Below (A1 + 1) u u' → Held w [(b0, #[.int .i64 m, .int .i64 av, .int .i64 x], 23), (b1, #[.string r], 25), (A1, #[.string y], 25)] u') := fun u u' h hb => h.onB hb (by have := LT0.out; omega) (by have := LT0.out; omega) (by
          intro z hz
          simp only [List.mem_cons, List.not_mem_nil, or_false] at hz
          have l0 := LT0.out; have l1 := LT1.out
          rcases hz with rfl | rfl | rfl
          · show b0 < A1 + 1; omega
          · show b1 < A1 + 1; omega
          · show A1 < A1 + 1; omega)
        have H1 := Lib.hid h1
        clear h1 hR0 hR1 hR2 hT5 hB5
        refine wp_region_wordsG (by kernel_rfl) (by kernel_rfl) (appT 10 (putS (A1 + 1))) (Held w [(b0, #[.int .i64 m, .int .i64 av, .int .i64 x], 23), (b1, #[.string r], 25), (A1, #[.string y], 25)]) spaE (spaU m av x r s y1 y s1 k va L1 L2 (A1 + 1)) 13 spaN [10, 11, 12] (by kernel_rfl) (by kernel_rfl) (by kernel_rfl)
          spaB (by kernel_rfl) (fun ix kx v e w w' hi hk hne hb hU hT => spa_T _ _ _ _ _ _ _ _ _ _ _ _ _  ix kx v e w w' hk hne hb hU hT) (by decide) (HG.out.on ((Below.refl _ _).drew)) (fun kx hk hge => ?hv0)
          [45, 46, 47, 48, 49, 50, 44, 51, 52, 12, 13] (by kernel_rfl) (forall_ops ?steps) ?behind
        case hv0 =>
          have hge' : 12 ≤ kx := hge
          rcases (show kx = 12 by omega) with rfl
          · exact H1.out.stays (Below.refl _ _).drew
        case steps =>
          refine ⟨?_, ?_, ?_, ?_, ?_, ?_, ?_, ?_, ?_, ?_, ?_, ?_, trivial⟩
          · refine stepG_of rfl ?_
            exact stepR_value (t := 45) (pV m av x) rfl (fun _ => appT_other (by decide) (Below.refl _ _)) (fun ac w hG hN hO => by
              have e4 : slot ac 4 = .pointer (some ⟨b0, 0, none⟩) := hO 4 (by kernel_rfl)
              have q0 := hG.rows (b0, #[.int .i64 m, .int .i64 av, .int .i64 x], 23) (by simp)
              have c00 := q0.cell 0
              have c01 := q0.cell 1
              have c02 := q0.cell 2
              have q1 := hG.rows (b1, #[.string r], 25) (by simp)
              have c10 := q1.cell 0
              have q2 := hG.rows (A1, #[.string y], 25) (by simp)
              have c20 := q2.cell 0
              simp only [List.getElem?_toArray, List.getElem?_cons_zero, List.getElem?_cons_succ] at c00 c01 c02 c10 c20
              have f4 := slot_at e4
              unfold execOp; go_simp) (fun ac w hG hN => rfl)
          · refine stepG_of rfl ?_
            exact stepR_value (t := 46) (sV r) rfl (fun _ => appT_other (by decide) (Below.refl _ _)) (fun ac w hG hN hO => by
              have e5 : slot ac 5 = .pointer (some ⟨b1, 0, none⟩) := hO 5 (by kernel_rfl)
              have q0 := hG.rows (b0, #[.int .i64 m, .int .i64 av, .int .i64 x], 23) (by simp)
              have c00 := q0.cell 0
              have c01 := q0.cell 1
              have c02 := q0.cell 2
              have q1 := hG.rows (b1, #[.string r], 25) (by simp)
              have c10 := q1.cell 0
              have q2 := hG.rows (A1, #[.string y], 25) (by simp)
              have c20 := q2.cell 0
              simp only [List.getElem?_toArray, List.getElem?_cons_zero, List.getElem?_cons_succ] at c00 c01 c02 c10 c20
              have f5 := slot_at e5
              unfold execOp; go_simp) (fun ac w hG hN => rfl)
          · refine stepG_of rfl ?_
            exact stepR_value (t := 47) (.string s) rfl (fun _ => appT_other (by decide) (Below.refl _ _)) (fun ac w hG hN hO => by
              have e2 : slot ac 2 = .string s := hO 2 (by kernel_rfl)
              exact run_move_slot (.inl rfl) e2) (fun ac w hG hN => rfl)
          · refine stepG_of rfl ?_
            exact stepR_value (t := 48) (.int .i64 k) rfl (fun _ => appT_other (by decide) (Below.refl _ _)) (fun ac w hG hN hO => by
              have e9 : slot ac 9 = .int .i64 k := hO 9 (by kernel_rfl)
              exact run_move_slot (.inl rfl) e9) (fun ac w hG hN => rfl)
          · refine stepG_of rfl ?_
            exact stepR_value (t := 49) (.string s1) rfl (fun _ => appT_other (by decide) (Below.refl _ _)) (fun ac w hG hN hO => by
              have e47 : slot ac 47 = .string s := hN 2 (by decide)
              have e48 : slot ac 48 = .int .i64 k := hN 3 (by decide)
              exact yields_slice Tryd.underlying9 rfl (slotE e47) rfl (by simp [eval_slot, e48]) (hd1 w)) (fun ac w hG hN => rfl)
          · refine stepG_of rfl ?_
            intro ac w hG hN hO
            have e45 : slot ac 45 = pV m av x := hN 0 (by decide)
            have e46 : slot ac 46 = sV r := hN 1 (by decide)
            have e49 : slot ac 49 = .string s1 := hN 4 (by decide)
            refine wp_callx 9 _ _ rfl (enters_of Tryd.func9 (by kernel_rfl) rfl) #[pV m av x, sV r, .string s1] (by simp [eval_slot, e45, e46, e49]) ((FD1.out w hG.tabs)) ?_
            rintro v w'' ⟨hv, hb⟩
            exact ⟨v, rfl, (appT_other (by decide) hb), hG.on hb, hv⟩
          · refine stepG_of rfl ?_
            intro ac w hG hN hO
            have e50 : ∃ u, slot ac 50 = .tuple #[sV y1, u] ∧ OwnS w u L1 := hN 5 (by decide)
            exact wp_value (run_move_slot (v := slot ac 50) (.inl rfl) rfl) ⟨_, rfl, (fun _ => appT_other (by decide) (Below.refl _ _)) w, hG, e50⟩
          · refine stepG_of rfl ?_
            intro ac w hG hN hO
            obtain ⟨u, e, h⟩ : ∃ u, slot ac 44 = .tuple #[sV y1, u] ∧ OwnS w u L1 := hN 6 (by decide)
            have f := slot_at e
            exact wp_value (v := sV y1) (by unfold execOp; go_simp) ⟨_, rfl, appT_other (by decide) (Below.refl _ _), hG, rfl⟩
          · refine stepG_of rfl ?_
            intro ac w hG hN hO
            obtain ⟨u, e, h⟩ : ∃ u, slot ac 44 = .tuple #[sV y1, u] ∧ OwnS w u L1 := hN 6 (by decide)
            have f := slot_at e
            exact wp_value (v := u) (by unfold execOp; go_simp) ⟨_, rfl, appT_other (by decide) (Below.refl _ _), hG, h⟩
          · refine stepG_of rfl ?_
            intro ac w hG hN hO
            have hb : Below w.heap.size w (w.alloc (.cells #[.string ⟨#[]⟩] 25)) := (Below.refl _ _).alloc (Nat.le_refl _) _
            exact wp_alloc_zero 25 rfl #[.string ⟨#[]⟩] (by kernel_rfl) ⟨_, rfl, appT_other (by decide) hb, hG.on hb, w.heap.size, (hG.rows (A1, #[.string y], 25) (by simp)).lt, rfl, _, Row.made _ _ _⟩
          · refine stepG_of rfl ?_
            intro ac w hG hN hO
            obtain ⟨A, hA, e, z, hrow⟩ : ∃ A, A1 + 1 ≤ A ∧ slot ac 12 = .pointer (some ⟨A, 0, none⟩) ∧ ∃ z, Row w A #[z] 25 := hN 9 (by decide)
            have e2 : slot ac 51 = sV y1 := hN 7 (by decide)
            have hc := hrow.cell 0
            have hf := hrow.free 0
            simp only [List.getElem?_toArray, List.getElem?_cons_zero] at hc
            have f1 := slot_at e; have f2 := slot_at e2
            have hR : putS (A1 + 1) w (w.setCell ⟨A, 0, none⟩ (.string y1)) := ⟨A, z, _, hA, hrow, rfl⟩
            exact wp_skip (w' := w.setCell ⟨A, 0, none⟩ (.string y1)) (by unfold execOp; go_simp) ⟨undef, rfl, appT_at hR, HB.out _ _ hG (putS_below hR), A, hA, e, hrow.set 0 _⟩
          · refine stepG_of rfl ?_
            intro ac w hG hN hO
            have e52 : OwnS w (slot ac 52) L1 := hN 8 (by decide)
            exact wp_value (run_move_slot (v := slot ac 52) (.inr rfl) rfl) ⟨_, rfl, (fun _ => appT_other (by decide) (Below.refl _ _)) w, hG, e52⟩
        case behind =>
          intro ac w5 hG hV hS ha
          have h10 : ∃ A, A1 + 1 ≤ A ∧ slot ac 12 = .pointer (some ⟨A, 0, none⟩) ∧ Row w5 A #[.string y1] 25 := hV 10 (by decide) (by decide)
          have h11 : OwnS w5 (slot ac 13) L1 := hV 11 (by decide) (by decide)
          have h12 : OwnS w5 va (L1 ++ L2) := hV 12 (by decide) (by decide)
          obtain ⟨A2, hA2, h10, hRow2⟩ := h10
          generalize slot ac = sl at ha h10 h11
          subst ha
          simp only [patchL, List.contains_cons, List.contains_nil, Nat.reduceBEq, Bool.or_false, Bool.or_true, if_true, Bool.false_eq_true, if_false, Nat.reduceAdd]
          generalize sl 45 = s45
          generalize sl 46 = s46
          generalize sl 47 = s47
          generalize sl 48 = s48
          generalize sl 49 = s49
          generalize sl 50 = s50
          generalize sl 44 = s44
          generalize sl 51 = s51
          generalize sl 52 = s52
          generalize sl 12 = s12 at h10 ⊢
          generalize sl 13 = s13 at h11 ⊢
          clear hV hS
          subst h10
          have H1 := Lib.hid h12; have H2 := Lib.hid h11
          have HG := Lib.hid (show Held w [(b0, #[.int .i64 m, .int .i64 av, .int .i64 x], 23), (b1, #[.string r], 25), (A1, #[.string y], 25), (A2, #[.string y1], 25)] w5 from ⟨by
            intro z hz
            simp only [List.mem_cons, List.not_mem_nil, or_false] at hz
            rcases hz with rfl | rfl | rfl | rfl
            · exact hG.rows _ (by simp)
            · exact hG.rows _ (by simp)
            · exact hG.rows _ (by simp)
            · exact hRow2, hG.tabs, hG.below⟩)
          clear hG hRow2 h11 h12 HB
          obtain ⟨vb, hvb⟩ : ∃ vb, vb = s13 := ⟨_, rfl⟩
          rw [← hvb] at H2 ⊢
          clear hvb
          have HB : Hid (∀ u u' : World, Held w [(b0, #[.int .i64 m, .int .i64 av, .int .i64 x], 23), (b1, #[.string r], 25), (A1, #[.string y], 25), (A2, #[.string y1], 25)] u → Below (A2 + 1) u u' → Held w [(b0, #[.int .i64 m, .int .i64 av, .int .i64 x], 23), (b1, #[.string r], 25), (A1, #[.string y], 25), (A2, #[.string y1], 25)] u') := fun u u' h hb => h.onB hb (by have := LT0.out; have := hA2; omega) (by have := LT0.out; have := hA2; omega) (by
            intro z hz
            simp only [List.mem_cons, List.not_mem_nil, or_false] at hz
            have l0 := LT0.out; have l1 := LT1.out; have l2 := hA2
            rcases hz with rfl | rfl | rfl | rfl
            · show b0 < A2 + 1; omega
            · show b1 < A2 + 1; omega
            · show A1 < A2 + 1; omega
            · show A2 < A2 + 1; omega)
          have HB6 := HB
          go_wp2_with fail
          refine wp_region_wordsG (by kernel_rfl) (by kernel_rfl) (appT 10 (putS (A2 + 1))) (Held w [(b0, #[.int .i64 m, .int .i64 av, .int .i64 x], 23), (b1, #[.string r], 25), (A1, #[.string y], 25), (A2, #[.string y1], 25)]) spbE (spbU m av x r s y1 y s2 k va vb L1 L2 (A2 + 1)) 14 spbN [10, 11, 12, 13] (by kernel_rfl) (by kernel_rfl) (by kernel_rfl)
            spbB (by kernel_rfl) (fun ix kx v e w w' hi hk hne hb hU hT => spb_T _ _ _ _ _ _ _ _ _ _ _ _ _ _  ix kx v e w w' hk hne hb hU hT) (by decide) (HG.out.on ((Below.refl _ _).drew)) (fun kx hk hge => ?hv0)
            [54, 55, 56, 57, 58, 59, 53, 60, 61, 14, 15] (by kernel_rfl) (forall_ops ?steps) ?behind
          case hv0 =>
            have hge' : 12 ≤ kx := hge
            rcases (show kx = 12 ∨ kx = 13 by omega) with rfl | rfl
            · exact H1.out.stays (Below.refl _ _).drew
            · exact H2.out.stays (Below.refl _ _).drew
          case steps =>
            refine ⟨?_, ?_, ?_, ?_, ?_, ?_, ?_, ?_, ?_, ?_, ?_, ?_, trivial⟩
            · refine stepG_of rfl ?_
              exact stepR_value (t := 54) (pV m av x) rfl (fun _ => appT_other (by decide) (Below.refl _ _)) (fun ac w hG hN hO => by
                have e4 : slot ac 4 = .pointer (some ⟨b0, 0, none⟩) := hO 4 (by kernel_rfl)
                have q0 := hG.rows (b0, #[.int .i64 m, .int .i64 av, .int .i64 x], 23) (by simp)
                have c00 := q0.cell 0
                have c01 := q0.cell 1
                have c02 := q0.cell 2
                have q1 := hG.rows (b1, #[.string r], 25) (by simp)
                have c10 := q1.cell 0
                have q2 := hG.rows (A1, #[.string y], 25) (by simp)
                have c20 := q2.cell 0
                have q3 := hG.rows (A2, #[.string y1], 25) (by simp)
                have c30 := q3.cell 0
                simp only [List.getElem?_toArray, List.getElem?_cons_zero, List.getElem?_cons_succ] at c00 c01 c02 c10 c20 c30
                have f4 := slot_at e4
                unfold execOp; go_simp) (fun ac w hG hN => rfl)
            · refine stepG_of rfl ?_
              exact stepR_value (t := 55) (sV y1) rfl (fun _ => appT_other (by decide) (Below.refl _ _)) (fun ac w hG hN hO => by
                have e12 : slot ac 12 = .pointer (some ⟨A2, 0, none⟩) := hO 12 (by kernel_rfl)
                have q0 := hG.rows (b0, #[.int .i64 m, .int .i64 av, .int .i64 x], 23) (by simp)
                have c00 := q0.cell 0
                have c01 := q0.cell 1
                have c02 := q0.cell 2
                have q1 := hG.rows (b1, #[.string r], 25) (by simp)
                have c10 := q1.cell 0
                have q2 := hG.rows (A1, #[.string y], 25) (by simp)
                have c20 := q2.cell 0
                have q3 := hG.rows (A2, #[.string y1], 25) (by simp)
                have c30 := q3.cell 0
                simp only [List.getElem?_toArray, List.getElem?_cons_zero, List.getElem?_cons_succ] at c00 c01 c02 c10 c20 c30
                have f12 := slot_at e12
                unfold execOp; go_simp) (fun ac w hG hN => rfl)
            · refine stepG_of rfl ?_
              exact stepR_value (t := 56) (.string s) rfl (fun _ => appT_other (by decide) (Below.refl _ _)) (fun ac w hG hN hO => by
                have e2 : slot ac 2 = .string s := hO 2 (by kernel_rfl)
                exact run_move_slot (.inl rfl) e2) (fun ac w hG hN => rfl)
            · refine stepG_of rfl ?_
              exact stepR_value (t := 57) (.int .i64 k) rfl (fun _ => appT_other (by decide) (Below.refl _ _)) (fun ac w hG hN hO => by
                have e9 : slot ac 9 = .int .i64 k := hO 9 (by kernel_rfl)
                exact run_move_slot (.inl rfl) e9) (fun ac w hG hN => rfl)
            · refine stepG_of rfl ?_
              exact stepR_value (t := 58) (.string s2) rfl (fun _ => appT_other (by decide) (Below.refl _ _)) (fun ac w hG hN hO => by
                have e56 : slot ac 56 = .string s := hN 2 (by decide)
                have e57 : slot ac 57 = .int .i64 k := hN 3 (by decide)
                exact yields_slice Tryd.underlying9 rfl (slotE e56) (by simp [eval_slot, e57]) rfl (hd2 w)) (fun ac w hG hN => rfl)
            · refine stepG_of rfl ?_
              intro ac w hG hN hO
              have e54 : slot ac 54 = pV m av x := hN 0 (by decide)
              have e55 : slot ac 55 = sV y1 := hN 1 (by decide)
              have e58 : slot ac 58 = .string s2 := hN 4 (by decide)
              refine wp_callx 9 _ _ rfl (enters_of Tryd.func9 (by kernel_rfl) rfl) #[pV m av x, sV y1, .string s2] (by simp [eval_slot, e54, e55, e58]) ((FD2.out w hG.tabs)) ?_
              rintro v w'' ⟨hv, hb⟩
              exact ⟨v, rfl, (appT_other (by decide) hb), hG.on hb, hv⟩
            · refine stepG_of rfl ?_
              intro ac w hG hN hO
              have e59 : ∃ u, slot ac 59 = .tuple #[sV y, u] ∧ OwnS w u L2 := hN 5 (by decide)
              exact wp_value (run_move_slot (v := slot ac 59) (.inl rfl) rfl) ⟨_, rfl, (fun _ => appT_other (by decide) (Below.refl _ _)) w, hG, e59⟩
            · refine stepG_of rfl ?_
              intro ac w hG hN hO
              obtain ⟨u, e, h⟩ : ∃ u, slot ac 53 = .tuple #[sV y, u] ∧ OwnS w u L2 := hN 6 (by decide)
              have f := slot_at e
              exact wp_value (v := sV y) (by unfold execOp; go_simp) ⟨_, rfl, appT_other (by decide) (Below.refl _ _), hG, rfl⟩
            · refine stepG_of rfl ?_
              intro ac w hG hN hO
              obtain ⟨u, e, h⟩ : ∃ u, slot ac 53 = .tuple #[sV y, u] ∧ OwnS w u L2 := hN 6 (by decide)
              have f := slot_at e
              exact wp_value (v := u) (by unfold execOp; go_simp) ⟨_, rfl, appT_other (by decide) (Below.refl _ _), hG, h⟩
            · refine stepG_of rfl ?_
              intro ac w hG hN hO
              have hb : Below w.heap.size w (w.alloc (.cells #[.string ⟨#[]⟩] 25)) := (Below.refl _ _).alloc (Nat.le_refl _) _
              exact wp_alloc_zero 25 rfl #[.string ⟨#[]⟩] (by kernel_rfl) ⟨_, rfl, appT_other (by decide) hb, hG.on hb, w.heap.size, (hG.rows (A2, #[.string y1], 25) (by simp)).lt, rfl, _, Row.made _ _ _⟩
            · refine stepG_of rfl ?_
              intro ac w hG hN hO
              obtain ⟨A, hA, e, z, hrow⟩ : ∃ A, A2 + 1 ≤ A ∧ slot ac 14 = .pointer (some ⟨A, 0, none⟩) ∧ ∃ z, Row w A #[z] 25 := hN 9 (by decide)
              have e2 : slot ac 60 = sV y := hN 7 (by decide)
              have hc := hrow.cell 0
              have hf := hrow.free 0
              simp only [List.getElem?_toArray, List.getElem?_cons_zero] at hc
              have f1 := slot_at e; have f2 := slot_at e2
              have hR : putS (A2 + 1) w (w.setCell ⟨A, 0, none⟩ (.string y)) := ⟨A, z, _, hA, hrow, rfl⟩
              exact wp_skip (w' := w.setCell ⟨A, 0, none⟩ (.string y)) (by unfold execOp; go_simp) ⟨undef, rfl, appT_at hR, HB.out _ _ hG (putS_below hR), A, hA, e, hrow.set 0 _⟩
            · refine stepG_of rfl ?_
              intro ac w hG hN hO
              have e61 : OwnS w (slot ac 61) L2 := hN 8 (by decide)
              exact wp_value (run_move_slot (v := slot ac 61) (.inr rfl) rfl) ⟨_, rfl, (fun _ => appT_other (by decide) (Below.refl _ _)) w, hG, e61⟩
          case behind =>
            intro ac w5 hG hV hS ha
            have h10 : ∃ A, A2 + 1 ≤ A ∧ slot ac 14 = .pointer (some ⟨A, 0, none⟩) ∧ Row w5 A #[.string y] 25 := hV 10 (by decide) (by decide)
            have h11 : OwnS w5 (slot ac 15) L2 := hV 11 (by decide) (by decide)
            have h12 : OwnS w5 va (L1 ++ L2) := hV 12 (by decide) (by decide)
            have h13 : OwnS w5 vb L1 := hV 13 (by decide) (by decide)
            obtain ⟨A3, hA3, h10, hRow3⟩ := h10
            generalize slot ac = sl at ha h10 h11
            subst ha
            simp only [patchL, List.contains_cons, List.contains_nil, Nat.reduceBEq, Bool.or_false, Bool.or_true, if_true, Bool.false_eq_true, if_false, Nat.reduceAdd]
            generalize sl 54 = s54
            generalize sl 55 = s55
            generalize sl 56 = s56
            generalize sl 57 = s57
            generalize sl 58 = s58
            generalize sl 59 = s59
            generalize sl 53 = s53
            generalize sl 60 = s60
            generalize sl 61 = s61
            generalize sl 14 = s14 at h10 ⊢
            generalize sl 15 = s15 at h11 ⊢
            clear hV hS
            subst h10
            have HG7 := Lib.hid (show Held w [(b0, #[.int .i64 m, .int .i64 av, .int .i64 x], 23), (b1, #[.string r], 25), (A1, #[.string y], 25), (A2, #[.string y1], 25), (A3, #[.string y], 25)] w5 from ⟨by
              intro z hz
              simp only [List.mem_cons, List.not_mem_nil, or_false] at hz
              rcases hz with rfl | rfl | rfl | rfl | rfl
              · exact hG.rows _ (by simp)
              · exact hG.rows _ (by simp)
              · exact hG.rows _ (by simp)
              · exact hG.rows _ (by simp)
              · exact hRow3, hG.tabs, hG.below⟩)
            clear hG hRow3 HB6
            have q0 := HG7.out.rows (A1, #[.string y], 25) (by simp)
            have q1 := HG7.out.rows (A3, #[.string y], 25) (by simp)
            have c0 := q0.cell 0; have c1 := q1.cell 0
            simp only [List.getElem?_toArray, List.getElem?_cons_zero] at c0 c1
            have k0 := h12.strs
            have k1 := h13.strs
            have k2 := h11.strs
            have k1' := k1.stays ((Below.refl _ _).alloc (Nat.le_refl _) (.cells #[] 9))
            have hMe : Below w5.heap.size w5 w5 := Below.refl _ _
            have hLm : L1.length + L2.length ≤ 10000 := HLEN.out
            obtain ⟨i0, hi, hz0, hz1, hz2⟩ := info_parts infoStr
            clear q0 q1 h11 h12 h13
            go_wp2_with (at_builtin; refine wpList_append_strs rfl (.tmp 67) (.tmp 68) 28 rfl w5.heap.size 9 i0 (.string ⟨#[]⟩) 16 Tryd.underlying28 hi hz0 hz1 hz2 rfl _ [] rfl (World.ownsRow_made w5 #[] 0 (Nat.le_refl _) (by decide) rfl) _ L1 rfl k1' ?c1 ?c2 ?c3 ?_)
            case c1 => simp; unfold maxLen; omega
            case c2 => simp; omega
            case c3 => simp
            intro v6 w6 hown6 hg6
            have hb6 : Below w5.heap.size w5 w6 := (hMe.alloc (Nat.le_refl _) _).grown hg6 (by simp) (fun j hj => by cases hj; exact Nat.le_refl _)
            have k2' := k2.stays hb6
            clear k1' hg6
            go_wp2_with (at_builtin; refine wpList_append_strs rfl (.tmp 69) (.tmp 70) 28 rfl w5.heap.size 9 i0 (.string ⟨#[]⟩) 16 Tryd.underlying28 hi hz0 hz1 hz2 rfl _ L1 rfl hown6 _ L2 rfl k2' ?d1 ?d2 ?d3 ?_)
            case d1 => unfold maxLen; omega
            case d2 => omega
            case d3 => exact hb6.size
            intro v7 w7 hown7 hg7
            have hb7 : Below w5.heap.size w5 w7 := hb6.grown hg7 hb6.size (fun j hj => (hown6.lt j hj).1)
            have k3 := k0.stays hb7
            have k4 : IsStrs w7 v7 (L1 ++ L2) := IsStrs.of_owns (by simpa using hown7)
            have HG8 := Lib.hid (HG7.out.on hb7)
            clear hown6 hown7 hg7 k2' hb6 HG7 hb7 c0 c1
            go_wp2_with fail
            refine (Same_eq _ _ _ _ k3 k4).mono ?_
            rintro e w8 ⟨rfl, hb8⟩
            have HG9 := Lib.hid (HG8.out.on hb8)
            clear hb8 HG8 k3 k4
            go_wp2_with fail
            refine (A.out _ HG9.out.tabs).mono ?_
            rintro e w9 ⟨rfl, hb9⟩
            have HB9 := Lib.hid (HG9.out.on hb9).below
            go_wp2
            go_ret
            exact ⟨rfl, HB9.out⟩
    · have d2 : decide ((1000 : Int) < (s.size : Int)) = true := by simp; omega
      have c3 := hR1.cell 0
      simp only [List.getElem?_toArray, List.getElem?_cons_zero] at c3
      go_enter Tryd.func5, Tryd.ntmps5
      go_wp2_with fail
      rw [← HV.out]
      refine (A.out _ HTV.out).mono ?_
      rintro e w1 ⟨rfl, hb1⟩
      go_wp2
      go_ret
      exact ⟨rfl, below_step hBV hb1⟩
  · have d1 : decide ((1000 : Int) < (r.size : Int)) = true := by simp; omega
    go_enter Tryd.func5, Tryd.ntmps5
    go_wp2_with fail
    rw [← HV.out]
    refine (A.out _ HTV.out).mono ?_
    rintro e w1 ⟨rfl, hb1⟩
    go_wp2
    go_ret
    exact ⟨rfl, below_step hBV hb1⟩
end Go.Proofs.YtciajgdjddepdaaDoor

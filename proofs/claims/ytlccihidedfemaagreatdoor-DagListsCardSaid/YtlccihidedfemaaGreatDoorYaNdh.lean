/-
  Contracts over this translation: node's isSize, isKey, isFile, isEntry, isDir, Fit.
-/
import Derived.Test.YtlccihidedfemaaGreatDoorYaNdd
import Derived.Test.YtlccihidedfemaaGreatDoorYaPao
set_option linter.unusedVariables false
namespace Go.Proofs.YtlccihidedfemaaGreatDoor
open Go.RowKit
attribute [local go_sem] Oper.semAt_some
def sizeB (n : Int) : Bool := decide (1 ≤ n) && decide (n ≤ 4096)
theorem isSize_any (n : Int) (w : World) : Calls Tryz.prog 123 #[.int .i64 n] w fun e w' => e = .returned (.bool (sizeB n)) ∧ w = w' := by
  by_cases h1 : 1 ≤ n
  · have q1 : decide (1 ≤ n) = true := decide_eq_true h1
    have HS : Hid (sizeB n = decide (n ≤ 4096)) := Lib.hid (by unfold sizeB; rw [q1]; rfl)
    clear h1
    go_enter Tryz.func123, Tryz.ntmps123
    go_wp2
    go_ret
    exact ⟨by rw [HS.out]; rfl, rfl⟩
  · have q1 : decide (1 ≤ n) = false := decide_eq_false h1
    have HS : Hid (sizeB n = false) := Lib.hid (by unfold sizeB; rw [q1]; rfl)
    clear h1
    go_enter Tryz.func123, Tryz.ntmps123
    go_wp2
    go_ret
    exact ⟨by rw [HS.out]; rfl, rfl⟩
theorem nodeKey_any (s : ByteArray) (w : World) : Calls Tryz.prog 144 #[.string s] w fun e w' => e = .returned (.bool (decide (s.size = 32))) ∧ w = w' := by
  by_cases h : s.size = 32
  · have q := ie_t (show (s.size : Int) = 32 by omega)
    have HS : Hid (decide (s.size = 32) = true) := Lib.hid (decide_eq_true h)
    clear h
    go_enter Tryz.func144, Tryz.ntmps144
    go_wp2
    go_ret
    exact ⟨by rw [HS.out]; rfl, rfl⟩
  · have q := ie_f (show (s.size : Int) ≠ 32 by omega)
    have HS : Hid (decide (s.size = 32) = false) := Lib.hid (decide_eq_false h)
    clear h
    go_enter Tryz.func144, Tryz.ntmps144
    go_wp2
    go_ret
    exact ⟨by rw [HS.out]; rfl, rfl⟩
theorem okPt_two (x : Pt) : okPt x = (decide (x.k.size = 32) && sizeB x.n) := by unfold okPt sizeB; rw [Bool.and_assoc]
def fileB (L : List Pt) : Bool := decide (L.length ≤ 1024) && fitFileB L
set_option maxRecDepth 100000 in
set_option maxHeartbeats 2000000 in
theorem isFile_any (v : Value) (L : List Pt) (w : World) (h : IsParts w v L) :
    Calls Tryz.prog 124 #[v] w fun e w' => e = .returned (.bool (fileB L)) ∧ Below w.heap.size w w' := by
  have HI := Lib.hid h
  obtain ⟨hm, a, cap, rfl, _, hc⟩ := h
  have hmm : L.length ≤ 9223372036854775807 := by unfold maxLen at hm; omega
  clear hc hm
  have KA := Lib.hid nodeKey_any; have SA := Lib.hid isSize_any
  by_cases hl : 1024 < L.length
  · have HF : Hid (fileB L = false) := Lib.hid (by unfold fileB; rw [decide_eq_false (by omega)]; rfl)
    have e1 : decide ((1024 : Int) < (L.length : Int)) = true := decide_eq_true (by omega)
    go_enter Tryz.func124, Tryz.ntmps124
    go_wp2
    go_ret
    exact ⟨by rw [HF.out]; rfl, Below.refl _ _⟩
  · have HF : Hid (fileB L = fitFileB L) := Lib.hid (by unfold fileB; rw [decide_eq_true (by omega)]; rfl)
    have e1 : decide ((1024 : Int) < (L.length : Int)) = false := decide_eq_false (by omega)
    go_enter Tryz.func124, Tryz.ntmps124
    go_wp2
    go_loopw [3, 11] (fun n i wr => ∃ k : Nat, k ≤ L.length ∧ i = .int .i64 k ∧ n = .int .i64 (sumPt (L.take k)) ∧ (L.take k).all okPt = true ∧ Below w.heap.size w wr) (fun _ i _ => L.length - (intOf i).toNat)
    case atStart => exact ⟨0, Nat.zero_le _, rfl, rfl, rfl, Below.refl _ _⟩
    case round =>
      obtain ⟨k, hk, rfl, rfl, hall, hB⟩ := hrel
      have HA := Lib.hid hall; clear hall
      have hsz := hB.size
      by_cases hlt : k < L.length
      · obtain ⟨_, _, _, e, _, hc⟩ := HI.out.stays hB
        cases e
        obtain ⟨b, off, rfl, hbl, g⟩ := hc (by omega)
        obtain ⟨c0, c1⟩ := g k hlt
        clear g hc
        have hbk : decide ((k : Int) < (L.length : Int)) = true := by simpa using (show (k : Int) < L.length by omega)
        have HST := Lib.hid (all_okPt_step hlt HA.out)
        have HNO := Lib.hid (fitFile_no hlt)
        have HSU := Lib.hid (sumPt_step hlt)
        have hbd := sumPt_bd HA.out
        rw [List.length_take] at hbd
        obtain ⟨x, hx⟩ : ∃ x, x = L[k] := ⟨_, rfl⟩
        rw [← hx] at c0 c1 HST HNO HSU
        clear hx
        have K1 := Lib.hid (KA.out x.k)
        have S1 := Lib.hid (SA.out x.n)
        have HB1 := Lib.hid (hB.alloc hsz (.cells #[.string x.k, .int .i64 x.n] 74))
        by_cases h1 : x.k.size = 32
        · rw [decide_eq_true h1] at K1
          rcases h2 : sizeB x.n with _ | _
          · rw [h2] at S1
            have HS := Lib.hid (HNO.out (by rw [okPt_two, h2]; simp))
            clear h1 h2
            go_wp2_with fail
            refine (K1.out _).mono ?_
            rintro e w1 ⟨rfl, rfl⟩
            go_wp2_with fail
            refine (S1.out _).mono ?_
            rintro e w1 ⟨rfl, rfl⟩
            go_wp2
            go_ret
            exact ⟨by rw [HF.out, HS.out]; rfl, HB1.out⟩
          · rw [h2] at S1
            have hok : okPt x = true := by rw [okPt_two, h2, decide_eq_true h1]; rfl
            have HS := Lib.hid (HST.out hok)
            have hxx := okPt_iff.1 hok
            have hx2 := hxx.2.1; have hx3 := hxx.2.2
            have hb2 : -1000000000000 ≤ sumPt (L.take k) + x.n ∧ sumPt (L.take k) + x.n ≤ 1000000000000 := by omega
            clear h1 h2 hok hxx
            go_wp2_with fail
            refine (K1.out _).mono ?_
            rintro e w1 ⟨rfl, rfl⟩
            go_wp2_with fail
            refine (S1.out _).mono ?_
            rintro e w1 ⟨rfl, rfl⟩
            go_wp2
            go_roundw
            case rel => exact ⟨k + 1, by omega, by go_num, by rw [HSU.out], HS.out, HB1.out⟩
            case measure => simp [intOf]; omega
        · rw [decide_eq_false h1] at K1
          have HS := Lib.hid (HNO.out (okPt_no1 h1))
          clear h1
          go_wp2_with fail
          refine (K1.out _).mono ?_
          rintro e w1 ⟨rfl, rfl⟩
          go_wp2
          go_ret
          exact ⟨by rw [HF.out, HS.out]; rfl, HB1.out⟩
      · have HS : Hid (fitFileB L = decide (sumPt (L.take k) ≤ 32768)) := show _ = _ by
          have := HA.out
          rw [List.take_of_length_le (by omega)] at this ⊢
          unfold fitFileB; rw [this]; rfl
        go_wp2
        go_ret
        exact ⟨by rw [HF.out, HS.out]; rfl, hB⟩
set_option maxRecDepth 100000 in
set_option maxHeartbeats 2000000 in
theorem isEntry_any (x : En) (w : World) :
    Calls Tryz.prog 145 #[enV x] w fun e w' => e = .returned (.bool (okEn x)) ∧ Below w.heap.size w w' := by
  have NA := Lib.hid (Name_any x.m); have KA := Lib.hid (nodeKey_any x.k)
  rcases hn : nameB x.m.data.toList with _ | _
  · rw [hn] at NA
    have HF := Lib.hid (okEn_no1 hn)
    clear hn
    go_enter Tryz.func145, Tryz.ntmps145
    go_wp2_with fail
    have hb0 := (Below.refl w.heap.size w).alloc (Nat.le_refl _) (.cells #[.string x.m, .int .i64 x.kd, .bool x.x, .string x.k] 78)
    refine (NA.out _).mono ?_
    rintro e w1 ⟨rfl, hb1⟩
    have HB1 := Lib.hid (below_step hb0 hb1)
    go_wp2
    go_ret
    exact ⟨by rw [HF.out]; rfl, HB1.out⟩
  · rw [hn] at NA
    by_cases h32 : x.k.size = 32
    · rw [decide_eq_true h32] at KA
      by_cases k2 : x.kd = 2
      · have q2 := ie_t k2
        have HF : Hid (okEn x = true) := Lib.hid (okEn_iff.2 ⟨hn, h32, .inl k2⟩)
        clear hn h32 k2
        go_enter Tryz.func145, Tryz.ntmps145
        go_wp2_with fail
        have hb0 := (Below.refl w.heap.size w).alloc (Nat.le_refl _) (.cells #[.string x.m, .int .i64 x.kd, .bool x.x, .string x.k] 78)
        refine (NA.out _).mono ?_
        rintro e w1 ⟨rfl, hb1⟩
        have HB1 := Lib.hid (below_step hb0 hb1)
        have c0 : w1.cell? ⟨w.heap.size, 0, none⟩ = some (.string x.m) := (hb1.cell (p := ⟨w.heap.size, 0, none⟩) (by simp)).trans (by simp)
        have c1 : w1.cell? ⟨w.heap.size, 1, none⟩ = some (.int .i64 x.kd) := (hb1.cell (p := ⟨w.heap.size, 1, none⟩) (by simp)).trans (by simp)
        have c2 : w1.cell? ⟨w.heap.size, 2, none⟩ = some (.bool x.x) := (hb1.cell (p := ⟨w.heap.size, 2, none⟩) (by simp)).trans (by simp)
        have c3 : w1.cell? ⟨w.heap.size, 3, none⟩ = some (.string x.k) := (hb1.cell (p := ⟨w.heap.size, 3, none⟩) (by simp)).trans (by simp)
        clear hb0 hb1
        go_wp2_with fail
        refine (KA.out _).mono ?_
        rintro e w2 ⟨rfl, rfl⟩
        go_wp2
        go_ret
        exact ⟨by rw [HF.out]; rfl, HB1.out⟩
      · have q2 := ie_f k2
        by_cases k3 : x.kd = 3
        · have q3 := ie_t k3
          have HF : Hid (okEn x = !x.x) := Lib.hid (by unfold okEn; rw [hn, decide_eq_true h32, decide_eq_false k2, decide_eq_true k3]; simp)
          clear hn h32 k2 k3
          go_enter Tryz.func145, Tryz.ntmps145
          go_wp2_with fail
          have hb0 := (Below.refl w.heap.size w).alloc (Nat.le_refl _) (.cells #[.string x.m, .int .i64 x.kd, .bool x.x, .string x.k] 78)
          refine (NA.out _).mono ?_
          rintro e w1 ⟨rfl, hb1⟩
          have HB1 := Lib.hid (below_step hb0 hb1)
          have c0 : w1.cell? ⟨w.heap.size, 0, none⟩ = some (.string x.m) := (hb1.cell (p := ⟨w.heap.size, 0, none⟩) (by simp)).trans (by simp)
          have c1 : w1.cell? ⟨w.heap.size, 1, none⟩ = some (.int .i64 x.kd) := (hb1.cell (p := ⟨w.heap.size, 1, none⟩) (by simp)).trans (by simp)
          have c2 : w1.cell? ⟨w.heap.size, 2, none⟩ = some (.bool x.x) := (hb1.cell (p := ⟨w.heap.size, 2, none⟩) (by simp)).trans (by simp)
          have c3 : w1.cell? ⟨w.heap.size, 3, none⟩ = some (.string x.k) := (hb1.cell (p := ⟨w.heap.size, 3, none⟩) (by simp)).trans (by simp)
          clear hb0 hb1
          go_wp2_with fail
          refine (KA.out _).mono ?_
          rintro e w2 ⟨rfl, rfl⟩
          go_wp2
          go_ret
          exact ⟨by rw [HF.out]; rfl, HB1.out⟩
        · have q3 := ie_f k3
          have HF := Lib.hid (okEn_no3 k2 k3)
          clear hn h32 k2 k3
          go_enter Tryz.func145, Tryz.ntmps145
          go_wp2_with fail
          have hb0 := (Below.refl w.heap.size w).alloc (Nat.le_refl _) (.cells #[.string x.m, .int .i64 x.kd, .bool x.x, .string x.k] 78)
          refine (NA.out _).mono ?_
          rintro e w1 ⟨rfl, hb1⟩
          have HB1 := Lib.hid (below_step hb0 hb1)
          have c0 : w1.cell? ⟨w.heap.size, 0, none⟩ = some (.string x.m) := (hb1.cell (p := ⟨w.heap.size, 0, none⟩) (by simp)).trans (by simp)
          have c1 : w1.cell? ⟨w.heap.size, 1, none⟩ = some (.int .i64 x.kd) := (hb1.cell (p := ⟨w.heap.size, 1, none⟩) (by simp)).trans (by simp)
          have c2 : w1.cell? ⟨w.heap.size, 2, none⟩ = some (.bool x.x) := (hb1.cell (p := ⟨w.heap.size, 2, none⟩) (by simp)).trans (by simp)
          have c3 : w1.cell? ⟨w.heap.size, 3, none⟩ = some (.string x.k) := (hb1.cell (p := ⟨w.heap.size, 3, none⟩) (by simp)).trans (by simp)
          clear hb0 hb1
          go_wp2_with fail
          refine (KA.out _).mono ?_
          rintro e w2 ⟨rfl, rfl⟩
          go_wp2
          go_ret
          exact ⟨by rw [HF.out]; rfl, HB1.out⟩
    · rw [decide_eq_false h32] at KA
      have HF := Lib.hid (okEn_no2 h32)
      clear hn h32
      go_enter Tryz.func145, Tryz.ntmps145
      go_wp2_with fail
      have hb0 := (Below.refl w.heap.size w).alloc (Nat.le_refl _) (.cells #[.string x.m, .int .i64 x.kd, .bool x.x, .string x.k] 78)
      refine (NA.out _).mono ?_
      rintro e w1 ⟨rfl, hb1⟩
      have HB1 := Lib.hid (below_step hb0 hb1)
      have c0 : w1.cell? ⟨w.heap.size, 0, none⟩ = some (.string x.m) := (hb1.cell (p := ⟨w.heap.size, 0, none⟩) (by simp)).trans (by simp)
      have c1 : w1.cell? ⟨w.heap.size, 1, none⟩ = some (.int .i64 x.kd) := (hb1.cell (p := ⟨w.heap.size, 1, none⟩) (by simp)).trans (by simp)
      have c2 : w1.cell? ⟨w.heap.size, 2, none⟩ = some (.bool x.x) := (hb1.cell (p := ⟨w.heap.size, 2, none⟩) (by simp)).trans (by simp)
      have c3 : w1.cell? ⟨w.heap.size, 3, none⟩ = some (.string x.k) := (hb1.cell (p := ⟨w.heap.size, 3, none⟩) (by simp)).trans (by simp)
      clear hb0 hb1
      go_wp2_with fail
      refine (KA.out _).mono ?_
      rintro e w2 ⟨rfl, rfl⟩
      go_wp2
      go_ret
      exact ⟨by rw [HF.out]; rfl, HB1.out⟩
def dirB (L : List En) : Bool := decide (L.length ≤ 60) && fitDirB L
set_option maxRecDepth 100000 in
set_option maxHeartbeats 4000000 in
theorem isDir_any (v : Value) (L : List En) (w : World) (h : IsEntries w v L) :
    Calls Tryz.prog 125 #[v] w fun e w' => e = .returned (.bool (dirB L)) ∧ Below w.heap.size w w' := by
  have HI := Lib.hid h
  obtain ⟨hm, a, cap, rfl, _, hc⟩ := h
  have hmm : L.length ≤ 9223372036854775807 := by unfold maxLen at hm; omega
  clear hc hm
  have EA := Lib.hid isEntry_any
  by_cases hl : 60 < L.length
  · have HF : Hid (dirB L = false) := Lib.hid (by unfold dirB; rw [decide_eq_false (by omega)]; rfl)
    have e1 : decide ((60 : Int) < (L.length : Int)) = true := decide_eq_true (by omega)
    go_enter Tryz.func125, Tryz.ntmps125
    go_wp2
    go_ret
    exact ⟨by rw [HF.out]; rfl, Below.refl _ _⟩
  · have HF : Hid (dirB L = fitDirB L) := Lib.hid (by unfold dirB; rw [decide_eq_true (by omega)]; rfl)
    have e1 : decide ((60 : Int) < (L.length : Int)) = false := decide_eq_false (by omega)
    go_enter Tryz.func125, Tryz.ntmps125
    go_wp2
    go_loopw [10] (fun i wr => ∃ k : Nat, k ≤ L.length ∧ i = .int .i64 k ∧ DirTo L k ∧ Below w.heap.size w wr) (fun i _ => L.length - (intOf i).toNat)
    case atStart => exact ⟨0, Nat.zero_le _, rfl, dirTo_zero _, Below.refl _ _⟩
    case round =>
      obtain ⟨k, hk, rfl, hn, hB⟩ := hrel
      have HN := Lib.hid hn; clear hn
      have hsz := hB.size
      by_cases hlt : k < L.length
      · have HI1 := Lib.hid (HI.out.stays hB)
        obtain ⟨_, _, _, e, _, hc⟩ := HI1.out
        cases e
        obtain ⟨b, off, rfl, hbl, g⟩ := hc (by omega)
        obtain ⟨c0, c1, c2, c3⟩ := g k hlt
        have hbk : decide ((k : Int) < (L.length : Int)) = true := by simpa using (show (k : Int) < L.length by omega)
        have HST := Lib.hid (dirTo_step HN.out hlt)
        have HNO := Lib.hid (fitDir_no hlt)
        have HNR := Lib.hid (fitDir_norise hlt)
        have HG := Lib.hid g
        clear g hc
        obtain ⟨x, hx0⟩ : ∃ x, x = L[k] := ⟨_, rfl⟩
        have HXE := Lib.hid hx0
        rw [← hx0] at c0 c1 c2 c3 HST HNO HNR
        clear hx0
        have E1 := Lib.hid (EA.out x)
        have hb0 := (Below.refl wr.heap.size wr).alloc (Nat.le_refl _) (.cells #[.string x.m, .int .i64 x.kd, .bool x.x, .string x.k] 78)
        rcases hok : okEn x with _ | _
        · rw [hok] at E1
          have HS := Lib.hid (HNO.out hok)
          clear hok
          go_wp2_with fail
          refine (E1.out _).mono ?_
          rintro e w1 ⟨rfl, hb1⟩
          go_wp2
          go_ret
          exact ⟨by rw [HF.out, HS.out]; rfl, below_step hB (below_step hb0 hb1)⟩
        · rw [hok] at E1
          have HOK := Lib.hid hok; clear hok
          by_cases h0 : k = 0
          · subst h0
            have HS := Lib.hid (HST.out HOK.out (fun h => absurd h (by omega)))
            simp only [Nat.zero_mul, Nat.add_zero] at c0 c1 c2 c3
            go_wp2_with fail
            refine (E1.out _).mono ?_
            rintro e w1 ⟨rfl, hb1⟩
            have HB1 := Lib.hid (below_step hB (below_step hb0 hb1))
            clear hb0 hb1 c0 c1 c2 c3
            go_wp2_with fail
            go_quiet (fail)
            go_wp2
            go_roundw
            case rel => exact ⟨1, by omega, by go_num, HS.out, below_drewN HB1.out _⟩
            case measure => simp [intOf]; omega
          · obtain ⟨j, rfl⟩ : ∃ j, k = j + 1 := ⟨k - 1, by omega⟩
            have p0 := (HG.out j (by omega)).1
            obtain ⟨z, hz⟩ : ∃ z, z = L[j] := ⟨_, rfl⟩
            have HZ : Hid (L[j + 1 - 1] = z) := show _ = _ from hz.symm
            rw [← hz] at p0
            clear hz h0
            have hk0 : decide ((0 : Int) < ((j + 1 : Nat) : Int)) = true := by simp
            by_cases hr : z.m.data.toList < x.m.data.toList
            · have hrb : Op.bytesLess z.m.toList x.m.toList = true := by rw [less_eq]; exact decide_eq_true hr
              have HS := Lib.hid (HST.out HOK.out (fun _ => by rw [HZ.out]; exact hr))
              clear hr
              go_wp2_with fail
              refine (E1.out _).mono ?_
              rintro e w1 ⟨rfl, hb1⟩
              have HB1 := Lib.hid (below_step hB (below_step hb0 hb1))
              have d0 : w1.cell? ⟨wr.heap.size, 0, none⟩ = some (.string x.m) := (hb1.cell (p := ⟨wr.heap.size, 0, none⟩) (by simp)).trans (by simp)
              have d1 := (hb1.cell (p := ⟨b, off + j * 4, none⟩) (by simp; omega)).trans ((hb0.cell (p := ⟨b, off + j * 4, none⟩) hbl).trans p0)
              clear hb0 hb1 c0 c1 c2 c3 p0
              go_wp2_with fail
              go_quiet (fail)
              go_wp2
              go_roundw
              case rel => exact ⟨j + 2, by omega, by go_num, HS.out, below_drewN HB1.out _⟩
              case measure => simp [intOf]; omega
            · have hrb : Op.bytesLess z.m.toList x.m.toList = false := by rw [less_eq]; exact decide_eq_false hr
              have HS := Lib.hid (HNR.out (by omega) (by rw [HZ.out]; exact hr))
              clear hr
              go_wp2_with fail
              refine (E1.out _).mono ?_
              rintro e w1 ⟨rfl, hb1⟩
              have HB1 := Lib.hid (below_step hB (below_step hb0 hb1))
              have d0 : w1.cell? ⟨wr.heap.size, 0, none⟩ = some (.string x.m) := (hb1.cell (p := ⟨wr.heap.size, 0, none⟩) (by simp)).trans (by simp)
              have d1 := (hb1.cell (p := ⟨b, off + j * 4, none⟩) (by simp; omega)).trans ((hb0.cell (p := ⟨b, off + j * 4, none⟩) hbl).trans p0)
              clear hb0 hb1 c0 c1 c2 c3 p0
              go_wp2_with fail
              go_quiet (fail)
              go_wp2
              go_ret
              exact ⟨by rw [HF.out, HS.out]; rfl, below_drewN HB1.out _⟩
      · have HS := Lib.hid (fitDir_all HN.out (by omega))
        go_wp2
        go_ret
        exact ⟨by rw [HF.out, HS.out]; rfl, hB⟩
theorem fit_file2 {n : Nd} (h : n.kd = 2) : fitN n = (fileB n.ps && decide (n.d.size = 0) && decide (n.es.length = 0)) := by
  rw [fit_file h]; unfold fileB
  cases decide (n.d.size = 0) <;> cases decide (n.es.length = 0) <;> cases decide (n.ps.length ≤ 1024) <;> cases fitFileB n.ps <;> rfl
theorem fit_dir2 {n : Nd} (h : n.kd = 3) : fitN n = (dirB n.es && decide (n.d.size = 0) && decide (n.ps.length = 0)) := by
  rw [fit_dir h]; unfold dirB
  cases decide (n.d.size = 0) <;> cases decide (n.ps.length = 0) <;> cases decide (n.es.length ≤ 60) <;> cases fitDirB n.es <;> rfl
theorem fit_piece2 {n : Nd} (h : n.kd = 1) : fitN n = (sizeB n.d.size && decide (n.ps.length = 0) && decide (n.es.length = 0)) := by
  rw [fit_piece h]; unfold sizeB
  have e1 : decide ((1 : Int) ≤ (n.d.size : Int)) = decide (1 ≤ n.d.size) := decide_eq_decide.2 (by omega)
  have e2 : decide ((n.d.size : Int) ≤ 4096) = decide (n.d.size ≤ 4096) := decide_eq_decide.2 (by omega)
  rw [e1, e2]
set_option maxRecDepth 100000 in
set_option maxHeartbeats 4000000 in
theorem pFit_any (n : Nd) (pv ev : Value) (w : World) (hp : IsParts w pv n.ps) (he : IsEntries w ev n.es) :
    Calls Tryz.prog 103 #[ndV n pv ev] w fun e w' => e = .returned (.bool (fitN n)) ∧ Below w.heap.size w w' := by
  have HP := Lib.hid hp; have HE := Lib.hid he
  obtain ⟨_, a1, cap1, hv1, _, _⟩ := hp
  obtain ⟨_, a2, cap2, hv2, _, _⟩ := he
  subst hv1 hv2
  have FF := Lib.hid (fun W hW => isFile_any _ n.ps W (HP.out.stays hW))
  have FD := Lib.hid (fun W hW => isDir_any _ n.es W (HE.out.stays hW))
  have SA := Lib.hid (isSize_any (n.d.size : Int))
  have hb0 := (Below.refl w.heap.size w).alloc (Nat.le_refl _) (.cells #[.int .i64 n.kd, .string n.d, .slice a1 n.ps.length cap1, .slice a2 n.es.length cap2] 44)
  have HX : Hid (NdBox (w.alloc (.cells #[.int .i64 n.kd, .string n.d, .slice a1 n.ps.length cap1, .slice a2 n.es.length cap2] 44)) w.heap.size n (.slice a1 n.ps.length cap1) (.slice a2 n.es.length cap2)) := Lib.hid (ndBox_new w n _ _ _)
  by_cases k1 : n.kd = 1
  · have t1 := ie_t k1
    have k := Lib.hid k1; clear k1
    rcases hB : sizeB n.d.size with _ | _
    · rw [hB] at SA
      have HF : Hid (fitN n = false) := Lib.hid (by rw [fit_piece2 k.out, hB]; rfl)
      clear hB
      go_enter Tryz.func103, Tryz.ntmps103
      go_wp2_with fail
      refine (SA.out _).mono ?_
      rintro e w1 ⟨rfl, rfl⟩
      have HB1 := Lib.hid hb0
      obtain ⟨c0, c1, c2, c3⟩ := HX.out.cells
      go_wp2
      go_ret
      exact ⟨by rw [HF.out]; rfl, HB1.out⟩
    · rw [hB] at SA
      by_cases x1 : n.ps.length = 0
      · have q1 := ie_t (show (n.ps.length : Int) = 0 by omega)
        by_cases x2 : n.es.length = 0
        · have q2 := ie_t (show (n.es.length : Int) = 0 by omega)
          have HF : Hid (fitN n = true) := Lib.hid (by rw [fit_piece2 k.out, hB, decide_eq_true x1, decide_eq_true x2]; rfl)
          clear hB x1 x2
          go_enter Tryz.func103, Tryz.ntmps103
          go_wp2_with fail
          refine (SA.out _).mono ?_
          rintro e w1 ⟨rfl, rfl⟩
          have HB1 := Lib.hid hb0
          obtain ⟨c0, c1, c2, c3⟩ := HX.out.cells
          go_wp2
          go_ret
          exact ⟨by rw [HF.out]; rfl, HB1.out⟩
        · have q2 := ie_f (show (n.es.length : Int) ≠ 0 by omega)
          have HF : Hid (fitN n = false) := Lib.hid (by rw [fit_piece2 k.out, decide_eq_false x2]; simp)
          clear hB x1 x2
          go_enter Tryz.func103, Tryz.ntmps103
          go_wp2_with fail
          refine (SA.out _).mono ?_
          rintro e w1 ⟨rfl, rfl⟩
          have HB1 := Lib.hid hb0
          obtain ⟨c0, c1, c2, c3⟩ := HX.out.cells
          go_wp2
          go_ret
          exact ⟨by rw [HF.out]; rfl, HB1.out⟩
      · have q1 := ie_f (show (n.ps.length : Int) ≠ 0 by omega)
        have HF : Hid (fitN n = false) := Lib.hid (by rw [fit_piece2 k.out, decide_eq_false x1]; simp)
        clear hB x1
        go_enter Tryz.func103, Tryz.ntmps103
        go_wp2_with fail
        refine (SA.out _).mono ?_
        rintro e w1 ⟨rfl, rfl⟩
        have HB1 := Lib.hid hb0
        obtain ⟨c0, c1, c2, c3⟩ := HX.out.cells
        go_wp2
        go_ret
        exact ⟨by rw [HF.out]; rfl, HB1.out⟩
  · have t1 := ie_f k1
    by_cases k2 : n.kd = 2
    · have t2 := ie_t k2
      have k := Lib.hid k2; clear k2 k1
      rcases hB : fileB n.ps with _ | _
      · rw [hB] at FF
        have HF : Hid (fitN n = false) := Lib.hid (by rw [fit_file2 k.out, hB]; rfl)
        clear hB
        go_enter Tryz.func103, Tryz.ntmps103
        go_wp2_with fail
        refine (FF.out _ hb0).mono ?_
        rintro e w1 ⟨rfl, hb1⟩
        have HB1 := Lib.hid (below_step hb0 hb1)
        obtain ⟨c0, c1, c2, c3⟩ := (HX.out.stays hb1).cells
        go_wp2
        go_ret
        exact ⟨by rw [HF.out]; rfl, HB1.out⟩
      · rw [hB] at FF
        by_cases x1 : n.d.size = 0
        · have q1 := emp_t x1
          by_cases x2 : n.es.length = 0
          · have q2 := ie_t (show (n.es.length : Int) = 0 by omega)
            have HF : Hid (fitN n = true) := Lib.hid (by rw [fit_file2 k.out, hB, decide_eq_true x1, decide_eq_true x2]; rfl)
            clear hB x1 x2
            go_enter Tryz.func103, Tryz.ntmps103
            go_wp2_with fail
            refine (FF.out _ hb0).mono ?_
            rintro e w1 ⟨rfl, hb1⟩
            have HB1 := Lib.hid (below_step hb0 hb1)
            obtain ⟨c0, c1, c2, c3⟩ := (HX.out.stays hb1).cells
            go_wp2
            go_ret
            exact ⟨by rw [HF.out]; rfl, HB1.out⟩
          · have q2 := ie_f (show (n.es.length : Int) ≠ 0 by omega)
            have HF : Hid (fitN n = false) := Lib.hid (by rw [fit_file2 k.out, decide_eq_false x2]; simp)
            clear hB x1 x2
            go_enter Tryz.func103, Tryz.ntmps103
            go_wp2_with fail
            refine (FF.out _ hb0).mono ?_
            rintro e w1 ⟨rfl, hb1⟩
            have HB1 := Lib.hid (below_step hb0 hb1)
            obtain ⟨c0, c1, c2, c3⟩ := (HX.out.stays hb1).cells
            go_wp2
            go_ret
            exact ⟨by rw [HF.out]; rfl, HB1.out⟩
        · have q1 := emp_f x1
          have HF : Hid (fitN n = false) := Lib.hid (by rw [fit_file2 k.out, decide_eq_false x1]; simp)
          clear hB x1
          go_enter Tryz.func103, Tryz.ntmps103
          go_wp2_with fail
          refine (FF.out _ hb0).mono ?_
          rintro e w1 ⟨rfl, hb1⟩
          have HB1 := Lib.hid (below_step hb0 hb1)
          obtain ⟨c0, c1, c2, c3⟩ := (HX.out.stays hb1).cells
          go_wp2
          go_ret
          exact ⟨by rw [HF.out]; rfl, HB1.out⟩
    · have t2 := ie_f k2
      by_cases k3 : n.kd = 3
      · have t3 := ie_t k3
        have k := Lib.hid k3; clear k3 k2 k1
        rcases hB : dirB n.es with _ | _
        · rw [hB] at FD
          have HF : Hid (fitN n = false) := Lib.hid (by rw [fit_dir2 k.out, hB]; rfl)
          clear hB
          go_enter Tryz.func103, Tryz.ntmps103
          go_wp2_with fail
          refine (FD.out _ hb0).mono ?_
          rintro e w1 ⟨rfl, hb1⟩
          have HB1 := Lib.hid (below_step hb0 hb1)
          obtain ⟨c0, c1, c2, c3⟩ := (HX.out.stays hb1).cells
          go_wp2
          go_ret
          exact ⟨by rw [HF.out]; rfl, HB1.out⟩
        · rw [hB] at FD
          by_cases x1 : n.d.size = 0
          · have q1 := emp_t x1
            by_cases x2 : n.ps.length = 0
            · have q2 := ie_t (show (n.ps.length : Int) = 0 by omega)
              have HF : Hid (fitN n = true) := Lib.hid (by rw [fit_dir2 k.out, hB, decide_eq_true x1, decide_eq_true x2]; rfl)
              clear hB x1 x2
              go_enter Tryz.func103, Tryz.ntmps103
              go_wp2_with fail
              refine (FD.out _ hb0).mono ?_
              rintro e w1 ⟨rfl, hb1⟩
              have HB1 := Lib.hid (below_step hb0 hb1)
              obtain ⟨c0, c1, c2, c3⟩ := (HX.out.stays hb1).cells
              go_wp2
              go_ret
              exact ⟨by rw [HF.out]; rfl, HB1.out⟩
            · have q2 := ie_f (show (n.ps.length : Int) ≠ 0 by omega)
              have HF : Hid (fitN n = false) := Lib.hid (by rw [fit_dir2 k.out, decide_eq_false x2]; simp)
              clear hB x1 x2
              go_enter Tryz.func103, Tryz.ntmps103
              go_wp2_with fail
              refine (FD.out _ hb0).mono ?_
              rintro e w1 ⟨rfl, hb1⟩
              have HB1 := Lib.hid (below_step hb0 hb1)
              obtain ⟨c0, c1, c2, c3⟩ := (HX.out.stays hb1).cells
              go_wp2
              go_ret
              exact ⟨by rw [HF.out]; rfl, HB1.out⟩
          · have q1 := emp_f x1
            have HF : Hid (fitN n = false) := Lib.hid (by rw [fit_dir2 k.out, decide_eq_false x1]; simp)
            clear hB x1
            go_enter Tryz.func103, Tryz.ntmps103
            go_wp2_with fail
            refine (FD.out _ hb0).mono ?_
            rintro e w1 ⟨rfl, hb1⟩
            have HB1 := Lib.hid (below_step hb0 hb1)
            obtain ⟨c0, c1, c2, c3⟩ := (HX.out.stays hb1).cells
            go_wp2
            go_ret
            exact ⟨by rw [HF.out]; rfl, HB1.out⟩
      · have t3 := ie_f k3
        have HF : Hid (fitN n = false) := fit_none k1 k2 k3
        clear k1 k2 k3
        go_enter Tryz.func103, Tryz.ntmps103
        go_wp2
        go_ret
        exact ⟨by rw [HF.out]; rfl, hb0⟩
end Go.Proofs.YtlccihidedfemaaGreatDoor

/-
  Contracts over this translation: the document's Split, Fit, Join, Dir, Order; the laws' same.
-/
import Derived.Test.YtkodbobjaejgjaaDoorPas
set_option linter.unusedVariables false
namespace Go.Proofs.YtkodbobjaejgjaaDoor
open Go.RowKit
attribute [local go_sem] Oper.semAt_some

/-- The first are names. -/
def NamesTo (L : List (List UInt8)) (k : Nat) : Prop := ∀ p ∈ L.take k, nameB p = true
theorem names_zero (L : List (List UInt8)) : NamesTo L 0 := fun p hp => by simp at hp
theorem names_step {L : List (List UInt8)} {k : Nat} (h : NamesTo L k) (hk : k < L.length) (hn : nameB L[k] = true) : NamesTo L (k + 1) := fun p hp => by
  rw [List.take_succ_eq_append_getElem hk] at hp
  rcases List.mem_append.1 hp with e | e
  · exact h p e
  · rw [List.mem_singleton.1 e]; exact hn
theorem names_all {L : List (List UInt8)} (h : NamesTo L L.length) : L.all nameB = true := List.all_eq_true.2 fun p hp => h p (by rw [List.take_length]; exact hp)
theorem not_all {L : List (List UInt8)} {k : Nat} (hk : k < L.length) (hn : nameB L[k] = false) : ¬ L.all nameB = true := fun h => by
  have := List.all_eq_true.1 h _ (List.getElem_mem hk)
  rw [hn] at this; cases this

theorem strsOf_at (L : List (List UInt8)) (k : Nat) (hk : k < (strsOf L).length) (hk' : k < L.length) : ((strsOf L)[k]).data.toList = L[k] := by
  simp [strsOf]

set_option maxRecDepth 100000 in
set_option maxHeartbeats 2000000 in
theorem refSplit_any (s : ByteArray) (hs : s.size ≤ 100000) (w : World) :
    Calls Tryd.prog 15 #[.string s] w (RetL (splitS s.data.toList) w) := by
  have C := Lib.hid (parts_any s hs)
  obtain ⟨l, hl⟩ : ∃ l, l = s.data.toList := ⟨_, rfl⟩
  rw [← hl] at C ⊢
  clear hl hs
  go_enter Tryd.func15, Tryd.ntmps15
  go_wp2_with fail
  refine (C.out _).mono ?_
  rintro e w1 ⟨v, rfl, hv, hb1⟩
  have HV := Lib.hid hv
  obtain ⟨hm, a, cap, rfl, _, hc⟩ := hv
  have hmm : (strsOf (pts l)).length ≤ 9223372036854775807 := by unfold maxLen at hm; omega
  have HC := Lib.hid hc
  have HLEN := Lib.hid (strsOf_len (pts l))
  have HIN := Lib.hid (strsOf_at (pts l))
  clear hm hc
  obtain ⟨L, hL⟩ : ∃ L, L = strsOf (pts l) := ⟨_, rfl⟩
  rw [← hL] at HV HC HLEN HIN hmm ⊢
  have HLS := Lib.hid hL
  clear hL
  by_cases h8 : 8 < L.length
  · have e1 : decide ((8 : Int) < (L.length : Int)) = true := decide_eq_true (by omega)
    have HN : Hid (splitS l = []) := if_neg (fun hh => by have := HLEN.out; omega)
    go_wp2
    go_ret
    exact ⟨_, rfl, by rw [HN.out]; exact isStrs_nil _, hb1⟩
  · have e1 : decide ((8 : Int) < (L.length : Int)) = false := decide_eq_false (by omega)
    go_wp2
    go_loop [4] (fun i => ∃ k : Nat, k ≤ L.length ∧ i = .int .i64 k ∧ NamesTo (pts l) k) (fun i => L.length - (intOf i).toNat)
    case atStart => exact ⟨0, Nat.zero_le _, rfl, names_zero _⟩
    case round =>
      obtain ⟨k, hk, rfl, hn⟩ := hrel
      have HN := Lib.hid hn; clear hn
      by_cases hlt : k < L.length
      · obtain ⟨b1, o1, rfl, _, g1⟩ := HC.out (by omega)
        have q1 := g1 k hlt
        clear g1
        have hin := HIN.out k hlt (by rw [← HLEN.out]; exact hlt)
        obtain ⟨y, hy⟩ : ∃ y, y = L[k] := ⟨_, rfl⟩
        rw [← hy] at q1 hin
        have HY := Lib.hid hin; clear hin hy
        have hbk : decide ((k : Int) < (L.length : Int)) = true := by simpa using (show (k : Int) < L.length by omega)
        have R := Lib.hid (refName_any y)
        rcases hb : nameB y.data.toList with _ | _
        · have HS : Hid (splitS l = []) := if_neg (fun hh => not_all (by rw [← HLEN.out]; exact hlt) (by rw [← HY.out]; exact hb) hh.2)
          rw [hb] at R
          clear hb
          go_wp2_with ((with_reducible refine (R.out _).mono ?_); rintro e w2 ⟨rfl, rfl⟩)
          go_ret
          exact ⟨_, rfl, by rw [HS.out]; exact isStrs_nil _, hb1⟩
        · have HS := Lib.hid (names_step HN.out (by rw [← HLEN.out]; exact hlt) (by rw [← HY.out]; exact hb))
          rw [hb] at R
          clear hb
          go_wp2_with ((with_reducible refine (R.out _).mono ?_); rintro e w2 ⟨rfl, rfl⟩)
          go_round
          case rel => exact ⟨k + 1, by omega, by go_num, HS.out⟩
          case measure => simp [intOf]; omega
      · obtain rfl : k = L.length := by omega
        have HS : Hid (splitS l = pts l) := if_pos ⟨by rw [← HLEN.out]; omega, names_all (by rw [← HLEN.out]; exact HN.out)⟩
        go_wp2
        go_ret
        exact ⟨_, rfl, by rw [HS.out, ← HLS.out]; exact HV.out, hb1⟩

/-- A path. -/
def isPath (l : List UInt8) : Bool := decide (0 < (splitS l).length)
set_option maxRecDepth 100000 in
theorem refFit_any (s : ByteArray) (hs : s.size ≤ 100000) (w : World) :
    Calls Tryd.prog 12 #[.string s] w fun e w' => e = .returned (.bool (isPath s.data.toList)) ∧ Below w.heap.size w w' := by
  have C := Lib.hid (refSplit_any s hs)
  go_enter Tryd.func12, Tryd.ntmps12
  go_wp2_with fail
  refine (C.out _).mono ?_
  rintro e w1 ⟨v, rfl, ⟨hm, a, cap, rfl, _, hc⟩, hb1⟩
  have HE : Hid (isPath s.data.toList = decide ((0 : Int) < ((strsOf (splitS s.data.toList)).length : Int))) := by
    unfold isPath; rw [strsOf_len]; exact decide_eq_decide.2 (by omega)
  have hmm : (strsOf (splitS s.data.toList)).length ≤ 9223372036854775807 := by unfold maxLen at hm; omega
  clear hc hm
  go_wp2
  go_ret
  exact ⟨ret_val (congrArg Value.bool (by rw [HE.out]; simp)), hb1⟩

/-! ## Join -/
theorem joinS_take {L : List (List UInt8)} {k : Nat} (hk : k < L.length) (h0 : 0 < k) : joinS (L.take (k + 1)) = joinS (L.take k) ++ 47 :: L[k] := by
  rw [List.take_succ_eq_append_getElem hk, joinS_snoc (by intro e; have h1 : (L.take k).length = k := by { rw [List.length_take]; omega }; rw [e] at h1; change 0 = k at h1; omega)]
theorem str_of {x : ByteArray} {l : List UInt8} (h : x.data.toList = l) : x = ⟨l.toArray⟩ := by rw [← h]
set_option maxRecDepth 100000 in
set_option maxHeartbeats 2000000 in
theorem refJoin_any (v : Value) (L : List ByteArray) (w : World) (hv : IsStrs w v L) :
    Calls Tryd.prog 21 #[v] w fun e w' => e = .returned (.string ⟨(joinN (txts L)).toArray⟩) ∧ w = w' := by
  obtain ⟨hm, a, cap, rfl, _, hc⟩ := hv
  have hmm : L.length ≤ 9223372036854775807 := by unfold maxLen at hm; omega
  have HC := Lib.hid hc
  have HLEN := Lib.hid (txts_len L)
  clear hm hc
  by_cases h8 : 8 < L.length
  · have e1 : decide ((8 : Int) < (L.length : Int)) = true := decide_eq_true (by omega)
    have HN : Hid (joinN (txts L) = []) := joinN_long (by rw [HLEN.out]; exact h8)
    go_enter Tryd.func21, Tryd.ntmps21
    go_wp2
    go_ret
    exact ⟨by rw [HN.out]; rfl, rfl⟩
  · have e1 : decide ((8 : Int) < (L.length : Int)) = false := decide_eq_false (by omega)
    go_enter Tryd.func21, Tryd.ntmps21
    go_wp2
    go_loop [3, 4] (fun r i => ∃ (x : ByteArray) (k : Nat), k ≤ L.length ∧ i = .int .i64 k ∧ r = .string x ∧ x.size ≤ k * 32 ∧ x.data.toList = joinS ((txts L).take k) ∧ NamesTo (txts L) k) (fun _ i => L.length - (intOf i).toNat)
    case atStart => exact ⟨⟨#[]⟩, 0, Nat.zero_le _, rfl, rfl, Nat.le_refl _, rfl, names_zero _⟩
    case round =>
      obtain ⟨x, k, hk, rfl, rfl, hxs, hx, hn⟩ := hrel
      have HN := Lib.hid hn; have HX := Lib.hid hx; clear hn hx
      by_cases hlt : k < L.length
      · obtain ⟨b1, o1, rfl, _, g1⟩ := HC.out (by omega)
        have q1 := g1 k hlt
        clear g1
        have hlt2 : k < (txts L).length := by rw [HLEN.out]; exact hlt
        have hin : (txts L)[k] = L[k].data.toList := txts_get hlt
        obtain ⟨y, hy⟩ : ∃ y, y = L[k] := ⟨_, rfl⟩
        rw [← hy] at q1 hin
        have HY := Lib.hid hin; clear hin hy
        have hbk : decide ((k : Int) < (L.length : Int)) = true := by simpa using (show (k : Int) < L.length by omega)
        have R := Lib.hid (refName_any y)
        rcases hb : nameB y.data.toList with _ | _
        · have HS : Hid (joinN (txts L) = []) := joinN_bad (List.getElem_mem hlt2) (by rw [HY.out]; exact hb)
          rw [hb] at R
          clear hb hxs
          go_wp2_with ((with_reducible refine (R.out _).mono ?_); rintro e w2 ⟨rfl, rfl⟩)
          go_ret
          exact ⟨by rw [HS.out]; rfl, rfl⟩
        · have hys : y.size ≤ 31 := by have := (nameB_iff.1 hb).2.1; rw [← Lib.size_eq] at this; exact this
          have HS := Lib.hid (names_step HN.out hlt2 (by rw [HY.out]; exact hb))
          rw [hb] at R
          clear hb
          by_cases h0 : 0 < k
          · have e0 : decide ((0 : Int) < (k : Int)) = true := decide_eq_true (by omega)
            have s1 : ¬ 9223372036854775807 < x.size + 1 := by omega
            have s1' : ¬ 9223372036854775807 < x.size + (⟨#[47]⟩ : ByteArray).size := s1
            obtain ⟨x1, hx1⟩ : ∃ x1, x1 = x ++ (⟨#[47]⟩ : ByteArray) := ⟨_, rfl⟩
            have hx1s : x1.size = x.size + 1 := by rw [hx1, size_of_app]; rfl
            have s2 : ¬ 9223372036854775807 < x1.size + y.size := by omega
            have HJ : Hid ((x1 ++ y).data.toList = joinS ((txts L).take (k + 1)) ∧ (x1 ++ y).size ≤ (k + 1) * 32) := by
              refine ⟨?_, by rw [size_of_app]; omega⟩
              rw [joinS_take hlt2 h0, bytes_app, hx1, bytes_app, HX.out, HY.out]; simp
            have HX1 := Lib.hid hx1
            clear hx1
            go_wp2_with ((with_reducible refine (R.out _).mono ?_); rintro e w2 ⟨rfl, rfl⟩)
            rw [← HX1.out]
            go_wp2
            go_round
            case rel => exact ⟨_, k + 1, by omega, by go_num, rfl, HJ.out.2, HJ.out.1, HS.out⟩
            case measure => simp [intOf]; omega
          · have e0 : decide ((0 : Int) < (k : Int)) = false := decide_eq_false (by omega)
            have HK : Hid (k = 0) := by show k = 0; omega
            have s2 : ¬ 9223372036854775807 < x.size + y.size := by omega
            have HJ : Hid ((x ++ y).data.toList = joinS ((txts L).take (k + 1)) ∧ (x ++ y).size ≤ (k + 1) * 32) := by
              refine ⟨?_, by rw [size_of_app]; omega⟩
              rw [bytes_app, HX.out, List.take_succ_eq_append_getElem hlt2, HY.out, HK.out]; simp [joinS]
            go_wp2_with ((with_reducible refine (R.out _).mono ?_); rintro e w2 ⟨rfl, rfl⟩)
            go_round
            case rel => exact ⟨_, k + 1, by omega, by go_num, rfl, HJ.out.2, HJ.out.1, HS.out⟩
            case measure => simp [intOf]; omega
      · obtain rfl : k = L.length := by omega
        have HJ : Hid (x = ⟨(joinN (txts L)).toArray⟩) := by
          rw [joinN_small (by rw [HLEN.out]; omega) (names_all (by rw [HLEN.out]; exact HN.out))]
          refine str_of ?_
          rw [HX.out, List.take_of_length_le (by rw [HLEN.out]; exact Nat.le_refl _)]
        clear hxs
        go_wp2
        go_ret
        exact ⟨by rw [← HJ.out]; rfl, rfl⟩
end Go.Proofs.YtkodbobjaejgjaaDoor

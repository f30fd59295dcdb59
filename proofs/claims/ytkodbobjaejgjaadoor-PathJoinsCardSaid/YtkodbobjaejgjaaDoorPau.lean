/-
  Contracts over this translation: the document's Dir, Order; cmp.Compare, slices.Compare; the laws' same.
-/
import Derived.Test.YtkodbobjaejgjaaDoorPat
set_option linter.unusedVariables false
namespace Go.Proofs.YtkodbobjaejgjaaDoor
open Go.RowKit
attribute [local go_sem] Oper.semAt_some

/-! ## same -/
set_option maxRecDepth 100000 in
set_option maxHeartbeats 1000000 in
theorem same_any (v1 v2 : Value) (L : List ByteArray) (w : World) (h1 : IsStrs w v1 L) (h2 : IsStrs w v2 L) :
    Calls Tryd.prog 13 #[v1, v2] w fun e w' => e = .returned (.bool true) ∧ Below w.heap.size w w' := by
  obtain ⟨hm, a1, c1, rfl, _, hc1⟩ := h1
  obtain ⟨_, a2, c2, rfl, _, hc2⟩ := h2
  have hmm : L.length ≤ 9223372036854775807 := by unfold maxLen at hm; omega
  have H1 := Lib.hid hc1; have H2 := Lib.hid hc2
  clear hc1 hc2 hm
  go_enter Tryd.func13, Tryd.ntmps13
  go_wp2
  go_loopw [13] (fun i wr => ∃ k m : Nat, k ≤ L.length ∧ i = .int .i64 k ∧ wr = w.drewN m) (fun i _ => L.length - (intOf i).toNat)
  case atStart => exact ⟨0, 0, Nat.zero_le _, rfl, rfl⟩
  case round =>
    obtain ⟨k, m, hk, rfl, rfl⟩ := hrel
    by_cases hlt : k < L.length
    · obtain ⟨b1, o1, rfl, _, g1⟩ := H1.out (by omega)
      obtain ⟨b2, o2, rfl, _, g2⟩ := H2.out (by omega)
      have q1 := g1 k hlt
      have q2 := g2 k hlt
      clear g1 g2
      have hbk : decide ((k : Int) < (L.length : Int)) = true := by simpa using (show (k : Int) < L.length by omega)
      go_wp2_with fail
      go_quiet (fail)
      go_wp2
      go_roundw
      case rel => exact ⟨k + 1, m + nq, by omega, by go_num, by simp [World.drewN]⟩
      case measure => simp [intOf]; omega
    · go_wp2
      go_ret
      exact ⟨rfl, below_drewN (Below.refl _ _) _⟩

/-! ## how two stand -/
abbrev Tx := List UInt8
theorem x_irrefl (x : Tx) : ¬ x < x := List.lt_irrefl x
theorem x_trans {x y z : Tx} (h : x < y) (h' : y < z) : x < z := List.lt_trans h h'
theorem x_tri (x y : Tx) (h : ¬ x < y) (h' : ¬ y < x) : x = y := List.le_antisymm (List.not_lt.1 h') (List.not_lt.1 h)
theorem x_asymm {x y : Tx} (h : x < y) : ¬ y < x := fun h' => x_irrefl _ (x_trans h h')
theorem isNaN_any (x : ByteArray) (w : World) :
    Calls Tryd.prog 43 #[.string x] w fun e w' => e = .returned (.bool false) ∧ w = w' := by
  have h : (x.toList == x.toList) = true := by simp
  go_enter Tryd.func43, Tryd.ntmps43
  go_wp2
  go_ret
  exact ⟨ret_val (by simp), rfl⟩
def ordX (x y : Tx) : Int := if x < y then -1 else if y < x then 1 else 0
theorem ordX_lt {x y : Tx} (h : x < y) : ordX x y = -1 := if_pos h
theorem ordX_gt {x y : Tx} (h : y < x) : ordX x y = 1 := by rw [ordX, if_neg (x_asymm h), if_pos h]
theorem ordX_eq (x : Tx) : ordX x x = 0 := by rw [ordX, if_neg (x_irrefl x), if_neg (x_irrefl x)]
theorem cmpP_cons (a b : Tx) (x y : List Tx) : cmpP (a :: x) (b :: y) = if ordX a b = 0 then cmpP x y else ordX a b := by
  by_cases h : a < b
  · rw [ordX_lt h, if_neg (by decide), cmpP, if_pos h]
  · by_cases h2 : b < a
    · rw [ordX_gt h2, if_neg (by decide), cmpP, if_neg h, if_pos h2]
    · rw [x_tri a b h h2, ordX_eq, if_pos rfl, cmpP, if_neg (x_irrefl b), if_neg (x_irrefl b)]

set_option maxRecDepth 100000 in
theorem Compare_any (x y : ByteArray) (w : World) :
    Calls Tryd.prog 33 #[.string x, .string y] w fun e w' => e = .returned (.int .i64 (ordX x.data.toList y.data.toList)) ∧ w = w' := by
  have HN := Lib.hid isNaN_any
  by_cases h : x.data.toList < y.data.toList
  · have l1 : Op.bytesLess x.toList y.toList = true := by rw [less_eq]; exact decide_eq_true h
    rw [ordX_lt h]
    clear h
    go_enter Tryd.func33, Tryd.ntmps33
    go_wp2_with ((with_reducible refine (HN.out _ _).mono ?_); rintro e w' ⟨rfl, rfl⟩)
    go_ret
    exact ⟨rfl, rfl⟩
  · by_cases h2 : y.data.toList < x.data.toList
    · have l1 : Op.bytesLess x.toList y.toList = false := by rw [less_eq]; exact decide_eq_false h
      have l2 : (x.toList == y.toList) = false := beq_false (fun e => x_irrefl _ (e ▸ h2))
      rw [ordX_gt h2]
      clear h h2
      go_enter Tryd.func33, Tryd.ntmps33
      go_wp2_with ((with_reducible refine (HN.out _ _).mono ?_); rintro e w' ⟨rfl, rfl⟩)
      go_ret
      exact ⟨rfl, rfl⟩
    · obtain rfl := str_eq' (x_tri _ _ h h2)
      have l1 : Op.bytesLess x.toList x.toList = false := by rw [less_eq]; exact decide_eq_false h
      have l2 : (x.toList == x.toList) = true := beq_true rfl
      rw [ordX_eq]
      clear h h2
      go_enter Tryd.func33, Tryd.ntmps33
      go_wp2_with ((with_reducible refine (HN.out _ _).mono ?_); rintro e w' ⟨rfl, rfl⟩)
      go_ret
      exact ⟨rfl, rfl⟩

/-- What is left to compare. -/
def SameTo (X Y : List Tx) (k : Nat) : Prop := cmpP X Y = cmpP (X.drop k) (Y.drop k)
theorem same_zero (X Y : List Tx) : SameTo X Y 0 := rfl
theorem same_one {X Y : List Tx} {k : Nat} (h : SameTo X Y k) (hx : k < X.length) (hy : k < Y.length) : cmpP X Y = if ordX X[k] Y[k] = 0 then cmpP (X.drop (k + 1)) (Y.drop (k + 1)) else ordX X[k] Y[k] := by
  unfold SameTo at h
  rw [h, List.drop_eq_getElem_cons hx, List.drop_eq_getElem_cons hy, cmpP_cons]
theorem same_step {X Y : List Tx} {k : Nat} (h : SameTo X Y k) (hx : k < X.length) (hy : k < Y.length) (h0 : ordX X[k] Y[k] = 0) : SameTo X Y (k + 1) := by
  unfold SameTo; rw [same_one h hx hy, if_pos h0]
theorem same_stop {X Y : List Tx} {k : Nat} (h : SameTo X Y k) (hx : k < X.length) (hy : k < Y.length) (h0 : ordX X[k] Y[k] ≠ 0) : cmpP X Y = ordX X[k] Y[k] := by
  rw [same_one h hx hy, if_neg h0]
theorem same_longer {X Y : List Tx} {k : Nat} (h : SameTo X Y k) (hx : k < X.length) (hy : Y.length ≤ k) : cmpP X Y = 1 := by
  unfold SameTo at h
  rw [h, List.drop_eq_getElem_cons hx, List.drop_of_length_le hy]; rfl
theorem same_shorter {X Y : List Tx} {k : Nat} (h : SameTo X Y k) (hx : X.length ≤ k) (hy : k < Y.length) : cmpP X Y = -1 := by
  unfold SameTo at h
  rw [h, List.drop_eq_getElem_cons hy, List.drop_of_length_le hx]; rfl
theorem same_end {X Y : List Tx} {k : Nat} (h : SameTo X Y k) (hx : X.length ≤ k) (hy : Y.length ≤ k) : cmpP X Y = 0 := by
  unfold SameTo at h
  rw [h, List.drop_of_length_le hx, List.drop_of_length_le hy]; rfl
theorem ordX_cases (x y : Tx) : (x < y ∧ ordX x y = -1) ∨ (y < x ∧ ordX x y = 1) ∨ (x = y ∧ ordX x y = 0) := by
  by_cases h : x < y
  · exact .inl ⟨h, ordX_lt h⟩
  · by_cases h2 : y < x
    · exact .inr (.inl ⟨h2, ordX_gt h2⟩)
    · obtain rfl := x_tri x y h h2
      exact .inr (.inr ⟨rfl, ordX_eq x⟩)

set_option maxRecDepth 100000 in
set_option maxHeartbeats 2000000 in
theorem slCompare_any (v1 v2 : Value) (K L : List ByteArray) (w : World) (h1 : IsStrs w v1 K) (h2 : IsStrs w v2 L) :
    Calls Tryd.prog 26 #[v1, v2] w fun e w' => e = .returned (.int .i64 (cmpP (txts K) (txts L))) ∧ w = w' := by
  obtain ⟨hm, a1, c1, rfl, _, hc1⟩ := h1
  obtain ⟨hm2, a2, c2, rfl, _, hc2⟩ := h2
  have hmm : K.length ≤ 9223372036854775807 := by unfold maxLen at hm; omega
  have hmm2 : L.length ≤ 9223372036854775807 := by unfold maxLen at hm2; omega
  have H1 := Lib.hid hc1; have H2 := Lib.hid hc2
  have HK := Lib.hid (txts_len K); have HL := Lib.hid (txts_len L)
  have CA := Lib.hid Compare_any
  clear hc1 hc2 hm hm2
  go_enter Tryd.func26, Tryd.ntmps26
  go_wp2
  go_loop [11] (fun i => ∃ k : Nat, k ≤ K.length ∧ k ≤ L.length ∧ i = .int .i64 k ∧ SameTo (txts K) (txts L) k) (fun i => K.length - (intOf i).toNat)
  case atStart => exact ⟨0, Nat.zero_le _, Nat.zero_le _, rfl, same_zero _ _⟩
  case round =>
    obtain ⟨k, hk, hk2, rfl, hn⟩ := hrel
    have HN := Lib.hid hn; clear hn
    by_cases hlt : k < K.length
    · obtain ⟨b1, o1, rfl, _, g1⟩ := H1.out (by omega)
      have q1 := g1 k hlt
      clear g1
      have hbk : decide ((k : Int) < (K.length : Int)) = true := by simpa using (show (k : Int) < K.length by omega)
      have hx : (txts K)[k]'(by rw [HK.out]; exact hlt) = K[k].data.toList := txts_get hlt
      obtain ⟨x, hxx⟩ : ∃ x, x = K[k] := ⟨_, rfl⟩
      rw [← hxx] at q1 hx
      have HX := Lib.hid hx; clear hx hxx
      by_cases hlt2 : k < L.length
      · obtain ⟨b2, o2, rfl, _, g2⟩ := H2.out (by omega)
        have q2 := g2 k hlt2
        clear g2
        have hy : (txts L)[k]'(by rw [HL.out]; exact hlt2) = L[k].data.toList := txts_get hlt2
        obtain ⟨y, hyy⟩ : ∃ y, y = L[k] := ⟨_, rfl⟩
        rw [← hyy] at q2 hy
        have HY := Lib.hid hy; clear hy hyy
        have hnl : ¬ L.length ≤ k := by omega
        have R := Lib.hid (CA.out x y)
        rcases ordX_cases x.data.toList y.data.toList with ⟨_, ho⟩ | ⟨_, ho⟩ | ⟨_, ho⟩
        · have HS : Hid (cmpP (txts K) (txts L) = -1) := by
            have := same_stop HN.out (by rw [HK.out]; exact hlt) (by rw [HL.out]; exact hlt2) (by rw [HX.out, HY.out, ho]; decide)
            rw [HX.out, HY.out, ho] at this; exact this
          rw [ho] at R; clear ho
          go_wp2_with ((with_reducible refine (R.out _).mono ?_); rintro e w2 ⟨rfl, rfl⟩)
          go_ret
          exact ⟨by rw [HS.out]; rfl, rfl⟩
        · have HS : Hid (cmpP (txts K) (txts L) = 1) := by
            have := same_stop HN.out (by rw [HK.out]; exact hlt) (by rw [HL.out]; exact hlt2) (by rw [HX.out, HY.out, ho]; decide)
            rw [HX.out, HY.out, ho] at this; exact this
          rw [ho] at R; clear ho
          go_wp2_with ((with_reducible refine (R.out _).mono ?_); rintro e w2 ⟨rfl, rfl⟩)
          go_ret
          exact ⟨by rw [HS.out]; rfl, rfl⟩
        · have HS := Lib.hid (same_step HN.out (by rw [HK.out]; exact hlt) (by rw [HL.out]; exact hlt2) (by rw [HX.out, HY.out, ho]))
          rw [ho] at R; clear ho
          go_wp2_with ((with_reducible refine (R.out _).mono ?_); rintro e w2 ⟨rfl, rfl⟩)
          go_round
          case rel => exact ⟨k + 1, by omega, by omega, by go_num, HS.out⟩
          case measure => simp [intOf]; omega
      · have hnl : L.length ≤ k := by omega
        have HS : Hid (cmpP (txts K) (txts L) = 1) := same_longer HN.out (by rw [HK.out]; exact hlt) (by rw [HL.out]; exact hnl)
        go_wp2
        go_ret
        exact ⟨by rw [HS.out]; rfl, rfl⟩
    · obtain rfl : k = K.length := by omega
      by_cases hlt2 : K.length < L.length
      · have HS : Hid (cmpP (txts K) (txts L) = -1) := same_shorter HN.out (by rw [HK.out]; exact Nat.le_refl _) (by rw [HL.out]; exact hlt2)
        go_wp2
        go_ret
        exact ⟨by rw [HS.out]; rfl, rfl⟩
      · have HS : Hid (cmpP (txts K) (txts L) = 0) := same_end HN.out (by rw [HK.out]; exact Nat.le_refl _) (by rw [HL.out]; omega)
        go_wp2
        go_ret
        exact ⟨by rw [HS.out]; rfl, rfl⟩

set_option maxRecDepth 100000 in
set_option maxHeartbeats 2000000 in
theorem refDir_any (s : ByteArray) (hs : s.size ≤ 100000) (w : World) :
    Calls Tryd.prog 17 #[.string s] w fun e w' => e = .returned (.string ⟨(dirS s.data.toList).toArray⟩) ∧ Below w.heap.size w w' := by
  have C := Lib.hid (refSplit_any s hs)
  have J := Lib.hid refJoin_any
  obtain ⟨l, hl⟩ : ∃ l, l = s.data.toList := ⟨_, rfl⟩
  rw [← hl] at C ⊢
  clear hl hs
  go_enter Tryd.func17, Tryd.ntmps17
  go_wp2_with fail
  refine (C.out _).mono ?_
  rintro e w1 ⟨v, rfl, hv, hb1⟩
  have HV := Lib.hid hv
  obtain ⟨hm, a, cap, rfl, ⟨_, hcap⟩, hc⟩ := hv
  have HLEN := Lib.hid (strsOf_len (splitS l))
  have HT := Lib.hid (txts_strsOf (splitS l))
  obtain ⟨L, hL⟩ : ∃ L, L = strsOf (splitS l) := ⟨_, rfl⟩
  rw [← hL] at HV HLEN HT hm hcap hc ⊢
  clear hL
  have hmm : L.length ≤ 9223372036854775807 := by unfold maxLen at hm; omega
  by_cases h2 : L.length < 2
  · have e2 : decide ((L.length : Int) < 2) = true := decide_eq_true (by omega)
    have HN : Hid (dirS l = []) := splitS_short (by rw [← HLEN.out]; exact h2)
    clear hc hm hcap
    go_wp2
    go_ret
    exact ⟨by rw [HN.out]; rfl, hb1⟩
  · have e2 : decide ((L.length : Int) < 2) = false := decide_eq_false (by omega)
    obtain ⟨b, off, rfl, hlt, hcell⟩ := hc (by omega)
    have hV2 : IsStrs w1 (.slice (some ⟨b, off, none⟩) (L.length - 1) cap) L.dropLast := by
      refine ⟨by rw [List.length_dropLast]; omega, some ⟨b, off, none⟩, cap, by rw [List.length_dropLast], ⟨fun h => (by cases h), by rw [List.length_dropLast]; omega⟩, fun _ => ⟨b, off, rfl, hlt, fun i hi => ?_⟩⟩
      rw [List.length_dropLast] at hi
      rw [hcell i (by omega), List.getElem_dropLast]
    have HV2 := Lib.hid hV2
    have J2 := Lib.hid (fun hv => J.out (.slice (some ⟨b, off, none⟩) (L.length - 1) cap) L.dropLast w1 hv)
    have HD : Hid (joinN (txts L.dropLast) = dirS l) := by
      show _ = _
      rw [show txts L.dropLast = (txts L).dropLast by simp [txts], HT.out]; rfl
    have hz : ((L.length : Int) - 1) = ((L.length - 1 : Nat) : Int) := by omega
    have HZ := Lib.hid hz
    clear hc hcell hV2 hz J
    go_wp2_with fail
    refine (J2.out HV2.out).mono ?_
    rintro e w2 ⟨rfl, rfl⟩
    go_wp2
    go_ret
    exact ⟨by rw [HD.out]; rfl, hb1⟩
end Go.Proofs.YtkodbobjaejgjaaDoor

/-
  Layer 9: PathDepth.
-/
import Derived.Test.YtkodbobjaejgjaaDoorPba
import Derived.Test.YtkodbobjaejgjaaDoorPbm
set_option linter.unusedVariables false
namespace Go.Proofs.YtkodbobjaejgjaaDoor
open Go.RowKit Go.Shelf
attribute [local go_sem] Oper.semAt_some

theorem str_same (s : ByteArray) : (⟨s.data.toList.toArray⟩ : ByteArray) = s := by simp
/-- The slashes among the first k bytes. -/
def slashes (l : List UInt8) (k : Nat) : Nat := (l.take k).count 47
theorem slashes_zero (l : List UInt8) : slashes l 0 = 0 := rfl
theorem slashes_yes {s : ByteArray} {k : Nat} (hk : k < s.size) (h : s[k] = 47) : slashes s.data.toList (k + 1) = slashes s.data.toList k + 1 := by
  unfold slashes; rw [take_on s k hk, List.count_append, h]; rfl
theorem slashes_no {s : ByteArray} {k : Nat} (hk : k < s.size) (h : s[k] ≠ 47) : slashes s.data.toList (k + 1) = slashes s.data.toList k := by
  unfold slashes; rw [take_on s k hk, List.count_append, List.count_singleton]; simp [h]
theorem slashes_le (l : List UInt8) (k : Nat) : slashes l k ≤ k := Nat.le_trans (List.count_le_length) (by rw [List.length_take]; omega)
theorem slashes_all (s : ByteArray) : slashes s.data.toList s.size + 1 = (pts s.data.toList).length := by
  unfold slashes; rw [take_all s _ (Nat.le_refl _), pts_count]

set_option maxRecDepth 100000 in
set_option maxHeartbeats 8000000 in
theorem PathDepth_walk (s n : ByteArray) (w : World) : Calls Tryd.prog 7 #[.string s, .string n] w fun e w' => e = .returned (.bool true) ∧ Below w.heap.size w w' := by
  have AW := Lib.hid awake_any
  by_cases h1 : 1000 < s.size
  · have e1 : decide ((1000 : Int) < (s.size : Int)) = true := decide_eq_true (by omega)
    clear h1
    go_enter Tryd.func7, Tryd.ntmps7
    go_wp2_with fail
    refine (AW.out _).mono ?_
    rintro e u1 ⟨rfl, hb1⟩
    have hB := hb1
    go_wp2
    go_ret
    exact ⟨rfl, hB⟩
  · have e1 : decide ((1000 : Int) < (s.size : Int)) = false := decide_eq_false (by omega)
    by_cases h2 : 100 < n.size
    · have e2 : decide ((100 : Int) < (n.size : Int)) = true := decide_eq_true (by omega)
      clear h1 h2
      go_enter Tryd.func7, Tryd.ntmps7
      go_wp2_with fail
      refine (AW.out _).mono ?_
      rintro e u2 ⟨rfl, hb2⟩
      have hB := hb2
      go_wp2
      go_ret
      exact ⟨rfl, hB⟩
    · have e2 : decide ((100 : Int) < (n.size : Int)) = false := decide_eq_false (by omega)
      have F1 := Lib.hid (Fit_any s (by omega))
      by_cases hp : 0 < (splitS s.data.toList).length
      · have hfit : isPath s.data.toList = true := decide_eq_true hp
        rw [hfit] at F1
        have C1 := Lib.hid (Split_any s (by omega))
        have hK := split_len hp
        have hK8 : (splitS s.data.toList).length ≤ 8 := splitS_le _
        have HDEEP := Lib.hid (deeper (n := n.data.toList) hp)
        have HDIR := Lib.hid (dir_deeper (n := n.data.toList) hp)
        obtain ⟨K, hKK⟩ : ∃ K, K = (pts s.data.toList).length := ⟨_, rfl⟩
        rw [← hKK] at hK HDEEP HDIR
        have hK9 : K ≤ 8 := by omega
        have hK1 : 1 ≤ K := by omega
        have hcnt := slashes_all s
        rw [← hKK] at hcnt
        have HCNT := Lib.hid hcnt
        have HKL : Hid ((strsOf (splitS s.data.toList)).length = K) := by show _ = _; rw [strsOf_len, hK]
        have hs1 : ¬ 9223372036854775807 < s.size + 1 := by omega
        have hs1' : ¬ 9223372036854775807 < s.size + sep1.size := hs1
        obtain ⟨asl, hasl⟩ : ∃ asl : ByteArray, asl = s ++ sep1 := ⟨_, rfl⟩
        have haz : asl.size = s.size + 1 := by rw [hasl, size_of_app]; rfl
        have hs2 : ¬ 9223372036854775807 < asl.size + n.size := by omega
        obtain ⟨bel, hbel⟩ : ∃ bel : ByteArray, bel = asl ++ n := ⟨_, rfl⟩
        have hbl : bel.data.toList = s.data.toList ++ 47 :: n.data.toList := by rw [hbel, bytes_app, hasl, bytes_app]; simp
        have hbs : bel.size ≤ 1101 := by rw [hbel, size_of_app]; omega
        have F2 := Lib.hid (Fit_any bel (by omega))
        have F3 := Lib.hid (Fit_any n (by omega))
        have C2 := Lib.hid (Split_any n (by omega))
        have D1 := Lib.hid (Dir_any bel (by omega))
        have N1 := Lib.hid (Name_any n)
        rw [hbl] at F2 D1
        have HAS := Lib.hid hasl; have HBEL := Lib.hid hbel
        clear hasl hbel hbl haz hfit hp hKK hK hcnt hK8
        go_enter Tryd.func7, Tryd.ntmps7
        go_wp2_with fail
        refine (F1.out _).mono ?_
        rintro e u3 ⟨rfl, hb3⟩
        have hB := hb3
        go_wp2_with fail
        refine (C1.out _).mono ?_
        rintro e u0 ⟨v, rfl, ⟨hm, a, cap, rfl, _, hc⟩, hb0⟩
        replace hB := below_step hB hb0
        rw [HKL.out]
        clear hb0 hc hm
        go_wp2_with fail
        go_loop [6, 27] (fun c i => ∃ (k : Nat), k ≤ s.size ∧ i = .int .i64 k ∧ c = .int .i64 ((slashes s.data.toList k + 1 : Nat) : Int)) (fun _ i => s.size - (intOf i).toNat)
        case atStart => exact ⟨0, Nat.zero_le _, rfl, rfl⟩
        case round =>
          obtain ⟨k, hk, rfl, rfl⟩ := hrel
          have hle := slashes_le s.data.toList k
          by_cases hlt : k < s.size
          · have hbk : decide ((k : Int) < (s.size : Int)) = true := by simpa using (show (k : Int) < s.size by omega)
            by_cases b47 : s[k] = 47
            · have c1 : ((s[k].toNat : Int) == 47) = true := by rw [b47]; rfl
              have HS := Lib.hid (slashes_yes hlt b47)
              obtain ⟨q, hq⟩ : ∃ q, q = slashes s.data.toList k := ⟨_, rfl⟩
              rw [← hq] at HS hle ⊢
              clear b47 hq
              go_wp2_with fail
              go_round
              case rel => exact ⟨k + 1, by omega, by go_num, val_i (by rw [HS.out]; omega)⟩
              case measure => simp [intOf]; omega
            · have c1 : ((s[k].toNat : Int) == 47) = false := byte_ne (n := 47) (by decide) b47
              have HS := Lib.hid (slashes_no hlt b47)
              obtain ⟨q, hq⟩ : ∃ q, q = slashes s.data.toList k := ⟨_, rfl⟩
              rw [← hq] at HS hle ⊢
              clear b47 hq
              go_wp2_with fail
              go_round
              case rel => exact ⟨k + 1, by omega, by go_num, val_i (by rw [HS.out])⟩
              case measure => simp [intOf]; omega
          · obtain rfl : k = s.size := by omega
            have hbk : decide ((s.size : Int) < (s.size : Int)) = false := by simp
            rw [HCNT.out]
            clear hle
            go_wp2_with fail
            rw [← HAS.out, ← HBEL.out]
            go_wp2_with fail
            by_cases hlt8 : K < 8
            · have g8 : decide ((K : Int) < 8) = true := decide_eq_true (by omega)
              have g9 : decide ((8 : Int) ≤ (K : Int)) = false := decide_eq_false (by omega)
              by_cases hfn : 0 < (splitS n.data.toList).length
              · have hf3 : isPath n.data.toList = true := decide_eq_true hfn
                rw [hf3] at F3
                by_cases hle8 : ((splitS n.data.toList).length : Int) ≤ 8 - (K : Int)
                · have hf2 : isPath (s.data.toList ++ 47 :: n.data.toList) = true := decide_eq_true (HDEEP.out.2 ⟨hlt8, hfn, hle8⟩)
                  rw [hf2] at F2
                  clear hf2
                  refine (F2.out _).mono ?_
                  rintro e u51 ⟨rfl, hb51⟩
                  replace hB := below_step hB hb51
                  clear hb51
                  clear hfn hf3
                  go_wp2_with fail
                  refine (F3.out _).mono ?_
                  rintro e u52 ⟨rfl, hb52⟩
                  replace hB := below_step hB hb52
                  clear hb52
                  go_wp2_with fail
                  refine (C2.out _).mono ?_
                  rintro e u53 ⟨v3, rfl, ⟨hm3, a3, cap3, rfl, _, hc3⟩, hb53⟩
                  replace hB := below_step hB hb53
                  rw [strsOf_len]
                  obtain ⟨m, hm⟩ : ∃ m, m = (splitS n.data.toList).length := ⟨_, rfl⟩
                  rw [← hm] at hle8 ⊢
                  have hm8 : m ≤ 8 := by rw [hm]; exact splitS_le _
                  clear hb53 hc3 hm3 hm
                  have g10 : decide ((m : Int) ≤ 8 - (K : Int)) = true := decide_eq_true (by omega)
                  rcases hnm : nameB n.data.toList with _ | _
                  · rw [hnm] at N1
                    clear hnm
                    go_wp2_with fail
                    refine (N1.out _).mono ?_
                    rintro e u8 ⟨rfl, hb8⟩
                    replace hB := below_step hB hb8
                    clear hb8
                    go_wp2_with fail
                    refine (AW.out _).mono ?_
                    rintro e u9 ⟨rfl, hb9⟩
                    replace hB := below_step hB hb9
                    clear hb9
                    go_wp2
                    go_ret
                    exact ⟨rfl, hB⟩
                  · have hd := HDIR.out hnm hlt8
                    rw [hd, str_same s] at D1
                    rw [hnm] at N1
                    clear hnm hd
                    go_wp2_with fail
                    refine (N1.out _).mono ?_
                    rintro e u10 ⟨rfl, hb10⟩
                    replace hB := below_step hB hb10
                    clear hb10
                    go_wp2_with fail
                    refine (D1.out _).mono ?_
                    rintro e u11 ⟨rfl, hb11⟩
                    replace hB := below_step hB hb11
                    clear hb11
                    go_wp2_with fail
                    refine (AW.out _).mono ?_
                    rintro e u12 ⟨rfl, hb12⟩
                    replace hB := below_step hB hb12
                    clear hb12
                    go_wp2
                    go_ret
                    exact ⟨rfl, hB⟩
                · have hf2 : isPath (s.data.toList ++ 47 :: n.data.toList) = false := decide_eq_false (fun h => hle8 (HDEEP.out.1 h).2.2)
                  rw [hf2] at F2
                  clear hf2
                  refine (F2.out _).mono ?_
                  rintro e u51 ⟨rfl, hb51⟩
                  replace hB := below_step hB hb51
                  clear hb51
                  clear hfn hf3
                  go_wp2_with fail
                  refine (F3.out _).mono ?_
                  rintro e u52 ⟨rfl, hb52⟩
                  replace hB := below_step hB hb52
                  clear hb52
                  go_wp2_with fail
                  refine (C2.out _).mono ?_
                  rintro e u53 ⟨v3, rfl, ⟨hm3, a3, cap3, rfl, _, hc3⟩, hb53⟩
                  replace hB := below_step hB hb53
                  rw [strsOf_len]
                  obtain ⟨m, hm⟩ : ∃ m, m = (splitS n.data.toList).length := ⟨_, rfl⟩
                  rw [← hm] at hle8 ⊢
                  have hm8 : m ≤ 8 := by rw [hm]; exact splitS_le _
                  clear hb53 hc3 hm3 hm
                  have g10 : decide ((m : Int) ≤ 8 - (K : Int)) = false := decide_eq_false (by omega)
                  rcases hnm : nameB n.data.toList with _ | _
                  · rw [hnm] at N1
                    clear hnm
                    go_wp2_with fail
                    refine (N1.out _).mono ?_
                    rintro e u13 ⟨rfl, hb13⟩
                    replace hB := below_step hB hb13
                    clear hb13
                    go_wp2_with fail
                    refine (AW.out _).mono ?_
                    rintro e u14 ⟨rfl, hb14⟩
                    replace hB := below_step hB hb14
                    clear hb14
                    go_wp2
                    go_ret
                    exact ⟨rfl, hB⟩
                  · have hd := HDIR.out hnm hlt8
                    rw [hd, str_same s] at D1
                    rw [hnm] at N1
                    clear hnm hd
                    go_wp2_with fail
                    refine (N1.out _).mono ?_
                    rintro e u15 ⟨rfl, hb15⟩
                    replace hB := below_step hB hb15
                    clear hb15
                    go_wp2_with fail
                    refine (D1.out _).mono ?_
                    rintro e u16 ⟨rfl, hb16⟩
                    replace hB := below_step hB hb16
                    clear hb16
                    go_wp2_with fail
                    refine (AW.out _).mono ?_
                    rintro e u17 ⟨rfl, hb17⟩
                    replace hB := below_step hB hb17
                    clear hb17
                    go_wp2
                    go_ret
                    exact ⟨rfl, hB⟩
              · have hf3 : isPath n.data.toList = false := decide_eq_false hfn
                rw [hf3] at F3
                have hf2 : isPath (s.data.toList ++ 47 :: n.data.toList) = false := decide_eq_false (fun h => hfn (HDEEP.out.1 h).2.1)
                rw [hf2] at F2
                clear hf2
                refine (F2.out _).mono ?_
                rintro e u51 ⟨rfl, hb51⟩
                replace hB := below_step hB hb51
                clear hb51
                clear hfn hf3
                go_wp2_with fail
                refine (F3.out _).mono ?_
                rintro e u18 ⟨rfl, hb18⟩
                replace hB := below_step hB hb18
                clear hb18
                rcases hnm : nameB n.data.toList with _ | _
                · rw [hnm] at N1
                  clear hnm
                  go_wp2_with fail
                  refine (N1.out _).mono ?_
                  rintro e u19 ⟨rfl, hb19⟩
                  replace hB := below_step hB hb19
                  clear hb19
                  go_wp2_with fail
                  refine (AW.out _).mono ?_
                  rintro e u20 ⟨rfl, hb20⟩
                  replace hB := below_step hB hb20
                  clear hb20
                  go_wp2
                  go_ret
                  exact ⟨rfl, hB⟩
                · have hd := HDIR.out hnm hlt8
                  rw [hd, str_same s] at D1
                  rw [hnm] at N1
                  clear hnm hd
                  go_wp2_with fail
                  refine (N1.out _).mono ?_
                  rintro e u21 ⟨rfl, hb21⟩
                  replace hB := below_step hB hb21
                  clear hb21
                  go_wp2_with fail
                  refine (D1.out _).mono ?_
                  rintro e u22 ⟨rfl, hb22⟩
                  replace hB := below_step hB hb22
                  clear hb22
                  go_wp2_with fail
                  refine (AW.out _).mono ?_
                  rintro e u23 ⟨rfl, hb23⟩
                  replace hB := below_step hB hb23
                  clear hb23
                  go_wp2
                  go_ret
                  exact ⟨rfl, hB⟩
            · have g8 : decide ((K : Int) < 8) = false := decide_eq_false (by omega)
              have hf2 : isPath (s.data.toList ++ 47 :: n.data.toList) = false := decide_eq_false (fun h => hlt8 (HDEEP.out.1 h).1)
              rw [hf2] at F2
              clear hf2
              have g9 : decide ((8 : Int) ≤ (K : Int)) = true := decide_eq_true (by omega)
              refine (F2.out _).mono ?_
              rintro e u50 ⟨rfl, hb50⟩
              replace hB := below_step hB hb50
              clear hb50
              rcases hnm : nameB n.data.toList with _ | _
              · rw [hnm] at N1
                clear hnm
                go_wp2_with fail
                refine (N1.out _).mono ?_
                rintro e u4 ⟨rfl, hb4⟩
                replace hB := below_step hB hb4
                clear hb4
                go_wp2_with fail
                refine (AW.out _).mono ?_
                rintro e u5 ⟨rfl, hb5⟩
                replace hB := below_step hB hb5
                clear hb5
                go_wp2
                go_ret
                exact ⟨rfl, hB⟩
              · rw [hnm] at N1
                clear hnm
                go_wp2_with fail
                refine (N1.out _).mono ?_
                rintro e u6 ⟨rfl, hb6⟩
                replace hB := below_step hB hb6
                clear hb6
                go_wp2_with fail
                refine (AW.out _).mono ?_
                rintro e u7 ⟨rfl, hb7⟩
                replace hB := below_step hB hb7
                clear hb7
                go_wp2
                go_ret
                exact ⟨rfl, hB⟩
      · have hfit : isPath s.data.toList = false := decide_eq_false hp
        rw [hfit] at F1
        clear hp hfit
        go_enter Tryd.func7, Tryd.ntmps7
        go_wp2_with fail
        refine (F1.out _).mono ?_
        rintro e u24 ⟨rfl, hb24⟩
        have hB := hb24
        go_wp2_with fail
        refine (AW.out _).mono ?_
        rintro e u25 ⟨rfl, hb25⟩
        replace hB := below_step hB hb25
        clear hb25
        go_wp2
        go_ret
        exact ⟨rfl, hB⟩
end Go.Proofs.YtkodbobjaejgjaaDoor

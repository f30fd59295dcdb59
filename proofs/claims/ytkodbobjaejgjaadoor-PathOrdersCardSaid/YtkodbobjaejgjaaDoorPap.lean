/-
  Contracts over this translation: strings.Clone, strings.Index at one byte, path.Join.
-/
import Derived.Test.YtkodbobjaejgjaaDoorPao
import Derived.Test.YtkodbobjaejgjaaDoorPaj
set_option linter.unusedVariables false
namespace Go.Proofs.YtkodbobjaejgjaaDoor
open Go.RowKit Go.Shelf
attribute [local go_sem] Oper.semAt_some

theorem cloneL_any (s : ByteArray) (hs : s.size ≤ 281474976710656) (w : World) : Calls Tryd.prog 32 #[.string s] w fun e w' => e = .returned (.string s) ∧ Below w.heap.size w w' := by
  have C := AnyPu.stringslite_Clone Tryd.lays_pu25 s w hs
  change Calls Tryd.prog 32 _ _ _ at C
  refine C.mono ?_
  rintro e w' ⟨h1, h2⟩
  exact ⟨h1, h2⟩
theorem Clone_any (s : ByteArray) (hs : s.size ≤ 281474976710656) (w : World) : Calls Tryd.prog 24 #[.string s] w fun e w' => e = .returned (.string s) ∧ Below w.heap.size w w' := by
  go_enter Tryd.func24, Tryd.ntmps24
  go_wp2_with fail
  refine (cloneL_any s hs _).mono ?_
  rintro e w1 ⟨rfl, hb⟩
  go_wp2
  go_ret
  exact ⟨rfl, hb⟩

theorem joinS_small : ∀ {L : List (List UInt8)}, (∀ p ∈ L, p.length ≤ 31) → (joinS L).length ≤ 32 * L.length
  | [], _ => Nat.zero_le _
  | [a], h => by have := h a (List.mem_cons_self ..); show a.length ≤ _; simp; omega
  | a :: b :: r, h => by
    have := joinS_small (L := b :: r) (fun p hp => h p (List.mem_cons_of_mem _ hp))
    have h1 := h a (List.mem_cons_self ..)
    show (a ++ 47 :: joinS (b :: r)).length ≤ _
    rw [List.length_append, List.length_cons]
    simp only [List.length_cons] at this ⊢
    omega

set_option maxRecDepth 100000 in
set_option maxHeartbeats 2000000 in
theorem Join_any (v : Value) (L : List ByteArray) (w : World) (hv : IsStrs w v L) :
    Calls Tryd.prog 20 #[v] w fun e w' => e = .returned (.string ⟨(joinN (txts L)).toArray⟩) ∧ Below w.heap.size w w' := by
  have HV := Lib.hid hv
  obtain ⟨hm, a, cap, rfl, _, hc⟩ := hv
  have hmm : L.length ≤ 9223372036854775807 := by unfold maxLen at hm; omega
  have HC := Lib.hid hc
  have HLEN := Lib.hid (txts_len L)
  clear hm hc
  by_cases h8 : 8 < L.length
  · have e1 : decide ((8 : Int) < (L.length : Int)) = true := decide_eq_true (by omega)
    have HN : Hid (joinN (txts L) = []) := joinN_long (by rw [HLEN.out]; exact h8)
    go_enter Tryd.func20, Tryd.ntmps20
    go_wp2
    go_ret
    exact ⟨by rw [HN.out]; rfl, Below.refl _ _⟩
  · have e1 : decide ((8 : Int) < (L.length : Int)) = false := decide_eq_false (by omega)
    have NA := Lib.hid Name_any
    go_enter Tryd.func20, Tryd.ntmps20
    go_wp2_with fail
    go_loopw [10] (fun i wr => ∃ (k : Nat), k ≤ L.length ∧ i = .int .i64 k ∧ NamesTo (txts L) k ∧ Below w.heap.size w wr) (fun i _ => L.length - (intOf i).toNat)
    case atStart => exact ⟨0, Nat.zero_le _, rfl, names_zero _, Below.refl _ _⟩
    case round =>
      obtain ⟨k, hk, rfl, hn, hb⟩ := hrel
      have HN := Lib.hid hn; clear hn
      by_cases hlt : k < L.length
      · obtain ⟨b1, o1, rfl, hbl, g1⟩ := HC.out (by omega)
        have q1 := (hb.cell (p := ⟨b1, o1 + k, none⟩) hbl).trans (g1 k hlt)
        clear g1
        have hlt2 : k < (txts L).length := by rw [HLEN.out]; exact hlt
        have hin : (txts L)[k] = L[k].data.toList := txts_get hlt
        obtain ⟨y, hy⟩ : ∃ y, y = L[k] := ⟨_, rfl⟩
        rw [← hy] at q1 hin
        have HY := Lib.hid hin; clear hin hy
        have hbk : decide ((k : Int) < (L.length : Int)) = true := by simpa using (show (k : Int) < L.length by omega)
        have R := Lib.hid (NA.out y)
        rcases hnb : nameB y.data.toList with _ | _
        · have HS : Hid (joinN (txts L) = []) := joinN_bad (List.getElem_mem hlt2) (by rw [HY.out]; exact hnb)
          rw [hnb] at R
          clear hnb
          go_wp2_with ((with_reducible refine (R.out _).mono ?_); rintro e w2 ⟨rfl, hb2⟩)
          go_ret
          exact ⟨by rw [HS.out]; rfl, hb.trans (hb2.mono hb.size)⟩
        · have HS := Lib.hid (names_step HN.out hlt2 (by rw [HY.out]; exact hnb))
          rw [hnb] at R
          clear hnb
          go_wp2_with ((with_reducible refine (R.out _).mono ?_); rintro e w2 ⟨rfl, hb2⟩)
          go_roundw
          case rel => exact ⟨k + 1, by omega, by go_num, HS.out, hb.trans (hb2.mono hb.size)⟩
          case measure => simp [intOf]; omega
      · obtain rfl : k = L.length := by omega
        have hall : (txts L).all nameB = true := names_all (by rw [HLEN.out]; exact HN.out)
        have HS : Hid (joinN (txts L) = joinS (txts L)) := joinN_small (by rw [HLEN.out]; omega) hall
        have hev : ∀ x ∈ L, 1 ≤ x.size ∧ x.size ≤ 31 := fun x hx => by
          have := nameB_iff.1 (List.all_eq_true.1 hall x.data.toList (List.mem_map.2 ⟨x, hx, rfl⟩))
          rw [← Lib.size_eq] at this; exact ⟨this.1, this.2.1⟩
        have hsz : (⟨(joinS (txts L)).toArray⟩ : ByteArray).size ≤ 281474976710656 := by
          have := joinS_small (L := txts L) (fun p hp => (nameB_iff.1 (List.all_eq_true.1 hall p hp)).2.1)
          rw [HLEN.out] at this
          show (joinS (txts L)).toArray.size ≤ _
          rw [List.size_toArray]; omega
        have J := Lib.hid (slJoin_any _ L wr (HV.out.stays hb) (by omega) hev)
        have CL := Lib.hid (Clone_any _ hsz)
        clear hall hev hsz
        go_wp2_with fail
        refine J.out.mono ?_
        rintro e w2 ⟨rfl, hb2⟩
        go_wp2_with fail
        refine (CL.out _).mono ?_
        rintro e w3 ⟨rfl, hb3⟩
        have hB := (hb.trans (hb2.mono hb.size)).trans (hb3.mono (Nat.le_trans hb.size hb2.size))
        go_wp2
        go_ret
        exact ⟨by rw [HS.out]; rfl, hB⟩
end Go.Proofs.YtkodbobjaejgjaaDoor

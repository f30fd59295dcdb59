/-
  Layer 3: the statement FrameBack as a walk over this translation.
-/
import Derived.Test.YtnoacceihaedbaaFwa
import Derived.Test.YtnoacceihaedbaaOps
set_option linter.unusedVariables false
namespace Go.Proofs.Ytnoacceihaedbaa
open Go.RowKit

def listsOf (L : List ByteArray) : List (List UInt8) := L.map (·.data.toList)
theorem strsOf_lists (L : List ByteArray) : strsOf (listsOf L) = L := by
  unfold strsOf listsOf; rw [List.map_map]
  conv => rhs; rw [← List.map_id L]
  rfl
theorem Open_wrap (t : ByteArray) (ht : t.size ≤ 1000) (x : ByteArray) (hx : x = ⟨(fwrap t.data.toList).toArray⟩) (s : ByteArray) (hs : s.size ≤ 1000) (w : World) :
    Calls Try.prog 8 #[.string (x ++ s)] w fun e w' => e = .returned (.tuple #[.string t, .int .i64 x.size, .int .i64 0]) ∧ Below w.heap.size w w' := by
  have h6 : t.data.toList.length ≤ 65536 := by rw [← Lib.size_eq]; omega
  have hl := (fwrap_len h6).2
  rw [← Lib.size_eq] at hl
  have hxs : x.size = (fwrap t.data.toList).length := by rw [hx, size_mk]
  refine (Open_any _ ?_ w).mono fun e w' ⟨he, hb⟩ => ⟨?_, hb⟩
  · rw [ByteArray.size_append]; unfold maxLen; omega
  · rw [he, hxs, hx, bytes_append]
    simp only []
    rw [fopen_fwrap h6]; rfl
theorem wraps_take (L : List ByteArray) (k : Nat) (h : k < L.length) : wraps (listsOf (L.take (k + 1))) = wraps (listsOf (L.take k)) ++ fwrap L[k].data.toList := by
  rw [List.take_succ_eq_append_getElem h]
  unfold listsOf; rw [List.map_append, List.map_singleton, wraps_snoc]

set_option maxRecDepth 100000 in
set_option maxHeartbeats 2000000 in
theorem FrameBack_walk (v : Value) (L : List ByteArray) (s : ByteArray) (hs : s.size ≤ maxLen) (cut : Nat) (hcut : cut < 65536) (w : World) (hv : IsStrs w v L) :
    Calls Try.prog 4 #[v, .string s, .int .u16 cut] w fun e w' => e = .returned (.bool true) ∧ Below w.heap.size w w' := by
  have HV := Lib.hid hv
  obtain ⟨hm, a, cap, rfl, _, hc⟩ := hv
  have hmm : L.length ≤ 9223372036854775807 := by unfold maxLen at hm; omega
  have HC := Lib.hid hc; clear hc hm
  by_cases g1 : L.length ≤ 20
  · by_cases g2 : s.size ≤ 1000
    · go_enter Try.func4, Try.ntmps4
      go_wp2_with fail
      go_loopw [7, 28] (fun q i wr => ∃ k : Nat, k ≤ L.length ∧ i = .int .i64 k ∧ q = .string ⟨(wraps (listsOf (L.take k))).toArray⟩ ∧ (∀ t ∈ L.take k, t.size ≤ 1000) ∧ Below w.heap.size w wr) (fun _ i _ => L.length - (intOf i).toNat)
      case atStart => exact ⟨0, Nat.zero_le _, rfl, rfl, fun t ht => (by cases ht), Below.refl _ _⟩
      case round =>
        obtain ⟨k, hk, rfl, rfl, hall, hB⟩ := hrel
        have HALL := Lib.hid hall
        have hwl : (wraps (listsOf (L.take k))).length ≤ 1014 * 20 := by
          have := wraps_len (L := listsOf (L.take k)) (m := 1000) (fun t ht => by
            obtain ⟨y, hy, rfl⟩ := List.mem_map.1 ht
            rw [← Lib.size_eq]; exact hall y hy)
          have h2 : (listsOf (L.take k)).length ≤ 20 := by unfold listsOf; rw [List.length_map, List.length_take]; omega
          have h3 := Nat.mul_le_mul_left 1014 h2
          omega
        obtain ⟨A, hA⟩ : ∃ A : ByteArray, A = ⟨(wraps (listsOf (L.take k))).toArray⟩ := ⟨_, rfl⟩
        have hAs : A.size ≤ 20280 := by rw [hA, size_mk]; exact hwl
        rw [← hA]
        have HA := Lib.hid hA
        clear hall hwl hA
        by_cases hlt : k < L.length
        · obtain ⟨b, off, rfl, hbl, hcell⟩ := HC.out (by omega)
          have c0 := hcell k hlt
          rw [← hB.cell (p := ⟨b, off + k, none⟩) hbl] at c0
          have hws := wraps_take L k hlt
          have hpt : ∀ t ∈ L.take (k + 1), t ∈ L.take k ∨ t = L[k] := fun t ht => by
            rw [List.take_succ_eq_append_getElem hlt] at ht
            rcases List.mem_append.1 ht with h | h
            · exact .inl h
            · exact .inr (List.mem_singleton.1 h)
          obtain ⟨t, ht⟩ : ∃ t, t = L[k] := ⟨_, rfl⟩
          rw [← ht] at c0 hws hpt
          have HT := Lib.hid ht; have HW := Lib.hid hws; have HPT := Lib.hid hpt
          clear hcell ht hws hpt
          have hbk : decide ((k : Int) < (L.length : Int)) = true := by simpa using (show (k : Int) < L.length by omega)
          by_cases g3 : t.size ≤ 1000
          · have hts : t.size ≤ maxLen := by unfold maxLen; omega
            have hl := (fwrap_len (l := t.data.toList) (by rw [← Lib.size_eq]; omega)).2
            rw [← Lib.size_eq] at hl
            obtain ⟨x, hx⟩ : ∃ x : ByteArray, x = ⟨(fwrap t.data.toList).toArray⟩ := ⟨_, rfl⟩
            have hxs : x.size ≤ 1014 := by rw [hx, size_mk]; omega
            have hP := fun W => Wrap_any t hts W
            rw [← hx] at hP
            have hO := fun W => Open_wrap t g3 x hx s g2 W
            have HX := Lib.hid hx; have HP := Lib.hid hP; have HO := Lib.hid hO
            have hs1 : ¬ 9223372036854775807 < x.size + s.size := by omega
            have hs2 : ¬ 9223372036854775807 < A.size + x.size := by omega
            clear hl hx hP hO hts
            go_wp2_with fail
            refine (HP.out _).mono ?_
            rintro e w1 ⟨rfl, hb1⟩
            go_wp2_with fail
            refine (HO.out _).mono ?_
            rintro e w2 ⟨rfl, hb2⟩
            go_wp2
            go_roundw
            case rel => exact ⟨k + 1, by omega, by go_num, by rw [HW.out, ← app_mk, ← HA.out, ← HX.out], fun y hy => by
              rcases HPT.out y hy with h | h
              · exact HALL.out y h
              · rw [h]; exact g3, below_step (below_step hB hb1) hb2⟩
            case measure => simp [intOf]; omega
          · go_wp2_with fail
            refine (awake_any _).mono ?_
            rintro e w5 ⟨rfl, hb5⟩
            go_wp2_with fail
            go_ret
            exact ⟨rfl, below_step hB hb5⟩
        · have hke : L.take k = L := List.take_of_length_le (by omega)
          have h6 : s.data.toList.length ≤ 65536 := by rw [← Lib.size_eq]; omega
          obtain ⟨x, hx⟩ : ∃ x : ByteArray, x = ⟨(fwrap s.data.toList).toArray⟩ := ⟨_, rfl⟩
          have hl := fwrap_len h6
          rw [← Lib.size_eq] at hl
          have hxf : x.size = (fwrap s.data.toList).length := by rw [hx, size_mk]
          rw [← hxf] at hl
          obtain ⟨hl1, hl2⟩ := hl
          have hP := fun W => Wrap_any s hs W
          rw [← hx] at hP
          obtain ⟨r, hr⟩ : ∃ r, r = cut % x.size := ⟨_, rfl⟩
          have hrx : r < x.size := by rw [hr]; exact Nat.mod_lt _ (by omega)
          have hrt : (cut : Int).tmod (x.size : Int) = (r : Int) := by
            rw [hr, Int.tmod_eq_emod_of_nonneg (by omega)]; rfl
          have hrn : (x.size : Int) ≠ 0 := by omega
          have hsl := fun W => run_slice_to (P := Try.prog) Try.underlying9 x r (by omega) W
          have hxl : x.toList ≠ [] := fun e => by
            rw [Lib.toList_data] at e
            have : x.size = 0 := by rw [Lib.size_eq, e]; rfl
            omega
          have hx1 : (x.toList == []) = false := by simpa using hxl
          have hx2 : x.toList.isEmpty = false := by simpa using hxl
          have hsz1 : (x.extract 0 r).size ≤ 1014 := by rw [ByteArray.size_extract]; omega
          have hsum : ¬ 9223372036854775807 < A.size + (x.extract 0 r).size := by omega
          have hSC := fun W => Scan_any (A ++ x.extract 0 r) (by rw [ByteArray.size_append]; omega) W
          have hL6 : ∀ t ∈ listsOf L, t.length ≤ 65536 := fun t ht => by
            obtain ⟨y, hy, rfl⟩ := List.mem_map.1 ht
            rw [← Lib.size_eq]
            have := HALL.out y (by rw [hke]; exact hy)
            omega
          obtain ⟨f1, f2⟩ := textsOf_wraps_part hL6 h6 r (by omega)
          have hAl : A.data.toList = wraps (listsOf L) := by rw [HA.out, hke]
          have hdl : (A ++ x.extract 0 r).data.toList = wraps (listsOf L) ++ (fwrap s.data.toList).take r := by
            rw [ByteArray.data_append, Array.toList_append, Lib.extract_data, hAl, hx]; rfl
          have hAz : A.size = (wraps (listsOf L)).length := by rw [Lib.size_eq, hAl]
          rw [hdl] at hSC
          unfold RetScan at hSC
          rw [f1, f2, strsOf_lists, ← hAz] at hSC
          have HSC := Lib.hid hSC; have HP := Lib.hid hP; have HRT := Lib.hid hrt; have HRN := Lib.hid hrn
          have hge : decide ((k : Int) < (L.length : Int)) = false := by simp; omega
          clear hSC hP hrt hrn hxl hL6 f1 f2 hAl hdl hAz hx hxf hr hke h6
          go_wp2_with fail
          refine (HP.out _).mono ?_
          rintro e w1 ⟨rfl, hb1⟩
          go_wp2_with (refine wpList_rem rfl _ _ _ _ rfl .i64 _ _ (r : Int) rfl rfl HRN.out HRT.out ?_)
          refine (HSC.out _).mono ?_
          rintro e w2 ⟨v2, rfl, hv2, hb2⟩
          have hv1 := HV.out.stays (below_step (below_step hB hb1) hb2)
          go_wp2_with fail
          refine (Same_eq _ _ _ _ hv2 hv1).mono ?_
          rintro e w3 ⟨rfl, hb3⟩
          go_wp2_with fail
          refine (awake_any _).mono ?_
          rintro e w4 ⟨rfl, hb4⟩
          go_wp2_with fail
          go_ret
          exact ⟨rfl, below_step (below_step (below_step (below_step hB hb1) hb2) hb3) hb4⟩
    · go_enter Try.func4, Try.ntmps4
      go_wp2_with fail
      refine (awake_any _).mono ?_
      rintro e w5 ⟨rfl, hb5⟩
      go_wp2_with fail
      go_ret
      exact ⟨rfl, hb5⟩
  · go_enter Try.func4, Try.ntmps4
    go_wp2_with fail
    refine (awake_any _).mono ?_
    rintro e w5 ⟨rfl, hb5⟩
    go_wp2_with fail
    go_ret
    exact ⟨rfl, hb5⟩
end Go.Proofs.Ytnoacceihaedbaa

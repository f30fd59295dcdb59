/-
  Contracts over this translation: digits: half, Hex, and the document's.
-/
import Derived.Test.YteiflmdnakhekaaKej
import Derived.Test.YteiflmdnakhekaaKed
import Derived.Test.YteiflmdnakhekaaShl
import Derived.Test.YteiflmdnakhekaaBul
import Derived.Test.YteiflmdnakhekaaRow
import Derived.Test.YteiflmdnakhekaaCon
import Derived.Test.YteiflmdnakhekaaSlb
import Derived.Test.YteiflmdnakhekaaArr
import Derived.Shelf.Small.Strs
import Derived.Shelf.Strings.Search1
import Derived.Laws.BitsAllLaws
import Derived.IntWalk
import Derived.WalkSmall
import Derived.StillTailTactics
import Derived.Deep.RegionHeldLaw
import Derived.Deep.AppendLies
import Derived.Great.BuildSlice
import Derived.BigRegion
set_option linter.unusedVariables false
namespace Go.Proofs.Yteiflmdnakhekaa
open Go.RowKit
attribute [local go_sem] Oper.semAt_some

theorem index_val (u : UInt8) : Lib.indexByte [48, 49, 50, 51, 52, 53, 54, 55, 56, 57, 97, 98, 99, 100, 101, 102] u = val u := by
  have : ∀ u : UInt8, Lib.indexByte [48, 49, 50, 51, 52, 53, 54, 55, 56, 57, 97, 98, 99, 100, 101, 102] u = val u := all_u8 (by decide +kernel)
  exact this u
theorem IndexByte_any (u : UInt8) (w : World) :
    Calls Try.prog 46 #[.string ⟨#[48, 49, 50, 51, 52, 53, 54, 55, 56, 57, 97, 98, 99, 100, 101, 102]⟩, .int .u8 u.toNat] w fun e w' => e = .returned (.int .i64 (val u)) ∧ w = w' := by
  have C := Any.strings_IndexByte Try.lays137 ⟨#[48, 49, 50, 51, 52, 53, 54, 55, 56, 57, 97, 98, 99, 100, 101, 102]⟩ (u.toNat : Int) w
  change Calls Try.prog 46 _ _ _ at C
  refine C.mono ?_
  rintro e w' ⟨rfl, rfl⟩
  refine ⟨?_, rfl⟩
  rw [← index_val]
  simp
theorem half_any (u : UInt8) (w : World) :
    Calls Try.prog 37 #[.int .u8 u.toNat] w fun e w' => e = .returned (.int .i64 (val u)) ∧ w = w' := by
  have C := Lib.hid (IndexByte_any u w)
  go_enter Try.func37, Try.ntmps37
  go_wp2_with fail
  refine C.out.mono ?_
  rintro e w' ⟨rfl, rfl⟩
  go_wp2
  go_ret
  exact ⟨rfl, rfl⟩

def valN (n : Nat) : Int := if 48 ≤ n ∧ n ≤ 57 then (n : Int) - 48 else if 97 ≤ n ∧ n ≤ 102 then (n : Int) - 87 else -1
theorem digit_n (n : Nat) (hn : n < 256) (w : World) :
    Calls Try.prog 38 #[.int .u8 (n : Int)] w fun e w' => e = .returned (.int .i64 (valN n)) ∧ w = w' := by
  by_cases h1 : 48 ≤ n ∧ n ≤ 57
  · have HV := Lib.hid (show valN n = (n : Int) - 48 from if_pos h1)
    have a1 : decide ((48 : Int) ≤ (n : Int)) = true := by simp; omega
    have a2 : decide ((n : Int) ≤ 57) = true := by simp; omega
    go_enter Try.func38, Try.ntmps38
    go_wp2
    go_ret
    exact ⟨ret_val (congrArg (Value.int .i64) (show (n : Int) - 48 = valN n by rw [HV.out])), rfl⟩
  · by_cases h2 : 97 ≤ n ∧ n ≤ 102
    · have HV := Lib.hid (show valN n = (n : Int) - 87 by rw [valN, if_neg h1, if_pos h2])
      have a1 : decide ((48 : Int) ≤ (n : Int)) = true := by simp; omega
      have a2 : decide ((n : Int) ≤ 57) = false := by simp; omega
      have a3 : decide ((97 : Int) ≤ (n : Int)) = true := by simp; omega
      have a4 : decide ((n : Int) ≤ 102) = true := by simp; omega
      go_enter Try.func38, Try.ntmps38
      go_wp2
      go_ret
      exact ⟨ret_val (congrArg (Value.int .i64) (show (n : Int) - 97 + 10 = valN n by rw [HV.out]; omega)), rfl⟩
    · have HV := Lib.hid (show valN n = -1 by rw [valN, if_neg h1, if_neg h2])
      by_cases c1 : 48 ≤ n
      · have a1 : decide ((48 : Int) ≤ (n : Int)) = true := by simp; omega
        have a2 : decide ((n : Int) ≤ 57) = false := by simp; omega
        by_cases c2 : 97 ≤ n
        · have a3 : decide ((97 : Int) ≤ (n : Int)) = true := by simp; omega
          have a4 : decide ((n : Int) ≤ 102) = false := by simp; omega
          go_enter Try.func38, Try.ntmps38
          go_wp2
          go_ret
          exact ⟨ret_val (congrArg (Value.int .i64) (show (-1 : Int) = valN n by rw [HV.out])), rfl⟩
        · have a3 : decide ((97 : Int) ≤ (n : Int)) = false := by simp; omega
          go_enter Try.func38, Try.ntmps38
          go_wp2
          go_ret
          exact ⟨ret_val (congrArg (Value.int .i64) (show (-1 : Int) = valN n by rw [HV.out])), rfl⟩
      · have a1 : decide ((48 : Int) ≤ (n : Int)) = false := by simp; omega
        have a3 : decide ((97 : Int) ≤ (n : Int)) = false := by simp; omega
        go_enter Try.func38, Try.ntmps38
        go_wp2
        go_ret
        exact ⟨ret_val (congrArg (Value.int .i64) (show (-1 : Int) = valN n by rw [HV.out])), rfl⟩
theorem digit_any (u : UInt8) (w : World) :
    Calls Try.prog 38 #[.int .u8 u.toNat] w fun e w' => e = .returned (.int .i64 (val u)) ∧ w = w' := digit_n u.toNat u.toNat_lt w

theorem digs_get {n : Nat} (h : n < 16) : (⟨#[48, 49, 50, 51, 52, 53, 54, 55, 56, 57, 97, 98, 99, 100, 101, 102]⟩ : ByteArray)[n]'h = dgt n := by
  have : ∀ n : Fin 16, (⟨#[48, 49, 50, 51, 52, 53, 54, 55, 56, 57, 97, 98, 99, 100, 101, 102]⟩ : ByteArray)[n.1]'n.2 = dgt n := by decide
  exact this ⟨n, h⟩

set_option maxRecDepth 100000 in
set_option maxHeartbeats 2000000 in
theorem Hex_any (s : ByteArray) (hs : s.size ≤ 1000000) (w : World) :
    Calls Try.prog 25 #[.string s] w fun e w' => e = .returned (.string ⟨(hexL s.data.toList).toArray⟩) ∧ Below w.heap.size w w' := by
  go_enter Try.func25, Try.ntmps25
  go_wp2
  have hI0 : Lib.IsBuilderF 55 5 w.heap.size w.heap.size [] (w.alloc (.cells #[.pointer none, .slice none 0 0] 55)) :=
    Lib.IsBuilderF.of (Lib.fresh_isBuilder 55 5 w)
  have hB0 : Below w.heap.size w (w.alloc (.cells #[.pointer none, .slice none 0 0] 55)) := (Below.refl _ w).alloc (Nat.le_refl _) _
  go_loopw [7] (fun i wr => ∃ k : Nat, k ≤ s.size ∧ i = .int .i64 k ∧ Lib.IsBuilderF 55 5 w.heap.size w.heap.size (Lib.byteCells (hexL (s.data.toList.take k))) wr ∧ (s.size = 0 → wr = w.alloc (.cells #[.pointer none, .slice none 0 0] 55)) ∧ Below w.heap.size w wr) (fun i _ => s.size - (intOf i).toNat)
  case atStart => exact ⟨0, Nat.zero_le _, rfl, hI0, fun _ => rfl, hB0⟩
  case round =>
    obtain ⟨k, hk, rfl, hI, hz, hB⟩ := hrel
    by_cases hlt : k < s.size
    · have hbk : decide ((k : Int) < (s.size : Int)) = true := by simpa using (show (k : Int) < s.size by omega)
      have HI := Lib.hid hI
      clear hI hI0 hB0 hz
      have hcl := s[k].toNat_lt
      have b1 : (0 : Int) ≤ (s[k].toNat : Int) / 16 ∧ (s[k].toNat : Int) / 16 < 16 := by omega
      have b2 : (0 : Int) ≤ (s[k].toNat : Int) % 16 ∧ (s[k].toNat : Int) % 16 < 16 := by omega
      have hl := hexL_len (s.data.toList.take k)
      have hlk : (s.data.toList.take k).length ≤ k := List.length_take_le _ _
      have hsz := hB.size
      go_wp2_with fail
      refine (WriteByte_k w.heap.size w.heap.size _ _ _ HI.out (by rw [Lib.byteCells_length]; omega) hsz).mono ?_
      rintro e w1 ⟨rfl, hI1, hb1, _⟩
      have HI1 := Lib.hid hI1; clear hI1
      go_wp2_with fail
      refine (WriteByte_k w.heap.size w.heap.size _ _ _ (Or.inr HI1.out) (by rw [List.length_append, Lib.byteCells_length, List.length_singleton]; omega) (Nat.le_trans hsz hb1.size)).mono ?_
      rintro e w2 ⟨rfl, hI2, hb2, _⟩
      have HI2 := Lib.hid hI2; clear hI2
      go_wp2_with fail
      go_roundw
      case rel =>
        refine ⟨k + 1, by omega, by go_num, .inr ?_, fun h => absurd h (by omega), hB.trans (hb1.trans hb2)⟩
        have := HI2.out
        rw [digs_get (by omega), digs_get (by omega), List.append_assoc] at this
        have hkl : k < s.data.toList.length := by rw [← Lib.size_eq]; exact hlt
        rw [List.take_succ_eq_append_getElem hkl, hexL_snoc, Lib.byteCells_append]
        exact this
      case measure => simp [intOf]; omega
    · have hge : decide ((k : Int) < (s.size : Int)) = false := by simp; omega
      have hke : s.data.toList.take k = s.data.toList := List.take_of_length_le (by rw [← Lib.size_eq]; omega)
      rw [hke] at hI
      by_cases hs0 : s.size = 0
      · have hwr := hz hs0
        subst hwr
        have hs : s.data.toList = [] := List.length_eq_zero_iff.1 (by rw [← Lib.size_eq]; exact hs0)
        have HS := Lib.hid hs
        clear hs hI hke hI0
        go_wp2_with fail
        refine (String_nil_k w.heap.size w.heap.size (.pointer none) _ (heap_alloc_new w _)).mono ?_
        rintro e w2 ⟨rfl, hb2⟩
        go_wp2
        go_ret
        exact ⟨ret_val (by rw [HS.out]; rfl), hB.trans hb2⟩
      · have hne : hexL s.data.toList ≠ [] := fun h => by
          have := hexL_len s.data.toList
          rw [h, ← Lib.size_eq] at this
          simp at this; omega
        have C := Lib.hid (String_full_k w.heap.size w.heap.size _ wr hI hne)
        clear hI hke hI0 hz hne
        go_wp2_with fail
        refine C.out.mono ?_
        rintro e w2 ⟨rfl, _, hb2, _⟩
        go_wp2
        go_ret
        exact ⟨rfl, hB.trans hb2⟩

theorem news2 (W : World) (v0 v1 : Value) : ∀ j u, [v0, v1][j]? = some u → (W.alloc (.cells #[v0, v1] 5)).drew.cell? ((⟨W.heap.size, 0, none⟩ : Addr).add j) = some u := by
  intro j u hj
  match j, hj with
  | 0, hj | 1, hj => simp at hj; subst hj; simp [Addr.add]
theorem one2 (k : IntKind) (a b : Int) : ∀ u ∈ [Value.int k a, Value.int k b], u.oneCell' = true := by
  intro u hu; simp at hu; rcases hu with rfl | rfl <;> rfl
set_option maxRecDepth 100000 in
set_option maxHeartbeats 2000000 in
theorem refHex_any (s : ByteArray) (hs : s.size ≤ 400000) (w : World) :
    Calls Try.prog 26 #[.string s] w fun e w' => e = .returned (.string ⟨(hexL s.data.toList).toArray⟩) ∧ Below w.heap.size w w' := by
  go_enter Try.func26, Try.ntmps26
  go_wp2
  go_loopw [4, 5] (fun v i wr => ∃ k : Nat, k ≤ s.size ∧ i = .int .i64 k ∧ OwnByt w wr v (hexL (s.data.toList.take k)) ∧ Below w.heap.size w wr) (fun _ i _ => s.size - (intOf i).toNat)
  case atStart => exact ⟨0, Nat.zero_le _, rfl, ownByt_nil _, Below.refl _ _⟩
  case round =>
    obtain ⟨k, hk, rfl, hO, hB⟩ := hrel
    have HO := Lib.hid hO
    clear hO
    by_cases hlt : k < s.size
    · have hbk : decide ((k : Int) < (s.size : Int)) = true := by simpa using (show (k : Int) < s.size by omega)
      have hcl := s[k].toNat_lt
      have b1 : (0 : Int) ≤ (s[k].toNat : Int) / 16 ∧ (s[k].toNat : Int) / 16 < 16 := by omega
      have b2 : (0 : Int) ≤ (s[k].toNat : Int) % 16 ∧ (s[k].toNat : Int) % 16 < 16 := by omega
      have hl := hexL_len (s.data.toList.take k)
      have hlk : (s.data.toList.take k).length ≤ k := List.length_take_le _ _
      have hol : (hexL (s.data.toList.take k)).length + 2 ≤ 1000000 := by omega
      clear hl hlk
      have w1 : IntKind.u8.wrap ((s[k].toNat : Int) / 16) = (s[k].toNat : Int) / 16 := IntWalk.u8_in _ (by omega)
      have w2 : IntKind.u8.wrap ((s[k].toNat : Int) % 16) = (s[k].toNat : Int) % 16 := IntWalk.u8_in _ (by omega)
      have w3 : (s[k].toNat : Int).tmod 16 = (s[k].toNat : Int) % 16 := Int.tmod_eq_emod_of_nonneg (by omega)
      have t1 : ((s[k].toNat : Int) / 16).toNat = s[k].toNat / 16 := by omega
      have t2 : ((s[k].toNat : Int) % 16).toNat = s[k].toNat % 16 := by omega
      have D1 := digs_get (n := s[k].toNat / 16) (by omega)
      have D2 := digs_get (n := s[k].toNat % 16) (by omega)
      obtain ⟨i0, hi, hz0, hz1, hz2⟩ := info_parts infoByte
      have hsz := hB.size
      go_wp2_with fail
      go_region_held_law (fun w' => True) (first | exact trivial) (first | (refine step_append_lies _ rfl (.tmp 12) (.tmp 25) 40 rfl w.heap.size 5 i0 (.int .u8 0) 1 1 Try.underlying40 hi hz0 hz1 hz2 rfl (by decide) u4 (hexL (s.data.toList.take k)).length _ rfl (World.ownsRow.alloc HO.out _) ⟨wr.heap.size, 0, none⟩ 2 2 [.int .u8 ((dgt (s[k].toNat / 16)).toNat : Int), .int .u8 ((dgt (s[k].toNat % 16)).toNat : Int)] rfl rfl (news2 wr _ _) (one2 _ _ _) (by decide) (by unfold maxLen; omega) (by omega) (by show w.heap.size ≤ (wr.alloc _).heap.size; simp; omega) _ rfl ?_; intro g4 cap4 w6 hown4 hgrow4 hat4 hlt4))
      all_goals
        have hb6 : Below w.heap.size w w6 := ((hB.alloc hsz _).drew).grown hgrow4 (by show w.heap.size ≤ (wr.alloc _).heap.size; simp; omega) (fun kk hkk => (World.ownsRow.lt HO.out kk hkk).1)
        have hO6 : OwnByt w w6 (.slice (some ⟨g4, 0, none⟩) ((hexL (s.data.toList.take k)).length + 2) cap4) (hexL (s.data.toList.take (k + 1))) := by
          have hkl : k < s.data.toList.length := by rw [← Lib.size_eq]; exact hlt
          rw [List.take_succ_eq_append_getElem hkl, hexL_snoc]
          unfold OwnByt
          rw [List.length_append, Lib.byteCells_append]
          exact hown4
        have HO6 := Lib.hid hO6
        clear hO6 hown4 hgrow4 hat4 hlt4 D1 D2 w1 w2 w3 t1 t2 b1 b2 hcl
        go_wp2_with fail
        refine ⟨⟨k + 1, by omega, by go_num, HO6.out, hb6⟩, ?_⟩
        simp only [intOf]; omega
    · have hge : decide ((k : Int) < (s.size : Int)) = false := by simp; omega
      have hke : s.data.toList.take k = s.data.toList := List.take_of_length_le (by rw [← Lib.size_eq]; omega)
      have hO := HO.out
      rw [hke] at hO
      have HC := Lib.hid hO.conv
      clear hO hke
      go_wp2_with (refine wpList_convert rfl _ _ _ rfl _ _ _ rfl HC.out ?_)
      go_ret
      exact ⟨rfl, hB⟩
end Go.Proofs.Yteiflmdnakhekaa

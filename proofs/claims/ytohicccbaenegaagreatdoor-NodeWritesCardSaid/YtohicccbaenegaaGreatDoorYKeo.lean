/-
  Contracts over this translation: slices.Sort, slices.Compact at strings; keys' Of.
-/
import Derived.Test.YtohicccbaenegaaGreatDoorYKfi
import Derived.Test.YtohicccbaenegaaGreatDoorYKof
import Derived.Test.YtohicccbaenegaaGreatDoorShl
import Derived.Shelf.Sort.Plain
import Derived.Shelf.Slices.CompactS
import Derived.Shelf.Slices.In.SortNone
import Derived.Sort.OwnSorted
import Derived.Lib.OwnBridge
set_option linter.unusedVariables false
namespace Go.Proofs.YtohicccbaenegaaGreatDoor
open Go.RowKit Go.Sort
attribute [local go_sem] Oper.semAt_some

theorem strCells_enc (M : List Txt) : strCells (strsOf M) = M.map encStr := by simp [strCells, strsOf, Function.comp_def]
theorem OwnTxt.enc {W wr : World} {v : Value} {M : List Txt} (h : OwnTxt W wr v M) : wr.ownsRow W.heap.size 9 1 v M.length (M.map encStr) := by
  unfold OwnTxt at h; rw [strsOf_len, strCells_enc] at h; exact h
theorem ownTxt_of {W wr : World} {v : Value} {M : List Txt} {n : Nat} (h : wr.ownsRow W.heap.size 9 1 v n (M.map encStr)) (hn : n = M.length) : OwnTxt W wr v M := by
  subst hn; unfold OwnTxt; rw [strsOf_len, strCells_enc]; exact h

theorem Sort_own (W wr : World) (v : Value) (M : List Txt) (h : OwnTxt W wr v M) (hb : Below W.heap.size W wr) (hlen : M.length ≤ 1000000) :
    Calls Tryz.prog 57 #[v] wr fun e w' => e = .returned (.tuple #[]) ∧ OwnTxt W w' v (M.mergeSort fun x y => decide (x ≤ y)) ∧ Below W.heap.size W w' := by
  have h0 := h.enc
  rcases h0.2 with ⟨rfl, hn⟩ | ⟨g, cap, cur, rfl, hbase, hbk, h1, h2, h3, h4⟩
  · obtain rfl := List.length_eq_zero_iff.1 hn
    have C := Any.slices_Sort_string_none Tryz.lays190 none 0 wr
    change Calls Tryz.prog 57 _ _ _ at C
    refine C.mono ?_
    rintro e w' ⟨rfl, rfl⟩
    exact ⟨rfl, by simpa using h, hb⟩
  · have hg : g < wr.heap.size := (Array.getElem?_eq_some_iff.1 hbk).1
    have C := Any.slices_Sort_string Tryz.lays190 g 0 cap M wr (holds_of_block hbk (by simpa using h4)) hg (by omega)
    change Calls Tryz.prog 57 _ _ _ at C
    refine C.mono ?_
    rintro e w' ⟨rfl, n, os, rfl⟩
    refine ⟨rfl, ownTxt_of (ownsRow_sorted (n := n) (os := os) (ts := M.mergeSort fun x y => decide (x ≤ y)) (by simp) hbase hbk h1 h2 h3) (by simp), hb.grown (grownBy_sorted _) hb.size (fun j hj => by cases hj; exact hbase)⟩

theorem Compact_own (W wr : World) (v : Value) (M : List Txt) (h : OwnTxt W wr v M) (hb : Below W.heap.size W wr) (hlen : M.length ≤ 1000000) :
    Calls Tryz.prog 58 #[v] wr fun e w' => ∃ v', e = .returned v' ∧ OwnTxt W w' v' (Lib.compact M) ∧ Below W.heap.size W w' := by
  have h0 := h.enc
  have hle := Lib.compact_length_le M
  rcases h0.2 with ⟨rfl, hn⟩ | ⟨g, cap, cur, rfl, hbase, hbk, h1, h2, h3, h4⟩
  · obtain rfl := List.length_eq_zero_iff.1 hn
    have C := Any.slices_Compact_string_empty Tryz.lays194 none 0 wr
    change Calls Tryz.prog 58 _ _ _ at C
    refine C.mono ?_
    rintro e w' ⟨rfl, rfl⟩
    exact ⟨_, rfl, by rw [show Lib.compact ([] : List Txt) = [] from rfl]; exact h, hb⟩
  · have C := Any.slices_Compact_string Tryz.lays194 g 0 cap M wr (holds_of_block hbk (by simpa using h4)) (by omega) h1
    change Calls Tryz.prog 58 _ _ _ at C
    refine C.mono ?_
    rintro e w' ⟨rfl, q, rfl⟩
    have hc := Lib.ownsRow_putRow (q := q) (k := (Lib.compact M).length) (ys := Lib.compact M ++ List.replicate (M.length - (Lib.compact M).length) []) h0 (by simp; omega) (by omega)
    rw [List.take_left] at hc
    exact ⟨_, rfl, ownTxt_of hc rfl, Lib.below_putRow hb hbase⟩

/-! ## Of -/
def KeepTo (l : List Txt) (k : Nat) : List Txt := (l.take k).filter isK
theorem keepTo_step {l : List Txt} {k : Nat} (hk : k < l.length) : KeepTo l (k + 1) = if l[k].length = 32 then KeepTo l k ++ [l[k]] else KeepTo l k := by
  unfold KeepTo
  rw [List.take_succ_eq_append_getElem hk, List.filter_append]
  by_cases h : l[k].length = 32 <;> simp [h, isK]
theorem keepTo_len (l : List Txt) (k : Nat) : (KeepTo l k).length ≤ k := by
  have h2 := List.length_filter_le isK (l.take k)
  have h3 := List.length_take_le k l
  unfold KeepTo; omega

set_option maxRecDepth 100000 in
set_option maxHeartbeats 2000000 in
theorem Of_any (v : Value) (L : List ByteArray) (w : World) (hv : IsStrs w v L) (hL : L.length ≤ 800000) :
    Calls Tryz.prog 40 #[v] w (RetStrs w (ofL (txts L))) := by
  obtain ⟨hm, a, cap, rfl, _, hc⟩ := hv
  have HC := Lib.hid hc
  clear hc hm
  go_enter Tryz.func40, Tryz.ntmps40
  go_wp2
  go_loopw [3, 8] (fun o i wr => ∃ k : Nat, k ≤ L.length ∧ i = .int .i64 k ∧ OwnTxt w wr o (KeepTo (txts L) k) ∧ Below w.heap.size w wr) (fun _ i _ => L.length - (intOf i).toNat)
  case atStart => exact ⟨0, Nat.zero_le _, rfl, ownTxt_nil _, Below.refl _ _⟩
  case round =>
    obtain ⟨k, hk, rfl, hO, hB⟩ := hrel
    have HO := Lib.hid hO
    clear hO
    by_cases hlt : k < L.length
    · obtain ⟨b1, o1, rfl, hbl, g1⟩ := HC.out (by omega)
      have q1 := g1 k hlt
      rw [← hB.cell (p := ⟨b1, o1 + k, none⟩) hbl] at q1
      clear g1
      have hst := keepTo_step (l := txts L) (k := k) (by rw [txts_len]; exact hlt)
      rw [txts_get hlt] at hst
      obtain ⟨y, hy⟩ : ∃ y, y = L[k] := ⟨_, rfl⟩
      rw [← hy] at q1 hst
      clear hy
      rw [← Lib.size_eq] at hst
      have hol : (KeepTo (txts L) k).length ≤ 1000000 := by have := keepTo_len (txts L) k; omega
      have hK := Lib.hid (isKey_any y)
      have hbk : decide ((k : Int) < (L.length : Int)) = true := by simpa using (show (k : Int) < L.length by omega)
      by_cases h32 : y.size = 32
      · rw [if_pos h32] at hst
        have h32b : (((y.size : Nat) : Int) == 32) = true := by rw [h32]; rfl
        rw [h32b] at hK
        have HST := Lib.hid hst
        clear h32 hst
        go_wp2_with (first | ((with_reducible refine (hK.out _).mono ?_); rintro e w1 ⟨rfl, rfl⟩) | (at_builtin; refine wpList_append_txt rfl _ _ rfl HO.out hB rfl rfl hol ?_))
        intro v' w2 hown' hb2
        go_wp2
        go_roundw
        case rel => exact ⟨k + 1, by omega, by go_num, by rw [HST.out]; exact hown', hb2⟩
        case measure => simp [intOf]; omega
      · rw [if_neg h32] at hst
        have HST := Lib.hid hst; clear hst
        have h32b : (((y.size : Nat) : Int) == 32) = false := by simp; omega
        rw [h32b] at hK
        clear h32
        go_wp2_with ((with_reducible refine (hK.out _).mono ?_); rintro e w1 ⟨rfl, rfl⟩)
        go_roundw
        case rel => exact ⟨k + 1, by omega, by go_num, by rw [HST.out]; exact HO.out, hB⟩
        case measure => simp [intOf]; omega
    · have hE : KeepTo (txts L) k = (txts L).filter isK := by
        unfold KeepTo
        rw [List.take_of_length_le (by rw [txts_len]; omega)]
      have hll : ((txts L).filter isK).length ≤ 1000000 := by have := List.length_filter_le isK (txts L); rw [txts_len] at this; omega
      have hO := HO.out
      rw [hE] at hO
      have C1 := Lib.hid (Sort_own w wr u3 _ hO hB hll)
      have C2 := Lib.hid (fun w1 (h : OwnTxt w w1 u3 (((txts L).filter isK).mergeSort fun x y => decide (x ≤ y))) (hb : Below w.heap.size w w1) => Compact_own w w1 u3 _ h hb (by simpa using hll))
      have hge : decide ((k : Int) < (L.length : Int)) = false := by simp; omega
      clear hE hll hO HO
      go_wp2_with fail
      refine C1.out.mono ?_
      rintro e w1 ⟨rfl, hO1, hb1⟩
      have C3 := Lib.hid (C2.out w1 hO1 hb1)
      clear hO1
      go_wp2_with fail
      refine C3.out.mono ?_
      rintro e w2 ⟨v2, rfl, hO2, hb2⟩
      have HO2 := Lib.hid hO2
      clear hO2
      go_wp2
      go_ret
      exact ⟨v2, rfl, HO2.out.strs, hb2⟩

end Go.Proofs.YtohicccbaenegaaGreatDoor

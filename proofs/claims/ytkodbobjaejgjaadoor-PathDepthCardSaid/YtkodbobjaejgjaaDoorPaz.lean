/-
  Contracts over this translation: strings.Split at a slash; path.Fit, path.Dir, path.Order.
-/
import Derived.Test.YtkodbobjaejgjaaDoorPay
import Derived.Test.YtkodbobjaejgjaaDoorPau
import Derived.Shelf.Strings.SplitCore
import Derived.Shelf.Strings.Count
import Derived.Lib.SplitLaws
set_option linter.unusedVariables false
namespace Go.Proofs.YtkodbobjaejgjaaDoor
open Go.RowKit Go.Shelf
attribute [local go_sem] Oper.semAt_some

theorem pts_count (l : List UInt8) : (pts l).length = l.count 47 + 1 := by
  induction l with
  | nil => rfl
  | cons c r ih =>
    by_cases hc : c = 47
    · subst hc; rw [pts_slash, List.count_cons_self, List.length_cons, ih]
    · obtain ⟨h, t, e⟩ := List.exists_cons_of_ne_nil (pts_ne r)
      rw [pts_other hc e, List.count_cons_of_ne hc]; rw [e] at ih; exact ih
theorem splitK_pts : ∀ (k : Nat) (l : List UInt8), (pts l).length ≤ k + 1 → Lib.splitK [47] 0 k l = pts l
  | 0, l, h => by
    rcases index_parts l with ⟨_, h2⟩ | ⟨j, _, _, h3⟩
    · rw [h2]; rfl
    · rw [h3, List.length_cons] at h; have := (pts_len (l.drop (j + 1))).2; omega
  | k + 1, l, h => by
    unfold Lib.splitK
    rw [Lib.index_one]
    rcases index_parts l with ⟨h1, h2⟩ | ⟨j, h1, h2, h3⟩
    · rw [h1, h2]; rfl
    · rw [h1, if_neg (by simp)]
      have e : ((j : Int)).toNat = j := by simp
      rw [e, h3, Nat.add_zero]
      congr 1
      refine splitK_pts k _ ?_
      rw [h3, List.length_cons] at h; show (pts (l.drop (j + 1))).length ≤ _; omega

theorem strSplit_any (s : ByteArray) (hs : s.size ≤ 1000000) (w : World) : Calls Tryd.prog 34 #[.string s, .string sep1, .int .i64 0, .int .i64 (-1)] w (RetL (pts s.data.toList) w) := by
  have hc : Lib.countB s sep1 = s.data.toList.count 47 := Lib.count_one 47 _
  have hp := pts_count s.data.toList
  have hl := pts_len s.data.toList
  have hI : ∀ (x : ByteArray) (c : Array Value), x.size ≤ s.size → Calls Tryd.prog 46 #[.string x, .string sep1] (w.alloc (.cells c 9)) fun e w' => e = .returned (.int .i64 (Lib.indexB x sep1)) ∧ w' = w.alloc (.cells c 9) := fun x c _ =>
    (Index_any x _).mono fun e w' h => ⟨by rw [h.1]; exact ret_i (Lib.index_one _ _).symm, h.2.symm⟩
  have hC : Calls Tryd.prog 45 #[.string s, .string sep1] w fun e w' => e = .returned (.int .i64 (Lib.countB s sep1)) ∧ w' = w := by
    have C := Any.strings_Count_one Tryd.lays138 s 47 w
    change Calls Tryd.prog 45 _ _ _ at C
    refine C.mono ?_
    rintro e w' ⟨rfl, rfl⟩
    exact ⟨ret_i (by rw [hc]; rfl), rfl⟩
  have C := Any.strings_genSplit_core Tryd.lays221 infoStr s sep1 0 (-1) (s.data.toList.count 47 + 1) w (by omega) (by decide) (by decide) hI hC (by decide) (by decide) (by
    rw [hc, if_pos (by decide)]; rw [← Lib.size_eq] at hl; omega)
  change Calls Tryd.prog 34 _ _ _ at C
  refine C.mono ?_
  rintro e w' ⟨rfl, rfl⟩
  rw [Nat.add_sub_cancel]
  have hd : (Lib.splitB sep1 0 (s.data.toList.count 47) s).map (·.data.toList) = pts s.data.toList := by
    rw [Lib.splitB_data]; exact splitK_pts _ _ (by omega)
  have hL : Lib.splitB sep1 0 (s.data.toList.count 47) s = strsOf (pts s.data.toList) := by
    rw [← hd]; exact (strsOf_txts _).symm
  rw [hL]
  have hlen : (strsOf (pts s.data.toList)).length = s.data.toList.count 47 + 1 := by rw [strsOf_len, hp]
  refine ⟨_, rfl, ⟨by rw [strsOf_len]; rw [← Lib.size_eq] at hl; unfold maxLen; omega, _, _, rfl, ⟨fun h => (by cases h), by rw [hlen]; exact Nat.le_refl _⟩, fun _ => ⟨_, 0, rfl, by simp, fun i hi => ?_⟩⟩, (Below.refl _ _).alloc (Nat.le_refl _) _⟩
  have hr := (Row.made w (Lib.cellsOf (strsOf (pts s.data.toList)) (s.data.toList.count 47 + 1)) 9).cell (0 + i)
  refine hr.trans ?_
  unfold Lib.cellsOf
  rw [hlen, Nat.sub_self, List.replicate_zero, List.append_nil]
  simp [Nat.zero_add, hi]
set_option maxRecDepth 100000 in
theorem sSplit_any (s : ByteArray) (hs : s.size ≤ 1000000) (w : World) : Calls Tryd.prog 27 #[.string s, .string sep1] w (RetL (pts s.data.toList) w) := by
  have C := Lib.hid (strSplit_any s hs)
  go_enter Tryd.func27, Tryd.ntmps27
  go_wp2_with fail
  refine (C.out _).mono ?_
  rintro e w1 ⟨v, rfl, hv, hb⟩
  have HV := Lib.hid hv; clear hv
  go_wp2
  go_ret
  exact ⟨v, rfl, HV.out, hb⟩

set_option maxRecDepth 100000 in
theorem Fit_any (s : ByteArray) (hs : s.size ≤ 100000) (w : World) :
    Calls Tryd.prog 11 #[.string s] w fun e w' => e = .returned (.bool (isPath s.data.toList)) ∧ Below w.heap.size w w' := by
  have C := Lib.hid (Split_any s hs)
  go_enter Tryd.func11, Tryd.ntmps11
  go_wp2_with fail
  refine (C.out _).mono ?_
  rintro e w1 ⟨v, rfl, ⟨hm, a, cap, rfl, _, hc⟩, hb1⟩
  have HE : Hid (isPath s.data.toList = decide ((0 : Int) < ((strsOf (splitS s.data.toList)).length : Int))) := by
    unfold isPath; rw [strsOf_len]; exact decide_eq_decide.2 (by omega)
  have hmm : (strsOf (splitS s.data.toList)).length ≤ 9223372036854775807 := by unfold maxLen at hm; omega
  clear hc hm
  go_wp2
  go_ret
  exact ⟨ret_val (congrArg Value.bool (by rw [HE.out]; simp)), hb1⟩

set_option maxRecDepth 100000 in
set_option maxHeartbeats 2000000 in
theorem Dir_any (s : ByteArray) (hs : s.size ≤ 100000) (w : World) :
    Calls Tryd.prog 16 #[.string s] w fun e w' => e = .returned (.string ⟨(dirS s.data.toList).toArray⟩) ∧ Below w.heap.size w w' := by
  have C := Lib.hid (Split_any s hs)
  have J := Lib.hid Join_any
  obtain ⟨l, hl⟩ : ∃ l, l = s.data.toList := ⟨_, rfl⟩
  rw [← hl] at C ⊢
  clear hl hs
  go_enter Tryd.func16, Tryd.ntmps16
  go_wp2_with fail
  refine (C.out _).mono ?_
  rintro e w1 ⟨v, rfl, hv, hb1⟩
  have HV := Lib.hid hv
  obtain ⟨hm, a, cap, rfl, ⟨_, hcap⟩, hc⟩ := hv
  have HLEN := Lib.hid (strsOf_len (splitS l))
  have HT := Lib.hid (txts_strsOf (splitS l))
  obtain ⟨L, hL⟩ : ∃ L, L = strsOf (splitS l) := ⟨_, rfl⟩
  rw [← hL] at HV HLEN HT hm hcap hc ⊢
  clear hL
  have hmm : L.length ≤ 9223372036854775807 := by unfold maxLen at hm; omega
  by_cases h2 : L.length = 0
  · have e2 : ((L.length : Int) == 0) = true := beq_iff_eq.2 (by omega)
    have HN : Hid (dirS l = []) := splitS_short (by rw [← HLEN.out]; omega)
    clear hc hm hcap
    have HH := Lib.hid h2
    clear h2
    go_wp2
    go_ret
    exact ⟨by rw [HN.out]; rfl, hb1⟩
  · have e2 : ((L.length : Int) == 0) = false := beq_eq_false_iff_ne.2 (by omega)
    obtain ⟨b, off, rfl, hlt, hcell⟩ := hc (by omega)
    have h1 : 1 ≤ L.length := by omega
    have hV2 : IsStrs w1 (.slice (some ⟨b, off, none⟩) (L.length - 1) cap) L.dropLast := by
      refine ⟨by rw [List.length_dropLast]; omega, some ⟨b, off, none⟩, cap, by rw [List.length_dropLast], ⟨fun h => (by cases h), by rw [List.length_dropLast]; omega⟩, fun _ => ⟨b, off, rfl, hlt, fun i hi => ?_⟩⟩
      rw [List.length_dropLast] at hi
      rw [hcell i (by omega), List.getElem_dropLast]
    have HV2 := Lib.hid hV2
    have J2 := Lib.hid (fun hv => J.out (.slice (some ⟨b, off, none⟩) (L.length - 1) cap) L.dropLast w1 hv)
    have HD : Hid (joinN (txts L.dropLast) = dirS l) := by
      show _ = _
      rw [show txts L.dropLast = (txts L).dropLast by simp [txts], HT.out]; rfl
    clear hc hcell hV2 J h2
    go_wp2_with fail
    refine (J2.out HV2.out).mono ?_
    rintro e w2 ⟨rfl, hb2⟩
    have hB := below_step hb1 hb2
    go_wp2
    go_ret
    exact ⟨by rw [HD.out]; rfl, hB⟩

set_option maxRecDepth 100000 in
set_option maxHeartbeats 2000000 in
theorem Order_any (a b : ByteArray) (ha : a.size ≤ 1000000) (hb : b.size ≤ 1000000) (w : World) :
    Calls Tryd.prog 18 #[.string a, .string b] w fun e w' => e = .returned (.int .i64 (orderS a.data.toList b.data.toList)) ∧ Below w.heap.size w w' := by
  have C1 := Lib.hid (sSplit_any a ha)
  have C2 := Lib.hid (sSplit_any b hb)
  have CC := Lib.hid slCompare_any
  have HX := Lib.hid (txts_strsOf (pts a.data.toList))
  have HY := Lib.hid (txts_strsOf (pts b.data.toList))
  go_enter Tryd.func18, Tryd.ntmps18
  go_wp2_with fail
  refine (C1.out _).mono ?_
  rintro e w1 ⟨v1, rfl, hv1, hb1⟩
  have HV1 := Lib.hid hv1; clear hv1
  go_wp2_with fail
  refine (C2.out _).mono ?_
  rintro e w2 ⟨v2, rfl, hv2, hb2⟩
  have hB := below_step hb1 hb2
  have HV1' := Lib.hid (HV1.out.stays hb2)
  have HV2 := Lib.hid hv2; clear hv2 hb1 hb2
  go_wp2_with fail
  refine (CC.out _ _ _ _ _ HV1'.out HV2.out).mono ?_
  rintro e w3 ⟨rfl, rfl⟩
  rw [HX.out, HY.out]
  go_wp2
  go_ret
  exact ⟨rfl, hB⟩
end Go.Proofs.YtkodbobjaejgjaaDoor

/-
  Contracts over this translation: slices.BinarySearchFunc at items; tree's place, find, isBehind, Find.
-/
import Derived.Test.YtelaamchafocpaaDoorQ1
import Derived.IntWalk
set_option linter.unusedVariables false
namespace Go.Proofs.YtelaamchafocpaaDoor
open Go.RowKit
attribute [local go_sem] Oper.semAt_some

set_option maxRecDepth 100000 in
set_option maxHeartbeats 4000000 in
theorem pSearch_any (v : Value) (L : List It) (s : ByteArray) (w : World) (h : IsItems w v L) (hr : Rise L) (hf : fewB L = true) (hs : s.size ≤ 400) :
    Calls Tryd.prog 53 #[v, .string s, .func (.func 54) #[] #[]] w fun e w' => e = .returned (.tuple #[.int .i64 (cntT L s.data.toList), .bool (findT L s.data.toList).isSome]) ∧ Below w.heap.size w w' := by
  have HI := Lib.hid h
  have HFEW := Lib.hid (few_mem hf)
  have h70 := few_len hf
  have P := Lib.hid (fun x hx w => pPlace1_any x s w hx hs)
  obtain ⟨hm, a, cap, rfl, _, hc⟩ := h
  clear hc hf
  obtain ⟨t, ht⟩ : ∃ t, t = s.data.toList := ⟨_, rfl⟩
  rw [← ht] at P ⊢
  clear ht hm
  have HAT := Lib.hid (fun i (hi : i < L.length) => cnt_at hr t hi)
  have HF := Lib.hid (find_at hr t)
  have hcl := cnt_le L t
  obtain ⟨n, hn⟩ : ∃ n, n = cntT L t := ⟨_, rfl⟩
  rw [← hn] at hcl HAT ⊢
  have HN := Lib.hid hn
  clear hn
  go_enter Tryd.func53, Tryd.ntmps53
  go_wp2
  go_loopw [9, 10] (fun i j wr => ∃ lo hi : Nat, i = .int .i64 lo ∧ j = .int .i64 hi ∧ lo ≤ n ∧ n ≤ hi ∧ hi ≤ L.length ∧ Below w.heap.size w wr) (fun i j _ => (intOf j).toNat - (intOf i).toNat)
  case atStart => exact ⟨0, L.length, rfl, rfl, Nat.zero_le _, hcl, Nat.le_refl _, Below.refl _ _⟩
  case round =>
    obtain ⟨lo, hi, rfl, rfl, hlo, hhi, hL, hB⟩ := hrel
    by_cases hlt : lo < hi
    · have hmid : (lo + hi) / 2 < L.length := by omega
      obtain ⟨_, _, _, e, _, hc⟩ := HI.out.stays hB
      cases e
      obtain ⟨b, off, rfl, _, g⟩ := hc (by omega)
      obtain ⟨c0, c1, c2, c3⟩ := g ((lo + hi) / 2) hmid
      clear g hc
      have hxs := (HFEW.out _ (List.getElem_mem hmid)).1
      have hat := HAT.out _ hmid
      obtain ⟨x, hx⟩ : ∃ x, x = L[(lo + hi) / 2] := ⟨_, rfl⟩
      rw [← hx] at c0 c1 c2 c3 hxs hat
      clear hx
      have P1 := Lib.hid (P.out x hxs)
      by_cases ho : orderS x.t t = -1
      · have hm := hat.1 ho
        rw [ho] at P1
        clear ho hat
        go_wp2_with fail
        refine (P1.out _).mono ?_
        rintro e w1 ⟨rfl, hb⟩
        have hB1 := below_step hB hb
        clear hb
        go_wp2
        go_roundw
        case rel => exact ⟨(lo + hi) / 2 + 1, hi, by go_num, rfl, by omega, hhi, hL, hB1⟩
        case measure => simp [intOf]; omega
      · have hm : n ≤ (lo + hi) / 2 := by
          rcases Nat.lt_or_ge ((lo + hi) / 2) n with e | e
          · exact absurd (hat.2 e) ho
          · exact e
        have h0 : decide (orderS x.t t < 0) = false := decide_eq_false (by rcases order_three x.t t with e | e | e <;> omega)
        obtain ⟨o, hoo⟩ : ∃ o, o = orderS x.t t := ⟨_, rfl⟩
        rw [← hoo] at P1 h0
        clear ho hat hoo
        go_wp2_with fail
        refine (P1.out _).mono ?_
        rintro e w1 ⟨rfl, hb⟩
        have hB1 := below_step hB hb
        clear hb
        go_wp2
        go_roundw
        case rel => exact ⟨lo, (lo + hi) / 2, rfl, by go_num, hlo, hm, by omega, hB1⟩
        case measure => simp [intOf]; omega
    · have hln : n = lo := by omega
      have HLN := Lib.hid hln
      have hll : lo ≤ L.length := by omega
      have hF := HF.out
      rw [← HN.out] at hF
      have hnlh : ¬ lo < hi := hlt
      clear hlt hlo hhi
      rcases hF with ⟨hnl, ho, hs'⟩ | ⟨hs', ho⟩
      · have hlt : lo < L.length := by omega
        have hbk : decide ((lo : Int) < (L.length : Int)) = true := decide_eq_true (by omega)
        obtain ⟨_, _, _, e, _, hc⟩ := HI.out.stays hB
        cases e
        obtain ⟨b, off, rfl, _, g⟩ := hc (by omega)
        obtain ⟨c0, c1, c2, c3⟩ := g lo hlt
        clear g hc
        have hxs := (HFEW.out _ (List.getElem_mem hlt)).1
        obtain ⟨x, hx⟩ : ∃ x, x = L[lo] := ⟨_, rfl⟩
        have ho' : orderS x.t t = 0 := by rw [hx, ← ho]; congr 3; exact hln.symm
        rw [← hx] at c0 c1 c2 c3 hxs
        clear hx
        have P1 := Lib.hid (P.out x hxs)
        rw [ho'] at P1
        have HV : Hid ((findT L t).isSome = true) := show _ = _ by rw [hs']; rfl
        clear ho ho' hs' hnl hln
        go_wp2_with fail
        refine (P1.out _).mono ?_
        rintro e w1 ⟨rfl, hb⟩
        have hB1 := below_step hB hb
        clear hb
        go_wp2
        go_ret2
        exact ⟨by rw [HV.out, HLN.out]; rfl, hB1⟩
      · have HV : Hid ((findT L t).isSome = false) := show _ = _ by rw [hs']; rfl
        by_cases hlt : lo < L.length
        · have hbk : decide ((lo : Int) < (L.length : Int)) = true := decide_eq_true (by omega)
          obtain ⟨_, _, _, e, _, hc⟩ := HI.out.stays hB
          cases e
          obtain ⟨b, off, rfl, _, g⟩ := hc (by omega)
          obtain ⟨c0, c1, c2, c3⟩ := g lo hlt
          clear g hc
          have hxs := (HFEW.out _ (List.getElem_mem hlt)).1
          obtain ⟨x, hx⟩ : ∃ x, x = L[lo] := ⟨_, rfl⟩
          have ho' : orderS x.t t = 1 := by rw [hx, ← ho (by omega)]; congr 3; exact hln.symm
          rw [← hx] at c0 c1 c2 c3 hxs
          clear hx
          have P1 := Lib.hid (P.out x hxs)
          rw [ho'] at P1
          clear ho ho' hs' hln
          go_wp2_with fail
          refine (P1.out _).mono ?_
          rintro e w1 ⟨rfl, hb⟩
          have hB1 := below_step hB hb
          clear hb
          go_wp2
          go_ret2
          exact ⟨by rw [HV.out, HLN.out]; rfl, hB1⟩
        · have hbk : decide ((lo : Int) < (L.length : Int)) = false := decide_eq_false (by omega)
          clear ho hs' hln
          go_wp2
          go_ret2
          exact ⟨by rw [HV.out, HLN.out]; rfl, hB⟩

theorem pPlace_any (v : Value) (L : List It) (s : ByteArray) (w : World) (h : IsItems w v L) (hr : Rise L) (hf : fewB L = true) (hs : s.size ≤ 400) :
    Calls Tryd.prog 40 #[v, .string s] w fun e w' => e = .returned (.tuple #[.int .i64 (cntT L s.data.toList), .bool (findT L s.data.toList).isSome]) ∧ Below w.heap.size w w' := by
  have C := Lib.hid (pSearch_any v L s w h hr hf hs)
  go_enter Tryd.func40, Tryd.ntmps40
  go_wp2_with fail
  refine C.out.mono ?_
  rintro e w1 ⟨rfl, hb⟩
  go_wp2
  go_ret2
  exact ⟨rfl, hb⟩
theorem pBehind_any (v : Value) (L : List It) (s : ByteArray) (w : World) (h : IsItems w v L) (hr : Rise L) (hf : fewB L = true) (hs : s.size ≤ 400) :
    Calls Tryd.prog 24 #[v, .string s] w fun e w' => e = .returned (.bool (decide (cntT L s.data.toList = L.length))) ∧ Below w.heap.size w w' := by
  have C := Lib.hid (pPlace_any v L s w h hr hf hs)
  have HE : Hid (decide (cntT L s.data.toList = L.length) = ((cntT L s.data.toList : Int) == (L.length : Int))) := show _ = _ by
    rw [Bool.eq_iff_iff]; simp only [decide_eq_true_eq, beq_iff_eq]; omega
  obtain ⟨hm, a, cap, rfl, _, hc⟩ := h
  have hmm : L.length ≤ 9223372036854775807 := by unfold maxLen at hm; omega
  clear hc hr hm hf
  obtain ⟨n, hn⟩ : ∃ n, n = cntT L s.data.toList := ⟨_, rfl⟩
  rw [← hn] at C HE ⊢
  clear hn
  go_enter Tryd.func24, Tryd.ntmps24
  go_wp2_with fail
  refine C.out.mono ?_
  rintro e w1 ⟨rfl, hb⟩
  go_wp2
  go_ret
  exact ⟨by rw [HE.out]; rfl, hb⟩
set_option maxRecDepth 100000 in
set_option maxHeartbeats 2000000 in
theorem pFind_any (v : Value) (L : List It) (s : ByteArray) (w : World) (h : IsItems w v L) (hr : Rise L) (hf : fewB L = true) (hs : s.size ≤ 400) :
    Calls Tryd.prog 30 #[v, .string s] w fun e w' => e = .returned (.tuple #[itV (foundI L s.data.toList), .bool (findT L s.data.toList).isSome]) ∧ Below w.heap.size w w' := by
  have hb0 := (Below.refl w.heap.size w).alloc (Nat.le_refl _) (.cells #[.string ⟨#[]⟩, .bool false, .bool false, .string ⟨#[]⟩] 27)
  have C := Lib.hid (fun w h => pPlace_any v L s w h hr hf hs)
  have HI := Lib.hid h
  have hF := find_at hr s.data.toList
  have hcl := cnt_le L s.data.toList
  obtain ⟨hm, a, cap, rfl, _, hc⟩ := h
  have hmm : L.length ≤ 9223372036854775807 := by unfold maxLen at hm; omega
  clear hc hr hm hf
  obtain ⟨t, ht⟩ : ∃ t, t = s.data.toList := ⟨_, rfl⟩
  rw [← ht] at C hF hcl ⊢
  clear ht
  have HI0 := Lib.hid (HI.out.stays hb0)
  have HB0 := Lib.hid hb0
  have HZ : Hid (InBox (w.alloc (.cells #[.string ⟨#[]⟩, .bool false, .bool false, .string ⟨#[]⟩] 27)) w.heap.size zeroIt) := inBox_new w zeroIt _
  have HFZ : Hid (∀ o, (w.alloc (.cells #[.string ⟨#[]⟩, .bool false, .bool false, .string ⟨#[]⟩] 27)).frozen? ⟨w.heap.size, o, none⟩ = false) := show ∀ _, _ from fun o => World.frozen?_alloc_at (w := w) _ _ w.heap.size o rfl
  clear hb0
  rcases hF with ⟨hnl, _, hfd⟩ | ⟨hfd, _⟩
  · have HV := Lib.hid (foundI_some hfd)
    have hsome : (findT L t).isSome = true := by rw [hfd]; rfl
    have C1 := C
    rw [hsome] at C1
    clear C
    rw [hsome, foundI_some hfd]
    clear hfd hsome
    obtain ⟨n, hn⟩ : ∃ n, n = cntT L t := ⟨_, rfl⟩
    obtain ⟨x, hx⟩ : ∃ x, x = L[cntT L t] := ⟨_, rfl⟩
    have HXX : Hid (∀ h : n < L.length, L[n] = x) := show ∀ _, _ from fun h => by rw [hx]; congr 1
    rw [← hx]
    rw [← hn] at C1 hnl
    clear hx hn HV hcl
    have hbk : decide ((n : Int) < (L.length : Int)) = true := decide_eq_true (by omega)
    go_enter Tryd.func30, Tryd.ntmps30
    go_wp2_with fail
    refine (C1.out _ HI0.out).mono ?_
    rintro e w1 ⟨rfl, hb⟩
    have hB := below_step HB0.out hb
    obtain ⟨_, _, _, e, _, hc⟩ := HI0.out.stays hb
    cases e
    obtain ⟨b, off, rfl, _, g⟩ := hc (by omega)
    have g1 := g n hnl
    rw [HXX.out hnl] at g1
    obtain ⟨c0, c1, c2, c3⟩ := g1
    clear g hc HXX
    have HZ1 := Lib.hid (HZ.out.stays hb)
    obtain ⟨z0, z1, z2, z3⟩ := HZ1.out.cells
    have zf : ∀ o, w1.frozen? ⟨w.heap.size, o, none⟩ = false := fun o => ((bcell hb).2 _ o HZ.out.2).trans (HFZ.out o)
    clear hb
    go_wp2
    obtain ⟨q0, q1, q2, q3⟩ := (cells_set HZ1.out x).cells
    exact bodyPost_ret (v := .tuple #[itV x, .bool true]) (by simp [results, Tryd.results30, go_sem, q0, q1, q2, q3]) rfl ⟨rfl, below_set hB (Nat.le_refl _) x⟩
  · have HV := Lib.hid (foundI_none hfd)
    have hsome : (findT L t).isSome = false := by rw [hfd]; rfl
    have C1 := C
    rw [hsome] at C1
    clear C
    rw [hsome, foundI_none hfd]
    clear hfd hsome
    go_enter Tryd.func30, Tryd.ntmps30
    go_wp2_with fail
    refine (C1.out _ HI0.out).mono ?_
    rintro e w1 ⟨rfl, hb⟩
    have hB := below_step HB0.out hb
    have HZ1 := Lib.hid (HZ.out.stays hb)
    obtain ⟨z0, z1, z2, z3⟩ := HZ1.out.cells
    have zf : ∀ o, w1.frozen? ⟨w.heap.size, o, none⟩ = false := fun o => ((bcell hb).2 _ o HZ.out.2).trans (HFZ.out o)
    clear hb
    go_wp2
    obtain ⟨q0, q1, q2, q3⟩ := (cells_set HZ1.out zeroIt).cells
    simp only [zeroIt] at q0 q1 q2 q3
    exact bodyPost_ret (v := .tuple #[itV zeroIt, .bool false]) (by simp [results, Tryd.results30, go_sem, q0, q1, q2, q3, zeroIt]) rfl ⟨rfl, below_set hB (Nat.le_refl _) zeroIt⟩

set_option maxRecDepth 100000 in
set_option maxHeartbeats 2000000 in
theorem pTreeFind_any (v : Value) (L : List It) (s : ByteArray) (w : World) (h : IsItems w v L) (hr : Rise L) (hf : fewB L = true) (hs : s.size ≤ 400) :
    Calls Tryd.prog 13 #[v, .string s] w fun e w' => e = .returned (.tuple #[itV (foundI L s.data.toList), .bool (findT L s.data.toList).isSome]) ∧ Below w.heap.size w w' := by
  have hb0 := (Below.refl w.heap.size w).alloc (Nat.le_refl _) (.cells #[.string ⟨#[]⟩, .bool false, .bool false, .string ⟨#[]⟩] 27)
  have C := Lib.hid (pFind_any v L s _ (h.stays hb0) hr hf hs)
  have HB0 := Lib.hid hb0
  have HZ : Hid (InBox (w.alloc (.cells #[.string ⟨#[]⟩, .bool false, .bool false, .string ⟨#[]⟩] 27)) w.heap.size zeroIt) := inBox_new w zeroIt _
  have HFZ : Hid (∀ o, (w.alloc (.cells #[.string ⟨#[]⟩, .bool false, .bool false, .string ⟨#[]⟩] 27)).frozen? ⟨w.heap.size, o, none⟩ = false) := show ∀ _, _ from fun o => World.frozen?_alloc_at (w := w) _ _ w.heap.size o rfl
  clear hb0 h hr hf
  obtain ⟨x, hx⟩ : ∃ x, x = foundI L s.data.toList := ⟨_, rfl⟩
  obtain ⟨q, hq⟩ : ∃ q, q = (findT L s.data.toList).isSome := ⟨_, rfl⟩
  rw [← hx, ← hq] at C
  rw [← hx, ← hq]
  clear hx hq
  go_enter Tryd.func13, Tryd.ntmps13
  go_wp2_with fail
  refine C.out.mono ?_
  rintro e w1 ⟨rfl, hb⟩
  have hB := below_step HB0.out hb
  have HZ1 := Lib.hid (HZ.out.stays hb)
  obtain ⟨z0, z1, z2, z3⟩ := HZ1.out.cells
  have zf : ∀ o, w1.frozen? ⟨w.heap.size, o, none⟩ = false := fun o => ((bcell hb).2 _ o HZ.out.2).trans (HFZ.out o)
  clear hb
  go_wp2
  obtain ⟨q0, q1, q2, q3⟩ := (cells_set HZ1.out x).cells
  exact bodyPost_ret (v := .tuple #[itV x, .bool q]) (by simp [results, Tryd.results13, go_sem, q0, q1, q2, q3]) rfl ⟨rfl, below_set hB (Nat.le_refl _) x⟩
end Go.Proofs.YtelaamchafocpaaDoor

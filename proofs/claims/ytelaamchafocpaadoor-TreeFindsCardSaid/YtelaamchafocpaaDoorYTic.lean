/-
  Contracts over this translation: the document's with.
-/
import Derived.Test.YtelaamchafocpaaDoorQ0
import Derived.Test.YtelaamchafocpaaDoorQ1
import Derived.Lib.QuietBelow
set_option linter.unusedVariables false
namespace Go.Proofs.YtelaamchafocpaaDoor
open Go.RowKit
attribute [local go_sem] Oper.semAt_some

/-- A call that hands back a slice of items. -/
def RetIs (L : List It) (w : World) (e : Ending) (w' : World) : Prop := ∃ v, e = .returned v ∧ IsItems w' v L ∧ Below w.heap.size w w'
/-- On the way through with: what is there so far. -/
def WithTo (L : List It) (x : It) (k : Nat) (dn : Bool) (M : List It) : Prop :=
  (dn = false ∧ M = L.take k ∧ ∀ y ∈ L.take k, orderS y.t x.t = -1) ∨ (dn = true ∧ M = withT (L.take k) x ∧ ∃ y ∈ L.take k, orderS y.t x.t ≠ -1)
theorem withTo_start (L : List It) (x : It) : WithTo L x 0 false [] := .inl ⟨rfl, rfl, by simp⟩
theorem withTo_less {L : List It} (hr : Rise L) {x : It} {k : Nat} (hk : k < L.length) {dn : Bool} {M : List It} (h : WithTo L x k dn M) (ho : orderS L[k].t x.t = -1) : WithTo L x (k + 1) dn (M ++ [L[k]]) := by
  rcases h with ⟨h1, h2, h3⟩ | ⟨h1, h2, y, hy, hny⟩
  · refine .inl ⟨h1, by rw [List.take_succ_eq_append_getElem hk, h2], fun z hz => ?_⟩
    rw [List.take_succ_eq_append_getElem hk] at hz
    exact withT_snoc_less ho h3 z hz
  · exfalso
    obtain ⟨i, hi, rfl⟩ := List.getElem_of_mem hy
    rw [List.length_take] at hi
    have := List.pairwise_iff_getElem.1 hr i k (by omega) hk (by omega)
    rw [List.getElem_take] at hny
    rw [order_after this hny] at ho; cases ho
theorem withTo_done {L : List It} (hr : Rise L) {x : It} {k : Nat} (hk : k < L.length) {M : List It} (h : WithTo L x k true M) : orderS L[k].t x.t = 1 := by
  rcases h with ⟨h1, _⟩ | ⟨_, h2, y, hy, hny⟩
  · cases h1
  · obtain ⟨i, hi, rfl⟩ := List.getElem_of_mem hy
    rw [List.length_take] at hi
    have := List.pairwise_iff_getElem.1 hr i k (by omega) hk (by omega)
    rw [List.getElem_take] at hny
    exact order_after this hny
theorem withTo_more {L : List It} {x : It} {k : Nat} (hk : k < L.length) {M : List It} (h : WithTo L x k true M) (ho : orderS L[k].t x.t = 1) : WithTo L x (k + 1) true (M ++ [L[k]]) := by
  rcases h with ⟨h1, _⟩ | ⟨_, h2, y, hy, hny⟩
  · cases h1
  · refine .inr ⟨rfl, ?_, y, ?_, hny⟩
    · rw [List.take_succ_eq_append_getElem hk, withT_more ho, h2]
    · rw [List.take_succ_eq_append_getElem hk]; exact List.mem_append_left _ hy
theorem withTo_same {L : List It} {x : It} {k : Nat} (hk : k < L.length) {M : List It} (h : WithTo L x k false M) (ho : orderS L[k].t x.t = 0) : WithTo L x (k + 1) true (M ++ [x]) := by
  rcases h with ⟨_, h2, h3⟩ | ⟨h1, _⟩
  · refine .inr ⟨rfl, ?_, L[k], ?_, by rw [ho]; decide⟩
    · rw [List.take_succ_eq_append_getElem hk, withT_same ho, withT_all h3, h2]
    · rw [List.take_succ_eq_append_getElem hk]; exact List.mem_append_right _ (List.mem_singleton.2 rfl)
  · cases h1
theorem withTo_first {L : List It} {x : It} {k : Nat} (hk : k < L.length) {M : List It} (h : WithTo L x k false M) (ho : orderS L[k].t x.t = 1) : WithTo L x (k + 1) true (M ++ [x] ++ [L[k]]) := by
  rcases h with ⟨_, h2, h3⟩ | ⟨h1, _⟩
  · refine .inr ⟨rfl, ?_, L[k], ?_, by rw [ho]; decide⟩
    · rw [List.take_succ_eq_append_getElem hk, withT_more ho, withT_all h3, h2]
    · rw [List.take_succ_eq_append_getElem hk]; exact List.mem_append_right _ (List.mem_singleton.2 rfl)
  · cases h1
theorem withTo_end {L : List It} {x : It} {dn : Bool} {M : List It} (h : WithTo L x L.length dn M) : (if dn then M else M ++ [x]) = withT L x := by
  unfold WithTo at h
  rw [List.take_length] at h
  rcases h with ⟨h1, h2, h3⟩ | ⟨h1, h2, _⟩
  · rw [h1, h2, withT_all h3]; rfl
  · rw [h1, h2]; rfl
theorem withTo_len {L : List It} {x : It} {k : Nat} {dn : Bool} {M : List It} (hr : Rise L) (h : WithTo L x k dn M) : M.length ≤ L.length + 1 := by
  rcases h with ⟨_, h2, _⟩ | ⟨_, h2, _⟩
  · rw [h2, List.length_take]; omega
  · have hr2 : Rise (L.take k) := List.Pairwise.sublist (List.take_sublist _ _) hr
    have := len_withT hr2 x
    rw [h2, this, List.length_take]; split <;> omega

set_option maxRecDepth 100000 in
set_option maxHeartbeats 4000000 in
theorem rWith_any (v : Value) (L : List It) (x : It) (w : World) (h : IsItems w v L) (hr : Rise L) (hf : fewB L = true) (hx : x.p.size ≤ 400) :
    Calls Tryd.prog 37 #[v, itV x] w (RetIs (withT L x) w) := by
  have HI := Lib.hid h
  have HR := Lib.hid hr
  have HFEW := Lib.hid (few_mem hf)
  have h70 := few_len hf
  have HO := Lib.hid refOrder_any
  obtain ⟨hm, a, cap, rfl, _, hc⟩ := h
  clear hc hf hr
  go_enter Tryd.func37, Tryd.ntmps37
  go_wp2
  have HX := Lib.hid (inBox_new w x 27)
  have HB0 := Lib.hid ((Below.refl w.heap.size w).alloc (Nat.le_refl _) (.cells #[.string x.p, .bool x.d, .bool x.e, .string x.c] 27))
  generalize w.alloc (.cells #[.string x.p, .bool x.d, .bool x.e, .string x.c] 27) = W1 at HX HB0 ⊢
  have HI1 := Lib.hid (HI.out.stays HB0.out)
  clear HI
  generalize w.heap.size = B at HX ⊢
  go_loopw [5, 6, 7] (fun o d i wr => ∃ (k : Nat) (dn : Bool) (M : List It), k ≤ L.length ∧ i = .int .i64 k ∧ d = .bool dn ∧ OwnI W1.heap.size wr o M ∧ WithTo L x k dn M ∧ Below W1.heap.size W1 wr) (fun _ _ i _ => L.length - (intOf i).toNat)
  case atStart => exact ⟨0, false, [], Nat.zero_le _, rfl, rfl, ownI_nil _ _, withTo_start _ _, Below.refl _ _⟩
  case round =>
    obtain ⟨k, dn, M, hk, rfl, rfl, hown, hto, hB⟩ := hrel
    have HW := Lib.hid hown; have HTO := Lib.hid hto
    have hol : M.length ≤ 1000 := by have := withTo_len HR.out hto; omega
    clear hown hto
    by_cases hlt : k < L.length
    · obtain ⟨_, _, _, e, _, hc⟩ := HI1.out.stays hB
      cases e
      obtain ⟨b, off, rfl, hbl, g⟩ := hc (by omega)
      have HG := Lib.hid (g k hlt)
      obtain ⟨c0, c1, c2, c3⟩ := g k hlt
      have HX1 := Lib.hid (HX.out.stays hB)
      obtain ⟨d0, d1, d2, d3⟩ := HX1.out.cells
      clear g hc
      have hbk : decide ((k : Int) < (L.length : Int)) = true := by simpa using (show (k : Int) < L.length by omega)
      have HLESS := Lib.hid (fun ho => withTo_less HR.out hlt HTO.out ho)
      have HDONE := Lib.hid (fun (e : dn = true) => withTo_done HR.out hlt (by have := HTO.out; rw [e] at this; exact this))
      have HMORE := Lib.hid (fun (e : dn = true) ho => withTo_more hlt (by have := HTO.out; rw [e] at this; exact this) ho)
      have HSAME := Lib.hid (fun (e : dn = false) ho => withTo_same hlt (by have := HTO.out; rw [e] at this; exact this) ho)
      have HFIRST := Lib.hid (fun (e : dn = false) ho => withTo_first hlt (by have := HTO.out; rw [e] at this; exact this) ho)
      have hxs := (HFEW.out _ (List.getElem_mem hlt)).1
      obtain ⟨y, hy⟩ : ∃ y, y = L[k] := ⟨_, rfl⟩
      rw [← hy] at c0 c1 c2 c3 HG HLESS HDONE HMORE HSAME HFIRST hxs
      have HY := Lib.hid hy
      clear hy
      have O := Lib.hid (fun W => HO.out y.p x.p (by omega) (by omega) W)
      have k0 := fun d os => cell_regrown c0 d os
      have j0 := fun d os => cell_regrown d0 d os
      rcases order_three y.t x.t with ho | ho | ho
      · have O1 := O
        rw [show orderS y.p.data.toList x.p.data.toList = -1 from ho] at O1
        have HN := Lib.hid (HLESS.out ho)
        clear HLESS HDONE HMORE HSAME HFIRST O ho
        go_wp2_with fail
        refine wp_region_quiet_below (by kernel_rfl) (by kernel_rfl) ?_
        repeat (first | go_big_quiet_step ((exact Calls.regrown_of (O1.out _))) | quiet_step ((exact Calls.regrown_of (O1.out _))))
        refine wpQuiet_nil ?_
        intro wq hwq
        have hbq : Below wr.heap.size wr wq := by obtain ⟨p, rfl⟩ := hwq; exact below_regrown _ _ _
        have HW2 := Lib.hid (HW.out.stays hbq)
        have hB2 := below_step hB hbq
        obtain ⟨e0, e1, e2, e3⟩ := HG.out.stays hbl hbq
        clear hwq c0 c1 c2 c3 d0 d1 d2 d3 k0 j0 O1
        go_wp2_with (at_builtin; refine wpList_append_item rfl _ _ rfl HW2.out hB2 rfl rfl (by omega) ?_)
        intro v' w2 hown' hb2
        have HO2 := Lib.hid hown'; clear hown'
        go_wp2_with fail
        go_roundw
        case rel => exact ⟨k + 1, dn, _, by omega, by go_num, rfl, HO2.out, HN.out, hb2⟩
        case measure => simp [intOf]; omega
      · have O1 := O
        rw [show orderS y.p.data.toList x.p.data.toList = 0 from ho] at O1
        obtain rfl : dn = false := by
          rcases hdn : dn with _ | _
          · rfl
          · have := HDONE.out hdn; rw [ho] at this; cases this
        have HN := Lib.hid (HSAME.out rfl ho)
        clear HLESS HDONE HMORE HSAME HFIRST O ho
        go_wp2_with fail
        refine wp_region_quiet_below (by kernel_rfl) (by kernel_rfl) ?_
        repeat (first | go_big_quiet_step ((exact Calls.regrown_of (O1.out _))) | quiet_step ((exact Calls.regrown_of (O1.out _))))
        refine wpQuiet_nil ?_
        intro wq hwq
        have hbq : Below wr.heap.size wr wq := by obtain ⟨p, rfl⟩ := hwq; exact below_regrown _ _ _
        have HW2 := Lib.hid (HW.out.stays hbq)
        have hB2 := below_step hB hbq
        have HXq := Lib.hid (HX1.out.stays hbq)
        have HGq := Lib.hid (HG.out.stays hbl hbq)
        have hblq : b < wq.heap.size := Nat.lt_of_lt_of_le hbl hbq.size
        obtain ⟨e0, e1, e2, e3⟩ := HGq.out
        obtain ⟨f0, f1, f2, f3⟩ := HXq.out.cells
        clear hwq c0 c1 c2 c3 d0 d1 d2 d3 k0 j0 O1
        go_wp2_with (at_builtin; refine wpList_append_item rfl _ _ rfl HW2.out hB2 rfl rfl (by omega) ?_)
        intro v' w2 hown' hb2
        have HO2 := Lib.hid hown'; clear hown'
        go_wp2_with fail
        go_roundw
        case rel => exact ⟨k + 1, true, _, by omega, by go_num, rfl, HO2.out, HN.out, hb2⟩
        case measure => simp [intOf]; omega
      · have O1 := O
        rw [show orderS y.p.data.toList x.p.data.toList = 1 from ho] at O1
        rcases hdn : dn with _ | _
        · subst hdn
          have HN := Lib.hid (HFIRST.out rfl ho)
          clear HLESS HDONE HMORE HSAME HFIRST O ho
          go_wp2_with fail
          refine wp_region_quiet_below (by kernel_rfl) (by kernel_rfl) ?_
          repeat (first | go_big_quiet_step ((exact Calls.regrown_of (O1.out _))) | quiet_step ((exact Calls.regrown_of (O1.out _))))
          refine wpQuiet_nil ?_
          intro wq hwq
          have hbq : Below wr.heap.size wr wq := by obtain ⟨p, rfl⟩ := hwq; exact below_regrown _ _ _
          have HW2 := Lib.hid (HW.out.stays hbq)
          have hB2 := below_step hB hbq
          have HXq := Lib.hid (HX1.out.stays hbq)
          have HGq := Lib.hid (HG.out.stays hbl hbq)
          have hblq : b < wq.heap.size := Nat.lt_of_lt_of_le hbl hbq.size
          obtain ⟨e0, e1, e2, e3⟩ := HGq.out
          obtain ⟨f0, f1, f2, f3⟩ := HXq.out.cells
          clear hwq c0 c1 c2 c3 d0 d1 d2 d3 k0 j0 O1
          go_wp2_with (at_builtin; refine wpList_append_item rfl _ _ rfl HW2.out hB2 rfl rfl (by omega) ?_)
          intro v' w2 hown' hb2
          have HO2 := Lib.hid hown'; clear hown' e0 e1 e2 e3
          obtain ⟨_, _, _, e, _, hc⟩ := HI1.out.stays hb2
          cases e
          obtain ⟨b', off', e', _, g⟩ := hc (by omega)
          cases e'
          obtain ⟨e0, e1, e2, e3⟩ := g k hlt
          rw [← HY.out] at e0 e1 e2 e3
          clear g hc
          go_wp2_with (at_builtin; refine wpList_append_item rfl _ _ rfl HO2.out hb2 rfl rfl (by rw [List.length_append]; simp; omega) ?_)
          intro v3 w3 hown3 hb3
          have HO3 := Lib.hid hown3; clear hown3
          go_wp2_with fail
          go_roundw
          case rel => exact ⟨k + 1, true, _, by omega, by go_num, rfl, HO3.out, by have := HN.out; rw [List.append_assoc] at this; exact this, hb3⟩
          case measure => simp [intOf]; omega
        · subst hdn
          have HN := Lib.hid (HMORE.out rfl ho)
          clear HLESS HDONE HMORE HSAME HFIRST O ho
          go_wp2_with fail
          refine wp_region_quiet_below (by kernel_rfl) (by kernel_rfl) ?_
          repeat (first | go_big_quiet_step ((exact Calls.regrown_of (O1.out _))) | quiet_step ((exact Calls.regrown_of (O1.out _))))
          refine wpQuiet_nil ?_
          intro wq hwq
          have hbq : Below wr.heap.size wr wq := by obtain ⟨p, rfl⟩ := hwq; exact below_regrown _ _ _
          have HW2 := Lib.hid (HW.out.stays hbq)
          have hB2 := below_step hB hbq
          have HXq := Lib.hid (HX1.out.stays hbq)
          have HGq := Lib.hid (HG.out.stays hbl hbq)
          have hblq : b < wq.heap.size := Nat.lt_of_lt_of_le hbl hbq.size
          obtain ⟨e0, e1, e2, e3⟩ := HGq.out
          obtain ⟨f0, f1, f2, f3⟩ := HXq.out.cells
          clear hwq c0 c1 c2 c3 d0 d1 d2 d3 k0 j0 O1
          go_wp2_with (at_builtin; refine wpList_append_item rfl _ _ rfl HW2.out hB2 rfl rfl (by omega) ?_)
          intro v' w2 hown' hb2
          have HO2 := Lib.hid hown'; clear hown'
          go_wp2_with fail
          go_roundw
          case rel => exact ⟨k + 1, true, _, by omega, by go_num, rfl, HO2.out, HN.out, hb2⟩
          case measure => simp [intOf]; omega
    · have hkl : k = L.length := by omega
      have HE := Lib.hid (withTo_end (by have := HTO.out; rw [hkl] at this; exact this))
      have HX1 := Lib.hid (HX.out.stays hB)
      obtain ⟨d0, d1, d2, d3⟩ := HX1.out.cells
      clear hkl
      rcases hdn : dn with _ | _
      · subst hdn
        go_wp2_with (at_builtin; refine wpList_append_item rfl _ _ rfl HW.out hB rfl rfl (by omega) ?_)
        intro v' w2 hown' hb2
        have HS := Lib.hid hown'.items; clear hown'
        go_wp2_with fail
        go_ret
        exact ⟨_, rfl, by rw [← HE.out]; exact HS.out, below_step HB0.out hb2⟩
      · subst hdn
        have HS := Lib.hid HW.out.items
        go_wp2_with fail
        go_ret
        exact ⟨_, rfl, by rw [← HE.out]; exact HS.out, below_step HB0.out hB⟩
end Go.Proofs.YtelaamchafocpaaDoor

/-
  Contracts over this translation: strings.Join of a few names.
-/
import Derived.Test.YtkodbobjaejgjaaDoorPat
import Derived.Test.YtkodbobjaejgjaaDoorBuq
import Derived.Deep.LoopGhost
set_option linter.unusedVariables false
namespace Go.Proofs.YtkodbobjaejgjaaDoor
open Go.RowKit Go.Shelf
attribute [local go_sem] Oper.semAt_some

theorem quo_few (n : Nat) (h2 : 2 ≤ n) (h8 : n ≤ 8) : ¬ (9223372036854775807 : Int) / ((n : Int) - 1) ≤ 1 := by
  rcases (show n = 2 ∨ n = 3 ∨ n = 4 ∨ n = 5 ∨ n = 6 ∨ n = 7 ∨ n = 8 by omega) with rfl | rfl | rfl | rfl | rfl | rfl | rfl <;> decide

set_option maxRecDepth 100000 in
set_option maxHeartbeats 4000000 in
theorem slJoin_any (v : Value) (L : List ByteArray) (w : World) (hv : IsStrs w v L) (h8 : L.length ≤ 8) (h31 : ∀ x ∈ L, 1 ≤ x.size ∧ x.size ≤ 31) :
    Calls Tryd.prog 28 #[v, .string ⟨#[47]⟩] w fun e w' => e = .returned (.string ⟨(joinS (txts L)).toArray⟩) ∧ Below w.heap.size w w' := by
  match L, hv, h8, h31 with
  | [], hv, _, _ =>
    obtain ⟨hm, a, cap, rfl, _, hc⟩ := hv
    clear hc
    go_enter Tryd.func28, Tryd.ntmps28
    go_wp2
    go_ret
    exact ⟨rfl, Below.refl _ _⟩
  | [x], hv, _, _ =>
    obtain ⟨hm, a, cap, rfl, _, hc⟩ := hv
    obtain ⟨b, o, rfl, hlt, g⟩ := hc (Nat.zero_lt_one)
    have q := g 0 (Nat.zero_lt_one)
    simp only [Nat.add_zero, List.getElem_cons_zero] at q
    have HX : Hid (x = ⟨(joinS (txts [x])).toArray⟩) := str_of (by simp [txts, joinS])
    clear hc g
    go_enter Tryd.func28, Tryd.ntmps28
    go_wp2
    go_ret
    exact ⟨by rw [← HX.out]; rfl, Below.refl _ _⟩
  | x :: y :: T, hv, h8, h31 =>
    obtain ⟨tv, htail, htv⟩ := strs_tail hv
    have HTV := Lib.hid htv; have HTA := Lib.hid htail; have H31 := Lib.hid h31
    have H0 := Lib.hid hv
    clear htv htail hv h31
    have HLT : Hid ((x :: y :: T).length = (y :: T).length + 1) := rfl
    have h2 : 2 ≤ (x :: y :: T).length := by simp
    obtain ⟨L, hL⟩ : ∃ L, L = x :: y :: T := ⟨_, rfl⟩
    obtain ⟨U, hU⟩ : ∃ U, U = y :: T := ⟨_, rfl⟩
    rw [← hL] at H31 H0 HLT h2 h8 ⊢
    rw [← hU] at HLT HTV
    have HLU : Hid (L = x :: U) := by show _ = _; rw [hL, hU]
    clear hL hU
    obtain ⟨hm, a, cap, hve, _, hc⟩ := H0.out
    subst hve
    obtain ⟨b, o, rfl, hblt, g⟩ := hc (by omega)
    have HG := Lib.hid g
    have hqf := quo_few L.length h2 h8
    have q0 := g 0 (by omega)
    have hx0 : L[0]'(by omega) = x := by simp [HLU.out]
    rw [hx0, Nat.add_zero] at q0
    have hx1 : 1 ≤ x.size ∧ x.size ≤ 31 := H31.out x (by rw [HLU.out]; exact List.mem_cons_self ..)
    obtain ⟨hx1, hx2⟩ := hx1
    clear hc g hm hx0 H0
    go_enter Tryd.func28, Tryd.ntmps28
    go_wp2_with fail
    go_loop [5, 41] (fun n i => ∃ (q k : Nat), k ≤ L.length ∧ 1 ≤ q ∧ q ≤ 7 + 31 * k ∧ n = .int .i64 q ∧ i = .int .i64 k) (fun _ i => L.length - (intOf i).toNat)
    case atStart => exact ⟨L.length - 1, 0, Nat.zero_le _, by omega, by omega, val_i (by omega), rfl⟩
    case round =>
      obtain ⟨q, k, hk, hq1, hq2, rfl, rfl⟩ := hrel
      by_cases hlt : k < L.length
      · have q1 := HG.out k hlt
        have hy := H31.out L[k] (List.getElem_mem hlt)
        obtain ⟨z, hz⟩ : ∃ z, z = L[k] := ⟨_, rfl⟩
        rw [← hz] at q1 hy
        clear hz q0 hqf
        have hbk : decide ((k : Int) < (L.length : Int)) = true := by simpa using (show (k : Int) < L.length by omega)
        have hng : ¬ (9223372036854775807 : Int) - (q : Int) < (z.size : Int) := by omega
        go_wp2_with fail
        go_round
        case rel => exact ⟨q + z.size, k + 1, by omega, by omega, by omega, val_i (by omega), by go_num⟩
        case measure => simp [intOf]; omega
      · obtain rfl : k = L.length := by omega
        clear hqf
        go_wp2_with fail
        have b0 : Below w.heap.size w (w.alloc (.cells #[.pointer none, .slice none 0 0] 44)) := (Below.refl _ w).alloc (Nat.le_refl _) _
        refine (Grow_fresh w.heap.size w.heap.size q _ (Nat.le_refl _) (heap_alloc_new _ _) b0.size (by omega) (by omega)).mono ?_
        rintro e W1 ⟨rfl, hA, hbg⟩
        have b1 := b0.trans hbg
        have HA := Lib.hid hA
        have q2 := (b1.cell (p := ⟨b, o, none⟩) hblt).trans q0
        clear hA b0 hbg q0
        go_wp2_with fail
        refine (WriteString_k w.heap.size w.heap.size [] x _ (Lib.IsBuilderF.of (Or.inr HA.out)) (by simp only [List.length_nil]; omega) b1.size).mono ?_
        rintro e W2 ⟨rfl, h2', hb2', _⟩
        have b2 := b1.trans hb2'
        have HB2 : Hid (Lib.IsBuilderF 44 5 w.heap.size w.heap.size (Lib.byteCells (joinS ((txts L).take 1))) W2) := by
          have e1 : (txts L).take 1 = [x.data.toList] := by rw [HLU.out]; rfl
          rw [e1]
          rw [List.nil_append, Lib.strCells_eq] at h2'
          exact Or.inr h2'
        clear HA b1 hb2' h2' q2
        have htv := HTV.out
        obtain ⟨hum, a', cap', rfl, _, huc⟩ := htv
        have htail := HTA.out
        have HUC := Lib.hid huc
        have HLU2 := Lib.hid (txts_len L)
        have hul : U.length ≤ 7 := by have := HLT.out; omega
        clear hum huc
        go_wp2_with fail
        go_loopw [65] (fun i wx => ∃ j : Nat, j ≤ U.length ∧ i = .int .i64 j ∧ Lib.IsBuilderF 44 5 w.heap.size w.heap.size (Lib.byteCells (joinS ((txts L).take (j + 1)))) wx ∧ (joinS ((txts L).take (j + 1))).length ≤ 32 * (j + 1) ∧ joinS ((txts L).take (j + 1)) ≠ [] ∧ Below w.heap.size w wx) (fun i _ => U.length - (intOf i).toNat)
        case atStart =>
          refine ⟨0, Nat.zero_le _, rfl, HB2.out, ?_, ?_, b2⟩
          · rw [HLU.out]; show x.data.toList.length ≤ _; rw [← Lib.size_eq]; omega
          · rw [HLU.out]; show x.data.toList ≠ []; intro e; have := hx1; rw [Lib.size_eq, e] at this; simp at this
        case round =>
          obtain ⟨j, hj, rfl, hB, hjl, hjn, hbx⟩ := hrel
          have HB := Lib.hid hB; have HJN := Lib.hid hjn
          clear hB hjn htail HB2 b2
          have hLU := HLT.out
          by_cases hlt2 : j < U.length
          · obtain ⟨b', o', rfl, hblt', g'⟩ := HUC.out (by omega)
            have q3 := (hbx.cell (p := ⟨b', o' + j, none⟩) hblt').trans (g' j hlt2)
            have hy : 1 ≤ U[j].size ∧ U[j].size ≤ 31 := H31.out _ (by rw [HLU.out]; exact List.mem_cons_of_mem _ (List.getElem_mem hlt2))
            have hin : (txts L)[j + 1]'(by rw [HLU2.out]; omega) = U[j].data.toList := by rw [txts_get (by omega)]; simp [HLU.out]
            obtain ⟨z, hz⟩ : ∃ z, z = U[j] := ⟨_, rfl⟩
            rw [← hz] at q3 hy hin
            have hstep := joinS_take (L := txts L) (k := j + 1) (by rw [HLU2.out]; omega) (by omega)
            rw [hin] at hstep
            have HST := Lib.hid hstep
            have hbk : decide ((j : Int) < (U.length : Int)) = true := by simpa using (show (j : Int) < U.length by omega)
            clear hz g' hin hstep hLU
            go_wp2_with fail
            refine (WriteString_k w.heap.size w.heap.size _ ⟨#[47]⟩ _ HB.out (by rw [Lib.byteCells_length]; show _ + 1 ≤ _; omega) hbx.size).mono ?_
            rintro e W3 ⟨rfl, h3, hb3, _⟩
            have hbx3 := hbx.trans hb3
            have H3 := Lib.hid (Or.inr h3 : Lib.IsBuilderF _ _ _ _ _ W3)
            clear q3 h3
            go_wp2_with fail
            refine (WriteString_k w.heap.size w.heap.size _ z _ H3.out (by rw [List.length_append, Lib.byteCells_length, Lib.strCells_eq, Lib.byteCells_length]; show _ + 1 + _ ≤ _; omega) hbx3.size).mono ?_
            rintro e W4 ⟨rfl, h4, hb4, _⟩
            have hbx4 := hbx3.trans hb4
            have e4 : Lib.byteCells (joinS ((txts L).take (j + 1))) ++ Lib.strCells ⟨#[47]⟩ ++ Lib.strCells z = Lib.byteCells (joinS ((txts L).take (j + 1 + 1))) := by
              rw [HST.out, Lib.strCells_eq, Lib.strCells_eq, ← Lib.byteCells_append, ← Lib.byteCells_append]
              congr 1
              simp
            rw [e4] at h4
            have H4 := Lib.hid (Or.inr h4 : Lib.IsBuilderF _ _ _ _ _ W4)
            clear h4 e4 hbx3 hb3 hb4 H3
            go_wp2_with fail
            go_roundw
            case rel =>
              refine ⟨j + 1, by omega, by go_num, H4.out, ?_, ?_, hbx4⟩
              · rw [HST.out, List.length_append, List.length_cons, ← Lib.size_eq]; omega
              · rw [HST.out]; simp
            case measure => simp [intOf]; omega
          · obtain rfl : j = U.length := by omega
            have hall : (txts L).take (U.length + 1) = txts L := List.take_of_length_le (by rw [HLU2.out]; omega)
            rw [hall] at HB HJN
            have CS := Lib.hid (String_full_k w.heap.size w.heap.size _ wr HB.out HJN.out)
            have hbk : decide ((U.length : Int) < (U.length : Int)) = false := by simp
            clear hall hLU
            go_wp2_with fail
            refine CS.out.mono ?_
            rintro e W5 ⟨rfl, h5, hb5, _⟩
            go_wp2_with fail
            go_ret
            exact ⟨rfl, hbx.trans hb5⟩
end Go.Proofs.YtkodbobjaejgjaaDoor

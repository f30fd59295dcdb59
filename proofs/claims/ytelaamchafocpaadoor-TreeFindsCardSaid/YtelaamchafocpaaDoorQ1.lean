/-
  Texts put together: contracts and laws that this seat's proofs share.
-/
import Derived.Test.YtelaamchafocpaaDoorQ0
import Derived.Shelf.Strings.Builder2
import Derived.Deep.QuietTactic
import Derived.BigQuiet
import Derived.WalkSmall
import Derived.Lib.Hide
import Derived.Deep.LoopGhost
import Derived.RegionTactic
import Derived.BigRegionIn
import Derived.Sort.CutIn
import Derived.ChangeAlike
import Derived.Outline
import Derived.OwnWalkIn
import Derived.RangeFuncCalls
import Derived.RangeFuncLeaves
import Derived.Orders
import Derived.Still
import Derived.Handy
import Derived.Shelf.Abstract
import Derived.OrdersIn
import Derived.TacticsIn
import Derived.BigRegion
import Derived.Shelf.Strings.SplitCore
import Derived.Shelf.Strings.Count
import Derived.Lib.SplitLaws
import Derived.Lib.SliceRun
/-
  Contracts of strings.Builder's WriteString, Grow over this translation.
-/
set_option linter.unusedVariables false
namespace Go.Proofs.YtelaamchafocpaaDoor
open Go.RowKit Go.Shelf

set_option maxHeartbeats 2000000 in
set_option maxRecDepth 100000 in
theorem WriteString_k (B b : Nat) (bs : List Value) (s : ByteArray) (w : World) (h : Lib.IsBuilderF 85 5 B b bs w) (hlen : bs.length + s.size ≤ 140737488355328) (hBw : B ≤ w.heap.size) :
    Calls Tryd.prog 72 #[.pointer (some ⟨b, 0, none⟩), .string s] w fun e w' => e = .returned (.tuple #[.int .i64 s.size, .nilIface]) ∧ (Lib.BuilderAtF 85 5 B b (.pointer (some ⟨b, 0, none⟩)) (bs ++ Lib.strCells s) w' ∧ Below B w w' ∧ Lib.OthersKept 5 (some b) w w') := by
  obtain ⟨i0, hi, hz0, hz1, hz2⟩ := info_parts infoByte
  go_enter Tryd.func72, Tryd.ntmps72
  go_wp2_with (go_at_call 81; refine (copyCheck_k B b bs _ h).mono ?_)
  rintro e w1 ⟨rfl, h1, hb1, hk1⟩
  obtain ⟨hB, v, hbk, hown, hne⟩ := h1
  have c0 : w1.cell? ⟨b, 0, none⟩ = some (.pointer (some ⟨b, 0, none⟩)) := by rw [Lib.cell_of_heap hbk]; rfl
  have c1 : w1.cell? ⟨b, 1, none⟩ = some v := by rw [Lib.cell_of_heap hbk]; rfl
  go_wp2_with (at_builtin; refine Lib.wpList_append_own_stringF _ rfl _ _ 81 9 rfl B 5 i0 Tryd.underlying81 Tryd.underlying9 hi hz0 hz1 hz2 _ _ _ rfl hown s rfl ?c3 ?c4 ?c5 ?_)
  case c3 => unfold maxLen; omega
  case c4 => omega
  case c5 => have := hb1.size; omega
  intro v' w2 hown' hgrow _
  have hlt : b < w1.heap.size := (Array.getElem?_eq_some_iff.1 hbk).1
  have hb2 : w2.heap[b]? = some (.cells #[.pointer (some ⟨b, 0, none⟩), v] 85 (0, 0)) := by
    rw [hgrow.block b hlt (fun e => hne e.symm)]
    exact hbk
  have d0 : w2.cell? ⟨b, 0, none⟩ = some (.pointer (some ⟨b, 0, none⟩)) := by rw [Lib.cell_of_heap hb2]; rfl
  have d1 : w2.cell? ⟨b, 1, none⟩ = some v := by rw [Lib.cell_of_heap hb2]; rfl
  have f1 : w2.frozen? ⟨b, 1, none⟩ = false := Lib.frozen_of_heap hb2 1
  obtain ⟨ao, n', cap, rfl⟩ : ∃ ao n' cap, v' = .slice ao n' cap := by
    rcases hown'.2 with ⟨hv, _⟩ | ⟨g, cap, cur, fz, hv, _⟩
    · exact ⟨_, _, _, hv⟩
    · exact ⟨_, _, _, hv⟩
  go_wp2
  go_ret2
  refine ⟨rfl, ?_, ?_, (hk1.grown hgrow (Lib.ownsRowF_kind hown)).setCell ⟨b, 1, none⟩ rfl _⟩
  · exact Lib.BuilderAtF.put (T := 85) (e := 5) hB hb2 (bs' := bs ++ Lib.strCells s) (by simpa [Lib.strCells_length] using hown') (by decide)
  · exact (hb1.grown hgrow (by have := hb1.size; omega) (fun k hk => (hown.lt k hk).1)).setCell (p := ⟨b, 1, none⟩) hB _

theorem sizeByte : (Tryd.prog.info? 5).map (fun i => i.size) = some 1 := by kernel_rfl
set_option maxHeartbeats 2000000 in
set_option maxRecDepth 1000000 in
theorem grow_fresh (B b n : Nat) (w : World) (hB : B ≤ b) (hbk : w.heap[b]? = some (.cells #[.pointer (some ⟨b, 0, none⟩), .slice none 0 0] 85 (0, 0))) (hBw : B ≤ w.heap.size) (hn : n ≤ 281474976710656) :
    Calls Tryd.prog 82 #[.pointer (some ⟨b, 0, none⟩), .int .i64 n] w fun e w' => e = .returned (.tuple #[]) ∧ (Lib.BuilderAt 85 5 B b (.pointer (some ⟨b, 0, none⟩)) [] w' ∧ Below B w w') := by
  obtain ⟨cs, hrun, hle, hmax⟩ := Lib.run_makeNoZero (P := Tryd.prog) w.drew #[3] 81 5 Tryd.underlying81 n hn
  have hw : IntKind.i64.wrap (IntKind.i64.wrap 0 + (n : Int)) = n := by
    rw [IntKind.wrap_i64, IntKind.wrap_i64]
    omega
  have hcall : (callFunc 93 #[.int .i64 (n : Int)]).run Tryd.prog w.drew = .ok (.value (.slice (some ⟨w.drew.heap.size, 0, none⟩) n cs.size)) (w.drew.drew.drew.alloc (.cells cs 5)) := by
    rw [run_callFunc_extern Tryd.func93 (by kernel_rfl) (by kernel_rfl) (by kernel_rfl) (e := Extern.BytealgMakeNoZero.makeNoZero #[3] #[81]) (by kernel_rfl), hrun]
    rfl
  have hlt : b < w.heap.size := (Array.getElem?_eq_some_iff.1 hbk).1
  have c1 : w.drew.cell? ⟨b, 1, none⟩ = some (.slice none 0 0) := by
    have : w.drew.heap[b]? = _ := hbk
    rw [Lib.cell_of_heap this]; rfl
  have c2 : (w.alloc (.cells cs 5)).cell? ⟨b, 1, none⟩ = some (.slice none 0 0) := by
    have : (w.alloc (.cells cs 5)).heap[b]? = _ := (Lib.alloc_old w _ b hlt).trans hbk
    rw [Lib.cell_of_heap this]; rfl
  have f2 : (w.alloc (.cells cs 5)).frozen? ⟨b, 1, none⟩ = false := Lib.frozen_of_heap ((Lib.alloc_old w _ b hlt).trans hbk) 1
  have hcopy : ∀ W : World, (Builtin.copy_ #[81, 81] 3 #[.slice (some ⟨w.heap.size, 0, none⟩) 0 cs.size, .slice none 0 0]).run Tryd.prog W = .ok (goInt 0) W :=
    fun W => run_copy_none W 81 81 3 5 _ _ 0 cs.size 0 0 Tryd.underlying81 sizeByte rfl
  go_enter Tryd.func82, Tryd.ntmps82
  go_wp2
  have hfin := Lib.grown_fresh (T := 85) (e := 5) (cs := cs) hB hbk hBw (hmax (by unfold maxLen; omega)) (by decide)
  go_region
  all_goals (go_wp2; go_end0; exact ⟨rfl, by first | exact hfin | (rw [World.setCell_alloc_past _ b 1 _ hlt] at hfin; exact hfin)⟩)

set_option maxHeartbeats 2000000 in
set_option maxRecDepth 1000000 in
theorem Grow_fresh (B b n : Nat) (w : World) (hB : B ≤ b) (hbk : w.heap[b]? = some (.cells #[.pointer none, .slice none 0 0] 85 (0, 0))) (hBw : B ≤ w.heap.size) (hn1 : 1 ≤ n) (hn : n ≤ 281474976710656) :
    Calls Tryd.prog 71 #[.pointer (some ⟨b, 0, none⟩), .int .i64 n] w fun e w' => e = .returned (.tuple #[]) ∧ (Lib.BuilderAt 85 5 B b (.pointer (some ⟨b, 0, none⟩)) [] w' ∧ Below B w w') := by
  have h0 : w.cell? ⟨b, 0, none⟩ = some (.pointer none) := by rw [Lib.cell_of_heap hbk]; rfl
  have hsh : w.shape? b = some (85, 2) := by unfold World.shape?; rw [hbk]; rfl
  have hfz : w.frozen? ⟨b, 0, none⟩ = false := Lib.frozen_of_heap hbk 0
  have hbk1 : (w.setCell ⟨b, 0, none⟩ (.pointer (some ⟨b, 0, none⟩))).heap[b]? = some (.cells #[.pointer (some ⟨b, 0, none⟩), .slice none 0 0] 85 (0, 0)) := by
    simp [World.setCell, Array.getElem?_modify, hbk]
  have c1 : (w.setCell ⟨b, 0, none⟩ (.pointer (some ⟨b, 0, none⟩))).cell? ⟨b, 1, none⟩ = some (.slice none 0 0) := by rw [Lib.cell_of_heap hbk1]; rfl
  have hb1 : Below B w (w.setCell ⟨b, 0, none⟩ (.pointer (some ⟨b, 0, none⟩))) := (Below.refl B w).setCell (p := ⟨b, 0, none⟩) hB _
  obtain ⟨W1, hW1⟩ : ∃ W1, W1 = w.setCell ⟨b, 0, none⟩ (.pointer (some ⟨b, 0, none⟩)) := ⟨_, rfl⟩
  have CC := Lib.hid (copyCheck_fresh b w h0 hsh hfz)
  rw [← hW1] at hbk1 c1 hb1 CC
  have HB := Lib.hid hbk1
  have hp : (0 : Int) < (n : Int) := by omega
  clear hW1 hbk1 h0 hsh hfz
  go_enter Tryd.func71, Tryd.ntmps71
  go_wp2_with fail
  refine CC.out.mono ?_
  rintro e w1 ⟨rfl, rfl⟩
  go_wp2_with fail
  go_quiet (fail)
  go_wp2_with fail
  have hbk2 : (w1.drewN nq).heap[b]? = some (.cells #[.pointer (some ⟨b, 0, none⟩), .slice none 0 0] 85 (0, 0)) := HB.out
  refine (grow_fresh B b n _ hB hbk2 (Nat.le_trans hBw hb1.size) hn).mono ?_
  rintro e w2 ⟨rfl, hA, hb2⟩
  go_wp2_with fail
  go_end0
  exact ⟨rfl, hA, (below_drewN hb1 nq).trans hb2⟩
end Go.Proofs.YtelaamchafocpaaDoor
/-
  Contracts over this translation: strings.Join of a few names.
-/
set_option linter.unusedVariables false
namespace Go.Proofs.YtelaamchafocpaaDoor
open Go.RowKit Go.Shelf
attribute [local go_sem] Oper.semAt_some

theorem quo_few (n : Nat) (h2 : 2 ≤ n) (h8 : n ≤ 8) : ¬ (9223372036854775807 : Int) / ((n : Int) - 1) ≤ 1 := by
  rcases (show n = 2 ∨ n = 3 ∨ n = 4 ∨ n = 5 ∨ n = 6 ∨ n = 7 ∨ n = 8 by omega) with rfl | rfl | rfl | rfl | rfl | rfl | rfl <;> decide

set_option maxRecDepth 100000 in
set_option maxHeartbeats 4000000 in
theorem slJoin_any (v : Value) (L : List ByteArray) (w : World) (hv : IsStrs w v L) (h8 : L.length ≤ 8) (h31 : ∀ x ∈ L, 1 ≤ x.size ∧ x.size ≤ 31) :
    Calls Tryd.prog 63 #[v, .string ⟨#[47]⟩] w fun e w' => e = .returned (.string ⟨(joinS (txts L)).toArray⟩) ∧ Below w.heap.size w w' := by
  match L, hv, h8, h31 with
  | [], hv, _, _ =>
    obtain ⟨hm, a, cap, rfl, _, hc⟩ := hv
    clear hc
    go_enter Tryd.func63, Tryd.ntmps63
    go_wp2
    go_ret
    exact ⟨rfl, Below.refl _ _⟩
  | [x], hv, _, _ =>
    obtain ⟨hm, a, cap, rfl, _, hc⟩ := hv
    obtain ⟨b, o, rfl, hlt, g⟩ := hc (Nat.zero_lt_one)
    have q := g 0 (Nat.zero_lt_one)
    simp only [Nat.add_zero, List.getElem_cons_zero] at q
    have HX : Hid (x = ⟨(joinS (txts [x])).toArray⟩) := str_of (by simp [txts, joinS])
    clear hc g
    go_enter Tryd.func63, Tryd.ntmps63
    go_wp2
    go_ret
    exact ⟨by rw [← HX.out]; rfl, Below.refl _ _⟩
  | x :: y :: T, hv, h8, h31 =>
    obtain ⟨tv, htail, htv⟩ := strs_tail hv
    have HTV := Lib.hid htv; have HTA := Lib.hid htail; have H31 := Lib.hid h31
    have H0 := Lib.hid hv
    clear htv htail hv h31
    have HLT : Hid ((x :: y :: T).length = (y :: T).length + 1) := rfl
    have h2 : 2 ≤ (x :: y :: T).length := by simp
    obtain ⟨L, hL⟩ : ∃ L, L = x :: y :: T := ⟨_, rfl⟩
    obtain ⟨U, hU⟩ : ∃ U, U = y :: T := ⟨_, rfl⟩
    rw [← hL] at H31 H0 HLT h2 h8 ⊢
    rw [← hU] at HLT HTV
    have HLU : Hid (L = x :: U) := by show _ = _; rw [hL, hU]
    clear hL hU
    obtain ⟨hm, a, cap, hve, _, hc⟩ := H0.out
    subst hve
    obtain ⟨b, o, rfl, hblt, g⟩ := hc (by omega)
    have HG := Lib.hid g
    have hqf := quo_few L.length h2 h8
    have q0 := g 0 (by omega)
    have hx0 : L[0]'(by omega) = x := by simp [HLU.out]
    rw [hx0, Nat.add_zero] at q0
    have hx1 : 1 ≤ x.size ∧ x.size ≤ 31 := H31.out x (by rw [HLU.out]; exact List.mem_cons_self ..)
    obtain ⟨hx1, hx2⟩ := hx1
    clear hc g hm hx0 H0
    go_enter Tryd.func63, Tryd.ntmps63
    go_wp2_with fail
    go_loop [5, 41] (fun n i => ∃ (q k : Nat), k ≤ L.length ∧ 1 ≤ q ∧ q ≤ 7 + 31 * k ∧ n = .int .i64 q ∧ i = .int .i64 k) (fun _ i => L.length - (intOf i).toNat)
    case atStart => exact ⟨L.length - 1, 0, Nat.zero_le _, by omega, by omega, val_i (by omega), rfl⟩
    case round =>
      obtain ⟨q, k, hk, hq1, hq2, rfl, rfl⟩ := hrel
      by_cases hlt : k < L.length
      · have q1 := HG.out k hlt
        have hy := H31.out L[k] (List.getElem_mem hlt)
        obtain ⟨z, hz⟩ : ∃ z, z = L[k] := ⟨_, rfl⟩
        rw [← hz] at q1 hy
        clear hz q0 hqf
        have hbk : decide ((k : Int) < (L.length : Int)) = true := by simpa using (show (k : Int) < L.length by omega)
        have hng : ¬ (9223372036854775807 : Int) - (q : Int) < (z.size : Int) := by omega
        go_wp2_with fail
        go_round
        case rel => exact ⟨q + z.size, k + 1, by omega, by omega, by omega, val_i (by omega), by go_num⟩
        case measure => simp [intOf]; omega
      · obtain rfl : k = L.length := by omega
        clear hqf
        go_wp2_with fail
        have b0 : Below w.heap.size w (w.alloc (.cells #[.pointer none, .slice none 0 0] 85)) := (Below.refl _ w).alloc (Nat.le_refl _) _
        refine (Grow_fresh w.heap.size w.heap.size q _ (Nat.le_refl _) (heap_alloc_new _ _) b0.size (by omega) (by omega)).mono ?_
        rintro e W1 ⟨rfl, hA, hbg⟩
        have b1 := b0.trans hbg
        have HA := Lib.hid hA
        have q2 := (b1.cell (p := ⟨b, o, none⟩) hblt).trans q0
        clear hA b0 hbg q0
        go_wp2_with fail
        refine (WriteString_k w.heap.size w.heap.size [] x _ (Lib.IsBuilderF.of (Or.inr HA.out)) (by simp only [List.length_nil]; omega) b1.size).mono ?_
        rintro e W2 ⟨rfl, h2', hb2', _⟩
        have b2 := b1.trans hb2'
        have HB2 : Hid (Lib.IsBuilderF 85 5 w.heap.size w.heap.size (Lib.byteCells (joinS ((txts L).take 1))) W2) := by
          have e1 : (txts L).take 1 = [x.data.toList] := by rw [HLU.out]; rfl
          rw [e1]
          rw [List.nil_append, Lib.strCells_eq] at h2'
          exact Or.inr h2'
        clear HA b1 hb2' h2' q2
        have htv := HTV.out
        obtain ⟨hum, a', cap', rfl, _, huc⟩ := htv
        have htail := HTA.out
        have HUC := Lib.hid huc
        have HLU2 := Lib.hid (txts_len L)
        have hul : U.length ≤ 7 := by have := HLT.out; omega
        clear hum huc
        go_wp2_with fail
        go_loopw [65] (fun i wx => ∃ j : Nat, j ≤ U.length ∧ i = .int .i64 j ∧ Lib.IsBuilderF 85 5 w.heap.size w.heap.size (Lib.byteCells (joinS ((txts L).take (j + 1)))) wx ∧ (joinS ((txts L).take (j + 1))).length ≤ 32 * (j + 1) ∧ joinS ((txts L).take (j + 1)) ≠ [] ∧ Below w.heap.size w wx) (fun i _ => U.length - (intOf i).toNat)
        case atStart =>
          refine ⟨0, Nat.zero_le _, rfl, HB2.out, ?_, ?_, b2⟩
          · rw [HLU.out]; show x.data.toList.length ≤ _; rw [← Lib.size_eq]; omega
          · rw [HLU.out]; show x.data.toList ≠ []; intro e; have := hx1; rw [Lib.size_eq, e] at this; simp at this
        case round =>
          obtain ⟨j, hj, rfl, hB, hjl, hjn, hbx⟩ := hrel
          have HB := Lib.hid hB; have HJN := Lib.hid hjn
          clear hB hjn htail HB2 b2
          have hLU := HLT.out
          by_cases hlt2 : j < U.length
          · obtain ⟨b', o', rfl, hblt', g'⟩ := HUC.out (by omega)
            have q3 := (hbx.cell (p := ⟨b', o' + j, none⟩) hblt').trans (g' j hlt2)
            have hy : 1 ≤ U[j].size ∧ U[j].size ≤ 31 := H31.out _ (by rw [HLU.out]; exact List.mem_cons_of_mem _ (List.getElem_mem hlt2))
            have hin : (txts L)[j + 1]'(by rw [HLU2.out]; omega) = U[j].data.toList := by rw [txts_get (by omega)]; simp [HLU.out]
            obtain ⟨z, hz⟩ : ∃ z, z = U[j] := ⟨_, rfl⟩
            rw [← hz] at q3 hy hin
            have hstep := joinS_take (L := txts L) (k := j + 1) (by rw [HLU2.out]; omega) (by omega)
            rw [hin] at hstep
            have HST := Lib.hid hstep
            have hbk : decide ((j : Int) < (U.length : Int)) = true := by simpa using (show (j : Int) < U.length by omega)
            clear hz g' hin hstep hLU
            go_wp2_with fail
            refine (WriteString_k w.heap.size w.heap.size _ ⟨#[47]⟩ _ HB.out (by rw [Lib.byteCells_length]; show _ + 1 ≤ _; omega) hbx.size).mono ?_
            rintro e W3 ⟨rfl, h3, hb3, _⟩
            have hbx3 := hbx.trans hb3
            have H3 := Lib.hid (Or.inr h3 : Lib.IsBuilderF _ _ _ _ _ W3)
            clear q3 h3
            go_wp2_with fail
            refine (WriteString_k w.heap.size w.heap.size _ z _ H3.out (by rw [List.length_append, Lib.byteCells_length, Lib.strCells_eq, Lib.byteCells_length]; show _ + 1 + _ ≤ _; omega) hbx3.size).mono ?_
            rintro e W4 ⟨rfl, h4, hb4, _⟩
            have hbx4 := hbx3.trans hb4
            have e4 : Lib.byteCells (joinS ((txts L).take (j + 1))) ++ Lib.strCells ⟨#[47]⟩ ++ Lib.strCells z = Lib.byteCells (joinS ((txts L).take (j + 1 + 1))) := by
              rw [HST.out, Lib.strCells_eq, Lib.strCells_eq, ← Lib.byteCells_append, ← Lib.byteCells_append]
              congr 1
              simp
            rw [e4] at h4
            have H4 := Lib.hid (Or.inr h4 : Lib.IsBuilderF _ _ _ _ _ W4)
            clear h4 e4 hbx3 hb3 hb4 H3
            go_wp2_with fail
            go_roundw
            case rel =>
              refine ⟨j + 1, by omega, by go_num, H4.out, ?_, ?_, hbx4⟩
              · rw [HST.out, List.length_append, List.length_cons, ← Lib.size_eq]; omega
              · rw [HST.out]; simp
            case measure => simp [intOf]; omega
          · obtain rfl : j = U.length := by omega
            have hall : (txts L).take (U.length + 1) = txts L := List.take_of_length_le (by rw [HLU2.out]; omega)
            rw [hall] at HB HJN
            have CS := Lib.hid (String_full_k w.heap.size w.heap.size _ wr HB.out HJN.out)
            have hbk : decide ((U.length : Int) < (U.length : Int)) = false := by simp
            clear hall hLU
            go_wp2_with fail
            refine CS.out.mono ?_
            rintro e W5 ⟨rfl, h5, hb5, _⟩
            go_wp2_with fail
            go_ret
            exact ⟨rfl, hbx.trans hb5⟩
end Go.Proofs.YtelaamchafocpaaDoor
/-
  Contracts over this translation: strings.Clone, strings.Index at one byte, path.Join.
-/
set_option linter.unusedVariables false
namespace Go.Proofs.YtelaamchafocpaaDoor
open Go.RowKit Go.Shelf
attribute [local go_sem] Oper.semAt_some

theorem cloneL_any (s : ByteArray) (hs : s.size ≤ 281474976710656) (w : World) : Calls Tryd.prog 62 #[.string s] w fun e w' => e = .returned (.string s) ∧ Below w.heap.size w w' := by
  have C := AnyPu.stringslite_Clone Tryd.lays_pu25 s w hs
  change Calls Tryd.prog 62 _ _ _ at C
  refine C.mono ?_
  rintro e w' ⟨h1, h2⟩
  exact ⟨h1, h2⟩
theorem Clone_any (s : ByteArray) (hs : s.size ≤ 281474976710656) (w : World) : Calls Tryd.prog 45 #[.string s] w fun e w' => e = .returned (.string s) ∧ Below w.heap.size w w' := by
  go_enter Tryd.func45, Tryd.ntmps45
  go_wp2_with fail
  refine (cloneL_any s hs _).mono ?_
  rintro e w1 ⟨rfl, hb⟩
  go_wp2
  go_ret
  exact ⟨rfl, hb⟩

theorem joinS_small : ∀ {L : List (List UInt8)}, (∀ p ∈ L, p.length ≤ 31) → (joinS L).length ≤ 32 * L.length
  | [], _ => Nat.zero_le _
  | [a], h => by have := h a (List.mem_cons_self ..); show a.length ≤ _; simp; omega
  | a :: b :: r, h => by
    have := joinS_small (L := b :: r) (fun p hp => h p (List.mem_cons_of_mem _ hp))
    have h1 := h a (List.mem_cons_self ..)
    show (a ++ 47 :: joinS (b :: r)).length ≤ _
    rw [List.length_append, List.length_cons]
    simp only [List.length_cons] at this ⊢
    omega

set_option maxRecDepth 100000 in
set_option maxHeartbeats 2000000 in
theorem Join_any (v : Value) (L : List ByteArray) (w : World) (hv : IsStrs w v L) :
    Calls Tryd.prog 46 #[v] w fun e w' => e = .returned (.string ⟨(joinN (txts L)).toArray⟩) ∧ Below w.heap.size w w' := by
  have HV := Lib.hid hv
  obtain ⟨hm, a, cap, rfl, _, hc⟩ := hv
  have hmm : L.length ≤ 9223372036854775807 := by unfold maxLen at hm; omega
  have HC := Lib.hid hc
  have HLEN := Lib.hid (txts_len L)
  clear hm hc
  by_cases h8 : 8 < L.length
  · have e1 : decide ((8 : Int) < (L.length : Int)) = true := decide_eq_true (by omega)
    have HN : Hid (joinN (txts L) = []) := joinN_long (by rw [HLEN.out]; exact h8)
    go_enter Tryd.func46, Tryd.ntmps46
    go_wp2
    go_ret
    exact ⟨by rw [HN.out]; rfl, Below.refl _ _⟩
  · have e1 : decide ((8 : Int) < (L.length : Int)) = false := decide_eq_false (by omega)
    have NA := Lib.hid Name_any
    go_enter Tryd.func46, Tryd.ntmps46
    go_wp2_with fail
    go_loopw [10] (fun i wr => ∃ (k : Nat), k ≤ L.length ∧ i = .int .i64 k ∧ NamesTo (txts L) k ∧ Below w.heap.size w wr) (fun i _ => L.length - (intOf i).toNat)
    case atStart => exact ⟨0, Nat.zero_le _, rfl, names_zero _, Below.refl _ _⟩
    case round =>
      obtain ⟨k, hk, rfl, hn, hb⟩ := hrel
      have HN := Lib.hid hn; clear hn
      by_cases hlt : k < L.length
      · obtain ⟨b1, o1, rfl, hbl, g1⟩ := HC.out (by omega)
        have q1 := (hb.cell (p := ⟨b1, o1 + k, none⟩) hbl).trans (g1 k hlt)
        clear g1
        have hlt2 : k < (txts L).length := by rw [HLEN.out]; exact hlt
        have hin : (txts L)[k] = L[k].data.toList := txts_get hlt
        obtain ⟨y, hy⟩ : ∃ y, y = L[k] := ⟨_, rfl⟩
        rw [← hy] at q1 hin
        have HY := Lib.hid hin; clear hin hy
        have hbk : decide ((k : Int) < (L.length : Int)) = true := by simpa using (show (k : Int) < L.length by omega)
        have R := Lib.hid (NA.out y)
        rcases hnb : nameB y.data.toList with _ | _
        · have HS : Hid (joinN (txts L) = []) := joinN_bad (List.getElem_mem hlt2) (by rw [HY.out]; exact hnb)
          rw [hnb] at R
          clear hnb
          go_wp2_with ((with_reducible refine (R.out _).mono ?_); rintro e w2 ⟨rfl, hb2⟩)
          go_ret
          exact ⟨by rw [HS.out]; rfl, hb.trans (hb2.mono hb.size)⟩
        · have HS := Lib.hid (names_step HN.out hlt2 (by rw [HY.out]; exact hnb))
          rw [hnb] at R
          clear hnb
          go_wp2_with ((with_reducible refine (R.out _).mono ?_); rintro e w2 ⟨rfl, hb2⟩)
          go_roundw
          case rel => exact ⟨k + 1, by omega, by go_num, HS.out, hb.trans (hb2.mono hb.size)⟩
          case measure => simp [intOf]; omega
      · obtain rfl : k = L.length := by omega
        have hall : (txts L).all nameB = true := names_all (by rw [HLEN.out]; exact HN.out)
        have HS : Hid (joinN (txts L) = joinS (txts L)) := joinN_small (by rw [HLEN.out]; omega) hall
        have hev : ∀ x ∈ L, 1 ≤ x.size ∧ x.size ≤ 31 := fun x hx => by
          have := nameB_iff.1 (List.all_eq_true.1 hall x.data.toList (List.mem_map.2 ⟨x, hx, rfl⟩))
          rw [← Lib.size_eq] at this; exact ⟨this.1, this.2.1⟩
        have hsz : (⟨(joinS (txts L)).toArray⟩ : ByteArray).size ≤ 281474976710656 := by
          have := joinS_small (L := txts L) (fun p hp => (nameB_iff.1 (List.all_eq_true.1 hall p hp)).2.1)
          rw [HLEN.out] at this
          show (joinS (txts L)).toArray.size ≤ _
          rw [List.size_toArray]; omega
        have J := Lib.hid (slJoin_any _ L wr (HV.out.stays hb) (by omega) hev)
        have CL := Lib.hid (Clone_any _ hsz)
        clear hall hev hsz
        go_wp2_with fail
        refine J.out.mono ?_
        rintro e w2 ⟨rfl, hb2⟩
        go_wp2_with fail
        refine (CL.out _).mono ?_
        rintro e w3 ⟨rfl, hb3⟩
        have hB := (hb.trans (hb2.mono hb.size)).trans (hb3.mono (Nat.le_trans hb.size hb2.size))
        go_wp2
        go_ret
        exact ⟨by rw [HS.out]; rfl, hB⟩
end Go.Proofs.YtelaamchafocpaaDoor
/-
  Contracts over this translation: strings.SplitSeq at a slash, its iterator.
-/
set_option linter.unusedVariables false
namespace Go.Proofs.YtelaamchafocpaaDoor
open Go.RowKit Go.Shelf
attribute [local go_sem] Oper.semAt_some

abbrev encP (x : ByteArray) : Array Value := #[.string x]
abbrev sep1 : ByteArray := ⟨#[47]⟩

theorem Index_any (x : ByteArray) (w : World) : Calls Tryd.prog 79 #[.string x, .string sep1] w fun e w' => e = .returned (.int .i64 (Lib.indexByte x.data.toList 47)) ∧ w = w' := by
  have C := Any.strings_Index_one Tryd.lays143 x 47 w
  change Calls Tryd.prog 79 _ _ _ at C
  exact C.mono fun e w' ⟨h1, h2⟩ => ⟨h1, h2.symm⟩

theorem index_parts (l : List UInt8) : (Lib.indexByte l 47 = -1 ∧ pts l = [l]) ∨ ∃ k : Nat, Lib.indexByte l 47 = k ∧ k < l.length ∧ pts l = l.take k :: pts (l.drop (k + 1)) := by
  induction l with
  | nil => exact .inl ⟨rfl, rfl⟩
  | cons c r ih =>
    by_cases hc : c = 47
    · subst hc
      exact .inr ⟨0, by simp [Lib.indexByte], by simp, by rw [pts_slash]; rfl⟩
    · have hb : (c == 47) = false := beq_eq_false_iff_ne.2 hc
      obtain ⟨h, t, e⟩ := List.exists_cons_of_ne_nil (pts_ne r)
      rcases ih with ⟨h1, h2⟩ | ⟨k, h1, h2, h3⟩
      · refine .inl ⟨?_, pts_other hc h2⟩
        simp only [Lib.indexByte, hb]
        rw [if_neg (by decide), h1]; rfl
      · refine .inr ⟨k + 1, ?_, by simp; omega, ?_⟩
        · simp only [Lib.indexByte, hb]
          rw [if_neg (by decide), h1, if_neg (by simp)]
          simp
        · rw [pts_other hc h3]; rfl

theorem pts_len (l : List UInt8) : (pts l).length ≤ l.length + 1 ∧ 1 ≤ (pts l).length := by
  refine ⟨?_, List.length_pos_iff.2 (pts_ne l)⟩
  induction l with
  | nil => simp [pts]
  | cons c r ih =>
    by_cases hc : c = 47
    · subst hc; rw [pts_slash]; simp; exact ih
    · obtain ⟨h, t, e⟩ := List.exists_cons_of_ne_nil (pts_ne r)
      rw [pts_other hc e]; rw [e] at ih; simp at ih ⊢; omega

/-- The boxes of SplitSeq. -/
def seqW (s : ByteArray) (w : World) : World := ((w.alloc (.cells #[.string s] 9)).alloc (.cells #[.string sep1] 9)).alloc (.cells #[.int .i64 0] 3)
abbrev seqV (n : Nat) : Value := .func (.func 77) #[] #[.pointer (some ⟨n + 1, 0, none⟩), .pointer (some ⟨n, 0, none⟩), .pointer (some ⟨n + 2, 0, none⟩)]
set_option maxRecDepth 100000 in
theorem splitSeq_any (s : ByteArray) (w : World) : Calls Tryd.prog 69 #[.string s, .string sep1, .int .i64 0] w fun e w' => e = .returned (seqV w.heap.size) ∧ seqW s w = w' := by
  go_enter Tryd.func69, Tryd.ntmps69
  go_wp2
  go_ret
  exact ⟨rfl, rfl⟩
set_option maxRecDepth 100000 in
theorem SplitSeq_any (s : ByteArray) (w : World) : Calls Tryd.prog 60 #[.string s, .string sep1] w fun e w' => e = .returned (seqV w.heap.size) ∧ seqW s w = w' := by
  have C := Lib.hid (splitSeq_any s)
  go_enter Tryd.func60, Tryd.ntmps60
  go_wp2_with fail
  refine (C.out _).mono ?_
  rintro e w1 ⟨rfl, rfl⟩
  go_wp2
  go_ret
  exact ⟨rfl, rfl⟩
theorem seqW_rows (s : ByteArray) (w : World) : Row (seqW s w) w.heap.size #[.string s] 9 ∧ Row (seqW s w) (w.heap.size + 1) #[.string sep1] 9 ∧ Row (seqW s w) (w.heap.size + 2) #[.int .i64 0] 3 ∧ Below w.heap.size w (seqW s w) ∧ (seqW s w).heap.size = w.heap.size + 3 := by
  unfold seqW
  refine ⟨?_, ?_, ?_, ?_, by simp⟩
  · exact ((Row.made w #[.string s] 9).alloc _).alloc _
  · have := (Row.made (w.alloc (.cells #[.string s] 9)) #[.string sep1] 9).alloc (.cells #[.int .i64 0] 3)
    simpa using this
  · have := Row.made ((w.alloc (.cells #[.string s] 9)).alloc (.cells #[.string sep1] 9)) #[.int .i64 0] 3
    simpa using this
  · exact ((((Below.refl _ _).alloc (Nat.le_refl _) _).alloc (by simp) _).alloc (by simp; omega) _)

/-- The text that is left. -/
def leftN (W : World) (B : Nat) : Nat := match W.cell? ⟨B, 0, none⟩ with
  | some (.string x) => x.size
  | _ => 0
theorem leftN_row {W : World} {B : Nat} {x : ByteArray} {T : TypeId} (h : Row W B #[.string x] T) : leftN W B = x.size := by
  unfold leftN; rw [h.cell 0]; rfl
def sepA (B : Nat) (_ b : Nat) : Prop := b = B ∨ b = B + 1 ∨ b = B + 2
theorem keeps_row {A : Nat → Prop} {X Y : World} (h : KeepsAt A X Y) {k : Nat} {xs : Array Value} {t : TypeId} (hR : Row X k xs t) (hk : A k) : Row Y k xs t := (h k hk).trans hR
/-- What has come is a beginning. -/
def Began (l : List UInt8) (pre : List ByteArray) (x : ByteArray) : Prop := txts pre ++ pts x.data.toList = pts l ∧ x.size ≤ l.length
theorem began_len {l : List UInt8} {pre : List ByteArray} {x : ByteArray} (h : Began l pre x) : pre.length < l.length + 1 := by
  have h1 := congrArg List.length h.1
  rw [List.length_append, txts_len] at h1
  have := pts_len l; have := pts_len x.data.toList; omega

set_option maxHeartbeats 4000000 in
set_option maxRecDepth 100000 in
theorem seq_own (n : Nat) (hn : 1 ≤ n) (stops : Prop) (B : Nat) (s : ByteArray) (hs : s.size ≤ 1000000) (w : World)
    (h1 : Row w B #[.string s] 9) (h2 : Row w (B + 1) #[.string sep1] 9) (h3 : Row w (B + 2) #[.int .i64 0] 3) :
    SeqOwn Fence.wide n Tryd.prog 77 #[.pointer (some ⟨B + 1, 0, none⟩), .pointer (some ⟨B, 0, none⟩), .pointer (some ⟨B + 2, 0, none⟩)] encP (sepA B) 0 stops
      (fun xs => txts xs = pts s.data.toList) (fun pre => ∃ rest, txts pre ++ rest = pts s.data.toList) (s.data.toList.length + 1) w := fun l J Jx W hW hst hJ hJx hY h0 => by
  have hro : Fence.wide.round = none := rfl
  have IX := Lib.hid Index_any
  refine callsIn_of_wp Tryd.func77 rfl trivial ?_ hro
  simp only [Tryd.ntmps77, List.size_toArray, List.length_cons, List.length_nil, Nat.reduceAdd, Nat.reduceSub, Array.replicate_succ, Array.replicate_zero, List.push_toArray, List.append_toArray, List.nil_append, List.cons_append]
  have r1 := h1.step hW; have r2 := h2.step hW; have r3 := h3.step hW
  have c2 := r2.cell 0
  simp only [List.getElem?_toArray, List.getElem?_cons_zero] at c2
  gi_wp2
  gi_loopw [7, 8] (fun _ _ wr => ∃ (pre : List ByteArray) (x : ByteArray), Began s.data.toList pre x ∧ J pre wr ∧ Row wr B #[.string x] 9 ∧ Row wr (B + 1) #[.string sep1] 9 ∧ Row wr (B + 2) #[.int .i64 0] 3)
    (fun _ _ wr => leftN wr B)
  case atStart => exact ⟨[], s, ⟨rfl, by rw [Lib.size_eq]; exact Nat.le_refl _⟩, h0, r1, r2, r3⟩
  case round =>
    obtain ⟨pre, x, hC, hj, g1, g2, g3⟩ := hrel
    clear r1 r2 r3 c2 h1 h2 h3
    have hless := began_len hC
    have hxs := hC.2
    rw [← Lib.size_eq] at hxs
    have HC := Lib.hid hC
    have p1 := g1.cell 0; have p2 := g2.cell 0; have p3 := g3.cell 0; have f1 := g1.free 0
    simp only [List.getElem?_toArray, List.getElem?_cons_zero] at p1 p2 p3
    have G1 := Lib.hid g1; have G2 := Lib.hid g2; have G3 := Lib.hid g3
    clear hC g1 g2 g3
    rcases index_parts x.data.toList with ⟨hi, hp⟩ | ⟨k, hi, hk, hp⟩
    · have I1 := Lib.hid (IX.out x)
      rw [hi] at I1
      obtain ⟨fn, tmps, assign, body, hy, hRd⟩ := hY pre x _ hj hless (fun h => absurd h (by decide))
      simp only [encP] at hy
      have HFIN : Hid (txts (pre ++ [x]) = pts s.data.toList) := by
        show _ = _
        rw [← HC.out.1, hp]; simp [txts]
      clear hY hi hp
      gi_wp2_with (refine ⟨trivial, ?_⟩; gi_at_call 79; refine (callsIn_wide.2 (I1.out _)).mono ?_; rintro e w1 ⟨rfl, rfl⟩)
      refine hRd.mono ?_
      rintro e W3 (⟨rfl, hJ3, _⟩ | ⟨rfl, hJ3⟩)
      · gi_wp2
        go_end0
        exact ⟨⟨_, rfl⟩, .inl ⟨_, HFIN.out, hJ3⟩⟩
      · gi_wp2
        go_end0
        exact ⟨⟨_, rfl⟩, .inr ⟨_, ⟨[], by rw [List.append_nil]; exact HFIN.out⟩, hJ3⟩⟩
    · have I1 := Lib.hid (IX.out x)
      rw [hi] at I1
      rw [← Lib.size_eq] at hk
      have hd1 := fun W => run_slice_to (P := Tryd.prog) Tryd.underlying9 x k (by omega) W
      have hx1 := Lib.extract_data x 0 k
      have hx2 := Lib.extract_to_end x (k + 1)
      have hys : (x.extract (k + 1) x.size).size = x.size - (k + 1) := by rw [ByteArray.size_extract]; omega
      obtain ⟨t, ht⟩ : ∃ t, t = x.extract 0 k := ⟨_, rfl⟩
      obtain ⟨y, hyy⟩ : ∃ y, y = x.extract (k + 1) x.size := ⟨_, rfl⟩
      rw [← ht] at hd1 hx1
      rw [← hyy] at hx2 hys
      have HYY := Lib.hid hyy
      have HB : Hid (Began s.data.toList (pre ++ [t]) y) := by
        refine ⟨?_, by rw [← Lib.size_eq]; omega⟩
        rw [← HC.out.1, hp, hx2]; simp [txts, hx1]
      have HLT : Hid (y.size < x.size) := by show _ < _; omega
      have hneg : ¬ (k : Int) < 0 := by omega
      obtain ⟨fn, tmps, assign, body, hy, hRd⟩ := hY pre t _ hj hless (fun h => absurd h (by decide))
      simp only [encP] at hy
      clear hY hi hp ht hyy hx1 hx2 hys
      gi_wp2_with (refine ⟨trivial, ?_⟩; gi_at_call 79; refine (callsIn_wide.2 (I1.out _)).mono ?_; rintro e w1 ⟨rfl, rfl⟩)
      refine hRd.mono ?_
      rintro e W3 (⟨rfl, hJ3, hk3⟩ | ⟨rfl, hJ3⟩)
      · have r1 := keeps_row hk3 G1.out (.inl rfl); have r2 := keeps_row hk3 G2.out (.inr (.inl rfl)); have r3 := keeps_row hk3 G3.out (.inr (.inr rfl))
        have p1 := r1.cell 0; have p2 := r2.cell 0; have p3 := r3.cell 0; have f1 := r1.free 0
        simp only [List.getElem?_toArray, List.getElem?_cons_zero] at p1 p2 p3
        have R1 := Lib.hid r1; have R2 := Lib.hid r2; have R3 := Lib.hid r3
        clear r1 r2 r3 hk3
        gi_wp2
        rw [← HYY.out]
        have q1 : Row (W3.setCell ⟨B, 0, none⟩ (.string y)) B #[.string y] 9 := R1.out.set 0 _
        go_roundw
        case rel => exact ⟨_, y, HB.out, hJ _ B _ _ (.inl rfl) hJ3 (grownBy_setCell' _ _ _), q1, R2.out.other _ _ (by show B + 1 ≠ B; omega), R3.out.other _ _ (by show B + 2 ≠ B; omega)⟩
        case measure => rw [leftN_row q1, leftN_row G1.out]; exact HLT.out
      · gi_wp2
        refine bodyPost_ret (results_none rfl _ _ _) rfl ?_
        have HB1 := HB.out.1
        exact ⟨⟨_, rfl⟩, .inr ⟨_, ⟨_, HB1⟩, hJ3⟩⟩
end Go.Proofs.YtelaamchafocpaaDoor
/-
  Contracts over this translation: the names that a text begins with, handed out one by one.
-/
set_option linter.unusedVariables false
namespace Go.Proofs.YtelaamchafocpaaDoor
open Go.RowKit Go.Shelf
attribute [local go_sem] Oper.semAt_some

theorem room_of_none {F : Fence} (hd : F.depth = none) (k : Nat) : F.room k := fun d h => by rw [hd] at h; cases h
theorem RoundIn.anyDepth {F : Fence} (hd : F.depth = none) {m m' : Nat} {P : Program} {l : Nat} {f : FuncId} {tmps : Array Value} {assign body : Code} {w : World} {R : Ending → World → Prop}
    (h : RoundIn F m P l f tmps assign body w R) : RoundIn F m' P l f tmps assign body w R := ⟨h.1, fun c cs _ => h.2 c cs (room_of_none hd _)⟩
theorem RoundIn.inRound {F : Fence} {m : Nat} {P : Program} {l : Nat} {f : FuncId} {tmps : Array Value} {assign body : Code} {w : World} {R : Ending → World → Prop} (l' : Nat)
    (h : RoundIn F m P l f tmps assign body w R) : RoundIn (F.inRound l') m P l f tmps assign body w R := h

theorem grown_some {W W' : World} {B : Nat} (h : Below W.heap.size W W') : W.grownBy W' (some B) := ⟨h.os, h.tape, h.output, h.size, fun k hk _ => h.block k hk⟩

/-- The blocks that names$1 makes ahead of the first name. -/
def winA (n b : Nat) : Prop := n ≤ b ∧ b < n + 6
def AllN (L : List ByteArray) : Prop := ∀ p ∈ L, nameB p.data.toList = true
theorem allN_snoc {L : List ByteArray} {x : ByteArray} (h : AllN L) (hx : nameB x.data.toList = true) : AllN (L ++ [x]) := fun p hp => by
  rcases List.mem_append.1 hp with e | e
  · exact h p e
  · rw [List.mem_singleton.1 e]; exact hx
theorem takeWhile_app {p : List UInt8 → Bool} {A : List (List UInt8)} {x : List UInt8} {R : List (List UInt8)} (hA : ∀ a ∈ A, p a = true) (hx : p x = false) : (A ++ x :: R).takeWhile p = A := by
  induction A with
  | nil => rw [List.nil_append, List.takeWhile_cons, hx]; rfl
  | cons a A ih =>
    rw [List.cons_append, List.takeWhile_cons, hA a (List.mem_cons_self ..), if_pos rfl, ih (fun b hb => hA b (List.mem_cons_of_mem _ hb))]
theorem first_all {l : List UInt8} {L : List ByteArray} (h : AllN L) (e : txts L = pts l) : txts L = firstN l := by
  unfold firstN; rw [← e, takeWhile_all]
  exact List.all_eq_true.2 fun p hp => by obtain ⟨q, hq, rfl⟩ := List.mem_map.1 hp; exact h q hq
theorem first_some {l : List UInt8} {L : List ByteArray} {x : ByteArray} {R : List (List UInt8)} (h : AllN L) (hx : nameB x.data.toList = false) (e : txts (L ++ [x]) ++ R = pts l) : txts L = firstN l := by
  unfold firstN; rw [← e]
  rw [show txts (L ++ [x]) ++ R = txts L ++ x.data.toList :: R by simp [txts]]
  rw [takeWhile_app (fun a ha => by obtain ⟨q, hq, rfl⟩ := List.mem_map.1 ha; exact h q hq) hx]

set_option maxRecDepth 100000 in
theorem names_any (s : ByteArray) (w : World) : Calls Tryd.prog 44 #[.string s] w fun e w' => e = .returned (.func (.func 59) #[] #[.pointer (some ⟨w.heap.size, 0, none⟩)]) ∧ w.alloc (.cells #[.string s] 9) = w' := by
  go_enter Tryd.func44, Tryd.ntmps44
  go_wp2
  go_ret
  exact ⟨rfl, rfl⟩

/-- A name. -/
abbrev NameS := { x : ByteArray // nameB x.data.toList = true }
abbrev encN (x : NameS) : Array Value := #[.string x.1]
def vals (M : List NameS) : List ByteArray := M.map (·.1)
theorem vals_all (M : List NameS) : AllN (vals M) := fun p hp => by obtain ⟨q, _, rfl⟩ := List.mem_map.1 hp; exact q.2
theorem vals_len (M : List NameS) : (vals M).length = M.length := List.length_map ..
theorem vals_snoc (M : List NameS) (x : NameS) : vals (M ++ [x]) = vals M ++ [x.1] := by simp [vals]
/-- What the loop over the parts holds. -/
def nameI (J : List NameS → World → Prop) (n l : Nat) (pre : List ByteArray) (W : World) : Prop :=
  ∃ M : List NameS, pre = vals M ∧ J M W ∧ Row W n #[.func (.yield l) #[] #[]] 48 ∧ n + 6 ≤ W.heap.size
def nameX (J : List NameS → World → Prop) (c : Code) (pre : List ByteArray) (W : World) : Prop :=
  c = .ret ∧ ∃ (M : List NameS) (x : ByteArray), pre = vals M ++ [x] ∧ nameB x.data.toList = false ∧ J M W

set_option maxHeartbeats 4000000 in
set_option maxRecDepth 100000 in
theorem names_own (n : Nat) (hn : 6 ≤ n) (Bs : Nat) (s : ByteArray) (hs : s.size ≤ 1000000) (w : World) (h1 : Row w Bs #[.string s] 9) :
    SeqOwn Fence.wide n Tryd.prog 59 #[.pointer (some ⟨Bs, 0, none⟩)] encN winA 6 False
      (fun xs => txts (vals xs) = firstN s.data.toList) (fun _ => False) (s.data.toList.length + 1) w := fun l J Jx W hW hst hJ hJx hY h0 => by
  have hro : Fence.wide.round = none := rfl
  have hn1 : 1 ≤ n := by omega
  have NA := Lib.hid Name_any
  refine callsIn_of_wp_marks Tryd.func59 rfl trivial ?_ hro
  simp only [Tryd.ntmps59, List.size_toArray, List.length_cons, List.length_nil, Nat.reduceAdd, Nat.reduceSub, Array.replicate_succ, Array.replicate_zero, List.push_toArray, List.append_toArray, List.nil_append, List.cons_append]
  have hBs := (h1.step hW).lt
  have r1 := (h1.step hW).alloc (.cells #[.func (.yield l) #[] #[]] 48)
  have c1 := r1.cell 0
  simp only [List.getElem?_toArray, List.getElem?_cons_zero] at c1
  gi_wp2_with (refine ⟨trivial, ?_⟩; gi_at_call 60; refine (callsIn_wide.2 (SplitSeq_any _ _)).mono ?_; rintro e w1 ⟨rfl, rfl⟩)
  obtain ⟨q1, q2, q3, hbV, hVs⟩ := seqW_rows s (W.alloc (.cells #[.func (.yield l) #[] #[]] 48))
  have hy0 : Row (seqW s (W.alloc (.cells #[.func (.yield l) #[] #[]] 48))) W.heap.size #[.func (.yield l) #[] #[]] 48 := (Row.made W _ _).step hbV
  have hBW : Below W.heap.size W (seqW s (W.alloc (.cells #[.func (.yield l) #[] #[]] 48))) := ((Below.refl _ W).alloc (Nat.le_refl _) _).trans (hbV.mono (by simp))
  rw [World.size_alloc] at q1 q2 q3 hVs
  obtain ⟨V, hV⟩ : ∃ V, V = seqW s (W.alloc (.cells #[.func (.yield l) #[] #[]] 48)) := ⟨_, rfl⟩
  rw [← hV] at q1 q2 q3 hVs hy0 hBW ⊢
  clear hV hbV r1 c1
  have hVs4 : V.heap.size = W.heap.size + 4 := hVs
  have inA : ∀ b, (sepA (W.heap.size + 1) (V.heap.size + 2) b ∨ b = V.heap.size ∨ b = V.heap.size + 1) → winA W.heap.size b := fun b hb => by
    rcases hb with (h | h | h) | h | h <;> (unfold winA; omega)
  have inB : ∀ b, (sepA (W.heap.size + 1) (V.heap.size + 2) b ∨ b = V.heap.size ∨ b = V.heap.size + 1) → b ≠ W.heap.size := fun b hb => by
    rcases hb with (h | h | h) | h | h <;> omega
  have HA := Lib.hid inA; have HB := Lib.hid inB; have HVS := Lib.hid hVs4
  clear inA inB hVs
  refine wpIn_rangeFunc_win hro hn1 (gf := 77) (lb := #[.pointer (some ⟨W.heap.size + 1 + 1, 0, none⟩), .pointer (some ⟨W.heap.size + 1, 0, none⟩), .pointer (some ⟨W.heap.size + 1 + 2, 0, none⟩)]) rfl trivial (enters_of Tryd.func77 (by kernel_rfl) rfl)
    (seq_own (n - 1) (by omega) True (W.heap.size + 1) s hs V q1 q2 q3) (Below.refl _ _) (fun _ => rfl)
    (fun b hb => by rcases hb with h | h | h <;> omega)
    (nameI J W.heap.size l) (nameX J)
    (fun L b X Y hb hI hg => by
      obtain ⟨M, e, hj, hr, hz⟩ := hI
      exact ⟨M, e, hJ _ b _ _ (HA.out b hb) hj hg, (hg.block _ hr.lt (fun e => HB.out b hb (by cases e; rfl))).trans hr, Nat.le_trans hz hg.size⟩)
    (fun c L b X Y hb hI hg => by
      obtain ⟨hc, M, x, e, hx, hj⟩ := hI
      exact ⟨hc, M, x, e, hx, hJ _ b _ _ (HA.out b hb) hj hg⟩)
    (fun _ _ _ _ => trivial)
    (fun o => by
      have hB2 : Below W.heap.size W ((V.alloc (.deferred (some []))).alloc (.loop o)) := (hBW.alloc (by omega) _).alloc (by simp; omega) _
      refine ⟨[], rfl, hJ _ W.heap.size _ _ ⟨Nat.le_refl _, by omega⟩ h0 (grown_some hB2), (hy0.alloc _).alloc _, by simp; omega⟩)
    (fun x => { tmps := #[.func (.yield l) #[] #[], .pointer (some ⟨Bs, 0, none⟩), .pointer (some ⟨W.heap.size, 0, none⟩), .string x, .string s, seqV (W.heap.size + 1), .string x, undef, undef, undef, undef, undef, undef, undef, undef, undef], defers := [] })
    ?assign ?body ?done ?stop
  all_goals clear hVs4
  case assign =>
    intro l' x W' K hK
    gi_wp2
    exact hK
  case body =>
    rintro l' pre x W' ⟨M, rfl, hj, hbox, hsz⟩ hlen _
    rw [vals_len] at hlen
    have hn2 : 1 ≤ n - 1 - 1 := by omega
    have R := Lib.hid (NA.out x W')
    clear h0 q1 q2 q3 hy0
    rcases hb : nameB x.data.toList with _ | _
    · rw [hb] at R
      have HX := Lib.hid hb
      clear hb hY
      gi_wp2_with fail
      refine ⟨trivial, ?_⟩
      refine (CallsIn.inRound l' (callsIn_wide.2 R.out)).mono ?_
      rintro e W2 ⟨rfl, hb2⟩
      gi_wp2_with fail
      refine ⟨fun _ h => (by cases h), ?_⟩
      gi_wp2
      exact ⟨KeepsAt.below hb2 (fun k hk => by have := HVS.out; omega), rfl, M, x, rfl, HX.out, hJ _ W.heap.size _ _ ⟨Nat.le_refl _, by omega⟩ hj (grown_some hb2)⟩
    · rw [hb] at R
      have HX := Lib.hid hb
      clear hb
      gi_wp2_with fail
      refine ⟨trivial, ?_⟩
      refine (CallsIn.inRound l' (callsIn_wide.2 R.out)).mono ?_
      rintro e W2 ⟨rfl, hb2⟩
      have hj2 := hJ _ W.heap.size _ _ ⟨Nat.le_refl _, by omega⟩ hj (grown_some hb2)
      have hbx2 := hbox.step hb2
      have hsz2 : W.heap.size + 6 ≤ W2.heap.size := Nat.le_trans hsz hb2.size
      have cb := hbx2.cell 0
      simp only [List.getElem?_toArray, List.getElem?_cons_zero] at cb
      obtain ⟨fn, tmps, assign, body, hy, hRd⟩ := hY M ⟨x, HX.out⟩ _ hj2 hlen (fun _ => hsz2)
      simp only [encN] at hy
      have HRD := Lib.hid (RoundIn.inRound l' hRd)
      clear hY hRd hj hbox
      gi_wp2_with fail
      refine (RoundIn.anyDepth rfl HRD.out).mono ?_
      rintro e W3 (⟨rfl, hJ3, hk3⟩ | ⟨rfl, hJ3⟩)
      · gi_wp2
        have hsz3 : W.heap.size + 6 ≤ W3.heap.size := by
          have h1 := hk3 (W.heap.size + 5) ⟨by omega, by omega⟩
          rw [Array.getElem?_eq_getElem (show W.heap.size + 5 < W2.heap.size by omega)] at h1
          have := (Array.getElem?_eq_some_iff.1 h1).1
          omega
        refine ⟨(KeepsAt.below hb2 (fun k hk => ?_)).trans (hk3.mono (fun k hk => HA.out k hk)), ⟨_, (vals_snoc M ⟨x, HX.out⟩).symm, hJ3, keeps_row hk3 hbx2 ⟨Nat.le_refl _, by omega⟩, hsz3⟩⟩
        have := (HA.out k hk).2
        omega
      · exact (hst _ _ hJ3).elim
  case done =>
    rintro xs W' hxs ⟨M, rfl, hj, hbox, hsz⟩ hK
    gi_wp2
    refine ⟨by simp, .inl ⟨_, _, rfl, run_takeDeferred hK, ?_⟩⟩
    exact ⟨_, results_none rfl _ _ _, ⟨_, rfl⟩, .inl ⟨M, first_all (vals_all M) hxs, hJ _ V.heap.size _ _ (HA.out _ (.inr (.inl rfl))) hj (grownBy_putObj' _ _ _)⟩⟩
  case stop =>
    rintro c pre W' ⟨rest, hr⟩ ⟨rfl, M, x, rfl, hx, hj⟩ hK
    gi_wp2
    refine ⟨by simp, .inl ⟨_, _, rfl, run_takeDeferred hK, ?_⟩⟩
    exact ⟨_, results_none rfl _ _ _, ⟨_, rfl⟩, .inl ⟨M, first_some (vals_all M) hx hr, hJ _ V.heap.size _ _ (HA.out _ (.inr (.inl rfl))) hj (grownBy_putObj' _ _ _)⟩⟩
end Go.Proofs.YtelaamchafocpaaDoor
/-
  Regions that draw their order, by what each operation is good for: one proof an operation, whatever the order. Of no program.
  Each operation has a word 'V i v w' on its value and the world; the words stay true behind whatever the others do ('T'). An operation may lean on the words of those that its edges name.
-/
namespace Go.Proofs.YtelaamchafocpaaDoor
open Go

section
variable {P : Program} {ops : Array Oper} {Q : Exit → Act → World → Prop}

def predsOf (ops : Array Oper) (i : Nat) : List Nat := ((ops[i]?).map fun o => (o.after.toList.filter (Region.binds .any)).map (·.on)).getD []
/-- Who comes ahead of i by edges, three steps back. -/
def ancOf (ops : Array Oper) : Nat → Nat → List Nat
  | 0, _ => []
  | f + 1, i => predsOf ops i ++ (predsOf ops i).flatMap (ancOf ops f)
theorem anc_listed {listed : Array Bool} (hc : ∀ k, listed.getD k false = true → ∀ j ∈ predsOf ops k, listed.getD j false = true) : ∀ (f i : Nat), (∀ j ∈ predsOf ops i, listed.getD j false = true) → ∀ k ∈ ancOf ops f i, listed.getD k false = true
  | 0, _, _, k, hk => by cases hk
  | f + 1, i, hp, k, hk => by
    rw [ancOf, List.mem_append, List.mem_flatMap] at hk
    rcases hk with hk | ⟨j, hj, hk⟩
    · exact hp k hk
    · exact anc_listed hc f j (hc j (hp j hj)) k hk
/-- The edges lead back, no operation is guarded, no slot is written twice. -/
def relyB (ops : Array Oper) (n : Nat) : Bool :=
  (List.range ops.size).all fun i => (predsOf ops i).all (· < i) && ((ops[i]?).map (·.guard.isNone)).getD false &&
    (((ops[i]?).bind (·.dst)).map fun t => decide (t < n) && (List.range ops.size).all fun k => k == i || !(((ops[k]?).bind (·.dst)) == some t)).getD true

def slot (a : Act) (t : Tmp) : Value := a.tmps.getD t undef
theorem slot_put_same (a : Act) (t : Tmp) (v : Value) (h : t < a.tmps.size) : slot (a.put (some t) v) t = v := by
  simp [slot, Act.put, h]
theorem slot_put_other (a : Act) (d : Option Tmp) (t : Tmp) (v : Value) (h : d ≠ some t) : slot (a.put d v) t = slot a t := by
  cases d with
  | none => rfl
  | some d =>
    have h' : d ≠ t := fun e => h (by rw [e])
    simp [slot, Act.put, h']
theorem size_put (a : Act) (d : Option Tmp) (v : Value) : (a.put d v).tmps.size = a.tmps.size := by
  cases d <;> simp [Act.put]
theorem defers_put (a : Act) (d : Option Tmp) (v : Value) : (a.put d v).defers = a.defers := by
  cases d <;> simp [Act.put]

/-- What stays true of k while i runs is asked only as long as somebody but i leans on it. -/
def keptB (n : Nat) (needs : Nat → List Nat) (last : List Nat) (i k : Nat) : Bool := last.contains k || (List.range n).any fun j => j != i && (needs j).contains k
def dstOf (ops : Array Oper) (i : Nat) : Option Tmp := (ops[i]?).bind (·.dst)
/-- The closed look: an operation leans on those that its edges name, or on what was there; no word speaks of a slot that is written while it must hold. -/
def leanB (ops : Array Oper) (m : Nat) (needs : Nat → List Nat) (last : List Nat) (dep : Nat → List Tmp) : Bool :=
  (List.range ops.size).all fun i => ((needs i).all fun k => decide (ops.size ≤ k) || (ancOf ops 3 i).contains k) &&
    (List.range m).all fun k => k == i || (ancOf ops 3 k).contains i || !keptB ops.size needs last i k || ((dstOf ops i).map fun t => !(dep k).contains t).getD true

/-- The same, sharper: whoever comes ahead of i by edges leans on nothing any more. -/
def keptA (ops : Array Oper) (needs : Nat → List Nat) (last : List Nat) (i k : Nat) : Bool := last.contains k || (List.range ops.size).any fun j => j != i && !(ancOf ops 3 i).contains j && (needs j).contains k
def leanA (ops : Array Oper) (m : Nat) (needs : Nat → List Nat) (last : List Nat) (dep : Nat → List Tmp) : Bool :=
  (List.range ops.size).all fun i => ((needs i).all fun k => decide (ops.size ≤ k) || (ancOf ops 3 i).contains k) &&
    (List.range m).all fun k => k == i || (ancOf ops 3 k).contains i || !keptA ops needs last i k || ((dstOf ops i).map fun t => !(dep k).contains t).getD true
theorem kept_of_A {ops : Array Oper} {needs : Nat → List Nat} {last : List Nat} {i k : Nat} (h : keptA ops needs last i k = true) : keptB ops.size needs last i k = true := by
  unfold keptA at h
  unfold keptB
  rw [Bool.or_eq_true] at h ⊢
  refine h.imp (fun h => h) fun h => ?_
  rw [List.any_eq_true] at h ⊢
  obtain ⟨j, h1, h2⟩ := h
  simp only [Bool.and_eq_true] at h2 ⊢
  exact ⟨j, h1, h2.1.1, h2.2⟩
theorem lean_A {ops : Array Oper} {m : Nat} {needs : Nat → List Nat} {last : List Nat} {dep : Nat → List Tmp} (h : leanB ops m needs last dep = true) : leanA ops m needs last dep = true := by
  unfold leanB at h
  unfold leanA
  rw [List.all_eq_true] at h ⊢
  intro i hi
  have h1 := h i hi
  rw [Bool.and_eq_true] at h1 ⊢
  refine ⟨h1.1, ?_⟩
  have h2 := h1.2
  rw [List.all_eq_true] at h2 ⊢
  intro k hk
  have h3 := h2 k hk
  cases ha : keptA ops needs last i k with
  | false => simp
  | true => rw [kept_of_A ha] at h3; exact h3

structure RelyInv (ops : Array Oper) (m : Nat) (a0 : Act) (G : World → Prop) (V : Nat → Act → World → Prop) (needs : Nat → List Nat) (last : List Nat) (listed : Array Bool) (a : Act) (w : World) : Prop where
  g : G w
  defers : a.defers = a0.defers
  size : a.tmps.size = a0.tmps.size
  len : listed.size = ops.size
  val : ∀ k, k < m → (ops.size ≤ k ∨ listed.getD k false = true) → (k ∈ last ∨ ∃ j, j < ops.size ∧ listed.getD j false = false ∧ k ∈ needs j) → V k a w
  old : ∀ t, (∀ k, dstOf ops k = some t → listed.getD k false = false) → slot a t = slot a0 t
  closed : ∀ k, listed.getD k false = true → ∀ j ∈ predsOf ops k, listed.getD j false = true

theorem ready_spec {listed : Array Bool} {i : Nat} (h : i ∈ Region.ready .any ops listed) (hl : listed.size = ops.size) : i < ops.size ∧ listed.getD i false = false ∧ ∀ j ∈ predsOf ops i, listed.getD j false = true := by
  unfold Region.ready at h
  rw [List.mem_filter, List.mem_range] at h
  obtain ⟨hi, h2⟩ := h
  simp only [Bool.and_eq_true, Bool.not_eq_true'] at h2
  obtain ⟨h2, h3⟩ := h2
  refine ⟨hi, ?_, ?_⟩
  · have hil : i < listed.size := by omega
    simpa [Array.getD, hil] using h2
  · intro j hj
    unfold predsOf at hj
    rw [Array.getElem?_eq_getElem hi] at hj h3
    simp only [Option.map_some, Option.getD_some, List.mem_map, List.mem_filter] at hj h3
    obtain ⟨e, ⟨he, hb⟩, rfl⟩ := hj
    rw [Array.all_eq_true_iff_forall_mem] at h3
    have := h3 e (by simpa using he)
    simpa [hb] using this
theorem ready_of {listed : Array Bool} {i : Nat} (hi : i < ops.size) (hl : listed.size = ops.size) (h0 : listed.getD i false = false) (hp : ∀ j ∈ predsOf ops i, listed.getD j false = true) : i ∈ Region.ready .any ops listed := by
  unfold Region.ready
  rw [List.mem_filter, List.mem_range]
  refine ⟨hi, ?_⟩
  simp only [Bool.and_eq_true, Bool.not_eq_true']
  refine ⟨?_, ?_⟩
  · have hil : i < listed.size := by omega
    simpa [Array.getD, hil] using h0
  · rw [Array.getElem?_eq_getElem hi]
    simp only [Option.map_some, Option.getD_some]
    rw [Array.all_eq_true_iff_forall_mem]
    intro e he
    by_cases hb : Region.binds .any e = true
    · have := hp e.on (by unfold predsOf; rw [Array.getElem?_eq_getElem hi]; simp only [Option.map_some, Option.getD_some, List.mem_map, List.mem_filter]; exact ⟨e, ⟨by simpa using he, hb⟩, rfl⟩)
      simp [hb, this]
    · simp [hb]

def unl (n : Nat) (listed : Array Bool) : Nat := (List.range n).countP fun i => !listed.getD i false
theorem unl_zero {n : Nat} {listed : Array Bool} (h : unl n listed = 0) (i : Nat) (hi : i < n) : listed.getD i false = true := by
  unfold unl at h
  rw [List.countP_eq_zero] at h
  have := h i (List.mem_range.2 hi)
  simpa using this
theorem getD_set (listed : Array Bool) (i j : Nat) (hi : i < listed.size) : (listed.setIfInBounds i true).getD j false = if j = i then true else listed.getD j false := by
  by_cases h : j = i
  · subst h; simp [hi]
  · have h' : i ≠ j := fun e => h e.symm
    simp [h, h']
theorem countP_flip {l : List Nat} (hn : l.Nodup) {p q : Nat → Bool} {i : Nat} (hi : i ∈ l) (hp : p i = true) (hq : q i = false) (he : ∀ j, j ≠ i → q j = p j) : l.countP p = l.countP q + 1 := by
  induction l with
  | nil => cases hi
  | cons x l ih =>
    rw [List.nodup_cons] at hn
    rw [List.countP_cons, List.countP_cons]
    by_cases hx : x = i
    · subst hx
      have : l.countP p = l.countP q := List.countP_congr fun j hj => by rw [he j (fun e => hn.1 (e ▸ hj))]
      simp [hp, hq, this]
    · rcases List.mem_cons.1 hi with h | h
      · exact absurd h.symm hx
      · have := ih hn.2 h
        rw [he x hx]; omega
theorem unl_set {n : Nat} {listed : Array Bool} {i : Nat} (hi : i < n) (hs : i < listed.size) (h0 : listed.getD i false = false) : unl n listed = unl n (listed.setIfInBounds i true) + 1 := by
  unfold unl
  refine countP_flip List.nodup_range (List.mem_range.2 hi) (by simpa using h0) (by rw [getD_set _ _ _ hs]; simp) fun j hj => ?_
  rw [getD_set _ _ _ hs, if_neg hj]
theorem all_listed {listed : Array Bool} (hl : listed.size = ops.size) (hord : ∀ i, i < ops.size → ∀ j ∈ predsOf ops i, j < i) (hr : Region.ready .any ops listed = []) : ∀ i, i < ops.size → listed.getD i false = true := by
  intro i
  induction i using Nat.strongRecOn with
  | ind i ih =>
    intro hi
    by_cases h : listed.getD i false = true
    · exact h
    · exfalso
      have := ready_of hi hl (by simpa using h) (fun j hj => ih j (hord i hi j hj) (Nat.lt_trans (hord i hi j hj) hi))
      rw [hr] at this
      cases this

def AllFrom (S : Nat → Oper → Prop) : Nat → List Oper → Prop
  | _, [] => True
  | n, o :: l => S n o ∧ AllFrom S (n + 1) l
theorem allFrom_get {S : Nat → Oper → Prop} : ∀ {l : List Oper} {n : Nat}, AllFrom S n l → ∀ i (hi : i < l.length), S (n + i) l[i]
  | _ :: _, _, h, 0, _ => h.1
  | _ :: l, n, h, i + 1, hi => by
    have := allFrom_get h.2 i (by simpa using hi)
    rw [Nat.add_assoc, Nat.add_comm 1 i] at this
    exact this
theorem forall_ops {S : Nat → Oper → Prop} {l : List Oper} (h : AllFrom S 0 l) : ∀ i (hi : i < l.toArray.size), S i (l.toArray[i]) := fun i hi => by
  have := allFrom_get h i (by simpa using hi)
  rw [Nat.zero_add] at this
  simpa using this
/-- A slot that nobody writes but who comes behind i. -/
def oldB (ops : Array Oper) (i : Nat) (t : Tmp) : Bool := (List.range ops.size).all fun k => !(dstOf ops k == some t) || (predsOf ops k).contains i
theorem old_of {i : Nat} {t : Tmp} (h : oldB ops i t = true) : ∀ k, dstOf ops k = some t → i ∈ predsOf ops k := fun k hk => by
  have hkl : k < ops.size := by
    rcases Nat.lt_or_ge k ops.size with h | h
    · exact h
    · unfold dstOf at hk; rw [Array.getElem?_eq_none h] at hk; cases hk
  have := (List.all_eq_true.1 h) k (List.mem_range.2 hkl)
  rw [hk] at this
  simpa using this
theorem wp_value {o : Oper} {a : Act} {w w' : World} {v : Value} {K : Act → World → Prop} (h : (execOp a.eval o).run P w = .ok (.value v) w') (hk : K (a.put o.dst v) w') : o.wp P a w K Q := by
  unfold Oper.wp; rw [h]; exact hk
theorem wp_skip {o : Oper} {a : Act} {w w' : World} {K : Act → World → Prop} (h : (execOp a.eval o).run P w = .ok .skip w') (hk : K (a.put o.dst undef) w') : o.wp P a w K Q := by
  unfold Oper.wp; rw [h]; exact hk
/-- The frame behind it, written out: what was written is whatever it is, all else is as it was. -/
def patchL (ds : List Tmp) (s : Tmp → Value) : Nat → List Value → List Value
  | _, [] => []
  | t, v :: l => (if ds.contains t then s t else v) :: patchL ds s (t + 1) l
theorem patchL_get (ds : List Tmp) (s : Tmp → Value) : ∀ (l : List Value) (n i : Nat), (patchL ds s n l)[i]? = (l[i]?).map fun v => if ds.contains (n + i) then s (n + i) else v
  | [], _, _ => by simp [patchL]
  | v :: l, n, 0 => by simp [patchL]
  | v :: l, n, i + 1 => by
    rw [patchL, List.getElem?_cons_succ, patchL_get ds s l (n + 1) i, List.getElem?_cons_succ, Nat.add_assoc, Nat.add_comm 1 i]
theorem act_patch {a a0 : Act} (ds : List Tmp) (hS : a.tmps.size = a0.tmps.size) (hD : a.defers = a0.defers) (h : ∀ t, t ∉ ds → slot a t = slot a0 t) : a = ⟨(patchL ds (slot a) 0 a0.tmps.toList).toArray, a0.defers⟩ := by
  obtain ⟨tm, df⟩ := a
  obtain ⟨tm0, df0⟩ := a0
  simp only at hS hD
  subst hD
  congr 1
  apply Array.ext_getElem?
  intro i
  simp only [List.getElem?_toArray, patchL_get, Nat.zero_add, Array.getElem?_toList]
  by_cases hi : i < tm.size
  · have hi0 : i < tm0.size := by omega
    rw [Array.getElem?_eq_getElem hi, Array.getElem?_eq_getElem hi0]
    simp only [Option.map_some, Option.some.injEq]
    split
    · simp [slot, hi]
    · rename_i hc
      have := h i (by simpa using hc)
      simpa [slot, hi, hi0] using this
  · rw [Array.getElem?_eq_none (by omega), Array.getElem?_eq_none (by omega)]; rfl
/-- A slot that nobody writes. -/
def freeB (ops : Array Oper) (t : Tmp) : Bool := (List.range ops.size).all fun k => !(dstOf ops k == some t)
def dstsOf (ops : Array Oper) : List Tmp := (List.range ops.size).filterMap (dstOf ops)
theorem free_of {t : Tmp} (h : t ∉ dstsOf ops) : ∀ k : Nat, dstOf ops k ≠ some t := fun k hk => by
  refine h (List.mem_filterMap.2 ⟨k, ?_, hk⟩)
  rw [List.mem_range]
  rcases Nat.lt_or_ge k ops.size with h | h
  · exact h
  · unfold dstOf at hk; rw [Array.getElem?_eq_none h] at hk; cases hk
theorem eval_slot (a : Act) (t : Tmp) : a.eval (.tmp t) = slot a t := rfl

/-- ONE PROOF AN OPERATION, WHATEVER THE ORDER. Words with numbers from the region's size on hold ahead of it. -/
theorem wp_region_relyA {id : Nat} {a0 : Act} {w0 : World} (hm : P.follows .mixedOrders = true) (hB : relyB ops a0.tmps.size = true) (T : Nat → World → World → Prop) (G : World → Prop) (V : Nat → Act → World → Prop)
    (m : Nat) (needs : Nat → List Nat) (last : List Nat) (dep : Nat → List Tmp) (hL : leanA ops m needs last dep = true) (hneeds : ∀ i k, k ∈ needs i → k < m)
    (hdep : ∀ k a a' w, k < m → (∀ t ∈ dep k, slot a' t = slot a t) → V k a w → V k a' w)
    (hT : ∀ i k a w w', i < ops.size → k < m → k ≠ i → keptA ops needs last i k = true → V k a w → T i w w' → V k a w')
    (hG : G { w0 with drawn := w0.drawn + 1 }) (hV0 : ∀ k, k < m → ops.size ≤ k → V k a0 { w0 with drawn := w0.drawn + 1 })
    (step : ∀ i (hi : i < ops.size) a w, G w → (∀ k ∈ needs i, V k a w) → (∀ t, (∀ k, dstOf ops k = some t → i ∈ predsOf ops k) → slot a t = slot a0 t) → a.tmps.size = a0.tmps.size →
      (ops[i]).wp P a w (fun a' w' => ∃ v, a' = a.put (ops[i]).dst v ∧ T i w w' ∧ G w' ∧ V i a' w') Q)
    (done : ∀ a w, G w → (∀ k ∈ last, k < m → V k a w) → (∀ t, (∀ k : Nat, dstOf ops k ≠ some t) → slot a t = slot a0 t) → a.tmps.size = a0.tmps.size → a.defers = a0.defers → Q .normal a w) :
    (Code.region id ops true).wp P Q a0 w0 := by
  have hB' : ∀ i, i < ops.size → ((∀ j ∈ predsOf ops i, j < i) ∧ ((ops[i]?).map (·.guard.isNone)).getD false = true) ∧
      (((ops[i]?).bind (·.dst)).map fun t => decide (t < a0.tmps.size) && (List.range ops.size).all fun k => k == i || !(((ops[k]?).bind (·.dst)) == some t)).getD true = true := by
    intro i hi
    have := (List.all_eq_true.1 hB) i (List.mem_range.2 hi)
    simp only [Bool.and_eq_true] at this
    obtain ⟨⟨h1, h2⟩, h3⟩ := this
    exact ⟨⟨fun j hj => by simpa using (List.all_eq_true.1 h1) j hj, h2⟩, h3⟩
  have hL' : ∀ i, i < ops.size → (∀ k ∈ needs i, ops.size ≤ k ∨ k ∈ ancOf ops 3 i) ∧ ∀ k, k < m → k ≠ i → i ∉ ancOf ops 3 k → keptA ops needs last i k = true → ∀ t, dstOf ops i = some t → t ∉ dep k := by
    intro i hi
    have := (List.all_eq_true.1 hL) i (List.mem_range.2 hi)
    rw [Bool.and_eq_true] at this
    obtain ⟨h1, h2⟩ := this
    refine ⟨fun k hk => by simpa using (List.all_eq_true.1 h1) k hk, fun k hk hki hip hke t ht => ?_⟩
    have h3 := (List.all_eq_true.1 h2) k (List.mem_range.2 hk)
    have hip' : (ancOf ops 3 k).contains i = false := by simpa using hip
    have hki' : (k == i) = false := by simpa using hki
    rw [hke, hip', hki', ht] at h3
    simpa using h3
  have key : ∀ fuel listed a w, unl ops.size listed ≤ fuel → RelyInv ops m a0 G V needs last listed a w → wpAny P .any ops Q fuel listed a w := by
    intro fuel
    have fin : ∀ listed a w, RelyInv ops m a0 G V needs last listed a w → (∀ i, i < ops.size → listed.getD i false = true) → Q .normal a w := fun listed a w I hall =>
      done a w I.g (fun k hk hkm => I.val k hkm (by
        rcases Nat.lt_or_ge k ops.size with h | h
        · exact .inr (hall k h)
        · exact .inl h) (.inl hk)) (fun t ht => I.old t fun k hk => absurd hk (ht k)) I.size I.defers
    induction fuel with
    | zero =>
      intro listed a w hu I
      have hall := fun i hi => unl_zero (Nat.le_zero.1 hu) i hi
      refine ⟨?_, fin listed a w I hall⟩
      apply List.eq_nil_iff_forall_not_mem.2
      intro i hi
      obtain ⟨h1, h2, _⟩ := ready_spec hi I.len
      rw [hall i h1] at h2; cases h2
    | succ fuel ih =>
      intro listed a w hu I
      refine ⟨fun hr => fin listed a w I (all_listed I.len (fun i hi => (hB' i hi).1.1) hr), fun i hi => ?_⟩
      obtain ⟨h1, h2, h3⟩ := ready_spec hi I.len
      have hil : i < listed.size := by rw [I.len]; exact h1
      have hst := step i h1 a w I.g (fun k hk => I.val k (hneeds i k hk) (((hL' i h1).1 k hk).imp (fun h => h) (anc_listed I.closed 3 i h3 k)) (.inr ⟨i, h1, h2, hk⟩)) (fun t ht => I.old t fun k hk => by
        by_cases hc : listed.getD k false = true
        · have := I.closed k hc i (ht k hk)
          rw [h2] at this; cases this
        · simpa using hc) I.size
      unfold wpOp
      rw [Array.getElem?_eq_getElem h1]
      have hg := (hB' i h1).1.2
      rw [Array.getElem?_eq_getElem h1] at hg
      simp only [Option.map_some, Option.getD_some, Option.isNone_iff_eq_none] at hg
      have hw : Region.wanted ops[i] (yielded ops a.tmps) = true := by unfold Region.wanted; rw [hg]
      simp only [hw, if_true]
      refine .inl (Oper.wp_mono ?_ hst)
      rintro a' w' ⟨v, rfl, hTi, hG', hv⟩
      refine ih _ _ _ (by have := unl_set h1 hil h2; omega) ⟨hG', by rw [defers_put]; exact I.defers, by rw [size_put]; exact I.size, by simp [I.len], ?_, ?_, ?_⟩
      · intro k hkm hkl hkn
        by_cases e : k = i
        · subst e; exact hv
        · have hkl' : ops.size ≤ k ∨ listed.getD k false = true := hkl.imp (fun h => h) fun h => by rwa [getD_set _ _ _ hil, if_neg e] at h
          have hip : i ∉ ancOf ops 3 k := fun hip => by
            rcases hkl' with h | h
            · have e0 : predsOf ops k = [] := by unfold predsOf; rw [Array.getElem?_eq_none h]; rfl
              simp [ancOf, e0] at hip
            · have := anc_listed I.closed 3 k (I.closed k h) i hip
              rw [h2] at this; cases this
          have hkn' : (k ∈ last ∨ ∃ j, j < ops.size ∧ listed.getD j false = false ∧ k ∈ needs j) ∧ keptA ops needs last i k = true := by
            rcases hkn with h | ⟨j, hj, hjl, hjk⟩
            · exact ⟨.inl h, by simp [keptA, h]⟩
            · rw [getD_set _ _ _ hil] at hjl
              split at hjl
              · cases hjl
              · rename_i hji
                refine ⟨.inr ⟨j, hj, hjl, hjk⟩, ?_⟩
                unfold keptA
                rw [Bool.or_eq_true]
                right
                rw [List.any_eq_true]
                have hja : j ∉ ancOf ops 3 i := fun h => by
                  have := anc_listed I.closed 3 i h3 j h
                  rw [hjl] at this; cases this
                exact ⟨j, List.mem_range.2 hj, by simp [hji, hjk, hja]⟩
          refine hdep k a _ w' hkm (fun t ht => slot_put_other _ _ _ _ fun hd => (hL' i h1).2 k hkm e hip hkn'.2 t (by unfold dstOf; rw [Array.getElem?_eq_getElem h1]; exact hd) ht) ?_
          exact hT i k a w w' h1 hkm e hkn'.2 (I.val k hkm hkl' hkn'.1) hTi
      · intro t ht
        rw [slot_put_other _ _ _ _ (fun hd => by
          have := ht i (by unfold dstOf; rw [Array.getElem?_eq_getElem h1]; exact hd)
          rw [getD_set _ _ _ hil, if_pos rfl] at this; cases this)]
        exact I.old t fun k hk => by
          have := ht k hk
          rw [getD_set _ _ _ hil] at this
          split at this
          · cases this
          · exact this
      · intro k hkl j hj
        rw [getD_set _ _ _ hil]
        split
        · rfl
        · rename_i hji
          rw [getD_set _ _ _ hil] at hkl
          split at hkl
          · rename_i hki; subst hki; exact h3 j hj
          · exact I.closed k hkl j hj
  refine wp_region_any hm (key _ _ _ _ ?_ ⟨hG, rfl, rfl, by simp, ?_, fun t _ => rfl, ?_⟩)
  · unfold unl
    exact Nat.le_trans (List.countP_le_length) (by simp)
  · intro k hkm h _
    rcases h with h | h
    · exact hV0 k hkm h
    · simp [Array.getElem?_replicate] at h
      split at h <;> simp at h
  · intro k h
    simp [Array.getElem?_replicate] at h
    split at h <;> simp at h
theorem wp_region_rely {id : Nat} {a0 : Act} {w0 : World} (hm : P.follows .mixedOrders = true) (hB : relyB ops a0.tmps.size = true) (T : Nat → World → World → Prop) (G : World → Prop) (V : Nat → Act → World → Prop)
    (m : Nat) (needs : Nat → List Nat) (last : List Nat) (dep : Nat → List Tmp) (hL : leanB ops m needs last dep = true) (hneeds : ∀ i k, k ∈ needs i → k < m)
    (hdep : ∀ k a a' w, k < m → (∀ t ∈ dep k, slot a' t = slot a t) → V k a w → V k a' w)
    (hT : ∀ i k a w w', i < ops.size → k < m → k ≠ i → keptB ops.size needs last i k = true → V k a w → T i w w' → V k a w')
    (hG : G { w0 with drawn := w0.drawn + 1 }) (hV0 : ∀ k, k < m → ops.size ≤ k → V k a0 { w0 with drawn := w0.drawn + 1 })
    (step : ∀ i (hi : i < ops.size) a w, G w → (∀ k ∈ needs i, V k a w) → (∀ t, (∀ k, dstOf ops k = some t → i ∈ predsOf ops k) → slot a t = slot a0 t) → a.tmps.size = a0.tmps.size →
      (ops[i]).wp P a w (fun a' w' => ∃ v, a' = a.put (ops[i]).dst v ∧ T i w w' ∧ G w' ∧ V i a' w') Q)
    (done : ∀ a w, G w → (∀ k ∈ last, k < m → V k a w) → (∀ t, (∀ k : Nat, dstOf ops k ≠ some t) → slot a t = slot a0 t) → a.tmps.size = a0.tmps.size → a.defers = a0.defers → Q .normal a w) :
    (Code.region id ops true).wp P Q a0 w0 :=
  wp_region_relyA hm hB T G V m needs last dep (lean_A hL) hneeds hdep (fun i k a w w' h1 h2 h3 h4 => hT i k a w w' h1 h2 h3 (kept_of_A h4)) hG hV0 step done
end
end Go.Proofs.YtelaamchafocpaaDoor
/-
  Operations by themselves, for regions by rely: a call by its contract, a zero laid, a row read, a row stored. Of no program.
-/
set_option linter.unusedVariables false
namespace Go.Proofs.YtelaamchafocpaaDoor
open Go.RowKit

theorem wp_callf {P : Program} {o : Oper} {a : Act} {w : World} {K : Act → World → Prop} {Q : Exit → Act → World → Prop} (f : FuncId) (args : Array Operand) (tys : Array TypeId) (ho : o.op = .call { callee := .value (.func f), args := args, argTypes := tys })
    (hen : ∀ xs w, (callFunc f xs).run P w = .ok (.enter f xs) w) (xs : Array Value) (hxs : args.map a.eval = xs) (v : Value) {R : World → Prop} (h : Calls P f xs w fun e w' => e = .returned v ∧ R w') (hk : ∀ w', R w' → K (a.put o.dst v) w') : o.wp P a w K Q := by
  unfold Oper.wp execOp
  simp only [ho]
  simp [hxs, go_sem, hen]
  refine h.mono ?_
  rintro e w' ⟨rfl, hr⟩
  exact hk w' hr

theorem wp_alloc_zero {P : Program} {o : Oper} {a : Act} {w : World} {K : Act → World → Prop} {Q : Exit → Act → World → Prop} (t : TypeId) (ho : o.op = .alloc t)
    (cells : Array Value) (hz : (P.info? t).bind (fun i => i.zero.map (·.cells)) = some cells)
    (h : K (a.put o.dst (.pointer (some ⟨w.heap.size, 0, none⟩))) (w.alloc (.cells cells t))) : o.wp P a w K Q := by
  cases hi : P.info? t with
  | none => simp [hi] at hz
  | some i =>
    cases hz0 : i.zero with
    | none => simp [hi, hz0] at hz
    | some z =>
      simp only [hi, hz0, Option.bind_some, Option.map_some, Option.some.injEq] at hz
      subst hz
      unfold Oper.wp execOp
      simp [ho, Instr.alloc, zeroValue, typeInfo, hi, hz0, newVar, newRow, go_sem]
      exact h
theorem alloc3 (w : World) (A B C : Array Value) (ta tb tc : TypeId) :
    Row (((w.alloc (.cells A ta)).alloc (.cells B tb)).alloc (.cells C tc)) w.heap.size A ta ∧ Row (((w.alloc (.cells A ta)).alloc (.cells B tb)).alloc (.cells C tc)) (w.heap.size + 1) B tb ∧
      Row (((w.alloc (.cells A ta)).alloc (.cells B tb)).alloc (.cells C tc)) (w.heap.size + 1 + 1) C tc ∧ Below w.heap.size w (((w.alloc (.cells A ta)).alloc (.cells B tb)).alloc (.cells C tc)) ∧
      (((w.alloc (.cells A ta)).alloc (.cells B tb)).alloc (.cells C tc)).heap.size = w.heap.size + 3 := by
  refine ⟨((Row.made _ _ _).alloc _).alloc _, ?_, ?_, (((Below.refl _ _).alloc (Nat.le_refl _) _).alloc (by simp) _).alloc (by simp; omega) _, by simp⟩
  · have := (Row.made (w.alloc (.cells A ta)) B tb).alloc (.cells C tc)
    simpa using this
  · have := Row.made ((w.alloc (.cells A ta)).alloc (.cells B tb)) C tc
    simpa using this
theorem slotE {a : Act} {t : Tmp} {v : Value} (h : slot a t = v) : a.eval (.tmp t) = v := h
end Go.Proofs.YtelaamchafocpaaDoor
/-
  Regions that draw their order, by a word on the value of each operation: XRel's theorem with the words' bookkeeping done. Of no program.
  'U k v w': what is said of what operation k has put into its slot (v), and of the world; k from the region's size on: what holds ahead of it.
-/
set_option linter.unusedVariables false
namespace Go.Proofs.YtelaamchafocpaaDoor
open Go.RowKit

def wordV (ops : Array Oper) (U : Nat → Value → World → Prop) (k : Nat) (a : Act) (w : World) : Prop := U k (((dstOf ops k).map (slot a)).getD undef) w
def needL (l : List (List Nat)) (i : Nat) : List Nat := l.getD i []
def depL (ops : Array Oper) (k : Nat) : List Tmp := (dstOf ops k).toList
def boundL (l : List (List Nat)) (m : Nat) : Bool := l.all fun x => x.all (· < m)
theorem needL_bound {l : List (List Nat)} {m : Nat} (h : boundL l m = true) (i k : Nat) (hk : k ∈ needL l i) : k < m := by
  unfold needL at hk
  rw [List.getD_eq_getElem?_getD] at hk
  cases hi : l[i]? with
  | none => rw [hi] at hk; cases hk
  | some x =>
    rw [hi] at hk
    have h1 := (List.all_eq_true.1 h) x (List.mem_of_getElem? hi)
    simpa using (List.all_eq_true.1 h1) k hk
/-- What is asked of an operation. -/
def StepW (P : Program) (ops : Array Oper) (Q : Exit → Act → World → Prop) (a0 : Act) (T : Nat → World → World → Prop) (G : World → Prop) (U : Nat → Value → World → Prop) (nl : List (List Nat)) (i : Nat) (o : Oper) : Prop :=
  ∀ a w, G w → (∀ k ∈ needL nl i, wordV ops U k a w) → (∀ t, oldB ops i t = true → slot a t = slot a0 t) → o.wp P a w (fun a' w' => ∃ v, a' = a.put o.dst v ∧ T i w w' ∧ G w' ∧ U i (if o.dst.isSome then v else undef) w') Q
theorem wp_region_words {P : Program} {ops : Array Oper} {Q : Exit → Act → World → Prop} {id : Nat} {a0 : Act} {w0 : World} (hm : P.follows .mixedOrders = true) (hB : relyB ops a0.tmps.size = true)
    (T : Nat → World → World → Prop) (G : World → Prop) (U : Nat → Value → World → Prop) (m : Nat) (nl : List (List Nat)) (last : List Nat) (hb : boundL nl m = true) (hL : leanA ops m (needL nl) last (depL ops) = true)
    (bad : List (Nat × Nat)) (hbad : (bad.all fun x => !keptA ops (needL nl) last x.1 x.2) = true) (hT : ∀ i k v w w', i < ops.size → k < m → k ≠ i → (i, k) ∉ bad → U k v w → T i w w' → U k v w')
    (hG : G { w0 with drawn := w0.drawn + 1 }) (hV0 : ∀ k, k < m → ops.size ≤ k → U k undef { w0 with drawn := w0.drawn + 1 })
    (ds : List Tmp) (hds : dstsOf ops = ds) (step : ∀ i (hi : i < ops.size), StepW P ops Q a0 T G U nl i ops[i])
    (done : ∀ a w, G w → (∀ k ∈ last, k < m → wordV ops U k a w) → a.tmps.size = a0.tmps.size → a = ⟨(patchL ds (slot a) 0 a0.tmps.toList).toArray, a0.defers⟩ → Q .normal a w) :
    (Code.region id ops true).wp P Q a0 w0 := by
  subst hds
  refine wp_region_relyA hm hB T G (wordV ops U) m (needL nl) last (depL ops) hL (needL_bound hb) ?_ (fun i k a w w' hi hk hne hke h hTi => hT i k _ w w' hi hk hne (fun hx => by have := (List.all_eq_true.1 hbad) _ hx; simp [hke] at this) h hTi) hG ?_ ?_ ?_
  · intro k a a' w hk h hv
    unfold wordV at hv ⊢
    unfold depL at h
    cases hd : dstOf ops k with
    | none => rw [hd] at hv; exact hv
    | some t =>
      rw [hd] at hv h
      simp only [Option.toList_some, List.mem_singleton, forall_eq] at h
      simp only [Option.map_some, Option.getD_some] at hv ⊢
      rw [h]; exact hv
  · intro k hk hge
    unfold wordV
    have : dstOf ops k = none := by unfold dstOf; rw [Array.getElem?_eq_none hge]; rfl
    rw [this]; exact hV0 k hk hge
  · intro i hi a w hGw hN hO hS
    refine Oper.wp_mono ?_ (step i hi a w hGw hN (fun t ht => hO t (old_of ht)))
    rintro a' w' ⟨v, rfl, h1, h2, h3⟩
    refine ⟨v, rfl, h1, h2, ?_⟩
    unfold wordV
    have hd : dstOf ops i = ops[i].dst := by unfold dstOf; rw [Array.getElem?_eq_getElem hi]; rfl
    rw [hd]
    cases ht : ops[i].dst with
    | none => rw [ht] at h3; exact h3
    | some t =>
      rw [ht] at h3
      have hlt : t < a0.tmps.size := by
        have := (List.all_eq_true.1 hB) i (List.mem_range.2 hi)
        simp only [Bool.and_eq_true] at this
        have h4 := this.2
        have hd' : (ops[i]?).bind (·.dst) = some t := by rw [Array.getElem?_eq_getElem hi]; exact ht
        rw [hd'] at h4
        simp only [Option.map_some, Option.getD_some, Bool.and_eq_true, decide_eq_true_eq] at h4
        exact h4.1
      simp only [Option.map_some, Option.getD_some]
      rw [slot_put_same _ _ _ (by rw [hS]; exact hlt)]
      exact h3
  · intro a w hGw hV hO hS hD
    exact done a w hGw hV hS (act_patch _ hS hD (fun t ht => hO t (free_of ht)))
/-- An operation that only reckons or reads. -/
theorem stepW_value {P : Program} {ops : Array Oper} {Q : Exit → Act → World → Prop} {a0 : Act} {T : Nat → World → World → Prop} {G : World → Prop} {U : Nat → Value → World → Prop} {nl : List (List Nat)} {i : Nat} {o : Oper} {t : Tmp} (v : Value)
    (hd : o.dst = some t) (hTr : ∀ w, T i w w)
    (hrun : ∀ a w, G w → (∀ k ∈ needL nl i, wordV ops U k a w) → (∀ t, oldB ops i t = true → slot a t = slot a0 t) → (execOp a.eval o).run P w = .ok (.value v) w)
    (hU : ∀ w, G w → U i v w) : StepW P ops Q a0 T G U nl i o := by
  intro a w hG hN hO
  exact wp_value (hrun a w hG hN hO) ⟨v, rfl, hTr w, hG, by rw [hd]; exact hU w hG⟩

theorem run_move_slot {P : Program} {a : Act} {w : World} {o : Oper} {s : Tmp} {v : Value} (ho : o.op = .move (.tmp s) ∨ o.op = .assign (.tmp s)) (h : slot a s = v) : (execOp a.eval o).run P w = .ok (.value v) w := by
  have e : a.eval (.tmp s) = v := h
  rcases ho with ho | ho <;> simp [execOp, ho, e]
theorem slot_at {a : Act} {t : Tmp} {v : Value} (h : slot a t = v) : a.tmps[t]?.getD undef = v := by rw [← h]; simp [slot]
end Go.Proofs.YtelaamchafocpaaDoor
/-
  Regions that draw their order, with guarded operations: one proof an operation, by words on values. A guarded operation leans on the word of its guard, and says whether it is wanted. Of no program.
-/
set_option linter.unusedVariables false
namespace Go.Proofs.YtelaamchafocpaaDoor
open Go Go.RowKit

section
variable {P : Program} {ops : Array Oper} {Q : Exit → Act → World → Prop}
/-- The edges lead back, no slot is written twice. -/
def relyGB (ops : Array Oper) (n : Nat) : Bool :=
  (List.range ops.size).all fun i => (predsOf ops i).all (· < i) &&
    (((ops[i]?).bind (·.dst)).map fun t => decide (t < n) && (List.range ops.size).all fun k => k == i || !(((ops[k]?).bind (·.dst)) == some t)).getD true

/-- ONE PROOF AN OPERATION, WHATEVER THE ORDER. Words with numbers from the region's size on hold ahead of it. -/
theorem wp_any_relyG {a0 : Act} {w0 : World} (hB : relyGB ops a0.tmps.size = true) (T : Nat → World → World → Prop) (G : World → Prop) (V : Nat → Act → World → Prop)
    (m : Nat) (needs : Nat → List Nat) (last : List Nat) (dep : Nat → List Tmp) (hL : leanA ops m needs last dep = true) (hneeds : ∀ i k, k ∈ needs i → k < m)
    (hdep : ∀ k a a' w, k < m → (∀ t ∈ dep k, slot a' t = slot a t) → V k a w → V k a' w)
    (hT : ∀ i k a w w', i < ops.size → k < m → k ≠ i → keptA ops needs last i k = true → i ∉ ancOf ops 3 k → V k a w → T i w w' → V k a w')
    (hG : G { w0 with drawn := w0.drawn + 1 }) (hV0 : ∀ k, k < m → ops.size ≤ k → V k a0 { w0 with drawn := w0.drawn + 1 })
    (step : ∀ i (hi : i < ops.size) a w, G w → (∀ k ∈ needs i, V k a w) → (∀ t, (∀ k, dstOf ops k = some t → i ∈ predsOf ops k) → slot a t = slot a0 t) → a.tmps.size = a0.tmps.size →
      (Region.wanted (ops[i]) (yielded ops a.tmps) = true ∧ (ops[i]).wp P a w (fun a' w' => ∃ v, a' = a.put (ops[i]).dst v ∧ T i w w' ∧ G w' ∧ V i a' w') Q) ∨
        (Region.wanted (ops[i]) (yielded ops a.tmps) = false ∧ T i w w ∧ V i (a.put (ops[i]).dst undef) w))
    (done : ∀ a w, G w → (∀ k ∈ last, k < m → V k a w) → (∀ t, (∀ k : Nat, dstOf ops k ≠ some t) → slot a t = slot a0 t) → a.tmps.size = a0.tmps.size → a.defers = a0.defers → Q .normal a w) :
    wpAny P .any ops Q ops.size (Array.replicate ops.size false) a0 { w0 with drawn := w0.drawn + 1 } := by
  have hB' : ∀ i, i < ops.size → (∀ j ∈ predsOf ops i, j < i) ∧
      (((ops[i]?).bind (·.dst)).map fun t => decide (t < a0.tmps.size) && (List.range ops.size).all fun k => k == i || !(((ops[k]?).bind (·.dst)) == some t)).getD true = true := by
    intro i hi
    have := (List.all_eq_true.1 hB) i (List.mem_range.2 hi)
    simp only [Bool.and_eq_true] at this
    obtain ⟨h1, h3⟩ := this
    exact ⟨fun j hj => by simpa using (List.all_eq_true.1 h1) j hj, h3⟩
  have hL' : ∀ i, i < ops.size → (∀ k ∈ needs i, ops.size ≤ k ∨ k ∈ ancOf ops 3 i) ∧ ∀ k, k < m → k ≠ i → i ∉ ancOf ops 3 k → keptA ops needs last i k = true → ∀ t, dstOf ops i = some t → t ∉ dep k := by
    intro i hi
    have := (List.all_eq_true.1 hL) i (List.mem_range.2 hi)
    rw [Bool.and_eq_true] at this
    obtain ⟨h1, h2⟩ := this
    refine ⟨fun k hk => by simpa using (List.all_eq_true.1 h1) k hk, fun k hk hki hip hke t ht => ?_⟩
    have h3 := (List.all_eq_true.1 h2) k (List.mem_range.2 hk)
    have hip' : (ancOf ops 3 k).contains i = false := by simpa using hip
    have hki' : (k == i) = false := by simpa using hki
    rw [hke, hip', hki', ht] at h3
    simpa using h3
  have key : ∀ fuel listed a w, unl ops.size listed ≤ fuel → RelyInv ops m a0 G V needs last listed a w → wpAny P .any ops Q fuel listed a w := by
    intro fuel
    have fin : ∀ listed a w, RelyInv ops m a0 G V needs last listed a w → (∀ i, i < ops.size → listed.getD i false = true) → Q .normal a w := fun listed a w I hall =>
      done a w I.g (fun k hk hkm => I.val k hkm (by
        rcases Nat.lt_or_ge k ops.size with h | h
        · exact .inr (hall k h)
        · exact .inl h) (.inl hk)) (fun t ht => I.old t fun k hk => absurd hk (ht k)) I.size I.defers
    induction fuel with
    | zero =>
      intro listed a w hu I
      have hall := fun i hi => unl_zero (Nat.le_zero.1 hu) i hi
      refine ⟨?_, fin listed a w I hall⟩
      apply List.eq_nil_iff_forall_not_mem.2
      intro i hi
      obtain ⟨h1, h2, _⟩ := ready_spec hi I.len
      rw [hall i h1] at h2; cases h2
    | succ fuel ih =>
      intro listed a w hu I
      refine ⟨fun hr => fin listed a w I (all_listed I.len (fun i hi => (hB' i hi).1) hr), fun i hi => ?_⟩
      obtain ⟨h1, h2, h3⟩ := ready_spec hi I.len
      have hil : i < listed.size := by rw [I.len]; exact h1
      have hst := step i h1 a w I.g (fun k hk => I.val k (hneeds i k hk) (((hL' i h1).1 k hk).imp (fun h => h) (anc_listed I.closed 3 i h3 k)) (.inr ⟨i, h1, h2, hk⟩)) (fun t ht => I.old t fun k hk => by
        by_cases hc : listed.getD k false = true
        · have := I.closed k hc i (ht k hk)
          rw [h2] at this; cases this
        · simpa using hc) I.size
      have next : ∀ v w', T i w w' → G w' → V i (a.put (ops[i]).dst v) w' → wpAny P .any ops Q fuel (listed.setIfInBounds i true) (a.put (ops[i]).dst v) w' := by
        intro v w' hTi hG' hv
        refine ih _ _ _ (by have := unl_set h1 hil h2; omega) ⟨hG', by rw [defers_put]; exact I.defers, by rw [size_put]; exact I.size, by simp [I.len], ?_, ?_, ?_⟩
        · intro k hkm hkl hkn
          by_cases e : k = i
          · subst e; exact hv
          · have hkl' : ops.size ≤ k ∨ listed.getD k false = true := hkl.imp (fun h => h) fun h => by rwa [getD_set _ _ _ hil, if_neg e] at h
            have hip : i ∉ ancOf ops 3 k := fun hip => by
              rcases hkl' with h | h
              · have e0 : predsOf ops k = [] := by unfold predsOf; rw [Array.getElem?_eq_none h]; rfl
                simp [ancOf, e0] at hip
              · have := anc_listed I.closed 3 k (I.closed k h) i hip
                rw [h2] at this; cases this
            have hkn' : (k ∈ last ∨ ∃ j, j < ops.size ∧ listed.getD j false = false ∧ k ∈ needs j) ∧ keptA ops needs last i k = true := by
              rcases hkn with h | ⟨j, hj, hjl, hjk⟩
              · exact ⟨.inl h, by simp [keptA, h]⟩
              · rw [getD_set _ _ _ hil] at hjl
                split at hjl
                · cases hjl
                · rename_i hji
                  refine ⟨.inr ⟨j, hj, hjl, hjk⟩, ?_⟩
                  unfold keptA
                  rw [Bool.or_eq_true]
                  right
                  rw [List.any_eq_true]
                  have hja : j ∉ ancOf ops 3 i := fun h => by
                    have := anc_listed I.closed 3 i h3 j h
                    rw [hjl] at this; cases this
                  exact ⟨j, List.mem_range.2 hj, by simp [hji, hjk, hja]⟩
            refine hdep k a _ w' hkm (fun t ht => slot_put_other _ _ _ _ fun hd => (hL' i h1).2 k hkm e hip hkn'.2 t (by unfold dstOf; rw [Array.getElem?_eq_getElem h1]; exact hd) ht) ?_
            exact hT i k a w w' h1 hkm e hkn'.2 hip (I.val k hkm hkl' hkn'.1) hTi
        · intro t ht
          rw [slot_put_other _ _ _ _ (fun hd => by
            have := ht i (by unfold dstOf; rw [Array.getElem?_eq_getElem h1]; exact hd)
            rw [getD_set _ _ _ hil, if_pos rfl] at this; cases this)]
          exact I.old t fun k hk => by
            have := ht k hk
            rw [getD_set _ _ _ hil] at this
            split at this
            · cases this
            · exact this
        · intro k hkl j hj
          rw [getD_set _ _ _ hil]
          split
          · rfl
          · rename_i hji
            rw [getD_set _ _ _ hil] at hkl
            split at hkl
            · rename_i hki; subst hki; exact h3 j hj
            · exact I.closed k hkl j hj
      unfold wpOp
      rw [Array.getElem?_eq_getElem h1]
      rcases hst with ⟨hw, hst⟩ | ⟨hw, hTi, hv⟩
      · simp only [hw, if_true]
        refine .inl (Oper.wp_mono ?_ hst)
        rintro a' w' ⟨v, rfl, hTi, hG', hv⟩
        exact next v w' hTi hG' hv
      · simp only [hw, Bool.false_eq_true, if_false]
        exact next undef w hTi I.g hv
  refine key _ _ _ _ ?_ ⟨hG, rfl, rfl, by simp, ?_, fun t _ => rfl, ?_⟩
  · unfold unl
    exact Nat.le_trans (List.countP_le_length) (by simp)
  · intro k hkm h _
    rcases h with h | h
    · exact hV0 k hkm h
    · simp [Array.getElem?_replicate] at h
      split at h <;> simp at h
  · intro k h
    simp [Array.getElem?_replicate] at h
    split at h <;> simp at h
/-- A word speaks of the operation's own slot, and of one more slot ('ex'). -/
def exV (ex : Nat → Option Tmp) (k : Nat) (a : Act) : Value := ((ex k).map (slot a)).getD undef
def wordE (ops : Array Oper) (ex : Nat → Option Tmp) (U : Nat → Value → Value → World → Prop) (k : Nat) (a : Act) (w : World) : Prop := U k (((dstOf ops k).map (slot a)).getD undef) (exV ex k a) w
def depE (ops : Array Oper) (ex : Nat → Option Tmp) (k : Nat) : List Tmp := (dstOf ops k).toList ++ (ex k).toList
/-- What is asked of an operation. -/
def StepG (P : Program) (ops : Array Oper) (Q : Exit → Act → World → Prop) (a0 : Act) (T : Nat → World → World → Prop) (G : World → Prop) (ex : Nat → Option Tmp) (U : Nat → Value → Value → World → Prop) (nl : List (List Nat)) (i : Nat) (o : Oper) : Prop :=
  ∀ a w, G w → (∀ k ∈ needL nl i, wordE ops ex U k a w) → (∀ t, oldB ops i t = true → slot a t = slot a0 t) →
    (Region.wanted o (yielded ops a.tmps) = true ∧ o.wp P a w (fun a' w' => ∃ v, a' = a.put o.dst v ∧ T i w w' ∧ G w' ∧ U i (if o.dst.isSome then v else undef) (exV ex i a) w') Q) ∨ (Region.wanted o (yielded ops a.tmps) = false ∧ T i w w ∧ U i undef (exV ex i a) w)
theorem wp_any_wordsG {a0 : Act} {w0 : World} (hB : relyGB ops a0.tmps.size = true)
    (T : Nat → World → World → Prop) (G : World → Prop) (ex : Nat → Option Tmp) (U : Nat → Value → Value → World → Prop) (m : Nat) (nl : List (List Nat)) (last : List Nat) (hb : boundL nl m = true) (hL : leanA ops m (needL nl) last (depE ops ex) = true)
    (hex : ((List.range m).all fun k => (dstOf ops k).isNone || (ex k).isNone || !(dstOf ops k == ex k)) = true)
    (bad : List (Nat × Nat)) (hbad : (bad.all fun x => !keptA ops (needL nl) last x.1 x.2 || (ancOf ops 3 x.2).contains x.1) = true) (hT : ∀ i k v e w w', i < ops.size → k < m → k ≠ i → (i, k) ∉ bad → U k v e w → T i w w' → U k v e w') (hm2 : ops.size ≤ m)
    (hG : G { w0 with drawn := w0.drawn + 1 }) (hV0 : ∀ k, k < m → ops.size ≤ k → U k undef (exV ex k a0) { w0 with drawn := w0.drawn + 1 })
    (ds : List Tmp) (hds : dstsOf ops = ds) (step : ∀ i (hi : i < ops.size), StepG P ops Q a0 T G ex U nl i ops[i])
    (done : ∀ a w, G w → (∀ k ∈ last, k < m → wordE ops ex U k a w) → a.tmps.size = a0.tmps.size → a = ⟨(patchL ds (slot a) 0 a0.tmps.toList).toArray, a0.defers⟩ → Q .normal a w) :
    wpAny P .any ops Q ops.size (Array.replicate ops.size false) a0 { w0 with drawn := w0.drawn + 1 } := by
  subst hds
  refine wp_any_relyG hB T G (wordE ops ex U) m (needL nl) last (depE ops ex) hL (needL_bound hb) ?_ (fun i k a w w' hi hk hne hke hip h hTi => hT i k _ _ w w' hi hk hne (fun hx => by have := (List.all_eq_true.1 hbad) _ hx; simp [hke] at this; exact hip this) h hTi) hG ?_ ?_ ?_
  · intro k a a' w hk h hv
    have h1 : ((dstOf ops k).map (slot a')).getD undef = ((dstOf ops k).map (slot a)).getD undef := by
      cases hd : dstOf ops k with
      | none => rfl
      | some t => simp only [Option.map_some, Option.getD_some]; exact h t (by simp [depE, hd])
    have h2 : exV ex k a' = exV ex k a := by
      unfold exV
      cases hd : ex k with
      | none => rfl
      | some t => simp only [Option.map_some, Option.getD_some]; exact h t (by simp [depE, hd])
    unfold wordE at hv ⊢
    rw [h1, h2]; exact hv
  · intro k hk hge
    unfold wordE
    have : dstOf ops k = none := by unfold dstOf; rw [Array.getElem?_eq_none hge]; rfl
    rw [this]; exact hV0 k hk hge
  · intro i hi a w hGw hN hO hS
    have fin : ∀ v w', U i (if (ops[i]).dst.isSome then v else undef) (exV ex i a) w' → wordE ops ex U i (a.put (ops[i]).dst v) w' := by
      intro v w' h3
      have hd : dstOf ops i = ops[i].dst := by unfold dstOf; rw [Array.getElem?_eq_getElem hi]; rfl
      have h4 : exV ex i (a.put (ops[i]).dst v) = exV ex i a := by
        unfold exV
        cases he : ex i with
        | none => rfl
        | some t =>
          simp only [Option.map_some, Option.getD_some]
          refine slot_put_other _ _ _ _ fun hdt => ?_
          have := (List.all_eq_true.1 hex) i (List.mem_range.2 (by omega))
          rw [hd, hdt, he] at this
          simp at this
      unfold wordE
      rw [hd, h4]
      cases ht : ops[i].dst with
      | none => rw [ht] at h3; exact h3
      | some t =>
        rw [ht] at h3
        have hlt : t < a0.tmps.size := by
          have := (List.all_eq_true.1 hB) i (List.mem_range.2 hi)
          simp only [Bool.and_eq_true] at this
          have h5 := this.2
          have hd' : (ops[i]?).bind (·.dst) = some t := by rw [Array.getElem?_eq_getElem hi]; exact ht
          rw [hd'] at h5
          simp only [Option.map_some, Option.getD_some, Bool.and_eq_true, decide_eq_true_eq] at h5
          exact h5.1
        simp only [Option.map_some, Option.getD_some]
        rw [slot_put_same _ _ _ (by rw [hS]; exact hlt)]
        exact h3
    rcases step i hi a w hGw hN (fun t ht => hO t (old_of ht)) with ⟨hw, hst⟩ | ⟨hw, h1, h3⟩
    · refine .inl ⟨hw, Oper.wp_mono ?_ hst⟩
      rintro a' w' ⟨v, rfl, h1, h2, h3⟩
      exact ⟨v, rfl, h1, h2, fin v w' h3⟩
    · exact .inr ⟨hw, h1, fin undef w (by split <;> exact h3)⟩
  · intro a w hGw hV hO hS hD
    exact done a w hGw hV hS (act_patch _ hS hD (fun t ht => hO t (free_of ht)))
end

section
variable {P : Program} {ops : Array Oper} {Q : Exit → Act → World → Prop} {a0 : Act} {T : Nat → World → World → Prop} {G : World → Prop} {ex : Nat → Option Tmp} {U : Nat → Value → Value → World → Prop} {nl : List (List Nat)} {i : Nat} {o : Oper}
/-- An operation that runs. -/
def StepR (P : Program) (ops : Array Oper) (Q : Exit → Act → World → Prop) (a0 : Act) (T : Nat → World → World → Prop) (G : World → Prop) (ex : Nat → Option Tmp) (U : Nat → Value → Value → World → Prop) (nl : List (List Nat)) (i : Nat) (o : Oper) : Prop :=
  ∀ a w, G w → (∀ k ∈ needL nl i, wordE ops ex U k a w) → (∀ t, oldB ops i t = true → slot a t = slot a0 t) →
    o.wp P a w (fun a' w' => ∃ v, a' = a.put o.dst v ∧ T i w w' ∧ G w' ∧ U i (if o.dst.isSome then v else undef) (exV ex i a) w') Q
/-- An operation without a guard. -/
theorem stepG_of (hg : o.guard = none) (h : StepR P ops Q a0 T G ex U nl i o) : StepG P ops Q a0 T G ex U nl i o := fun a w hG hN hO => .inl ⟨by unfold Region.wanted; rw [hg], h a w hG hN hO⟩
theorem yields_word {j : Nat} {a : Act} {w : World} {b : Bool} (hj : wordE ops ex U j a w) (hU : ∀ v e w, U j v e w → v = .bool b) : yielded ops a.tmps j = some b := by
  have h := hU _ _ _ hj
  unfold yielded
  have hd : (ops[j]?).bind (·.dst) = dstOf ops j := rfl
  rw [hd]
  cases ht : dstOf ops j with
  | none => rw [ht] at h; cases h
  | some t =>
    rw [ht] at h
    simp only [Option.map_some, Option.getD_some, slot, Array.getD_eq_getD_getElem?] at h
    simp only [Option.bind_some]
    cases hv : a.tmps[t]? with
    | none => rw [hv] at h; cases h
    | some v => rw [hv] at h; simp only [Option.getD_some] at h; rw [h]
/-- An operation whose guard lets it run. -/
theorem stepG_on {j : Nat} {b : Bool} (hg : o.guard = some (j, b)) (hj : j ∈ needL nl i) (hU : ∀ v e w, U j v e w → v = .bool b) (h : StepR P ops Q a0 T G ex U nl i o) : StepG P ops Q a0 T G ex U nl i o := fun a w hG hN hO => .inl ⟨by
      unfold Region.wanted; rw [hg]; simp only [yields_word (hN j hj) hU]; simp, h a w hG hN hO⟩
/-- An operation whose guard passes it over. -/
theorem stepG_off {j : Nat} {b : Bool} (hg : o.guard = some (j, b)) (hj : j ∈ needL nl i) (hU : ∀ v e w, U j v e w → v = .bool (!b)) (hTr : ∀ w, T i w w) (hUi : ∀ e w, G w → U i undef e w) : StepG P ops Q a0 T G ex U nl i o := fun a w hG hN hO => .inr ⟨by
      unfold Region.wanted; rw [hg]; simp only [yields_word (hN j hj) hU]; cases b <;> simp, hTr w, hUi _ w hG⟩
/-- An operation that only reckons or reads. -/
theorem stepR_value {t : Tmp} (v : Value) (hd : o.dst = some t) (hTr : ∀ w, T i w w)
    (hrun : ∀ a w, G w → (∀ k ∈ needL nl i, wordE ops ex U k a w) → (∀ t, oldB ops i t = true → slot a t = slot a0 t) → (execOp a.eval o).run P w = .ok (.value v) w)
    (hU : ∀ a w, G w → (∀ k ∈ needL nl i, wordE ops ex U k a w) → U i v (exV ex i a) w) : StepR P ops Q a0 T G ex U nl i o := by
  intro a w hG hN hO
  exact wp_value (hrun a w hG hN hO) ⟨v, rfl, hTr w, hG, by rw [hd]; exact hU a w hG hN⟩
end
variable {P : Program} {ops : Array Oper} {Q : Exit → Act → World → Prop}
theorem wp_region_wordsG {id : Nat} {a0 : Act} {w0 : World} (hm : P.follows .mixedOrders = true) (hB : relyGB ops a0.tmps.size = true)
    (T : Nat → World → World → Prop) (G : World → Prop) (ex : Nat → Option Tmp) (U : Nat → Value → Value → World → Prop) (m : Nat) (nl : List (List Nat)) (last : List Nat) (hb : boundL nl m = true) (hL : leanA ops m (needL nl) last (depE ops ex) = true)
    (hex : ((List.range m).all fun k => (dstOf ops k).isNone || (ex k).isNone || !(dstOf ops k == ex k)) = true)
    (bad : List (Nat × Nat)) (hbad : (bad.all fun x => !keptA ops (needL nl) last x.1 x.2 || (ancOf ops 3 x.2).contains x.1) = true) (hT : ∀ i k v e w w', i < ops.size → k < m → k ≠ i → (i, k) ∉ bad → U k v e w → T i w w' → U k v e w') (hm2 : ops.size ≤ m)
    (hG : G { w0 with drawn := w0.drawn + 1 }) (hV0 : ∀ k, k < m → ops.size ≤ k → U k undef (exV ex k a0) { w0 with drawn := w0.drawn + 1 })
    (ds : List Tmp) (hds : dstsOf ops = ds) (step : ∀ i (hi : i < ops.size), StepG P ops Q a0 T G ex U nl i ops[i])
    (done : ∀ a w, G w → (∀ k ∈ last, k < m → wordE ops ex U k a w) → a.tmps.size = a0.tmps.size → a = ⟨(patchL ds (slot a) 0 a0.tmps.toList).toArray, a0.defers⟩ → Q .normal a w) :
    (Code.region id ops true).wp P Q a0 w0 :=
  wp_region_any hm (wp_any_wordsG hB T G ex U m nl last hb hL hex bad hbad hT hm2 hG hV0 ds hds step done)
end Go.Proofs.YtelaamchafocpaaDoor
/-
  A region that draws its order, in a round of a range over a function: what is proved of it by words (XReg) outside serves inside. Of no program.
-/
set_option linter.unusedVariables false
namespace Go.Proofs.YtelaamchafocpaaDoor
open Go Go.RowKit

variable {P : Program} {ops : Array Oper} {Q : Exit → Act → World → Prop}
theorem rowsIn_wide {l n : Nat} {row : String} {args : Array Value} {w : World} {R : Value → World → Prop} (h : Rows P row args w R) : RowsIn (Fence.wide.inRound l) n P row args w R :=
  fun c cs _ => let ⟨v, w', r, s⟩ := h c cs; ⟨v, w', r, stepsIn_wide.2 s⟩
theorem uponIn_round {l n : Nat} {o : Oper} {a : Act} {next : Act → World → Prop} {r : Result Next} (h : o.upon P a next Q r) : o.uponIn (Fence.wide.inRound l) n P a next Q r := by
  cases r with
  | ok x w' =>
    cases x <;> simp only [Oper.upon, Oper.uponIn] at h ⊢ <;>
      first
        | exact h
        | exact ⟨fun h => (by cases h), CallsIn.inRound l (callsIn_wide.2 h)⟩
        | exact ⟨fun h => (by cases h), rowsIn_wide h⟩
  | halt x w' => cases x <;> simp only [Oper.upon, Oper.uponIn] at h ⊢ <;> exact h
theorem wpIn_round {l n : Nat} {o : Oper} {a : Act} {w : World} {next : Act → World → Prop} (hd : ∀ c, o.op ≠ .defer c) (h : o.wp P a w next Q) : o.wpIn (Fence.wide.inRound l) n P a w next Q := by
  refine ⟨fun _ _ => trivial, ?_⟩
  rw [Fence.inRound_round, Oper.semAt_some _ _ _ hd]
  exact uponIn_round h
def noDefer (ops : Array Oper) : Bool := ops.all fun o => match o.op with
  | .defer _ => false
  | _ => true
theorem noDefer_at (h : noDefer ops = true) {i : Nat} {o : Oper} (hi : ops[i]? = some o) : ∀ c, o.op ≠ .defer c := fun c e => by
  obtain ⟨hlt, rfl⟩ := Array.getElem?_eq_some_iff.1 hi
  have := Array.all_eq_true.1 h i hlt
  rw [e] at this; cases this
theorem wpOpIn_round {l n i : Nat} {K : Act → World → Prop} {a : Act} {w : World} (hd : noDefer ops = true) (hQ : ¬ LetsOut Q) (h : wpOp P ops Q i K a w) : wpOpIn (Fence.wide.inRound l) n P ops Q i K a w := by
  unfold wpOp at h; unfold wpOpIn
  cases ho : ops[i]? with
  | none => rw [ho] at h; exact h
  | some o =>
    rw [ho] at h
    simp only at h ⊢
    by_cases hw : Region.wanted o (yielded ops a.tmps) = true
    · simp only [hw, if_true] at h ⊢
      rcases h with h | h
      · exact wpIn_round (noDefer_at hd ho) h
      · exact absurd h.2 hQ
    · simp only [hw] at h ⊢
      exact ⟨fun _ _ => trivial, h⟩
theorem wpAnyIn_round {l n : Nat} {md : Region.Mode} (hd : noDefer ops = true) (hQ : ¬ LetsOut Q) : ∀ (fuel : Nat) (listed : Array Bool) (a : Act) (w : World), wpAny P md ops Q fuel listed a w → wpAnyIn (Fence.wide.inRound l) n P md ops Q fuel listed a w
  | 0, _, _, _, h => h
  | fuel + 1, listed, a, w, h => ⟨h.1, fun i hi => wpOpIn_mono (fun a w h => wpAnyIn_round hd hQ fuel _ a w h) (wpOpIn_round hd hQ (h.2 i hi))⟩
theorem wpIn_region_round {l n id : Nat} {a : Act} {w : World} (hm : P.follows .mixedOrders = true) (hd : noDefer ops = true) (hQ : ¬ LetsOut Q)
    (h : wpAny P .any ops Q ops.size (Array.replicate ops.size false) a { w with drawn := w.drawn + 1 }) : (Code.region id ops true).wpIn (Fence.wide.inRound l) n P Q a w :=
  wpIn_region_any hm (wpAnyIn_round hd hQ _ _ _ _ h)
end Go.Proofs.YtelaamchafocpaaDoor
/-
  Contracts over this translation: path.Split.
-/
set_option linter.unusedVariables false
namespace Go.Proofs.YtelaamchafocpaaDoor
open Go.RowKit Go.Shelf
attribute [local go_sem] Oper.semAt_some

/-- What Split's loop holds: the names that have come, in a slice of the call's own. -/
def splitI (w : World) (pre : List NameS) (W : World) : Prop :=
  (∃ v, Boxed W w.heap.size 31 v ∧ W.ownsRow (w.heap.size + 10) 9 1 v pre.length (strCells (vals pre))) ∧ Below w.heap.size w W

theorem wp_store_slice {o : Oper} {a : Act} {K : Act → World → Prop} {Q : Exit → Act → World → Prop} {w : World} (ho : o.op = .store 31 (.tmp 3) (.tmp 12)) {B : Nat} {u : Value} {ad : Option Addr} {n c : Nat}
    (hx : a.eval (.tmp 3) = .pointer (some ⟨B, 0, none⟩)) (hy : a.eval (.tmp 12) = .slice ad n c) (hc : w.cell? ⟨B, 0, none⟩ = some u) (hf : w.frozen? ⟨B, 0, none⟩ = false)
    (hk : K (a.put o.dst undef) (w.setCell ⟨B, 0, none⟩ (.slice ad n c))) : o.wp Tryd.prog a w K Q := by
  refine wp_skip (w' := w.setCell ⟨B, 0, none⟩ (.slice ad n c)) ?_ hk
  unfold execOp
  rw [ho]
  simp only [hx, hy]
  go_simp
theorem wpAny_at {P : Program} {md : Region.Mode} {ops : Array Oper} {Q : Exit → Act → World → Prop} {f : Nat} {listed listed' : Array Bool} {a a' : Act} {w : World} (ha : a = a') (hl : listed = listed') (h : wpAny P md ops Q f listed' a' w) : wpAny P md ops Q f listed a w := by
  rw [ha, hl]; exact h
theorem wp_load_slice {o : Oper} {a : Act} {K : Act → World → Prop} {Q : Exit → Act → World → Prop} {w : World} (ho : o.op = .load 31 (.tmp 3)) {B : Nat} {v : Value}
    (hx : a.eval (.tmp 3) = .pointer (some ⟨B, 0, none⟩)) (hc : w.cell? ⟨B, 0, none⟩ = some v) (hk : K (a.put o.dst v) w) : o.wp Tryd.prog a w K Q := by
  refine wp_value (w' := w) ?_ hk
  unfold execOp
  rw [ho]
  simp only [hx]
  go_simp
theorem wp_build_one {o : Oper} {a : Act} {K : Act → World → Prop} {Q : Exit → Act → World → Prop} {w : World} (ho : o.op = .buildSlice 31 1 #[(0, .tmp 10)]) {x : ByteArray}
    (hx : a.eval (.tmp 10) = .string x) (hk : K (a.put o.dst (.slice (some ⟨w.heap.size, 0, none⟩) 1 1)) (w.alloc (.cells #[.string x] 9))) : o.wp Tryd.prog a w K Q := by
  refine wp_value (v := .slice (some ⟨w.heap.size, 0, none⟩) 1 1) (w' := w.alloc (.cells #[.string x] 9)) ?_ hk
  have f : a.tmps[10]?.getD undef = .string x := by
    have h : a.tmps.getD 10 undef = .string x := hx
    rwa [Array.getD_eq_getD_getElem?] at h
  unfold execOp
  rw [ho]
  go_simp
/-- What a round of Split's loop leaves. -/
theorem split_round {w W Wd W2 w3 : World} {D0 g cap : Nat} {pre : List NameS} {x : NameS} {v : Value}
    (hA : ∀ b, (winA (D0 + 2) b ∨ b = D0 ∨ b = D0 + 1) → w.heap.size + 2 ≤ b ∧ b < w.heap.size + 10)
    (hKd : KeepsAt (fun _ => True) W Wd) (hZ : Wd.heap.size = W.heap.size) (hB : Below w.heap.size w W2) (hK2 : KeepsAt (fun k => k < Wd.heap.size) Wd W2) (hz2 : Wd.heap.size ≤ W2.heap.size) (hsz : w.heap.size + 10 ≤ W.heap.size)
    (hO : W2.ownsRow (w.heap.size + 10) 9 1 v pre.length (strCells (vals pre)))
    (hown' : w3.ownsRow (w.heap.size + 10) 9 1 (.slice (some ⟨g, 0, none⟩) (pre.length + 1) cap) (pre.length + 1) (strCells (vals pre) ++ [.string x.1]))
    (hgrow : (W2.alloc (.cells #[.string x.1] 9)).grownBy w3 v.ownBlock) (e0 : Boxed w3 w.heap.size 31 v) :
    KeepsAt (fun k => winA (D0 + 2) k ∨ k = D0 ∨ k = D0 + 1) W (w3.setCell ⟨w.heap.size, 0, none⟩ (.slice (some ⟨g, 0, none⟩) (pre.length + 1) cap)) ∧
      splitI w (pre ++ [x]) (w3.setCell ⟨w.heap.size, 0, none⟩ (.slice (some ⟨g, 0, none⟩) (pre.length + 1) cap)) := by
  have hlt := hO.lt
  have hg6 := (hown'.lt g rfl).1
  refine ⟨fun k hk => ?_, ⟨_, e0.set _, ?_⟩, ?_⟩
  · obtain ⟨h1, h2⟩ := hA k hk
    rw [Below.heap_setCell _ _ _ k (show k ≠ w.heap.size by omega), hgrow.block k (by simp; omega) (fun e => by have := (hlt _ e.symm).1; omega), Below.heap_alloc _ _ _ (by omega), hK2 k (by omega), hKd k trivial]
  · rw [List.length_append, vals_snoc, strCells_app]
    exact hown'.kept (grownBy_setCell' _ _ _) (.inr (by simp [Value.ownBlock]; omega))
  · exact ((hB.alloc (by omega) _).grown hgrow (by simp; omega) (fun j hj => by have := (hlt j hj).1; omega)).setCell (p := ⟨w.heap.size, 0, none⟩) (Nat.le_refl _) _

set_option maxRecDepth 100000 in
set_option maxHeartbeats 4000000 in
theorem Split_any (s : ByteArray) (hs : s.size ≤ 100000) (w : World) :
    Calls Tryd.prog 31 #[.string s] w (RetL (splitS s.data.toList) w) := by
  have NM := Lib.hid (names_any s)
  have JN := Lib.hid Join_any
  refine (callsIn_wide (n := 9)).1 ?_
  have hro : Fence.wide.round = none := rfl
  refine callsIn_of_wp_marks Tryd.func31 rfl trivial ?_ hro
  simp only [Tryd.ntmps31, List.size_toArray, List.length_cons, List.length_nil, Nat.reduceAdd, Nat.reduceSub, Array.replicate_succ, Array.replicate_zero, List.push_toArray, List.append_toArray, List.nil_append, List.cons_append]
  refine wpIn_wide.2 ?_
  go_wp2_with fail
  refine (NM.out _).mono ?_
  rintro e V1 ⟨rfl, rfl⟩
  obtain ⟨V, hV⟩ : ∃ V, V = (w.alloc (.cells #[.slice none 0 0] 31)).alloc (.cells #[.string s] 9) := ⟨_, rfl⟩
  have hbx : Boxed V w.heap.size 31 (.slice none 0 0) := by rw [hV]; exact (Row.made w _ _).alloc _
  have hR : Row V (w.heap.size + 1) #[.string s] 9 := by
    rw [hV]; have := Row.made (w.alloc (.cells #[.slice none 0 0] 31)) #[.string s] 9; rwa [World.size_alloc] at this
  have hBV : Below w.heap.size w V := by rw [hV]; exact (((Below.refl _ w).alloc (Nat.le_refl _) _).alloc (by simp) _)
  have hVs : V.heap.size = w.heap.size + 2 := by rw [hV]; simp
  rw [World.size_alloc, ← hV]
  clear hV
  go_wp2_with fail
  obtain ⟨i0, hi, hz0, hz1, hz2⟩ := info_parts infoStr
  have HVS := Lib.hid hVs
  have wA : ∀ b, (winA (V.heap.size + 2) b ∨ b = V.heap.size ∨ b = V.heap.size + 1) → w.heap.size + 2 ≤ b ∧ b < w.heap.size + 10 := fun b hb => by
    rcases hb with h | h | h
    · unfold winA at h; omega
    · omega
    · omega
  have WA := Lib.hid wA
  clear wA hVs
  refine (wpIn_wide (n := 9)).1 ?_
  refine wpIn_rangeFunc_win hro (by decide) (gf := 59) (lb := #[.pointer (some ⟨w.heap.size + 1, 0, none⟩)]) rfl trivial (enters_of Tryd.func59 (by kernel_rfl) rfl)
    (names_own 8 (by decide) (w.heap.size + 1) s (by omega) V hR) (Below.refl _ _) (fun _ => rfl)
    (fun b hb => by unfold winA at hb; omega)
    (splitI w) (fun _ _ _ => False)
    (fun M b X Y hb hI hg => by
      obtain ⟨⟨v, h1, h2⟩, h3⟩ := hI
      have hw := WA.out b hb
      exact ⟨⟨v, h1.kept hg (fun e => by cases e; omega), h2.kept hg (.inr fun e => by have := (h2.lt _ e).1; omega)⟩, h3.grown hg (Nat.le_trans (Nat.le_refl _) h3.size) (fun j e => by cases e; omega)⟩)
    (fun _ _ _ _ _ _ h _ => h)
    (fun _ _ _ h => h)
    (fun o => ⟨⟨_, (hbx.alloc _).alloc _, World.ownsRow_nil _ _ _ _⟩, (hBV.alloc hBV.size _).alloc (by simp; have := hBV.size; omega) _⟩)
    (fun x => { tmps := #[.string s, undef, .slice none 0 0, .pointer (some ⟨w.heap.size, 0, none⟩), .string x.1, .string s, .func (.func 59) #[] #[.pointer (some ⟨w.heap.size + 1, 0, none⟩)], .string x.1, undef, undef, undef, undef, undef, undef, undef, undef, undef, undef], defers := [] })
    ?assign ?body ?done ?stop
  case assign =>
    intro l' x W' K hK
    gi_wp2
    exact hK
  case body =>
    rintro l pre x W ⟨⟨v, hb0, hown⟩, hB⟩ hlen hsz
    have hsz10 : w.heap.size + 10 ≤ W.heap.size := by have := hsz (by decide); have := HVS.out; omega
    rw [← Lib.size_eq] at hlen
    have c0 := hb0.cell
    have f0 := hb0.frozen
    have hx31 := (nameB_iff.1 x.2).2.1
    rw [← Lib.size_eq] at hx31
    have CL := Lib.hid (Clone_any x.1 (by omega))
    clear hbx hR hBV hsz
    have hb1 : pre.length + 1 ≤ maxLen := by unfold maxLen; omega
    have hb2 : (pre.length + 1) * 16 ≤ 140737488355328 := by omega
    have HO := Lib.hid hown; have HB0 := Lib.hid hb0
    clear hown hb0
    have hmx : Tryd.prog.follows .mixedOrders = true := by kernel_rfl
    gi_wp2_with fail
    refine wpIn_region_round (by kernel_rfl) (by kernel_rfl) ?hq ?_
    case hq =>
      rintro ⟨a, w', h⟩
      exact h
    change wpAny _ _ _ _ _ _ _ (World.drew _)
    have HBd : Hid (Boxed W.drew w.heap.size 31 v) := HB0.out
    have HOd : Hid (W.drew.ownsRow (w.heap.size + 10) 9 1 v pre.length (strCells (vals pre))) := HO.out
    have HZ : Hid (W.drew.heap.size = W.heap.size) := rfl
    have HKd : Hid (KeepsAt (fun _ => True) W W.drew) := fun _ _ => rfl
    have HBe : Hid (Below w.heap.size w W.drew) := hB.drew
    obtain ⟨Wd, hWd⟩ : ∃ Wd, Wd = W.drew := ⟨_, rfl⟩
    rw [← hWd] at HBd HOd HZ HKd HBe ⊢
    clear hWd hB HO HB0 c0 f0
    have c0 := HBd.out.cell
    refine wpAny_take (i := 1) (v := .string x.1) rfl (by kernel_rfl) (by kernel_rfl) (by kernel_rfl) (fun _ _ _ h => h) (Or.inl ⟨by kernel_rfl, fun _ => by kernel_rfl⟩) ?_
    refine wpAny_at (a' := ⟨#[.string s, undef, .slice none 0 0, .pointer (some ⟨w.heap.size, 0, none⟩), .string x.1, .string s, .func (.func 59) #[] #[.pointer (some ⟨w.heap.size + 1, 0, none⟩)], .string x.1, undef, .string x.1, undef, undef, undef, undef, undef, undef, undef, undef], []⟩) (listed' := #[false, true, false, false, false, false]) (by kernel_rfl) (by kernel_rfl) ?_
    refine wpAny_ready (rs := [0, 2]) (by kernel_rfl) (by simp) ?_
    refine BigFrame.allReady_want rfl (by kernel_rfl) (fun K hK => ?_) (BigFrame.allReady_want rfl (by kernel_rfl) (fun K hK => ?_) AllReady.nil)
    · refine wp_load_slice (B := w.heap.size) (v := v) rfl (by kernel_rfl) c0 ?_
      refine hK _ _ ?_
      clear hK K
      refine wpAny_at (a' := ⟨#[.string s, undef, .slice none 0 0, .pointer (some ⟨w.heap.size, 0, none⟩), .string x.1, .string s, .func (.func 59) #[] #[.pointer (some ⟨w.heap.size + 1, 0, none⟩)], .string x.1, v, .string x.1, undef, undef, undef, undef, undef, undef, undef, undef], []⟩) (listed' := #[true, true, false, false, false, false]) (by kernel_rfl) (by kernel_rfl) ?_
      refine wpAny_ready (rs := [2]) (by kernel_rfl) (by simp) ?_
      refine BigFrame.allReady_want rfl (by kernel_rfl) (fun K hK => ?_) AllReady.nil
      refine wp_callf 45 _ _ rfl (enters_of Tryd.func45 (by kernel_rfl) rfl) #[.string x.1] (by kernel_rfl) (.string x.1) (CL.out _) ?_
      intro W2 hb2
      have HB2 : Hid (Boxed W2 w.heap.size 31 v) := Row.step HBd.out hb2
      have HO2 : Hid (W2.ownsRow (w.heap.size + 10) 9 1 v pre.length (strCells (vals pre))) := HOd.out.kept (grownBy_of_below hb2) (by cases hv : v.ownBlock <;> simp)
      have hz2' := hb2.size
      have HK2 : Hid (KeepsAt (fun k => k < Wd.heap.size) Wd W2) := KeepsAt.below hb2 (fun _ h => h)
      have HBf : Hid (Below w.heap.size w W2) := HBe.out.trans (hb2.mono HBe.out.size)
      have c2 := HB2.out.cell
      clear hb2
      refine hK _ _ ?_
      clear hK K
      refine wpAny_at (a' := ⟨#[.string s, undef, .slice none 0 0, .pointer (some ⟨w.heap.size, 0, none⟩), .string x.1, .string s, .func (.func 59) #[] #[.pointer (some ⟨w.heap.size + 1, 0, none⟩)], .string x.1, v, .string x.1, .string x.1, undef, undef, undef, undef, undef, undef, undef], []⟩) (listed' := #[true, true, true, false, false, false]) (by kernel_rfl) (by kernel_rfl) ?_
      refine wpAny_ready (rs := [3]) (by kernel_rfl) (by simp) ?_
      refine BigFrame.allReady_want rfl (by kernel_rfl) (fun K hK => ?_) AllReady.nil
      refine wp_build_one (x := x.1) rfl (by kernel_rfl) ?_
      have c3 := (show Row (W2.alloc (.cells #[.string x.1] 9)) w.heap.size #[v] 31 from Row.alloc HB2.out _).cell 0
      simp only [List.getElem?_toArray, List.getElem?_cons_zero] at c3
      refine hK _ _ ?_
      clear hK K
      refine wpAny_at (a' := ⟨#[.string s, undef, .slice none 0 0, .pointer (some ⟨w.heap.size, 0, none⟩), .string x.1, .string s, .func (.func 59) #[] #[.pointer (some ⟨w.heap.size + 1, 0, none⟩)], .string x.1, v, .string x.1, .string x.1, .slice (some ⟨W2.heap.size, 0, none⟩) 1 1, undef, undef, undef, undef, undef, undef], []⟩) (listed' := #[true, true, true, true, false, false]) (by kernel_rfl) (by kernel_rfl) ?_
      refine wpAny_ready (rs := [4]) (by kernel_rfl) (by simp) ?_
      refine BigFrame.allReady_want rfl (by kernel_rfl) (fun K hK => ?_) AllReady.nil
      refine wp_append_own _ (.tmp 8) (.tmp 11) 31 rfl (w.heap.size + 10) 9 i0 (.string ⟨#[]⟩) 1 16 Tryd.underlying31 hi hz0 hz1 hz2 rfl (by decide) v pre.length (strCells (vals pre)) (by kernel_rfl) (HO2.out.alloc _) ⟨W2.heap.size, 0, none⟩ 1 1 [.string x.1] (by kernel_rfl) rfl cell_one ?_ hb1 hb2 ?_ ?_
      · intro u hu; simp at hu; subst hu; rfl
      · rw [World.size_alloc]; have := HZ.out; omega
      intro v' w3 hown' hgrow _
      refine hK _ _ ?_
      clear hK K c3
      have hlt := HO2.out.lt
      have e0 : Boxed w3 w.heap.size 31 v := (HB2.out.alloc _).kept hgrow (fun e => by have := (hlt _ e.symm).1; omega)
      have d0 := e0.cell; have m0 := e0.frozen
      obtain ⟨g, cap, rfl⟩ := ownsRow_succ hown'
      refine wpAny_at (a' := ⟨#[.string s, undef, .slice none 0 0, .pointer (some ⟨w.heap.size, 0, none⟩), .string x.1, .string s, .func (.func 59) #[] #[.pointer (some ⟨w.heap.size + 1, 0, none⟩)], .string x.1, v, .string x.1, .string x.1, .slice (some ⟨W2.heap.size, 0, none⟩) 1 1, .slice (some ⟨g, 0, none⟩) (pre.length + 1) cap, undef, undef, undef, undef, undef], []⟩) (listed' := #[true, true, true, true, true, false]) (by kernel_rfl) (by kernel_rfl) ?_
      refine wpAny_ready (rs := [5]) (by kernel_rfl) (by simp) ?_
      refine BigFrame.allReady_want rfl (by kernel_rfl) (fun K hK => ?_) AllReady.nil
      refine wp_store_slice (ad := some ⟨g, 0, none⟩) (n := pre.length + 1) (c := cap) (B := w.heap.size) rfl (by kernel_rfl) (by kernel_rfl) d0 m0 ?_
      refine hK _ _ ?_
      clear hK K
      refine wpAny_done (by kernel_rfl) ?_ _
      exact split_round WA.out HKd.out HZ.out HBf.out HK2.out hz2' hsz10 HO2.out hown' hgrow e0
    · refine wp_callf 45 _ _ rfl (enters_of Tryd.func45 (by kernel_rfl) rfl) #[.string x.1] (by kernel_rfl) (.string x.1) (CL.out _) ?_
      intro W2 hb2
      have HB2 : Hid (Boxed W2 w.heap.size 31 v) := Row.step HBd.out hb2
      have HO2 : Hid (W2.ownsRow (w.heap.size + 10) 9 1 v pre.length (strCells (vals pre))) := HOd.out.kept (grownBy_of_below hb2) (by cases hv : v.ownBlock <;> simp)
      have hz2' := hb2.size
      have HK2 : Hid (KeepsAt (fun k => k < Wd.heap.size) Wd W2) := KeepsAt.below hb2 (fun _ h => h)
      have HBf : Hid (Below w.heap.size w W2) := HBe.out.trans (hb2.mono HBe.out.size)
      have c2 := HB2.out.cell
      clear hb2
      refine hK _ _ ?_
      clear hK K
      refine wpAny_at (a' := ⟨#[.string s, undef, .slice none 0 0, .pointer (some ⟨w.heap.size, 0, none⟩), .string x.1, .string s, .func (.func 59) #[] #[.pointer (some ⟨w.heap.size + 1, 0, none⟩)], .string x.1, undef, .string x.1, .string x.1, undef, undef, undef, undef, undef, undef, undef], []⟩) (listed' := #[false, true, true, false, false, false]) (by kernel_rfl) (by kernel_rfl) ?_
      refine wpAny_ready (rs := [0, 3]) (by kernel_rfl) (by simp) ?_
      refine BigFrame.allReady_want rfl (by kernel_rfl) (fun K hK => ?_) (BigFrame.allReady_want rfl (by kernel_rfl) (fun K hK => ?_) AllReady.nil)
      · refine wp_load_slice (B := w.heap.size) (v := v) rfl (by kernel_rfl) c2 ?_
        refine hK _ _ ?_
        clear hK K
        refine wpAny_at (a' := ⟨#[.string s, undef, .slice none 0 0, .pointer (some ⟨w.heap.size, 0, none⟩), .string x.1, .string s, .func (.func 59) #[] #[.pointer (some ⟨w.heap.size + 1, 0, none⟩)], .string x.1, v, .string x.1, .string x.1, undef, undef, undef, undef, undef, undef, undef], []⟩) (listed' := #[true, true, true, false, false, false]) (by kernel_rfl) (by kernel_rfl) ?_
        refine wpAny_ready (rs := [3]) (by kernel_rfl) (by simp) ?_
        refine BigFrame.allReady_want rfl (by kernel_rfl) (fun K hK => ?_) AllReady.nil
        refine wp_build_one (x := x.1) rfl (by kernel_rfl) ?_
        have c3 := (show Row (W2.alloc (.cells #[.string x.1] 9)) w.heap.size #[v] 31 from Row.alloc HB2.out _).cell 0
        simp only [List.getElem?_toArray, List.getElem?_cons_zero] at c3
        refine hK _ _ ?_
        clear hK K
        refine wpAny_at (a' := ⟨#[.string s, undef, .slice none 0 0, .pointer (some ⟨w.heap.size, 0, none⟩), .string x.1, .string s, .func (.func 59) #[] #[.pointer (some ⟨w.heap.size + 1, 0, none⟩)], .string x.1, v, .string x.1, .string x.1, .slice (some ⟨W2.heap.size, 0, none⟩) 1 1, undef, undef, undef, undef, undef, undef], []⟩) (listed' := #[true, true, true, true, false, false]) (by kernel_rfl) (by kernel_rfl) ?_
        refine wpAny_ready (rs := [4]) (by kernel_rfl) (by simp) ?_
        refine BigFrame.allReady_want rfl (by kernel_rfl) (fun K hK => ?_) AllReady.nil
        refine wp_append_own _ (.tmp 8) (.tmp 11) 31 rfl (w.heap.size + 10) 9 i0 (.string ⟨#[]⟩) 1 16 Tryd.underlying31 hi hz0 hz1 hz2 rfl (by decide) v pre.length (strCells (vals pre)) (by kernel_rfl) (HO2.out.alloc _) ⟨W2.heap.size, 0, none⟩ 1 1 [.string x.1] (by kernel_rfl) rfl cell_one ?_ hb1 hb2 ?_ ?_
        · intro u hu; simp at hu; subst hu; rfl
        · rw [World.size_alloc]; have := HZ.out; omega
        intro v' w3 hown' hgrow _
        refine hK _ _ ?_
        clear hK K c3
        have hlt := HO2.out.lt
        have e0 : Boxed w3 w.heap.size 31 v := (HB2.out.alloc _).kept hgrow (fun e => by have := (hlt _ e.symm).1; omega)
        have d0 := e0.cell; have m0 := e0.frozen
        obtain ⟨g, cap, rfl⟩ := ownsRow_succ hown'
        refine wpAny_at (a' := ⟨#[.string s, undef, .slice none 0 0, .pointer (some ⟨w.heap.size, 0, none⟩), .string x.1, .string s, .func (.func 59) #[] #[.pointer (some ⟨w.heap.size + 1, 0, none⟩)], .string x.1, v, .string x.1, .string x.1, .slice (some ⟨W2.heap.size, 0, none⟩) 1 1, .slice (some ⟨g, 0, none⟩) (pre.length + 1) cap, undef, undef, undef, undef, undef], []⟩) (listed' := #[true, true, true, true, true, false]) (by kernel_rfl) (by kernel_rfl) ?_
        refine wpAny_ready (rs := [5]) (by kernel_rfl) (by simp) ?_
        refine BigFrame.allReady_want rfl (by kernel_rfl) (fun K hK => ?_) AllReady.nil
        refine wp_store_slice (ad := some ⟨g, 0, none⟩) (n := pre.length + 1) (c := cap) (B := w.heap.size) rfl (by kernel_rfl) (by kernel_rfl) d0 m0 ?_
        refine hK _ _ ?_
        clear hK K
        refine wpAny_done (by kernel_rfl) ?_ _
        exact split_round WA.out HKd.out HZ.out HBf.out HK2.out hz2' hsz10 HO2.out hown' hgrow e0
      · refine wp_build_one (x := x.1) rfl (by kernel_rfl) ?_
        have c3 := (show Row (W2.alloc (.cells #[.string x.1] 9)) w.heap.size #[v] 31 from Row.alloc HB2.out _).cell 0
        simp only [List.getElem?_toArray, List.getElem?_cons_zero] at c3
        refine hK _ _ ?_
        clear hK K
        refine wpAny_at (a' := ⟨#[.string s, undef, .slice none 0 0, .pointer (some ⟨w.heap.size, 0, none⟩), .string x.1, .string s, .func (.func 59) #[] #[.pointer (some ⟨w.heap.size + 1, 0, none⟩)], .string x.1, undef, .string x.1, .string x.1, .slice (some ⟨W2.heap.size, 0, none⟩) 1 1, undef, undef, undef, undef, undef, undef], []⟩) (listed' := #[false, true, true, true, false, false]) (by kernel_rfl) (by kernel_rfl) ?_
        refine wpAny_ready (rs := [0]) (by kernel_rfl) (by simp) ?_
        refine BigFrame.allReady_want rfl (by kernel_rfl) (fun K hK => ?_) AllReady.nil
        refine wp_load_slice (B := w.heap.size) (v := v) rfl (by kernel_rfl) c3 ?_
        refine hK _ _ ?_
        clear hK K
        refine wpAny_at (a' := ⟨#[.string s, undef, .slice none 0 0, .pointer (some ⟨w.heap.size, 0, none⟩), .string x.1, .string s, .func (.func 59) #[] #[.pointer (some ⟨w.heap.size + 1, 0, none⟩)], .string x.1, v, .string x.1, .string x.1, .slice (some ⟨W2.heap.size, 0, none⟩) 1 1, undef, undef, undef, undef, undef, undef], []⟩) (listed' := #[true, true, true, true, false, false]) (by kernel_rfl) (by kernel_rfl) ?_
        refine wpAny_ready (rs := [4]) (by kernel_rfl) (by simp) ?_
        refine BigFrame.allReady_want rfl (by kernel_rfl) (fun K hK => ?_) AllReady.nil
        refine wp_append_own _ (.tmp 8) (.tmp 11) 31 rfl (w.heap.size + 10) 9 i0 (.string ⟨#[]⟩) 1 16 Tryd.underlying31 hi hz0 hz1 hz2 rfl (by decide) v pre.length (strCells (vals pre)) (by kernel_rfl) (HO2.out.alloc _) ⟨W2.heap.size, 0, none⟩ 1 1 [.string x.1] (by kernel_rfl) rfl cell_one ?_ hb1 hb2 ?_ ?_
        · intro u hu; simp at hu; subst hu; rfl
        · rw [World.size_alloc]; have := HZ.out; omega
        intro v' w3 hown' hgrow _
        refine hK _ _ ?_
        clear hK K c3
        have hlt := HO2.out.lt
        have e0 : Boxed w3 w.heap.size 31 v := (HB2.out.alloc _).kept hgrow (fun e => by have := (hlt _ e.symm).1; omega)
        have d0 := e0.cell; have m0 := e0.frozen
        obtain ⟨g, cap, rfl⟩ := ownsRow_succ hown'
        refine wpAny_at (a' := ⟨#[.string s, undef, .slice none 0 0, .pointer (some ⟨w.heap.size, 0, none⟩), .string x.1, .string s, .func (.func 59) #[] #[.pointer (some ⟨w.heap.size + 1, 0, none⟩)], .string x.1, v, .string x.1, .string x.1, .slice (some ⟨W2.heap.size, 0, none⟩) 1 1, .slice (some ⟨g, 0, none⟩) (pre.length + 1) cap, undef, undef, undef, undef, undef], []⟩) (listed' := #[true, true, true, true, true, false]) (by kernel_rfl) (by kernel_rfl) ?_
        refine wpAny_ready (rs := [5]) (by kernel_rfl) (by simp) ?_
        refine BigFrame.allReady_want rfl (by kernel_rfl) (fun K hK => ?_) AllReady.nil
        refine wp_store_slice (ad := some ⟨g, 0, none⟩) (n := pre.length + 1) (c := cap) (B := w.heap.size) rfl (by kernel_rfl) (by kernel_rfl) d0 m0 ?_
        refine hK _ _ ?_
        clear hK K
        refine wpAny_done (by kernel_rfl) ?_ _
        exact split_round WA.out HKd.out HZ.out HBf.out HK2.out hz2' hsz10 HO2.out hown' hgrow e0
  case done =>
    rintro xs W hxs ⟨⟨v, hbx0, hown⟩, hB⟩ hK
    rw [HVS.out] at hK ⊢
    have hD : w.heap.size + 2 < W.heap.size := (Array.getElem?_eq_some_iff.1 hK).1
    have J := Lib.hid (JN.out v (vals xs) W (IsStrs.of_owns (L := vals xs) (by rw [vals_len]; exact hown)))
    rw [hxs] at J
    have c0 := hbx0.cell
    obtain ⟨y, hy⟩ : ∃ y : ByteArray, y = ⟨(joinN (firstN s.data.toList)).toArray⟩ := ⟨_, rfl⟩
    rw [← hy] at J
    have HXS := Lib.hid hxs
    have HO := Lib.hid hown; have HBB := Lib.hid hB; have HBX := Lib.hid hbx0; have HK := Lib.hid hK
    have hyl : y.data.toList = joinN (firstN s.data.toList) := by rw [hy]
    clear hbx hR hBV hxs hy hown hB hbx0 hK
    have fin : ∀ (L : List (List UInt8)) (u : Value) (W2 : World), Below W.heap.size W W2 → ((L = firstN s.data.toList ∧ u = v) ∨ (L = [] ∧ u = .slice none 0 0)) →
        IsStrs (W2.putObj (w.heap.size + 2) (.deferred none)) u (strsOf L) ∧ Below w.heap.size w (W2.putObj (w.heap.size + 2) (.deferred none)) := fun L u W2 hb hu => by
      have hg := grownBy_putObj' W2 (w.heap.size + 2) (.deferred none)
      refine ⟨?_, (HBB.out.trans (hb.mono HBB.out.size)).grown hg (Nat.le_trans HBB.out.size hb.size) (fun j e => by cases e; omega)⟩
      rcases hu with ⟨rfl, rfl⟩ | ⟨rfl, rfl⟩
      · have h2 := (HO.out.kept (grownBy_of_below hb) (by cases hv : u.ownBlock <;> simp)).kept hg (.inr fun e => by
          have := ((HO.out.kept (grownBy_of_below hb) (by cases hv : u.ownBlock <;> simp)).lt _ e).1
          omega)
        rw [← HXS.out, strsOf_txts]
        exact IsStrs.of_owns (L := vals xs) (by rw [vals_len]; exact h2)
      · exact isStrs_nil _
    have FIN := Lib.hid fin
    clear fin
    by_cases he : joinN (firstN s.data.toList) = s.data.toList
    · have hb : (y.toList == s.toList) = true := beq_true (str_eq' (by rw [hyl]; exact he))
      have hs := split_same he
      have HS := Lib.hid hs
      clear he hs hyl
      go_wp2_with fail
      refine J.out.mono ?_
      rintro e W2 ⟨rfl, hb2⟩
      have c2 := (show Row W2 w.heap.size #[v] 31 from Row.step HBX.out hb2).cell 0
      simp only [List.getElem?_toArray, List.getElem?_cons_zero] at c2
      have HK2 := Lib.hid ((hb2.block _ hD).trans HK.out)
      have FF := Lib.hid (FIN.out _ _ W2 hb2 (.inl ⟨rfl, rfl⟩))
      clear hb2 c0
      go_wp2_with fail
      refine ⟨by simp, .inl ⟨_, _, rfl, run_takeDeferred HK2.out, ?_⟩⟩
      exact ⟨_, results_tmp rfl _ _ _, v, rfl, by rw [HS.out]; exact FF.out.1, FF.out.2⟩
    · have hb : (y.toList == s.toList) = false := beq_false (fun e => he (by rw [← hyl, e]))
      have hs := split_other he
      have HS := Lib.hid hs
      clear he hs hyl
      go_wp2_with fail
      refine J.out.mono ?_
      rintro e W2 ⟨rfl, hb2⟩
      have HK2 := Lib.hid ((hb2.block _ hD).trans HK.out)
      have FF := Lib.hid (FIN.out _ _ W2 hb2 (.inr ⟨rfl, rfl⟩))
      clear hb2 c0
      go_wp2_with fail
      refine ⟨by simp, .inl ⟨_, _, rfl, run_takeDeferred HK2.out, ?_⟩⟩
      exact ⟨_, results_tmp rfl _ _ _, _, rfl, by rw [HS.out]; exact FF.out.1, FF.out.2⟩
  case stop => 
    intro c pre W _ h
    exact h.elim
end Go.Proofs.YtelaamchafocpaaDoor
/-
  Contracts over this translation: strings.Split at a slash; path.Fit, path.Dir, path.Order.
-/
set_option linter.unusedVariables false
namespace Go.Proofs.YtelaamchafocpaaDoor
open Go.RowKit Go.Shelf
attribute [local go_sem] Oper.semAt_some

theorem pts_count (l : List UInt8) : (pts l).length = l.count 47 + 1 := by
  induction l with
  | nil => rfl
  | cons c r ih =>
    by_cases hc : c = 47
    · subst hc; rw [pts_slash, List.count_cons_self, List.length_cons, ih]
    · obtain ⟨h, t, e⟩ := List.exists_cons_of_ne_nil (pts_ne r)
      rw [pts_other hc e, List.count_cons_of_ne hc]; rw [e] at ih; exact ih
theorem splitK_pts : ∀ (k : Nat) (l : List UInt8), (pts l).length ≤ k + 1 → Lib.splitK [47] 0 k l = pts l
  | 0, l, h => by
    rcases index_parts l with ⟨_, h2⟩ | ⟨j, _, _, h3⟩
    · rw [h2]; rfl
    · rw [h3, List.length_cons] at h; have := (pts_len (l.drop (j + 1))).2; omega
  | k + 1, l, h => by
    unfold Lib.splitK
    rw [Lib.index_one]
    rcases index_parts l with ⟨h1, h2⟩ | ⟨j, h1, h2, h3⟩
    · rw [h1, h2]; rfl
    · rw [h1, if_neg (by simp)]
      have e : ((j : Int)).toNat = j := by simp
      rw [e, h3, Nat.add_zero]
      congr 1
      refine splitK_pts k _ ?_
      rw [h3, List.length_cons] at h; show (pts (l.drop (j + 1))).length ≤ _; omega

theorem strSplit_any (s : ByteArray) (hs : s.size ≤ 1000000) (w : World) : Calls Tryd.prog 75 #[.string s, .string sep1, .int .i64 0, .int .i64 (-1)] w (RetL (pts s.data.toList) w) := by
  have hc : Lib.countB s sep1 = s.data.toList.count 47 := Lib.count_one 47 _
  have hp := pts_count s.data.toList
  have hl := pts_len s.data.toList
  have hI : ∀ (x : ByteArray) (c : Array Value), x.size ≤ s.size → Calls Tryd.prog 79 #[.string x, .string sep1] (w.alloc (.cells c 9)) fun e w' => e = .returned (.int .i64 (Lib.indexB x sep1)) ∧ w' = w.alloc (.cells c 9) := fun x c _ =>
    (Index_any x _).mono fun e w' h => ⟨by rw [h.1]; exact ret_i (Lib.index_one _ _).symm, h.2.symm⟩
  have hC : Calls Tryd.prog 85 #[.string s, .string sep1] w fun e w' => e = .returned (.int .i64 (Lib.countB s sep1)) ∧ w' = w := by
    have C := Any.strings_Count_one Tryd.lays138 s 47 w
    change Calls Tryd.prog 85 _ _ _ at C
    refine C.mono ?_
    rintro e w' ⟨rfl, rfl⟩
    exact ⟨ret_i (by rw [hc]; rfl), rfl⟩
  have C := Any.strings_genSplit_core Tryd.lays221 infoStr s sep1 0 (-1) (s.data.toList.count 47 + 1) w (by omega) (by decide) (by decide) hI hC (by decide) (by decide) (by
    rw [hc, if_pos (by decide)]; rw [← Lib.size_eq] at hl; omega)
  change Calls Tryd.prog 75 _ _ _ at C
  refine C.mono ?_
  rintro e w' ⟨rfl, rfl⟩
  rw [Nat.add_sub_cancel]
  have hd : (Lib.splitB sep1 0 (s.data.toList.count 47) s).map (·.data.toList) = pts s.data.toList := by
    rw [Lib.splitB_data]; exact splitK_pts _ _ (by omega)
  have hL : Lib.splitB sep1 0 (s.data.toList.count 47) s = strsOf (pts s.data.toList) := by
    rw [← hd]; exact (strsOf_txts _).symm
  rw [hL]
  have hlen : (strsOf (pts s.data.toList)).length = s.data.toList.count 47 + 1 := by rw [strsOf_len, hp]
  refine ⟨_, rfl, ⟨by rw [strsOf_len]; rw [← Lib.size_eq] at hl; unfold maxLen; omega, _, _, rfl, ⟨fun h => (by cases h), by rw [hlen]; exact Nat.le_refl _⟩, fun _ => ⟨_, 0, rfl, by simp, fun i hi => ?_⟩⟩, (Below.refl _ _).alloc (Nat.le_refl _) _⟩
  have hr := (Row.made w (Lib.cellsOf (strsOf (pts s.data.toList)) (s.data.toList.count 47 + 1)) 9).cell (0 + i)
  refine hr.trans ?_
  unfold Lib.cellsOf
  rw [hlen, Nat.sub_self, List.replicate_zero, List.append_nil]
  simp [Nat.zero_add, hi]
set_option maxRecDepth 100000 in
theorem sSplit_any (s : ByteArray) (hs : s.size ≤ 1000000) (w : World) : Calls Tryd.prog 67 #[.string s, .string sep1] w (RetL (pts s.data.toList) w) := by
  have C := Lib.hid (strSplit_any s hs)
  go_enter Tryd.func67, Tryd.ntmps67
  go_wp2_with fail
  refine (C.out _).mono ?_
  rintro e w1 ⟨v, rfl, hv, hb⟩
  have HV := Lib.hid hv; clear hv
  go_wp2
  go_ret
  exact ⟨v, rfl, HV.out, hb⟩

set_option maxRecDepth 100000 in
theorem Fit_any (s : ByteArray) (hs : s.size ≤ 100000) (w : World) :
    Calls Tryd.prog 56 #[.string s] w fun e w' => e = .returned (.bool (isPath s.data.toList)) ∧ Below w.heap.size w w' := by
  have C := Lib.hid (Split_any s hs)
  go_enter Tryd.func56, Tryd.ntmps56
  go_wp2_with fail
  refine (C.out _).mono ?_
  rintro e w1 ⟨v, rfl, ⟨hm, a, cap, rfl, _, hc⟩, hb1⟩
  have HE : Hid (isPath s.data.toList = decide ((0 : Int) < ((strsOf (splitS s.data.toList)).length : Int))) := by
    unfold isPath; rw [strsOf_len]; exact decide_eq_decide.2 (by omega)
  have hmm : (strsOf (splitS s.data.toList)).length ≤ 9223372036854775807 := by unfold maxLen at hm; omega
  clear hc hm
  go_wp2
  go_ret
  exact ⟨ret_val (congrArg Value.bool (by rw [HE.out]; simp)), hb1⟩

set_option maxRecDepth 100000 in
set_option maxHeartbeats 2000000 in
theorem Dir_any (s : ByteArray) (hs : s.size ≤ 100000) (w : World) :
    Calls Tryd.prog 32 #[.string s] w fun e w' => e = .returned (.string ⟨(dirS s.data.toList).toArray⟩) ∧ Below w.heap.size w w' := by
  have C := Lib.hid (Split_any s hs)
  have J := Lib.hid Join_any
  obtain ⟨l, hl⟩ : ∃ l, l = s.data.toList := ⟨_, rfl⟩
  rw [← hl] at C ⊢
  clear hl hs
  go_enter Tryd.func32, Tryd.ntmps32
  go_wp2_with fail
  refine (C.out _).mono ?_
  rintro e w1 ⟨v, rfl, hv, hb1⟩
  have HV := Lib.hid hv
  obtain ⟨hm, a, cap, rfl, ⟨_, hcap⟩, hc⟩ := hv
  have HLEN := Lib.hid (strsOf_len (splitS l))
  have HT := Lib.hid (txts_strsOf (splitS l))
  obtain ⟨L, hL⟩ : ∃ L, L = strsOf (splitS l) := ⟨_, rfl⟩
  rw [← hL] at HV HLEN HT hm hcap hc ⊢
  clear hL
  have hmm : L.length ≤ 9223372036854775807 := by unfold maxLen at hm; omega
  by_cases h2 : L.length = 0
  · have e2 : ((L.length : Int) == 0) = true := beq_iff_eq.2 (by omega)
    have HN : Hid (dirS l = []) := splitS_short (by rw [← HLEN.out]; omega)
    clear hc hm hcap
    have HH := Lib.hid h2
    clear h2
    go_wp2
    go_ret
    exact ⟨by rw [HN.out]; rfl, hb1⟩
  · have e2 : ((L.length : Int) == 0) = false := beq_eq_false_iff_ne.2 (by omega)
    obtain ⟨b, off, rfl, hlt, hcell⟩ := hc (by omega)
    have h1 : 1 ≤ L.length := by omega
    have hV2 : IsStrs w1 (.slice (some ⟨b, off, none⟩) (L.length - 1) cap) L.dropLast := by
      refine ⟨by rw [List.length_dropLast]; omega, some ⟨b, off, none⟩, cap, by rw [List.length_dropLast], ⟨fun h => (by cases h), by rw [List.length_dropLast]; omega⟩, fun _ => ⟨b, off, rfl, hlt, fun i hi => ?_⟩⟩
      rw [List.length_dropLast] at hi
      rw [hcell i (by omega), List.getElem_dropLast]
    have HV2 := Lib.hid hV2
    have J2 := Lib.hid (fun hv => J.out (.slice (some ⟨b, off, none⟩) (L.length - 1) cap) L.dropLast w1 hv)
    have HD : Hid (joinN (txts L.dropLast) = dirS l) := by
      show _ = _
      rw [show txts L.dropLast = (txts L).dropLast by simp [txts], HT.out]; rfl
    clear hc hcell hV2 J h2
    go_wp2_with fail
    refine (J2.out HV2.out).mono ?_
    rintro e w2 ⟨rfl, hb2⟩
    have hB := below_step hb1 hb2
    go_wp2
    go_ret
    exact ⟨by rw [HD.out]; rfl, hB⟩

set_option maxRecDepth 100000 in
set_option maxHeartbeats 2000000 in
theorem Order_any (a b : ByteArray) (ha : a.size ≤ 1000000) (hb : b.size ≤ 1000000) (w : World) :
    Calls Tryd.prog 55 #[.string a, .string b] w fun e w' => e = .returned (.int .i64 (orderS a.data.toList b.data.toList)) ∧ Below w.heap.size w w' := by
  have C1 := Lib.hid (sSplit_any a ha)
  have C2 := Lib.hid (sSplit_any b hb)
  have CC := Lib.hid slCompare_any
  have HX := Lib.hid (txts_strsOf (pts a.data.toList))
  have HY := Lib.hid (txts_strsOf (pts b.data.toList))
  go_enter Tryd.func55, Tryd.ntmps55
  go_wp2_with fail
  refine (C1.out _).mono ?_
  rintro e w1 ⟨v1, rfl, hv1, hb1⟩
  have HV1 := Lib.hid hv1; clear hv1
  go_wp2_with fail
  refine (C2.out _).mono ?_
  rintro e w2 ⟨v2, rfl, hv2, hb2⟩
  have hB := below_step hb1 hb2
  have HV1' := Lib.hid (HV1.out.stays hb2)
  have HV2 := Lib.hid hv2; clear hv2 hb1 hb2
  go_wp2_with fail
  refine (CC.out _ _ _ _ _ HV1'.out HV2.out).mono ?_
  rintro e w3 ⟨rfl, rfl⟩
  rw [HX.out, HY.out]
  go_wp2
  go_ret
  exact ⟨rfl, hB⟩
end Go.Proofs.YtelaamchafocpaaDoor
/-
  Contracts over this translation: slices.Equal, slices.Clone at items; tree's Same, Size; how an item stands to a path.
-/
set_option linter.unusedVariables false
namespace Go.Proofs.YtelaamchafocpaaDoor
open Go.RowKit
attribute [local go_sem] Oper.semAt_some

set_option maxRecDepth 100000 in
set_option maxHeartbeats 2000000 in
theorem pEqual_any (v1 v2 : Value) (L M : List It) (w : World) (h1 : IsItems w v1 L) (h2 : IsItems w v2 M) :
    Calls Tryd.prog 29 #[v1, v2] w fun e w' => e = .returned (.bool (sameT L M)) ∧ Below w.heap.size w w' := by
  obtain ⟨hm1, a1, cap1, rfl, _, hc1⟩ := h1
  obtain ⟨hm2, a2, cap2, rfl, _, hc2⟩ := h2
  have hmm1 : L.length ≤ 9223372036854775807 := by unfold maxLen at hm1; omega
  have hmm2 : M.length ≤ 9223372036854775807 := by unfold maxLen at hm2; omega
  have H1 := Lib.hid hc1; have H2 := Lib.hid hc2
  clear hc1 hm1 hc2 hm2
  have hne' : ∀ (x y : It) (w : World), Sem.run Tryd.prog (binOp .neq 27 (itV x) (itV y)) w = .ok (.bool (!eqI x y)) w := fun x y w => neqItem x y w
  have hgd' : ∀ (op : BinOp) (a b : Operand) (x y : It) (w : World), Sem.run Tryd.prog (eqGuard op 27 a b (itV x) (itV y)) w = .ok () w := fun op a b x y w => guardItem op a b x y w
  by_cases hl : L.length = M.length
  · have hll : ((L.length : Int) == (M.length : Int)) = true := beq_iff_eq.2 (by omega)
    have HL := Lib.hid hl
    clear hl
    go_enter Tryd.func29, Tryd.ntmps29
    go_wp2
    go_loopw [13] (fun i wr => ∃ k m : Nat, k ≤ L.length ∧ i = .int .i64 k ∧ L.take k = M.take k ∧ wr = w.drewN m) (fun i _ => L.length - (intOf i).toNat)
    case atStart => exact ⟨0, 0, Nat.zero_le _, rfl, rfl, rfl⟩
    case round =>
      obtain ⟨k, m, hk, rfl, he, rfl⟩ := hrel
      have HE := Lib.hid he; clear he
      by_cases hlt : k < L.length
      · have hlt2 : k < M.length := by have := HL.out; omega
        obtain ⟨b1, o1, rfl, _, g1⟩ := H1.out (by omega)
        obtain ⟨b2, o2, rfl, _, g2⟩ := H2.out (by omega)
        obtain ⟨c0, c1, c2, c3⟩ := g1 k hlt
        obtain ⟨d0, d1, d2, d3⟩ := g2 k hlt2
        clear g1 g2
        have hbk : decide ((k : Int) < (L.length : Int)) = true := by simpa using (show (k : Int) < L.length by omega)
        have hbk2 : decide ((k : Int) < (M.length : Int)) = true := by simpa using (show (k : Int) < M.length by omega)
        have HT := Lib.hid (take_same hlt hlt2 HE.out)
        have HG := Lib.hid (show L[k] ≠ M[k] → L ≠ M from fun h e => h (by subst e; rfl))
        obtain ⟨x, hx⟩ : ∃ x, x = L[k] := ⟨_, rfl⟩
        obtain ⟨y, hy⟩ : ∃ y, y = M[k] := ⟨_, rfl⟩
        rw [← hx] at c0 c1 c2 c3 HT HG
        rw [← hy] at d0 d1 d2 d3 HT HG
        clear hx hy
        by_cases hxy : x = y
        · have q := eqI_yes hxy
          have HT2 := Lib.hid (HT.out hxy)
          clear hxy
          go_wp2_with fail
          go_quiet (fail)
          go_wp2
          go_roundw
          case rel => exact ⟨k + 1, m + nq, by omega, by go_num, HT2.out, by simp [World.drewN]⟩
          case measure => simp [intOf]; omega
        · have q := eqI_no hxy
          have HN := Lib.hid (sameT_no (HG.out hxy))
          clear hxy
          go_wp2_with fail
          go_quiet (fail)
          go_wp2
          go_ret
          exact ⟨by rw [HN.out]; rfl, below_drewN (below_drewN (Below.refl _ _) _) _⟩
      · have hk' : k = L.length := by omega
        have HS : Hid (sameT L M = true) := sameT_yes (by have := HE.out; rwa [hk', List.take_length, HL.out, List.take_length] at this)
        clear hk'
        go_wp2
        go_ret
        exact ⟨by rw [HS.out]; rfl, below_drewN (Below.refl _ _) _⟩
  · have hll : ((L.length : Int) == (M.length : Int)) = false := beq_eq_false_iff_ne.2 (by omega)
    have HN := Lib.hid (sameT_no (show L ≠ M from fun e => hl (by rw [e])))
    clear hl
    go_enter Tryd.func29, Tryd.ntmps29
    go_wp2
    go_ret
    exact ⟨by rw [HN.out]; rfl, Below.refl _ _⟩
theorem pSame_any (v1 v2 : Value) (L M : List It) (w : World) (h1 : IsItems w v1 L) (h2 : IsItems w v2 M) :
    Calls Tryd.prog 11 #[v1, v2] w fun e w' => e = .returned (.bool (sameT L M)) ∧ Below w.heap.size w w' := by
  have C := Lib.hid (pEqual_any v1 v2 L M w h1 h2)
  go_enter Tryd.func11, Tryd.ntmps11
  go_wp2_with fail
  refine C.out.mono ?_
  rintro e w1 ⟨rfl, hb⟩
  go_wp2
  go_ret
  exact ⟨rfl, hb⟩

set_option maxRecDepth 100000 in
set_option maxHeartbeats 2000000 in
theorem pSize_any (v : Value) (L : List It) (w : World) (h : IsItems w v L) (hs : sizeT L ≤ 1000000000) :
    Calls Tryd.prog 35 #[v] w fun e w' => e = .returned (.int .i64 (sizeT L)) ∧ Below w.heap.size w w' := by
  have HI := Lib.hid h
  obtain ⟨hm, a, cap, rfl, _, hc⟩ := h
  have hmm : L.length ≤ 9223372036854775807 := by unfold maxLen at hm; omega
  clear hc hm
  go_enter Tryd.func35, Tryd.ntmps35
  go_wp2
  go_loopw [3, 8] (fun n i wr => ∃ k : Nat, k ≤ L.length ∧ i = .int .i64 k ∧ n = .int .i64 (sizeT (L.take k)) ∧ Below w.heap.size w wr) (fun _ i _ => L.length - (intOf i).toNat)
  case atStart => exact ⟨0, Nat.zero_le _, rfl, rfl, Below.refl _ _⟩
  case round =>
    obtain ⟨k, hk, rfl, rfl, hB⟩ := hrel
    have hsz := hB.size
    by_cases hlt : k < L.length
    · obtain ⟨_, _, _, e, _, hc⟩ := HI.out.stays hB
      cases e
      obtain ⟨b, off, rfl, _, g⟩ := hc (by omega)
      obtain ⟨c0, c1, c2, c3⟩ := g k hlt
      clear g hc
      have hbk : decide ((k : Int) < (L.length : Int)) = true := by simpa using (show (k : Int) < L.length by omega)
      have hbd : sizeT (L.take k) + L[k].c.size ≤ 1000000000 := by have := sizeT_take L (k + 1); rw [fewer_len L k hlt] at this; omega
      have HS := Lib.hid (fewer_len L k hlt)
      go_wp2
      go_roundw
      case rel => exact ⟨k + 1, by omega, by go_num, by rw [HS.out]; go_num, hB.alloc hsz _⟩
      case measure => simp [intOf]; omega
    · go_wp2
      go_ret
      exact ⟨ret_i (by rw [List.take_of_length_le (by omega)]), hB⟩
theorem pTreeSize_any (v : Value) (L : List It) (w : World) (h : IsItems w v L) (hs : sizeT L ≤ 1000000000) :
    Calls Tryd.prog 18 #[v] w fun e w' => e = .returned (.int .i64 (sizeT L)) ∧ Below w.heap.size w w' := by
  have C := Lib.hid (pSize_any v L w h hs)
  go_enter Tryd.func18, Tryd.ntmps18
  go_wp2_with fail
  refine C.out.mono ?_
  rintro e w1 ⟨rfl, hb⟩
  go_wp2
  go_ret
  exact ⟨rfl, hb⟩

theorem cells_of_items {w : World} {b off : Nat} {L : List It} (h : ∀ i (h : i < L.length), ItAt w b (off + i * 4) L[i]) : ∀ j u, (itCells L)[j]? = some u → w.cell? ⟨b, off + j, none⟩ = some u := by
  intro j u hu
  have hj : j < L.length * 4 := by
    have := (List.getElem?_eq_some_iff.1 hu).1
    rwa [itCells_len] at this
  obtain ⟨i, r, rfl, hr⟩ : ∃ i r, j = i * 4 + r ∧ r < 4 := ⟨j / 4, j % 4, by omega, by omega⟩
  have hi : i < L.length := by omega
  rw [itCells_get hi hr] at hu
  obtain ⟨c0, c1, c2, c3⟩ := h i hi
  match r, hr, hu with
  | 0, _, hu => simp at hu; subst hu; exact c0
  | 1, _, hu => simp at hu; subst hu; rw [← Nat.add_assoc]; exact c1
  | 2, _, hu => simp at hu; subst hu; rw [← Nat.add_assoc]; exact c2
  | 3, _, hu => simp at hu; subst hu; rw [← Nat.add_assoc]; exact c3
set_option maxRecDepth 100000 in
set_option maxHeartbeats 2000000 in
theorem pClone_any (v : Value) (L : List It) (w : World) (h : IsItems w v L) (h3 : L.length ≤ 1000000) :
    Calls Tryd.prog 49 #[v] w fun e w' => ∃ v', e = .returned v' ∧ OwnI w.heap.size w' v' L ∧ Below w.heap.size w w' := by
  obtain ⟨hm, a, cap, rfl, ⟨hn, _⟩, hc⟩ := h
  have q22 : ∀ (w : World) (a : Option Addr) (n c n' c' : Nat), (binOp .eql 22 (.slice a n c) (.slice none n' c')).run Tryd.prog w = .ok (.bool a.isNone) w := fun w a n c n' c' => Lib.run_eql_slice_nil w _ _ a n c n' c' Tryd.underlying22
  cases a with
  | none =>
    obtain ⟨rfl, rfl⟩ := hn rfl
    go_enter Tryd.func49, Tryd.ntmps49
    go_wp2
    go_ret
    exact ⟨_, rfl, ownI_nil _ _, Below.refl _ _⟩
  | some ad =>
    have A : Hid (∀ j u, (itCells L)[j]? = some u → w.cell? (ad.add j) = some u) := show ∀ j u, _ from fun j u hu => by
      have h0 : 0 < L.length := by
        rcases Nat.eq_zero_or_pos L.length with e | e
        · have := (List.getElem?_eq_some_iff.1 hu).1
          rw [itCells_len, e] at this; omega
        · exact e
      obtain ⟨b, off, e, _, g⟩ := hc h0
      cases e
      rw [add_plain']; exact cells_of_items g j u hu
    obtain ⟨i0, hi, hz0, hz1, hz2⟩ := info_parts infoItem
    clear hc hn
    have HL := Lib.hid (itCells_len L)
    go_enter Tryd.func49, Tryd.ntmps49
    go_wp2_with (at_builtin; refine wpList_append_own _ rfl _ _ 22 rfl w.heap.size 27 i0 (itV zeroIt) 4 40 Tryd.underlying22 hi hz0 hz1 hz2 rfl (by decide) _ _ _ rfl (World.ownsRow_made w #[] 0 (Nat.le_refl _) (Nat.zero_le _) (by simp)) ad L.length cap (itCells L) rfl ?qc1 ?qc2 ?qc3 ?qc4 ?qc5 ?qc6 ?_)
    case qc1 => exact HL.out
    case qc2 => intro j u hj; exact Lib.cell?_alloc_some _ (A.out j u hj)
    case qc3 => exact fun u hu => itCells_one hu
    case qc4 => rw [Nat.zero_add]; exact hm
    case qc5 => rw [Nat.zero_add]; omega
    case qc6 => simp
    intro v' w1 hown hgrow _
    have HO : Hid (OwnI w.heap.size w1 v' L) := show World.ownsRow _ _ _ _ _ _ _ by simpa using hown
    clear hown
    go_wp2
    go_ret
    exact ⟨_, rfl, HO.out, ((Below.refl _ w).alloc (Nat.le_refl _) _).grown hgrow (by simp) (by intro k hk; simp [Value.ownBlock] at hk; omega)⟩

theorem pPlace1_any (x : It) (s : ByteArray) (w : World) (hx : x.p.size ≤ 400) (hs : s.size ≤ 400) :
    Calls Tryd.prog 54 #[itV x, .string s] w fun e w' => e = .returned (.int .i64 (orderS x.t s.data.toList)) ∧ Below w.heap.size w w' := by
  have C := Lib.hid (Order_any x.p s (by omega) (by omega))
  rw [show x.p.data.toList = x.t from rfl] at C
  go_enter Tryd.func54, Tryd.ntmps54
  go_wp2_with fail
  have hb0 := (Below.refl w.heap.size w).alloc (Nat.le_refl _) (.cells #[.string x.p, .bool x.d, .bool x.e, .string x.c] 27)
  refine (C.out _).mono ?_
  rintro e w1 ⟨rfl, hb⟩
  have hB := below_step hb0 hb
  clear hb0 hb
  go_wp2
  go_ret
  exact ⟨rfl, hB⟩
end Go.Proofs.YtelaamchafocpaaDoor
/-
  Regions that draw their order, of no program: what one operation does, and all others; a call met by its contract.
-/
set_option linter.unusedVariables false
namespace Go.Proofs.YtelaamchafocpaaDoor
open Go.RowKit

/-- What one operation does (number j), and all others. -/
def appT (j : Nat) (R : World → World → Prop) (i : Nat) (w w' : World) : Prop := if i = j then R w w' else Below w.heap.size w w'
theorem appT_at {j : Nat} {R : World → World → Prop} {w w' : World} (h : R w w') : appT j R j w w' := by unfold appT; rw [if_pos rfl]; exact h
theorem appT_in {j : Nat} {R : World → World → Prop} {w w' : World} (h : appT j R j w w') : R w w' := by unfold appT at h; rw [if_pos rfl] at h; exact h
theorem appT_other {j i : Nat} {R : World → World → Prop} {w w' : World} (hi : i ≠ j) (h : Below w.heap.size w w') : appT j R i w w' := by unfold appT; rw [if_neg hi]; exact h
theorem appT_out {j i : Nat} {R : World → World → Prop} {w w' : World} (hi : i ≠ j) (h : appT j R i w w') : Below w.heap.size w w' := by unfold appT at h; rw [if_neg hi] at h; exact h
def allT (_ : Nat) (w w' : World) : Prop := Below w.heap.size w w'
theorem calls_val {P : Program} {f : FuncId} {xs : Array Value} {w : World} {v : Value} {R : World → Prop} (h : Calls P f xs w fun e w' => e = .returned v ∧ R w') : Calls P f xs w fun e w' => ∃ u, e = .returned u ∧ (u = v ∧ R w') :=
  h.mono fun _ _ ⟨a, b⟩ => ⟨_, a, rfl, b⟩
theorem yields_slice {P : Program} {ρ : Operand → Value} {o : Oper} {t : TypeId} {x : Operand} {lo hi : Option Operand} {vx v : Value} {l h : Option Value} {W : World} (hu : P.underlying t = some .string) (ho : o.op = .slice t x lo hi none) (hx : ρ x = vx) (hl : lo.map ρ = l) (hh : hi.map ρ = h) (hr : (Instr.slice t vx l h none).run P W = .ok v W) : (execOp ρ o).run P W = .ok (.value v) W := by
  subst hx hl hh
  unfold execOp
  rw [ho]
  simp [run_sliceAt_string W t (ρ x) (lo.map ρ) (hi.map ρ) none hu, hr]
theorem wp_callx {P : Program} {o : Oper} {a : Act} {w : World} {K : Act → World → Prop} {Q : Exit → Act → World → Prop} (f : FuncId) (args : Array Operand) (tys : Array TypeId) (ho : o.op = .call { callee := .value (.func f), args := args, argTypes := tys })
    (hen : ∀ xs w, (callFunc f xs).run P w = .ok (.enter f xs) w) (xs : Array Value) (hxs : args.map a.eval = xs) {R : Value → World → Prop} (h : Calls P f xs w fun e w' => ∃ v, e = .returned v ∧ R v w') (hk : ∀ v w', R v w' → K (a.put o.dst v) w') : o.wp P a w K Q := by
  unfold Oper.wp execOp
  simp only [ho]
  simp [hxs, go_sem, hen]
  refine h.mono ?_
  rintro e w' ⟨v, rfl, hr⟩
  exact hk v w' hr
/-- What some operations do (R says of each), and all others. -/
def appTs (l : List Nat) (R : Nat → World → World → Prop) (i : Nat) (w w' : World) : Prop := if i ∈ l then R i w w' else Below w.heap.size w w'
theorem appTs_at {l : List Nat} {R : Nat → World → World → Prop} {i : Nat} {w w' : World} (hi : i ∈ l) (h : R i w w') : appTs l R i w w' := by unfold appTs; rw [if_pos hi]; exact h
theorem appTs_in {l : List Nat} {R : Nat → World → World → Prop} {i : Nat} {w w' : World} (hi : i ∈ l) (h : appTs l R i w w') : R i w w' := by unfold appTs at h; rw [if_pos hi] at h; exact h
theorem appTs_other {l : List Nat} {R : Nat → World → World → Prop} {i : Nat} {w w' : World} (hi : i ∉ l) (h : Below w.heap.size w w') : appTs l R i w w' := by unfold appTs; rw [if_neg hi]; exact h
theorem appTs_out {l : List Nat} {R : Nat → World → World → Prop} {i : Nat} {w w' : World} (hi : i ∉ l) (h : appTs l R i w w') : Below w.heap.size w w' := by unfold appTs at h; rw [if_neg hi] at h; exact h
end Go.Proofs.YtelaamchafocpaaDoor
/-
  Mathematics of what is wrong with an item that is to be put in; directories of paths.
-/
set_option linter.unusedVariables false
namespace Go.Proofs.YtelaamchafocpaaDoor

theorem sizeT_few : ∀ {L : List It}, (∀ x ∈ L, x.c.size ≤ 40000) → sizeT L ≤ L.length * 40000
  | [], _ => Nat.le_refl _
  | x :: L, h => by
    rw [sizeT_cons, List.length_cons]
    have h1 := h x (by simp)
    have h2 := sizeT_few (L := L) (fun y hy => h y (by simp [hy]))
    omega
theorem c_empty (c : ByteArray) : c.toList.isEmpty = decide (c.size = 0) := by
  rw [Lib.toList_data, Lib.size_eq]; cases c.data.toList <;> simp
theorem dir_parts {t : List UInt8} (h : dirS t ≠ []) : ∃ n, t = dirS t ++ 47 :: n ∧ pathB t = true ∧ pathB (dirS t) = true ∧ nameB n = true := by
  have hs : splitS t ≠ [] := fun e => h (dirS_none e)
  obtain ⟨e, h8, hall⟩ := splitS_ne hs
  have hne := pts_ne t
  have hd : dirS t = joinN (pts t).dropLast := by unfold dirS; rw [e]
  have hD8 : (pts t).dropLast.length ≤ 8 := by rw [List.length_dropLast]; omega
  have hDa : (pts t).dropLast.all nameB = true := List.all_eq_true.2 fun p hp => List.all_eq_true.1 hall p (List.dropLast_subset _ hp)
  have hDn : (pts t).dropLast ≠ [] := fun e' => h (by rw [hd, e']; rfl)
  have hj : dirS t = joinS (pts t).dropLast := by rw [hd, joinN_small hD8 hDa]
  have hfree : ∀ p ∈ (pts t).dropLast, (47 : UInt8) ∉ p := fun p hp => pts_free t p (List.dropLast_subset _ hp)
  have hl := List.dropLast_concat_getLast hne
  refine ⟨(pts t).getLast hne, ?_, decide_eq_true (by rw [e]; exact List.length_pos_iff.2 hne), decide_eq_true ((path_iff _).2 (by rw [hj, pts_joinS hDn hfree]; exact ⟨hD8, hDa⟩)), List.all_eq_true.1 hall _ (List.getLast_mem hne)⟩
  rw [hj, ← joinS_snoc hDn, hl, joinS_pts]
theorem dirS_le (t : List UInt8) : (dirS t).length ≤ t.length := by
  by_cases h : dirS t = []
  · rw [h]; exact Nat.zero_le _
  · obtain ⟨n, e, _⟩ := dir_parts h
    conv => rhs; rw [e]
    simp

/-! ## what is wrong -/
section
variable {L : List It} {x : It}
theorem wrong_7 (h1 : pathB x.t = false) : wrongT L x = 7 := by unfold wrongT; rw [if_pos h1]
theorem wrong_2 (h1 : pathB x.t = true) (h2 : badI x = true) : wrongT L x = 2 := by unfold wrongT; rw [if_neg (by rw [h1]; decide), if_pos h2]
theorem wrong_5 (h1 : pathB x.t = true) (h2 : badI x = false) (h3 : dirS x.t ≠ []) (h4 : (findT L (dirS x.t)).isSome = false) : wrongT L x = 5 := by
  unfold wrongT; rw [if_neg (by rw [h1]; decide), if_neg (by rw [h2]; decide), if_pos ⟨h3, h4⟩]
/-- Its directory is there. -/
def UpOk (L : List It) (x : It) : Prop := dirS x.t = [] ∨ ((findT L (dirS x.t)).isSome = true ∧ (foundI L (dirS x.t)).d = true)
theorem wrong_10a (h1 : pathB x.t = true) (h2 : badI x = false) (h3 : dirS x.t ≠ []) (h4 : (findT L (dirS x.t)).isSome = true) (h5 : (foundI L (dirS x.t)).d = false) : wrongT L x = 10 := by
  unfold wrongT; rw [if_neg (by rw [h1]; decide), if_neg (by rw [h2]; decide), if_neg (by rw [h4]; exact fun h => absurd h.2 (by decide)), if_pos (.inl ⟨h3, h5⟩)]
theorem up_no3 (h : UpOk L x) : ¬ (dirS x.t ≠ [] ∧ (findT L (dirS x.t)).isSome = false) := fun hh => by
  rcases h with h | h
  · exact hh.1 h
  · rw [h.1] at hh; exact absurd hh.2 (by decide)
theorem up_no4 (h : UpOk L x) : ¬ (dirS x.t ≠ [] ∧ (foundI L (dirS x.t)).d = false) := fun hh => by
  rcases h with h | h
  · exact hh.1 h
  · rw [h.2] at hh; exact absurd hh.2 (by decide)
theorem wrong_10b (h1 : pathB x.t = true) (h2 : badI x = false) (h3 : UpOk L x) {o : It} (h4 : findT L x.t = some o) (h5 : o.d ≠ x.d) : wrongT L x = 10 := by
  unfold wrongT; rw [if_neg (by rw [h1]; decide), if_neg (by rw [h2]; decide), if_neg (up_no3 h3), if_pos (.inr ⟨by rw [h4]; rfl, by rw [foundI_some h4]; exact h5⟩)]
/-- What is there is of its kind. -/
def KindOk (L : List It) (x : It) : Prop := ∀ o, findT L x.t = some o → o.d = x.d
theorem kind_no (h : KindOk L x) (h3 : UpOk L x) : ¬ ((dirS x.t ≠ [] ∧ (foundI L (dirS x.t)).d = false) ∨ ((findT L x.t).isSome = true ∧ (foundI L x.t).d ≠ x.d)) := fun hh => by
  rcases hh with hh | ⟨hs, hd⟩
  · exact up_no4 h3 hh
  · obtain ⟨o, ho⟩ := Option.isSome_iff_exists.1 hs
    rw [foundI_some ho] at hd
    exact hd (h o ho)
theorem wrong_4 (h1 : pathB x.t = true) (h2 : badI x = false) (h3 : UpOk L x) (h4 : KindOk L x) (h5 : 32768 < x.c.size ∨ 65536 + (foundI L x.t).c.size < sizeT L + x.c.size) : wrongT L x = 4 := by
  unfold wrongT; rw [if_neg (by rw [h1]; decide), if_neg (by rw [h2]; decide), if_neg (up_no3 h3), if_neg (kind_no h4 h3), if_pos h5]
theorem wrong_9 (h1 : pathB x.t = true) (h2 : badI x = false) (h3 : UpOk L x) (h4 : KindOk L x) (h5 : ¬ (32768 < x.c.size ∨ 65536 + (foundI L x.t).c.size < sizeT L + x.c.size)) (h6 : findT L x.t = none) (h7 : 60 ≤ L.length) : wrongT L x = 9 := by
  unfold wrongT; rw [if_neg (by rw [h1]; decide), if_neg (by rw [h2]; decide), if_neg (up_no3 h3), if_neg (kind_no h4 h3), if_neg h5, if_pos ⟨by rw [h6]; rfl, h7⟩]
theorem wrong_0 (h1 : pathB x.t = true) (h2 : badI x = false) (h3 : UpOk L x) (h4 : KindOk L x) (h5 : ¬ (32768 < x.c.size ∨ 65536 + (foundI L x.t).c.size < sizeT L + x.c.size)) (h6 : ¬ ((findT L x.t).isSome = false ∧ 60 ≤ L.length)) : wrongT L x = 0 := by
  unfold wrongT; rw [if_neg (by rw [h1]; decide), if_neg (by rw [h2]; decide), if_neg (up_no3 h3), if_neg (kind_no h4 h3), if_neg h5, if_neg h6]
end
theorem put_no {L : List It} {x : It} (h : wrongT L x ≠ 0) : putT L x = L := by unfold putT; rw [if_neg h]
theorem put_yes {L : List It} {x : It} (h : wrongT L x = 0) : putT L x = withT L x := by unfold putT; rw [if_pos h]

end Go.Proofs.YtelaamchafocpaaDoor
/-
  Mathematics of trees that can be: what is put in, what is dropped.
-/
set_option linter.unusedVariables false
namespace Go.Proofs.YtelaamchafocpaaDoor

structure Right (L : List It) (x : It) : Prop where
  path : pathB x.t = true
  form : badI x = false
  up : UpOk L x
  kind : KindOk L x
  size : ¬ (32768 < x.c.size ∨ 65536 + (foundI L x.t).c.size < sizeT L + x.c.size)
  many : ¬ ((findT L x.t).isSome = false ∧ 60 ≤ L.length)
theorem right_of {L : List It} {x : It} (h : wrongT L x = 0) : Right L x := by
  unfold wrongT at h
  by_cases h1 : pathB x.t = false
  · rw [if_pos h1] at h; cases h
  rw [if_neg h1] at h
  by_cases h2 : badI x = true
  · rw [if_pos h2] at h; cases h
  rw [if_neg h2] at h
  by_cases h3 : dirS x.t ≠ [] ∧ (findT L (dirS x.t)).isSome = false
  · rw [if_pos h3] at h; cases h
  rw [if_neg h3] at h
  by_cases h4 : (dirS x.t ≠ [] ∧ (foundI L (dirS x.t)).d = false) ∨ ((findT L x.t).isSome = true ∧ (foundI L x.t).d ≠ x.d)
  · rw [if_pos h4] at h; cases h
  rw [if_neg h4] at h
  by_cases h5 : 32768 < x.c.size ∨ 65536 + (foundI L x.t).c.size < sizeT L + x.c.size
  · rw [if_pos h5] at h; cases h
  rw [if_neg h5] at h
  by_cases h6 : (findT L x.t).isSome = false ∧ 60 ≤ L.length
  · rw [if_pos h6] at h; cases h
  refine ⟨by simpa using h1, by simpa using h2, ?_, ?_, h5, h6⟩
  · by_cases hd : dirS x.t = []
    · exact .inl hd
    · refine .inr ⟨?_, ?_⟩
      · cases hs : (findT L (dirS x.t)).isSome with
        | true => rfl
        | false => exact absurd ⟨hd, hs⟩ h3
      · cases hs : (foundI L (dirS x.t)).d with
        | true => rfl
        | false => exact absurd (.inl ⟨hd, hs⟩) h4
  · intro o ho
    cases hs : decide (o.d = x.d) with
    | true => exact of_decide_eq_true hs
    | false => exact absurd (.inr ⟨by rw [ho]; rfl, by rw [foundI_some ho]; exact of_decide_eq_false hs⟩) h4
theorem under_iff {L : List It} (hr : Rise L) {t : List UInt8} : underT L t = true ↔ dirS t = [] ∨ ∃ u ∈ L, u.t = dirS t ∧ u.d = true := by
  unfold underT
  rw [Bool.or_eq_true, decide_eq_true_eq]
  refine or_congr_right ⟨fun h => ?_, fun ⟨u, hu, ht, hd⟩ => ?_⟩
  · cases hf : findT L (dirS t) with
    | none => rw [foundI_none hf] at h; cases h
    | some u => rw [foundI_some hf] at h; exact ⟨u, (findT_mem hf).1, (findT_mem hf).2, h⟩
  · rw [foundI_some ((findT_some hr).2 ⟨hu, ht⟩)]; exact hd
theorem upOk_iff {L : List It} (hr : Rise L) {x : It} : UpOk L x ↔ dirS x.t = [] ∨ ∃ u ∈ L, u.t = dirS x.t ∧ u.d = true := by
  unfold UpOk
  refine or_congr_right ⟨fun ⟨h1, h2⟩ => ?_, fun ⟨u, hu, ht, hd⟩ => ?_⟩
  · obtain ⟨u, hf⟩ := Option.isSome_iff_exists.1 h1
    rw [foundI_some hf] at h2
    exact ⟨u, (findT_mem hf).1, (findT_mem hf).2, h2⟩
  · have hf := (findT_some hr).2 ⟨hu, ht⟩
    rw [hf, foundI_some hf]; exact ⟨rfl, hd⟩
theorem dir_before {t : List UInt8} (h : dirS t ≠ []) : orderS (dirS t) t = -1 := by
  obtain ⟨n, e, _⟩ := dir_parts h
  conv => lhs; rw [e]
  have : dirS (dirS t ++ 47 :: n) = dirS t := by rw [← e]
  rw [this]; exact order_below _ _
theorem tfit_nil : TFit [] := ⟨by simp, rise_nil, by simp, by simp, by simp, by simp, by simp [sizeT]⟩
theorem fit_put {L : List It} (h : TFit L) {x : It} (hw : wrongT L x = 0) : TFit (withT L x) := by
  have R := right_of hw
  have hr := rise_withT h.rise x
  have hx : x ∈ withT L x := mem_withT.2 (.inl rfl)
  refine ⟨?_, hr, ?_, ?_, ?_, ?_, ?_⟩
  · rw [len_withT h.rise]
    cases hs : (findT L x.t).isSome with
    | true => simpa using h.len
    | false =>
      have := R.many
      rw [hs] at this
      have h60 : ¬ 60 ≤ L.length := fun e => this ⟨rfl, e⟩
      simp; omega
  · intro y hy
    rcases mem_withT.1 hy with e | ⟨e, _⟩
    · rw [e]; exact R.path
    · exact h.path y e
  · intro y hy
    rcases mem_withT.1 hy with e | ⟨e, _⟩
    · rw [e]; exact R.form
    · exact h.form y e
  · intro y hy
    rcases mem_withT.1 hy with e | ⟨e, _⟩
    · have := R.size; rw [e]; omega
    · exact h.data y e
  · intro y hy
    rw [under_iff hr]
    rcases mem_withT.1 hy with e | ⟨e, _⟩
    · subst e
      rcases (upOk_iff h.rise).1 R.up with hd | ⟨u, hu, ht, hd⟩
      · exact .inl hd
      · by_cases hdn : dirS y.t = []
        · exact .inl hdn
        · exact .inr ⟨u, mem_withT.2 (.inr ⟨hu, by rw [ht]; exact order_ne (dir_before hdn)⟩), ht, hd⟩
    · rcases (under_iff h.rise).1 (h.under y e) with hd | ⟨u, hu, ht, hd⟩
      · exact .inl hd
      · by_cases hux : u.t = x.t
        · have := R.kind u ((findT_some h.rise).2 ⟨hu, hux⟩)
          exact .inr ⟨x, hx, by rw [← hux]; exact ht, by rw [← this]; exact hd⟩
        · exact .inr ⟨u, mem_withT.2 (.inr ⟨hu, hux⟩), ht, hd⟩
  · have := size_withT h.rise x
    have := R.size
    omega
theorem below_iff {a b : List UInt8} : belowB a b = true ↔ ∃ r, a = b ++ 47 :: r := by
  unfold belowB
  rw [Bool.and_eq_true, decide_eq_true_eq, decide_eq_true_eq]
  exact (inside_iff b a).symm
theorem mem_drop {L : List It} {t : List UInt8} {y : It} : y ∈ dropT L t ↔ y ∈ L ∧ y.t ≠ t ∧ belowB y.t t = false := by
  unfold dropT
  rw [List.mem_filter]
  refine and_congr_right fun _ => ?_
  rw [Bool.not_eq_true', Bool.or_eq_false_iff, decide_eq_false_iff_not]
theorem sizeT_filter (p : It → Bool) : ∀ L : List It, sizeT (L.filter p) ≤ sizeT L
  | [] => Nat.le_refl _
  | a :: L => by
    have := sizeT_filter p L
    rw [List.filter_cons]
    split
    · rw [sizeT_cons, sizeT_cons]; omega
    · rw [sizeT_cons]; omega
theorem fit_drop {L : List It} (h : TFit L) (t : List UInt8) : TFit (dropT L t) := by
  have hr : Rise (dropT L t) := rise_filter h.rise _
  refine ⟨Nat.le_trans (List.length_filter_le _ _) h.len, hr, fun x hx => h.path x (mem_drop.1 hx).1, fun x hx => h.form x (mem_drop.1 hx).1, fun x hx => h.data x (mem_drop.1 hx).1, fun y hy => ?_, Nat.le_trans (sizeT_filter _ _) h.size⟩
  obtain ⟨hy1, hy2, hy3⟩ := mem_drop.1 hy
  rw [under_iff hr]
  by_cases hdn : dirS y.t = []
  · exact .inl hdn
  rcases (under_iff h.rise).1 (h.under y hy1) with hd | ⟨u, hu, ht, hd⟩
  · exact .inl hd
  · obtain ⟨n, e, _⟩ := dir_parts hdn
    refine .inr ⟨u, mem_drop.2 ⟨hu, fun he => ?_, ?_⟩, ht, hd⟩
    · have : belowB y.t t = true := below_iff.2 ⟨n, by rw [← he, ht]; exact e⟩
      rw [hy3] at this; cases this
    · cases hb : belowB u.t t with
      | false => rfl
      | true =>
        obtain ⟨r, hr'⟩ := below_iff.1 hb
        have : belowB y.t t = true := below_iff.2 ⟨r ++ 47 :: n, by rw [e, ← ht, hr', List.append_assoc]; rfl⟩
        rw [hy3] at this; cases this
theorem fit_gone {L : List It} (h : TFit L) (t : List UInt8) : TFit (goneT L t) := by
  unfold goneT; split
  · exact fit_drop h t
  · exact h
theorem fit_putT {L : List It} (h : TFit L) (x : It) : TFit (putT L x) := by
  unfold putT
  by_cases hw : wrongT L x = 0
  · rw [if_pos hw]; exact fit_put h hw
  · rw [if_neg hw]; exact h
/-- An item of a tree, put in behind those ahead of it. -/
theorem fit_next {L : List It} (h : TFit L) {k : Nat} (hk : k < L.length) : (∀ y ∈ L.take k, orderS y.t L[k].t = -1) ∧ wrongT (L.take k) L[k] = 0 := by
  have hless : ∀ y ∈ L.take k, orderS y.t L[k].t = -1 := fun y hy => by
    obtain ⟨i, hi, rfl⟩ := List.getElem_of_mem hy
    rw [List.length_take] at hi
    rw [List.getElem_take]
    exact List.pairwise_iff_getElem.1 h.rise i k (by omega) hk (by omega)
  have hrM : Rise (L.take k) := List.Pairwise.sublist (List.take_sublist _ _) h.rise
  have hnone : findT (L.take k) L[k].t = none := findT_none.2 fun y hy e => order_ne (hless y hy) e
  have hm := List.getElem_mem hk
  refine ⟨hless, wrong_0 (h.path _ hm) (h.form _ hm) ?_ (fun o ho => by rw [hnone] at ho; cases ho) ?_ ?_⟩
  · refine (upOk_iff hrM).2 ?_
    by_cases hdn : dirS L[k].t = []
    · exact .inl hdn
    rcases (under_iff h.rise).1 (h.under _ hm) with hd | ⟨u, hu, ht, hd⟩
    · exact .inl hd
    · refine .inr ⟨u, ?_, ht, hd⟩
      obtain ⟨j, hj, rfl⟩ := List.getElem_of_mem hu
      have hlt : orderS L[j].t L[k].t = -1 := by rw [ht]; exact dir_before hdn
      have hjk : j < k := by
        rcases Nat.lt_trichotomy j k with e | e | e
        · exact e
        · subst e; rw [order_self] at hlt; cases hlt
        · have := List.pairwise_iff_getElem.1 h.rise k j hk hj e
          rw [order_turn] at this; omega
      rw [List.mem_take_iff_getElem]
      exact ⟨j, by omega, rfl⟩
  · have hs := sizeT_take L (k + 1)
    have he : sizeT (L.take (k + 1)) = sizeT (L.take k) + L[k].c.size := by rw [List.take_succ_eq_append_getElem hk, sizeT_app, sizeT_cons]; rfl
    have h1 := h.size; have h2 := h.data _ hm
    rw [foundI_none hnone]
    have h0 : zeroIt.c.size = 0 := rfl
    omega
  · intro hh
    have h1 := h.len; have h2 := hh.2
    rw [List.length_take] at h2; omega
end Go.Proofs.YtelaamchafocpaaDoor
/-
  Contracts over this translation: the document's Names; the law's same.
-/
set_option linter.unusedVariables false
namespace Go.Proofs.YtelaamchafocpaaDoor
open Go.RowKit
attribute [local go_sem] Oper.semAt_some

theorem names_step' {L : List It} {d : List UInt8} {k : Nat} (hk : k < L.length) : namesT (L.take (k + 1)) d = namesT (L.take k) d ++ if dirS L[k].t = d then [lastN L[k].t] else [] := by
  unfold namesT
  rw [List.take_succ_eq_append_getElem hk, List.filter_append, List.map_append, List.filter_cons, List.filter_nil]
  congr 1
  by_cases h : dirS L[k].t = d
  · rw [if_pos h, decide_eq_true h]; rfl
  · rw [if_neg h, decide_eq_false h]; rfl
theorem namesT_len (L : List It) (d : List UInt8) : (namesT L d).length ≤ L.length := by
  unfold namesT; rw [List.length_map]; exact List.length_filter_le _ _
theorem last_at {t : List UInt8} (hp : pathB t = true) : 0 < (strsOf (splitS t)).length ∧ ∀ h : (strsOf (splitS t)).length - 1 < (strsOf (splitS t)).length, (strsOf (splitS t))[(strsOf (splitS t)).length - 1].data.toList = lastN t := by
  have h0 : 0 < (splitS t).length := of_decide_eq_true hp
  refine ⟨by rw [strsOf_len]; exact h0, fun h => ?_⟩
  rw [strsOf_at (splitS t) _ h (by rw [strsOf_len]; omega)]
  unfold lastN
  simp only [strsOf_len]
  rw [List.getLastD_eq_getLast?, List.getLast?_eq_getElem?, List.getElem?_eq_getElem (by omega)]
  rfl
set_option maxRecDepth 100000 in
set_option maxHeartbeats 2000000 in
theorem rNames_any (v : Value) (L : List It) (s : ByteArray) (w : World) (h : IsItems w v L) (hf : fewB L = true) (hp : ∀ x ∈ L, pathB x.t = true) :
    Calls Tryd.prog 17 #[v, .string s] w (RetL (namesT L s.data.toList) w) := by
  have HI := Lib.hid h
  have HFEW := Lib.hid (few_mem hf)
  have h70 := few_len hf
  have HP := Lib.hid hp
  have CD := Lib.hid refDir_any
  have CS := Lib.hid refSplit_any
  obtain ⟨hm, a, cap, rfl, _, hc⟩ := h
  clear hc hf hp
  obtain ⟨t, ht⟩ : ∃ t, t = s.data.toList := ⟨_, rfl⟩
  rw [← ht]
  have HT := Lib.hid ht
  clear ht
  go_enter Tryd.func17, Tryd.ntmps17
  go_wp2
  go_loopw [5, 6] (fun o i wr => ∃ k : Nat, k ≤ L.length ∧ i = .int .i64 k ∧ OwnTxt w wr o (namesT (L.take k) t) ∧ Below w.heap.size w wr) (fun _ i _ => L.length - (intOf i).toNat)
  case atStart => exact ⟨0, Nat.zero_le _, rfl, ownTxt_nil _, Below.refl _ _⟩
  case round =>
    obtain ⟨k, hk, rfl, hown, hB⟩ := hrel
    have HO := Lib.hid hown; clear hown
    by_cases hlt : k < L.length
    · obtain ⟨_, _, _, e, _, hc⟩ := HI.out.stays hB
      cases e
      obtain ⟨b, off, rfl, hbl, g⟩ := hc (by omega)
      have HG := Lib.hid (g k hlt)
      obtain ⟨c0, c1, c2, c3⟩ := g k hlt
      clear g hc
      have hbk : decide ((k : Int) < (L.length : Int)) = true := by simpa using (show (k : Int) < L.length by omega)
      have HST := Lib.hid (names_step' (d := t) hlt)
      have hol : (namesT (L.take k) t).length ≤ 1000000 := Nat.le_trans (namesT_len _ _) (by rw [List.length_take]; omega)
      have hxs := (HFEW.out _ (List.getElem_mem hlt)).1
      have hxp := Lib.hid (HP.out _ (List.getElem_mem hlt))
      obtain ⟨x, hx⟩ : ∃ x, x = L[k] := ⟨_, rfl⟩
      rw [← hx] at c0 c1 c2 c3 HST hxs HG hxp
      clear hx
      have C := Lib.hid (CD.out x.p (by omega))
      rw [show x.p.data.toList = x.t from rfl] at C
      by_cases hd : dirS x.t = t
      · have f1 : ((dirS x.t) == s.toList) = true := by rw [beq_iff_eq, Lib.toList_data, ← HT.out]; exact hd
        have HE : Hid (namesT (L.take (k + 1)) t = namesT (L.take k) t ++ [lastN x.t]) := show _ = _ by rw [HST.out, if_pos hd]
        have S := Lib.hid (CS.out x.p (by omega))
        rw [show x.p.data.toList = x.t from rfl] at S
        have HL := Lib.hid (last_at hxp.out)
        clear hd HST
        go_wp2_with fail
        refine (C.out _).mono ?_
        rintro e w1 ⟨rfl, hb1⟩
        have hB1 := below_step hB hb1
        obtain ⟨e0, e1, e2, e3⟩ := HG.out.stays hbl hb1
        have HO1 := Lib.hid (HO.out.stays hb1)
        clear c0 c1 c2 c3 hb1 HO
        go_wp2_with fail
        refine (S.out _).mono ?_
        rintro e w2 ⟨v2, rfl, hv2, hb2⟩
        have hB2 := below_step hB1 hb2
        have HO2 := Lib.hid (HO1.out.stays hb2)
        clear e0 e1 e2 e3 hb2 HO1 hB1
        obtain ⟨M, hM⟩ : ∃ M, M = strsOf (splitS x.t) := ⟨_, rfl⟩
        rw [← hM] at HL hv2
        clear hM
        obtain ⟨hm2, a2, cap2, rfl, _, hc2⟩ := hv2
        have hmm2 : M.length ≤ 9223372036854775807 := by unfold maxLen at hm2; omega
        have hpos := HL.out.1
        obtain ⟨b2, o2, rfl, _, g2⟩ := hc2 hpos
        have q := g2 (M.length - 1) (by omega)
        have HZ := Lib.hid (HL.out.2 (by omega))
        obtain ⟨z, hz⟩ : ∃ z, z = M[M.length - 1] := ⟨_, rfl⟩
        rw [← hz] at q HZ
        clear hz g2 hc2
        rw [← HZ.out] at HE
        go_wp2_with (at_builtin; refine wpList_append_txt rfl _ _ rfl HO2.out hB2 rfl rfl hol ?_)
        intro v' w3 hown' hb3
        have HO3 := Lib.hid hown'; clear hown'
        go_wp2_with fail
        go_roundw
        case rel => exact ⟨k + 1, by omega, by go_num, by rw [HE.out]; exact HO3.out, hb3⟩
        case measure => simp [intOf]; omega
      · have f1 : ((dirS x.t) == s.toList) = false := by rw [beq_eq_false_iff_ne, Lib.toList_data, ← HT.out]; exact hd
        have HE : Hid (namesT (L.take (k + 1)) t = namesT (L.take k) t) := show _ = _ by rw [HST.out, if_neg hd, List.append_nil]
        clear hd HST
        go_wp2_with fail
        refine (C.out _).mono ?_
        rintro e w1 ⟨rfl, hb1⟩
        have hB1 := below_step hB hb1
        have HO1 := Lib.hid (HO.out.stays hb1)
        clear c0 c1 c2 c3 hb1 HO
        go_wp2_with fail
        go_roundw
        case rel => exact ⟨k + 1, by omega, by go_num, by rw [HE.out]; exact HO1.out, hB1⟩
        case measure => simp [intOf]; omega
    · have HST := Lib.hid (by have := HO.out.strs; rw [List.take_of_length_le (by omega)] at this; exact this)
      go_wp2
      go_ret
      exact ⟨_, rfl, HST.out, hB⟩
end Go.Proofs.YtelaamchafocpaaDoor
/-
  Contracts over this translation: the document's Order.
-/
set_option linter.unusedVariables false
namespace Go.Proofs.YtelaamchafocpaaDoor
open Go.RowKit
attribute [local go_sem] Oper.semAt_some

set_option maxRecDepth 100000 in
set_option maxHeartbeats 4000000 in
theorem refOrder_any (a b : ByteArray) (ha : a.size ≤ 100000) (hb : b.size ≤ 100000) (w : World) :
    Calls Tryd.prog 27 #[.string a, .string b] w fun e w' => e = .returned (.int .i64 (orderS a.data.toList b.data.toList)) ∧ Below w.heap.size w w' := by
  have C1 := Lib.hid (parts_any a ha)
  have C2 := Lib.hid (parts_any b hb)
  unfold orderS
  obtain ⟨X, hX⟩ : ∃ X, X = pts a.data.toList := ⟨_, rfl⟩
  obtain ⟨Y, hY⟩ : ∃ Y, Y = pts b.data.toList := ⟨_, rfl⟩
  rw [← hX] at C1 ⊢
  rw [← hY] at C2 ⊢
  clear hX hY ha hb
  go_enter Tryd.func27, Tryd.ntmps27
  go_wp2_with fail
  refine (C1.out _).mono ?_
  rintro e w1 ⟨v1, rfl, hv1, hb1⟩
  have HV1 := Lib.hid hv1; clear hv1
  go_wp2_with fail
  refine (C2.out _).mono ?_
  rintro e w2 ⟨v2, rfl, hv2, hb2⟩
  have hB := below_step hb1 hb2
  have hv1 := HV1.out.stays hb2
  clear HV1 hb1 hb2 C1 C2
  obtain ⟨hm, a1, c1, rfl, _, hc1⟩ := hv1
  obtain ⟨hm2, a2, c2, rfl, _, hc2⟩ := hv2
  have hmm : (strsOf X).length ≤ 9223372036854775807 := by unfold maxLen at hm; omega
  have hmm2 : (strsOf Y).length ≤ 9223372036854775807 := by unfold maxLen at hm2; omega
  have HK := Lib.hid (strsOf_len X); have HL := Lib.hid (strsOf_len Y)
  have HI1 := Lib.hid (strsOf_at X); have HI2 := Lib.hid (strsOf_at Y)
  clear hm hm2
  obtain ⟨K, hK⟩ : ∃ K, K = strsOf X := ⟨_, rfl⟩
  obtain ⟨L, hL⟩ : ∃ L, L = strsOf Y := ⟨_, rfl⟩
  rw [← hK] at HK HI1 hc1 hmm ⊢
  rw [← hL] at HL HI2 hc2 hmm2 ⊢
  have H1 := Lib.hid hc1; have H2 := Lib.hid hc2
  clear hc1 hc2 hK hL
  go_wp2
  go_loopw [7] (fun i wr => ∃ k m : Nat, k ≤ K.length ∧ k ≤ L.length ∧ i = .int .i64 k ∧ wr = w2.drewN m ∧ SameTo X Y k) (fun i _ => K.length - (intOf i).toNat)
  case atStart => exact ⟨0, 0, Nat.zero_le _, Nat.zero_le _, rfl, rfl, same_zero _ _⟩
  case round =>
    obtain ⟨k, m, hk, hk2, rfl, rfl, hn⟩ := hrel
    have HN := Lib.hid hn; clear hn
    by_cases hlt : k < K.length
    · by_cases hlt2 : k < L.length
      · obtain ⟨b1, o1, rfl, _, g1⟩ := H1.out (by omega)
        have q1 := g1 k hlt
        obtain ⟨b2, o2, rfl, _, g2⟩ := H2.out (by omega)
        have q2 := g2 k hlt2
        clear g1 g2
        have hbk : decide ((k : Int) < (K.length : Int)) = true := by simpa using (show (k : Int) < K.length by omega)
        have hbk2 : decide ((k : Int) < (L.length : Int)) = true := by simpa using (show (k : Int) < L.length by omega)
        have hx := HI1.out k hlt (by rw [← HK.out]; exact hlt)
        have hy := HI2.out k hlt2 (by rw [← HL.out]; exact hlt2)
        obtain ⟨x, hxx⟩ : ∃ x, x = K[k] := ⟨_, rfl⟩
        rw [← hxx] at q1 hx
        obtain ⟨y, hyy⟩ : ∃ y, y = L[k] := ⟨_, rfl⟩
        rw [← hyy] at q2 hy
        have HX := Lib.hid hx; have HY := Lib.hid hy; clear hx hxx hy hyy
        have hxl : k < X.length := by rw [← HK.out]; exact hlt
        have hyl : k < Y.length := by rw [← HL.out]; exact hlt2
        rcases ordX_cases x.data.toList y.data.toList with ⟨h, ho⟩ | ⟨h, ho⟩ | ⟨h, ho⟩
        · have HS : Hid (cmpP X Y = -1) := by
            have := same_stop HN.out hxl hyl (by rw [← HX.out, ← HY.out, ho]; decide)
            rw [← HX.out, ← HY.out, ho] at this; exact this
          have l1 : Op.bytesLess x.toList y.toList = true := by rw [less_eq]; exact decide_eq_true h
          clear h ho hxl hyl
          go_wp2_with fail
          go_quiet (fail)
          go_wp2
          go_ret
          exact ⟨by rw [HS.out]; rfl, below_drewN (below_drewN hB _) _⟩
        · have HS : Hid (cmpP X Y = 1) := by
            have := same_stop HN.out hxl hyl (by rw [← HX.out, ← HY.out, ho]; decide)
            rw [← HX.out, ← HY.out, ho] at this; exact this
          have l1 : Op.bytesLess x.toList y.toList = false := by rw [less_eq]; exact decide_eq_false (x_asymm h)
          have l2 : (x.toList == y.toList) = false := beq_false (fun e => x_irrefl _ (e ▸ h))
          clear h ho hxl hyl
          go_wp2_with fail
          go_quiet (fail)
          go_wp2_with fail
          go_quiet (fail)
          go_wp2
          go_ret
          exact ⟨by rw [HS.out]; rfl, below_drewN (below_drewN (below_drewN hB _) _) _⟩
        · have HS := Lib.hid (same_step HN.out hxl hyl (by rw [← HX.out, ← HY.out, ho]))
          have l1 : Op.bytesLess x.toList y.toList = false := by rw [less_eq, h]; exact decide_eq_false (x_irrefl _)
          have l2 : (x.toList == y.toList) = true := beq_true (str_eq' h)
          clear h ho hxl hyl
          go_wp2_with fail
          go_quiet (fail)
          go_wp2_with fail
          have E1 := Lib.hid (World.drewN_drewN w2 m nq)
          go_quiet (fail)
          go_wp2
          go_roundw
          case rel => exact ⟨k + 1, _, by omega, by omega, by go_num, (by simp only [World.drewN]; rfl), HS.out⟩
          case measure => simp [intOf]; omega
      · have hbk : decide ((k : Int) < (K.length : Int)) = true := by simpa using (show (k : Int) < K.length by omega)
        have hkl : k = L.length := by omega
        have HS : Hid (cmpP X Y = 1) := same_longer HN.out (by rw [← HK.out]; exact hlt) (by rw [← HL.out]; omega)
        have f1 : ¬ K.length < L.length := by omega
        have f2 : L.length < K.length := by omega
        have HKL := Lib.hid hkl; clear hkl
        go_wp2
        go_ret
        exact ⟨by rw [HS.out]; rfl, below_drewN hB _⟩
    · have hkl : k = K.length := by omega
      have f0 : ¬ k < K.length := hlt
      by_cases hlt2 : K.length < L.length
      · have HS : Hid (cmpP X Y = -1) := same_shorter HN.out (by rw [← HK.out]; omega) (by rw [← HL.out]; omega)
        clear hkl
        go_wp2
        go_ret
        exact ⟨by rw [HS.out]; rfl, below_drewN hB _⟩
      · have HS : Hid (cmpP X Y = 0) := same_end HN.out (by rw [← HK.out]; omega) (by rw [← HL.out]; omega)
        have f2 : ¬ L.length < K.length := by omega
        clear hkl
        go_wp2
        go_ret
        exact ⟨by rw [HS.out]; rfl, below_drewN hB _⟩
end Go.Proofs.YtelaamchafocpaaDoor

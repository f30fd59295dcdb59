/-
  Contracts over this translation: slices.Insert of one item: no room; all ways.
-/
import Derived.Test.YtelaamchafocpaaDoorYTin
set_option linter.unusedVariables false
namespace Go.Proofs.YtelaamchafocpaaDoor
open Go.RowKit
attribute [local go_sem] Oper.semAt_some

theorem zc_len (n : Nat) : (Builtin.zeroCells (itV zeroIt).cells n).size = n * 4 := by rw [size_zeroCells]; rfl
set_option maxRecDepth 100000 in
set_option maxHeartbeats 4000000 in
theorem pInsert_grow (B g cap : Nat) (cur : Array Value) (L : List It) (i : Nat) (A : Nat) (x : It) (w : World) (hbw : B ≤ w.heap.size) (hbg : B ≤ g) (hg : w.heap[g]? = some (.cells cur 27 (0, 0))) (hm : cap ≤ maxLen) (hcs : cur.size = cap * 4)
    (ht : cur.toList.take (L.length * 4) = itCells L) (hi : i < L.length) (hle : L.length ≤ cap) (hroom : cap < L.length + 1) (hL : L.length ≤ 1000)
    (hx : w.heap[A]? = some (.cells #[.string x.p, .bool x.d, .bool x.e, .string x.c] 27 (0, 0))) :
    Calls Tryd.prog 42 #[.slice (some ⟨g, 0, none⟩) L.length cap, .int .i64 i, .slice (some ⟨A, 0, none⟩) 1 1] w (InsI B (.slice (some ⟨g, 0, none⟩) L.length cap) (L.take i ++ x :: L.drop i) w) := by
  obtain ⟨i0, hi0, hz0, hz1, hz2⟩ := info_parts infoItem
  have hgl := (Array.getElem?_eq_some_iff.1 hg).1
  have hAl := (Array.getElem?_eq_some_iff.1 hx).1
  have hdl : (itCells (L.drop i)).length = (L.length - i) * 4 := by rw [itCells_len, List.length_drop]
  have htl : ((itCells L).take (i * 4)).length = i * 4 := by rw [List.length_take, itCells_len]; omega
  have hcell : ∀ j v, (itCells L)[j]? = some v → w.cell? ⟨g, j, none⟩ = some v := fun j v hj => by
    rw [cell_of_row w g j cur _ (0, 0) hg]
    rw [← ht, List.getElem?_take] at hj
    split at hj
    · simpa using hj
    · cases hj
  have hsrc : ∀ j v, (itCells (L.drop i))[j]? = some v → w.cell? ((⟨g, i * 4, none⟩ : Addr).add j) = some v := fun j v hj => by
    rw [add_plain']
    refine hcell _ _ ?_
    conv => lhs; rw [← List.take_append_drop i L, itCells_app]
    have hl : (itCells (L.take i)).length = i * 4 := by rw [itCells_len, List.length_take]; congr 1; omega
    rw [List.getElem?_append_right (by omega), hl, show i * 4 + j - i * 4 = j by omega]; exact hj
  have hold : (Builtin.firstCells i0.size i (.slice (some ⟨g, 0, none⟩) i cap)).run Tryd.prog w.drew = .ok ((itCells L).take (i * 4)).toArray w.drew := by
    rw [hz1]
    exact run_firstCells_some w.drew 4 i ⟨g, 0, none⟩ i cap ((itCells L).take (i * 4)) htl (fun j v hj => by
      rw [add_plain', Nat.zero_add]
      rw [List.getElem?_take] at hj
      split at hj
      · exact hcell j v hj
      · cases hj)
  obtain ⟨G, hG⟩ : ∃ G, G = grownCap w (L.length + 1) cap 27 := ⟨_, rfl⟩
  obtain ⟨Z, hZ⟩ : ∃ Z : List Value, Z = (Builtin.zeroCells (itV zeroIt).cells (L.length + 1 - i) ++ Builtin.zeroCells (itV zeroIt).cells (G - (L.length + 1))).toList := ⟨_, rfl⟩
  obtain ⟨C, hC⟩ : ∃ C : Array Value, C = ((itCells L).take (i * 4) ++ Z).toArray := ⟨_, rfl⟩
  have hGn : L.length + 1 ≤ G := by rw [hG]; exact grownCap_ge w _ _ _
  have hGm : G ≤ maxLen := by rw [hG]; exact grownCap_le_maxLen w _ _ _ (by unfold maxLen; omega)
  have hZl : Z.length = (L.length + 1 - i) * 4 + (G - (L.length + 1)) * 4 := by rw [hZ]; simp only [Array.toList_append, List.length_append, Array.length_toList, zc_len]
  have hCs : C.size = G * 4 := by rw [hC]; simp only [List.size_toArray, List.length_append, htl, hZl]; omega
  have hkk : (L.length : Int) + 1 - (i : Int) = ((L.length + 1 - i : Nat) : Int) := by omega
  have hik : i + (L.length + 1 - i) = L.length + 1 := by omega
  have hrz : ∀ ty, (Builtin.append_ #[45, 3] ty #[.slice (some ⟨g, 0, none⟩) i cap, .int .i64 ((L.length : Int) + 1 - (i : Int))]).run Tryd.prog w =
      .ok (.slice (some ⟨w.heap.size, 0, none⟩) (L.length + 1) G) (w.drew.alloc (.cells C 27)) := fun ty => by
    have h := Lib.run_append_grow_zeros w 45 3 ty 27 i0 (itV zeroIt) .i64 .i64 Tryd.underlying45 Tryd.underlying3 hi0 hz0 (some ⟨g, 0, none⟩) i cap ((itCells L).take (i * 4)) hold (L.length + 1 - i) (by omega) (by omega) (by omega) (by omega) (by rw [hz2]; omega) (by rw [hz2, hik]; exact growslice_fits hroom (by omega))
    rw [hik, ← hG] at h
    rw [hkk, h, hC, hZ]
    congr 3
    simp
  obtain ⟨D, hD⟩ : ∃ D : Array Value, D = (C.toList.take (i * 4) ++ itC x ++ C.toList.drop (i * 4 + (itC x).length)).toArray := ⟨_, rfl⟩
  obtain ⟨E, hE⟩ : ∃ E : Array Value, E = (D.toList.take ((i + 1) * 4) ++ itCells (L.drop i) ++ D.toList.drop ((i + 1) * 4 + (itCells (L.drop i)).length)).toArray := ⟨_, rfl⟩
  have hDs : D.size = G * 4 := by rw [hD]; simp only [List.size_toArray, List.length_append, List.length_take, List.length_drop, Array.length_toList, hCs, List.length_cons, List.length_nil]; omega
  have hEs : E.size = G * 4 := by rw [hE]; simp only [List.size_toArray, List.length_append, List.length_take, List.length_drop, Array.length_toList, hDs, hdl]; omega
  obtain ⟨N, hN⟩ : ∃ N, N = w.heap.size := ⟨_, rfl⟩
  rw [← hN] at hrz
  have hcp1 : ∀ W, W.heap[N]? = some (.cells C 27 (0, 0)) → W.heap[A]? = w.heap[A]? → ∀ ty dl dc, 0 < dl → (Builtin.copy_ #[45, 22] ty #[.slice (some ⟨N, i * 4, none⟩) dl dc, .slice (some ⟨A, 0, none⟩) 1 1]).run Tryd.prog W = .ok (goInt (Nat.min 1 dl)) (W.setRow N D) := fun W hW hWA ty dl dc hdl => by
    rw [hD]
    have hIB := inBox_row (hWA.trans hx)
    refine run_copy_rowK W _ _ ty 27 N (i * 4) _ dc ⟨A, 0, none⟩ _ 1 C 27 (itC x) 4 Tryd.underlying45 infoSize hW (by show 4 = min _ _ * 4; omega) (fun j u hj => ?_) (by simp only [List.length_cons, List.length_nil]; omega) (fun u hu => by simp at hu; rcases hu with rfl | rfl | rfl | rfl <;> rfl)
    obtain ⟨c0, c1, c2, c3⟩ := hIB.cells
    rw [add_plain', Nat.zero_add]
    match j, hj with
    | 0, hj => simp at hj; subst hj; exact c0
    | 1, hj => simp at hj; subst hj; exact c1
    | 2, hj => simp at hj; subst hj; exact c2
    | 3, hj => simp at hj; subst hj; exact c3
  have hcp2 : ∀ W, W.heap[N]? = some (.cells D 27 (0, 0)) → W.heap[g]? = w.heap[g]? → ∀ ty dc sc, (Builtin.copy_ #[45, 45] ty #[.slice (some ⟨N, (i + 1) * 4, none⟩) (L.length - i) dc, .slice (some ⟨g, i * 4, none⟩) (L.length - i) sc]).run Tryd.prog W = .ok (goInt (Nat.min (L.length - i) (L.length - i))) (W.setRow N E) := fun W hW hWg ty dc sc => by
    rw [hE]
    refine run_copy_rowK W _ _ ty 27 N ((i + 1) * 4) _ dc ⟨g, i * 4, none⟩ _ sc D 27 (itCells (L.drop i)) 4 Tryd.underlying45 infoSize hW (by rw [hdl]; show _ = min _ _ * 4; omega) (fun j v hj => ?_) (by omega) (fun u hu => itCells_one hu)
    rw [World.cell?_of_block (w := w) (by rw [add_plain']; exact hWg)]; exact hsrc j v hj
  have HOWN : Hid (∀ W, W.heap[N]? = some (.cells E 27 (0, 0)) → OwnI B W (.slice (some ⟨N, 0, none⟩) (L.length + 1) G) (L.take i ++ x :: L.drop i)) := show ∀ W, _ → _ from fun W hW => by
    have hlen : (L.take i ++ x :: L.drop i).length = L.length + 1 := by simp; omega
    refine ⟨itCells_len _, .inr ⟨N, G, E, by rw [hlen], by rw [hN]; exact hbw, hW, by omega, hGm, hEs, ?_⟩⟩
    rw [hlen, hE, hD, hC]
    simpa using row_grown (by omega) Z (by rw [hZl]; omega) x
  have HC1 := Lib.hid hcp1; have HC2 := Lib.hid hcp2; have HRZ := Lib.hid hrz
  have HX := Lib.hid hx; have HG := Lib.hid hg
  have hne : N ≠ g := by omega
  have hneA : N ≠ A := by omega
  have HN := Lib.hid hN
  have hmm : cap ≤ 9223372036854775807 := by unfold maxLen at hm; omega
  have hGG : G ≤ 9223372036854775807 := by unfold maxLen at hGm; omega
  have e1 : ((i : Int) == (L.length : Int)) = false := beq_eq_false_iff_ne.2 (by omega)
  have e2 : decide ((cap : Int) < (L.length : Int) + 1) = true := decide_eq_true (by omega)
  have e3 : ((cap : Int) < (L.length : Int) + 1) := by omega
  have s1 : (0 : Int) ≤ (i : Int) + 1 := by omega
  have s2 : ((i : Int) + 1).toNat = i + 1 := by omega
  have s3 : ¬ (cap = i + 1) ∨ cap = i + 1 := by omega
  have s5 : ¬ (cap = i) := by omega
  have s6 : IntKind.i64.wrap ((i : Int) + 1) = (i : Int) + 1 := IntWalk.i64_in _ (by omega)
  have s8 : (i : Int) ≤ (L.length : Int) := by omega
  have s9 : ¬ (G = i) := by omega
  have s10 : ¬ (G = i + 1) := by omega
  have s11 : (i : Int) + 1 ≤ (L.length : Int) + 1 := by omega
  have s12 : (i : Int) ≤ (L.length : Int) + 1 := by omega
  clear hcell hsrc hold hC hD hE hZ hG hCs hDs hEs hcp1 hcp2 hrz hg hx ht hcs hdl htl hZl hm hGm hkk hik hi0 hz0 hz1 hz2 hN s3
  go_enter Tryd.func42, Tryd.ntmps42
  have HW1 : Hid ((w.alloc (.cells C 27)).drew.heap[N]? = some (.cells C 27 (0, 0))) := show _ = _ by rw [HN.out]; exact heap_alloc_new w _
  have HWA : Hid ((w.alloc (.cells C 27)).drew.heap[A]? = w.heap[A]?) := heap_alloc_old w _ hAl
  have HWg : Hid ((w.alloc (.cells C 27)).drew.heap[g]? = w.heap[g]?) := heap_alloc_old w _ hgl
  go_wp2_with (first
    | (at_builtin; refine Lib.wpList_append_run _ rfl _ _ _ _ rfl _ _ rfl rfl _ _ (HRZ.out _) ?_)
    | (refine wpList_copy_run (o := ⟨some 45, _, _, _, _, _⟩) _ rfl (.tmp 43) (.tmp 44) 45 22 rfl _ _ rfl rfl (HC1.out (w.alloc (.cells C 27)).drew HW1.out HWA.out _ _ _ (by omega)) ?_))
  have HV1 : Hid (((w.alloc (.cells C 27)).drew.setRow N D).heap[N]? = some (.cells D 27 (0, 0))) := setRow_heap _ N C D _ (0, 0) HW1.out
  have HVg : Hid (((w.alloc (.cells C 27)).drew.setRow N D).heap[g]? = w.heap[g]?) := (setRow_other _ N g D (fun e => hne e.symm)).trans HWg.out
  go_still_tail 8, (by kernel_rfl)
  change wpList _ _ _ _ _ ((w.alloc (.cells C 27)).drew.setRow N D).drew
  go_wp2_with (refine wpList_copy_run (o := ⟨some 54, _, _, _, _, _⟩) _ rfl (.tmp 50) (.tmp 53) 45 45 rfl _ _ rfl rfl (HC2.out ((w.alloc (.cells C 27)).drew.setRow N D).drew HV1.out HVg.out _ _ _) ?_)
  go_ret
  exact ⟨_, rfl, HOWN.out _ (setRow_heap _ N D E _ (0, 0) HV1.out), ⟨rfl, rfl, rfl, by simp, fun k hk hne2 => by
    have hkN : k ≠ N := by have := HN.out; omega
    rw [setRow_other _ N k E hkN]
    show ((w.alloc (.cells C 27)).drew.setRow N D).heap[k]? = _
    rw [setRow_other _ N k D hkN]
    exact heap_alloc_old w _ hk⟩⟩

/-- slices.Insert of one item, wherever it goes. -/
theorem pInsert_any (B : Nat) (vs : Value) (L : List It) (i A : Nat) (x : It) (w : World) (hown : OwnI B w vs L) (hi : i ≤ L.length) (hL : L.length ≤ 1000) (hB : B ≤ w.heap.size)
    (hx : w.heap[A]? = some (.cells #[.string x.p, .bool x.d, .bool x.e, .string x.c] 27 (0, 0))) (hne : vs.ownBlock ≠ some A) :
    Calls Tryd.prog 42 #[vs, .int .i64 i, .slice (some ⟨A, 0, none⟩) 1 1] w (InsI B vs (L.take i ++ x :: L.drop i) w) := by
  by_cases he : i = L.length
  · subst he
    rw [List.take_length, List.drop_length]
    exact pInsert_end B vs L A x w hown hL hB (inBox_row hx)
  · have hlt : i < L.length := by omega
    rcases hown.2 with ⟨rfl, h0⟩ | ⟨g, cap, cur, rfl, hbg, hg, hle, hm, hcs, ht⟩
    · omega
    · have hAg : A ≠ g := fun e => hne (by rw [e]; rfl)
      by_cases hroom : L.length + 1 ≤ cap
      · exact pInsert_room B g cap cur L i A x w hbg hg hm hcs ht hlt hroom hx hAg
      · exact pInsert_grow B g cap cur L i A x w hB hbg hg hm hcs ht hlt hle (by omega) hL hx
end Go.Proofs.YtelaamchafocpaaDoor

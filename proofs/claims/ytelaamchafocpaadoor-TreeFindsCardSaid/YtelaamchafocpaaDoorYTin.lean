/-
  Contracts over this translation: slices.Insert of one item: the walks.
-/
import Derived.Test.YtelaamchafocpaaDoorYTik
set_option linter.unusedVariables false
namespace Go.Proofs.YtelaamchafocpaaDoor
open Go.RowKit
attribute [local go_sem] Oper.semAt_some

theorem append_types (ty : TypeId) (a : Option Addr) (n c : Nat) (y : Value) (w : World) : (Builtin.append_ #[45, 22] ty #[.slice a n c, y]).run Tryd.prog w = (Builtin.append_ #[45, 45] ty #[.slice a n c, y]).run Tryd.prog w := by
  have z := Tryd.sizeOf27
  simp [Builtin.append_, run_underlying Tryd.underlying45, run_underlying Tryd.underlying22, z]
theorem wpList_append_x {ops : Array Oper} {rest : List Oper} {o : Oper} {a : Act} {w : World} {Q : Exit → Act → World → Prop} (hgd : o.guard = none) (s x : Operand)
    (ho : o.op = .call { callee := .builtin .append, args := #[s, x], argTypes := #[45, 22] })
    {B : Nat} {v : Value} {M : List It} {y : It} {A : Nat} (hown : OwnI B w v M) (hB : B ≤ w.heap.size) (hs : a.eval s = v)
    (hx : a.eval x = .slice (some ⟨A, 0, none⟩) 1 1) (hy : InBox w A y) (hlen : M.length ≤ 1000000)
    (h : ∀ v' w', OwnI B w' v' (M ++ [y]) → w.grownBy w' v.ownBlock → wpList Tryd.prog ops Q rest (a.put o.dst v') w') :
    wpList Tryd.prog ops Q (o :: rest) a w := by
  obtain ⟨i0, hi, hz0, hz1, hz2⟩ := info_parts infoItem
  obtain ⟨v', w', hr, ho', hg, _⟩ := run_append_own (P := Tryd.prog) w B 45 o.type 27 i0 (itV zeroIt) 4 40 Tryd.underlying45 hi hz0 hz1 hz2 rfl (by decide) v M.length (itCells M) hown ⟨A, 0, none⟩ 1 1 (itC y) rfl (fun j u hj => by
      obtain ⟨c0, c1, c2, c3⟩ := hy.cells
      rw [add_plain', Nat.zero_add]
      match j, hj with
      | 0, hj => simp at hj; subst hj; exact c0
      | 1, hj => simp at hj; subst hj; exact c1
      | 2, hj => simp at hj; subst hj; exact c2
      | 3, hj => simp at hj; subst hj; exact c3) (fun u hu => by simp at hu; rcases hu with rfl | rfl | rfl | rfl <;> rfl) (by unfold maxLen; omega) (by omega) hB
  have hr2 : (Builtin.append_ #[45, 22] o.type #[v, .slice (some ⟨A, 0, none⟩) 1 1]).run Tryd.prog w = .ok v' w' := by
    rcases hown.2 with ⟨rfl, _⟩ | ⟨g, cap, cur, rfl, _⟩
    · rw [append_types]; exact hr
    · rw [append_types]; exact hr
  refine Lib.wpList_append_run _ hgd s x 45 22 ho _ _ hs hx v' w' hr2 (h v' w' ?_ hg)
  unfold OwnI
  rw [List.length_append, itCells_app]
  have : itCells [y] = itC y := List.append_nil _
  rw [this]; exact ho'
theorem shape_of {w : World} {g : Nat} {cur : Array Value} {t : TypeId} (h : w.heap[g]? = some (.cells cur t (0, 0))) : w.shape? g = some (t, cur.size) := by simp [World.shape?, h]
theorem frozen_of {w : World} {g : Nat} {cur : Array Value} {t : TypeId} (h : w.heap[g]? = some (.cells cur t (0, 0))) (j : Nat) : w.frozen? ⟨g, j, none⟩ = false := by simp [World.frozen?, h]
theorem inBox_row {w : World} {A : Nat} {x : It} {t : TypeId} (h : w.heap[A]? = some (.cells #[.string x.p, .bool x.d, .bool x.e, .string x.c] t (0, 0))) : InBox w A x :=
  ⟨⟨by simp [World.cell?, h], by simp [World.cell?, h], by simp [World.cell?, h], by simp [World.cell?, h]⟩, (Array.getElem?_eq_some_iff.1 h).1⟩

/-- What comes of an item put in. -/
def InsI (B : Nat) (vs : Value) (L : List It) (w : World) (e : Ending) (w' : World) : Prop := ∃ v', e = .returned v' ∧ OwnI B w' v' L ∧ w.grownBy w' vs.ownBlock
set_option maxRecDepth 100000 in
set_option maxHeartbeats 4000000 in
theorem pInsert_end (B : Nat) (vs : Value) (L : List It) (A : Nat) (x : It) (w : World) (hown : OwnI B w vs L) (hL : L.length ≤ 1000) (hB : B ≤ w.heap.size) (hx : InBox w A x) :
    Calls Tryd.prog 42 #[vs, .int .i64 L.length, .slice (some ⟨A, 0, none⟩) 1 1] w (InsI B vs (L ++ [x]) w) := by
  have HO := Lib.hid hown
  have HX := Lib.hid hx
  clear hx
  rcases hown.2 with ⟨rfl, h0⟩ | ⟨g, cap, cur, rfl, hb, hg, hle, hm, _⟩
  · obtain rfl := List.length_eq_zero_iff.1 h0
    clear h0 hown
    go_enter Tryd.func42, Tryd.ntmps42
    go_wp2_with (at_builtin; refine wpList_append_x rfl _ _ rfl HO.out hB rfl rfl HX.out (by simp) ?_)
    intro v' w' h1 h2
    have H1 := Lib.hid h1; have H2 := Lib.hid h2
    clear h1 h2
    go_wp2
    go_ret
    exact ⟨_, rfl, H1.out, H2.out⟩
  · have hmm : L.length ≤ 9223372036854775807 := by unfold maxLen at hm; omega
    have e1 : ((L.length : Int) == (L.length : Int)) = true := beq_iff_eq.2 rfl
    have hm2 : cap ≤ 9223372036854775807 := by unfold maxLen at hm; omega
    clear hown hg hb
    go_enter Tryd.func42, Tryd.ntmps42
    go_wp2_with (at_builtin; refine wpList_append_x rfl _ _ rfl HO.out hB rfl rfl HX.out (by omega) ?_)
    all_goals
      intro v' w' h1 h2
      have H1 := Lib.hid h1; have H2 := Lib.hid h2
      clear h1 h2
      go_wp2
      go_ret
      exact ⟨_, rfl, H1.out, H2.out⟩

theorem overlaps_no {w : World} {A g : Nat} {ca cb : Array Value} (hA : w.heap[A]? = some (.cells ca 27 (0, 0))) (hg : w.heap[g]? = some (.cells cb 27 (0, 0))) (hne : A ≠ g) (hcb : cb.size ≠ 0) (o lb c : Nat) :
    (callFunc 57 #[.slice (some ⟨A, 0, none⟩) 1 1, .slice (some ⟨g, o, none⟩) lb c]).run Tryd.prog w = .ok (.value (.bool false)) w := by
  rw [run_callFunc_extern Tryd.func57 (by kernel_rfl) (by kernel_rfl) (by kernel_rfl) (e := Extern.SlicesOverlaps.overlaps #[22, 22] #[4]) (by kernel_rfl),
    Lib.run_overlaps_apart w 22 4 27 Tryd.underlying22 4 Tryd.sizeOf27 ⟨A, 0, none⟩ ⟨g, o, none⟩ 1 1 lb c hne _ _ _ _ (shape_of hA) (shape_of hg) hcb (frozen_of hA 0) (frozen_of hA _)]
  rfl
theorem infoSize : (Tryd.prog.info? 27).map (·.size) = some 4 := by kernel_rfl

set_option maxRecDepth 100000 in
set_option maxHeartbeats 4000000 in
theorem pInsert_room (B g cap : Nat) (cur : Array Value) (L : List It) (i : Nat) (A : Nat) (x : It) (w : World) (hbg : B ≤ g) (hg : w.heap[g]? = some (.cells cur 27 (0, 0))) (hm : cap ≤ maxLen) (hcs : cur.size = cap * 4)
    (ht : cur.toList.take (L.length * 4) = itCells L) (hi : i < L.length) (hroom : L.length + 1 ≤ cap)
    (hx : w.heap[A]? = some (.cells #[.string x.p, .bool x.d, .bool x.e, .string x.c] 27 (0, 0))) (hne : A ≠ g) :
    Calls Tryd.prog 42 #[.slice (some ⟨g, 0, none⟩) L.length cap, .int .i64 i, .slice (some ⟨A, 0, none⟩) 1 1] w (InsI B (.slice (some ⟨g, 0, none⟩) L.length cap) (L.take i ++ x :: L.drop i) w) := by
  have hov := fun o lb c => overlaps_no hx hg hne (by omega) o lb c
  have HIB := Lib.hid (inBox_row hx)
  have hdl : (itCells (L.drop i)).length = (L.length - i) * 4 := by rw [itCells_len, List.length_drop]
  have hcell : ∀ j v, cur.toList[j]? = some v → w.cell? ⟨g, j, none⟩ = some v := fun j v hj => by rw [cell_of_row w g j cur _ (0, 0) hg]; simpa using hj
  have hsrc : ∀ j v, (itCells (L.drop i))[j]? = some v → w.cell? ((⟨g, i * 4, none⟩ : Addr).add j) = some v := fun j v hj => by
    rw [add_plain']
    refine hcell _ _ ?_
    have hj4 : j < (L.length - i) * 4 := by have := (List.getElem?_eq_some_iff.1 hj).1; omega
    have h1 : (itCells L)[i * 4 + j]? = some v := by
      conv => lhs; rw [← List.take_append_drop i L, itCells_app]
      have hl : (itCells (L.take i)).length = i * 4 := by rw [itCells_len, List.length_take]; congr 1; omega
      rw [List.getElem?_append_right (by omega), hl, show i * 4 + j - i * 4 = j by omega]; exact hj
    rw [← ht, List.getElem?_take] at h1
    split at h1
    · exact h1
    · cases h1
  obtain ⟨C1, hC1⟩ : ∃ C1 : Array Value, C1 = (cur.toList.take ((i + 1) * 4) ++ itCells (L.drop i) ++ cur.toList.drop ((i + 1) * 4 + (itCells (L.drop i)).length)).toArray := ⟨_, rfl⟩
  obtain ⟨C2, hC2⟩ : ∃ C2 : Array Value, C2 = (C1.toList.take (i * 4) ++ itC x ++ C1.toList.drop (i * 4 + (itC x).length)).toArray := ⟨_, rfl⟩
  have hC1s : C1.size = cap * 4 := by
    rw [hC1]; simp only [List.size_toArray, List.length_append, List.length_take, List.length_drop, Array.length_toList]; omega
  have hcp1 : ∀ W, W.heap[g]? = w.heap[g]? → ∀ ty dc sc, (Builtin.copy_ #[45, 45] ty #[.slice (some ⟨g, (i + 1) * 4, none⟩) (L.length - i) dc, .slice (some ⟨g, i * 4, none⟩) (L.length + 1 - i) sc]).run Tryd.prog W = .ok (goInt (Nat.min (L.length + 1 - i) (L.length - i))) (W.setRow g C1) := fun W hW ty dc sc => by
    rw [hC1]
    refine run_copy_rowK W _ _ ty 27 g ((i + 1) * 4) _ dc ⟨g, i * 4, none⟩ _ sc cur 27 (itCells (L.drop i)) 4 Tryd.underlying45 infoSize (hW.trans hg) (by rw [hdl]; show _ = min _ _ * 4; omega) (fun j v hj => ?_) (by omega) (fun u hu => itCells_one hu)
    rw [World.cell?_of_block (w := w) (by rw [add_plain']; exact hW)]; exact hsrc j v hj
  have hcp2 : ∀ W, W.heap[g]? = some (.cells C1 27 (0, 0)) → W.heap[A]? = w.heap[A]? → ∀ ty dl dc, 0 < dl → (Builtin.copy_ #[45, 22] ty #[.slice (some ⟨g, i * 4, none⟩) dl dc, .slice (some ⟨A, 0, none⟩) 1 1]).run Tryd.prog W = .ok (goInt (Nat.min 1 dl)) (W.setRow g C2) := fun W hW hWA ty dl dc hdl => by
    rw [hC2]
    have hIB := inBox_row (hWA.trans hx)
    refine run_copy_rowK W _ _ ty 27 g (i * 4) _ dc ⟨A, 0, none⟩ _ 1 C1 27 (itC x) 4 Tryd.underlying45 infoSize hW (by show 4 = min _ _ * 4; omega) (fun j u hj => ?_) (by simp only [List.length_cons, List.length_nil]; omega) (fun u hu => by simp at hu; rcases hu with rfl | rfl | rfl | rfl <;> rfl)
    obtain ⟨c0, c1, c2, c3⟩ := hIB.cells
    rw [add_plain', Nat.zero_add]
    match j, hj with
    | 0, hj => simp at hj; subst hj; exact c0
    | 1, hj => simp at hj; subst hj; exact c1
    | 2, hj => simp at hj; subst hj; exact c2
    | 3, hj => simp at hj; subst hj; exact c3
  have HOWN : Hid (∀ W, W.heap[g]? = some (.cells C2 27 (0, 0)) → OwnI B W (.slice (some ⟨g, 0, none⟩) (L.length + 1) cap) (L.take i ++ x :: L.drop i)) := show ∀ W, _ → _ from fun W hW => by
    have hlen : (L.take i ++ x :: L.drop i).length = L.length + 1 := by simp; omega
    refine ⟨itCells_len _, .inr ⟨g, cap, C2, by rw [hlen], hbg, hW, by omega, hm, ?_, ?_⟩⟩
    · rw [hC2]; simp only [List.size_toArray, List.length_append, List.length_take, List.length_drop, Array.length_toList, hC1s, List.length_cons, List.length_nil]; omega
    · rw [hlen, hC2, hC1]
      simpa using row_shift (C := cur.toList) (by omega) (by simpa using hcs) hroom ht x
  have HG := Lib.hid hg
  have HX := Lib.hid hx
  have HC1 := Lib.hid hcp1; have HC2 := Lib.hid hcp2
  have hmm : cap ≤ 9223372036854775807 := by unfold maxLen at hm; omega
  have e1 : ((i : Int) == (L.length : Int)) = false := beq_eq_false_iff_ne.2 (by omega)
  have e2 : decide ((cap : Int) < (L.length : Int) + 1) = false := decide_eq_false (by omega)
  have e3 : ¬ ((cap : Int) < (L.length : Int) + 1) := by omega
  have s1 : (0 : Int) ≤ (i : Int) + 1 := by omega
  have s2 : ((i : Int) + 1).toNat = i + 1 := by omega
  have s3 : ¬ (cap = i + 1) := by omega
  have s4 : (i : Int) + 1 ≤ (L.length : Int) + 1 := by omega
  have s5 : ¬ (cap = i) := by omega
  have s6 : IntKind.i64.wrap ((i : Int) + 1) = (i : Int) + 1 := IntWalk.i64_in _ (by omega)
  have s7 : (i : Int) ≤ (L.length : Int) + 1 := by omega
  have s8 : (i : Int) ≤ (L.length : Int) := by omega
  clear hcell hsrc hC1 hC2 hC1s hcp1 hcp2 hg hx ht hcs hdl hm hbg HIB
  go_enter Tryd.func42, Tryd.ntmps42
  go_wp2_with (simp only [hov])
  clear hov
  go_still_tail 8, (by kernel_rfl)
  change wpList _ _ _ _ _ w.drew
  have HW1 : Hid ((w.drew.setRow g C1).heap[g]? = some (.cells C1 27 (0, 0))) := setRow_heap w.drew g cur C1 _ (0, 0) HG.out
  have HW2 : Hid ((w.drew.setRow g C1).heap[A]? = w.heap[A]?) := setRow_other w.drew g A C1 hne
  go_wp2_with (first
    | (refine wpList_copy_run (o := ⟨some 77, _, _, _, _, _⟩) _ rfl (.tmp 73) (.tmp 76) 45 45 rfl _ _ rfl rfl (HC1.out w.drew rfl _ _ _) ?_)
    | (refine wpList_copy_run (o := ⟨some 82, _, _, _, _, _⟩) _ rfl (.tmp 80) (.tmp 81) 45 22 rfl _ _ rfl rfl (HC2.out _ HW1.out HW2.out _ _ _ (by omega)) ?_))
  go_ret
  exact ⟨_, rfl, HOWN.out _ (setRow_heap _ g C1 C2 _ (0, 0) HW1.out), ⟨rfl, rfl, rfl, by simp, fun k hk hne2 => by
    have hkg : k ≠ g := fun e => hne2 (by rw [e]; rfl)
    rw [setRow_other _ g k C2 hkg, setRow_other _ g k C1 hkg]; rfl⟩⟩
end Go.Proofs.YtelaamchafocpaaDoor

/-
  Contracts over this translation: slices.Insert of one file.
-/
import Derived.Test.YtalknbadakfppaaGreatQa1
import Derived.Lib.AppendZerosOnto
import Derived.Lib.Overlaps
import Derived.Laws.CopyRow
import Derived.Laws.NewBlocks
import Derived.Deep.RegionLaw
import Derived.StillTailTactics
set_option linter.unusedVariables false
namespace Go.Proofs.YtalknbadakfppaaGreat
open Go.RowKit
attribute [local go_sem] Oper.semAt_some
def DfBox (w : World) (b : Nat) (x : Dfr) : Prop := (w.cell? ⟨b, 0, none⟩ = some (.string x.n) ∧ w.cell? ⟨b, 1, none⟩ = some (.string x.d) ∧ w.cell? ⟨b, 2, none⟩ = some (.slice x.a x.z x.c)) ∧ b < w.heap.size
theorem DfBox.cells {w : World} {b : Nat} {x : Dfr} (h : DfBox w b x) : w.cell? ⟨b, 0, none⟩ = some (.string x.n) ∧ w.cell? ⟨b, 1, none⟩ = some (.string x.d) ∧ w.cell? ⟨b, 2, none⟩ = some (.slice x.a x.z x.c) := h.1
theorem DfBox.stays {w w' : World} {b : Nat} {x : Dfr} (h : DfBox w b x) (hb : Below w.heap.size w w') : DfBox w' b x :=
  ⟨⟨(hb.cell (p := ⟨b, 0, none⟩) h.2).trans h.1.1, (hb.cell (p := ⟨b, 1, none⟩) h.2).trans h.1.2.1, (hb.cell (p := ⟨b, 2, none⟩) h.2).trans h.1.2.2⟩, Nat.lt_of_lt_of_le h.2 hb.size⟩
theorem run_copy_rowK_Dlc {P : Program} (w : World) (dT sT ty elem : TypeId) (g off dLen dCap : Nat) (ad : Addr) (sLen sCap : Nat) (cur : Array Value) (t : TypeId) (cs : List Value) (k : Nat)
    (hu : P.underlying dT = some (.slice elem)) (hsz : (P.info? elem).map (·.size) = some k) (hg : w.heap[g]? = some (.cells cur t (0, 0))) (hn : cs.length = Nat.min sLen dLen * k)
    (hsrc : ∀ j v, cs[j]? = some v → w.cell? (ad.add j) = some v) (hfit : off + cs.length ≤ cur.size) (h1 : ∀ v ∈ cs, v.oneCell' = true) :
    (Builtin.copy_ #[dT, sT] ty #[.slice (some ⟨g, off, none⟩) dLen dCap, .slice (some ad) sLen sCap]).run P w =
      .ok (goInt (Nat.min sLen dLen)) (w.setRow g (cur.toList.take off ++ cs ++ cur.toList.drop (off + cs.length)).toArray) := by
  cases hq : P.info? elem with
  | none => simp [hq] at hsz
  | some i =>
    have hi : i.size = k := by simpa [hq] using hsz
    have hf := run_firstCells_some (P := P) w i.size (Nat.min sLen dLen) ad sLen sCap cs (by rw [hi]; exact hn) hsrc
    have hst := run_storeCells_at P g off t cs 0 cur w hg (by simpa using hfit) h1
    simp only [Nat.add_zero] at hst
    rw [hi] at hf
    simp [Builtin.copy_, run_underlying hu, Builtin.lenOf, sizeOf, typeInfo, hq, hi, hf, hst]
theorem wp_copy_run_Dlc {P : Program} (w : World) {o : Oper} {a : Act} {K : Act → World → Prop} {Q : Exit → Act → World → Prop} (d s : Operand) (t t' : TypeId)
    (ho : o.op = .call { callee := .builtin .copy, args := #[d, s], argTypes := #[t, t'] }) (v u : Value) (hd : a.eval d = v) (hs : a.eval s = u) {v' : Value} {w' : World}
    (hr : (Builtin.copy_ #[t, t'] o.type #[v, u]).run P w = .ok v' w') (h : K (a.put o.dst v') w') : o.wp P a w K Q := by
  unfold Oper.wp execOp
  simp only [ho, resolve, invoke, builtin, Sem.run_bind, Sem.run_pure, Result.andThen_ok, List.map_toArray, List.map_cons, List.map_nil, hd, hs, hr]
  exact h
theorem wpList_copy_run_Dlc {P : Program} (w : World) {ops : Array Oper} {rest : List Oper} {o : Oper} {a : Act} {Q : Exit → Act → World → Prop} (hgd : o.guard = none) (d s : Operand) (t t' : TypeId)
    (ho : o.op = .call { callee := .builtin .copy, args := #[d, s], argTypes := #[t, t'] }) (v u : Value) (hd : a.eval d = v) (hs : a.eval s = u) {v' : Value} {w' : World}
    (hr : (Builtin.copy_ #[t, t'] o.type #[v, u]).run P w = .ok v' w') (h : wpList P ops Q rest (a.put o.dst v') w') : wpList P ops Q (o :: rest) a w :=
  wpList_plain hgd fun _ hK => wp_copy_run_Dlc w d s t t' ho v u hd hs hr (hK _ _ h)
theorem rowD_shift {C : List Value} {L : List Dfr} {i : Nat} (hi : i ≤ L.length) {cap : Nat} (hC : C.length = cap * 3) (hcap : L.length + 1 ≤ cap) (ht : C.take (L.length * 3) = dfrCells L) (x : Dfr) :
    (((C.take ((i + 1) * 3) ++ dfrCells (L.drop i) ++ C.drop ((i + 1) * 3 + (dfrCells (L.drop i)).length)).take (i * 3) ++ dfrC x ++ (C.take ((i + 1) * 3) ++ dfrCells (L.drop i) ++ C.drop ((i + 1) * 3 + (dfrCells (L.drop i)).length)).drop (i * 3 + (dfrC x).length))).take ((L.length + 1) * 3) = dfrCells (L.take i ++ x :: L.drop i) := by
  have e1 : (dfrC x).length = 3 := rfl
  have e2 : (dfrCells (L.drop i)).length = (L.length - i) * 3 := by rw [dfrCells_len, List.length_drop]
  have hA : dfrCells L = dfrCells (L.take i) ++ dfrCells (L.drop i) := by rw [← dfrCells_app, List.take_append_drop]
  have hAl : (dfrCells (L.take i)).length = i * 3 := by rw [dfrCells_len, List.length_take]; congr 1; omega
  have hti : C.take (i * 3) = dfrCells (L.take i) := by
    have : C.take (i * 3) = (C.take (L.length * 3)).take (i * 3) := by rw [List.take_take]; congr 1; omega
    rw [this, ht, hA, List.take_left' hAl]
  have hl1 : (C.take ((i + 1) * 3)).length = (i + 1) * 3 := by rw [List.length_take]; omega
  rw [e1, e2]
  have h1 : (C.take ((i + 1) * 3) ++ dfrCells (L.drop i) ++ C.drop ((i + 1) * 3 + (L.length - i) * 3)).take (i * 3) = dfrCells (L.take i) := by
    rw [List.append_assoc, List.take_append_of_le_length (by rw [hl1]; omega), List.take_take, show min (i * 3) ((i + 1) * 3) = i * 3 by omega, hti]
  have h2 : (C.take ((i + 1) * 3) ++ dfrCells (L.drop i) ++ C.drop ((i + 1) * 3 + (L.length - i) * 3)).drop (i * 3 + 3) = dfrCells (L.drop i) ++ C.drop ((i + 1) * 3 + (L.length - i) * 3) := by
    rw [List.append_assoc, List.drop_append, hl1, show i * 3 + 3 - (i + 1) * 3 = 0 by omega, List.drop_of_length_le (by rw [hl1]; omega)]; rfl
  rw [h1, h2]
  have e3 : dfrCells (L.take i ++ x :: L.drop i) = dfrCells (L.take i) ++ dfrC x ++ dfrCells (L.drop i) := by
    rw [dfrCells_app, List.append_assoc]; rfl
  rw [e3, ← List.append_assoc]
  refine List.take_left' ?_
  rw [List.length_append, List.length_append, hAl, e1, e2]; omega
theorem rowD_grown {L : List Dfr} {i : Nat} (hi : i ≤ L.length) (Z : List Value) (hZ : (L.length + 1 - i) * 3 ≤ Z.length) (x : Dfr) :
    let C := (dfrCells L).take (i * 3) ++ Z
    let D := C.take (i * 3) ++ dfrC x ++ C.drop (i * 3 + (dfrC x).length)
    (D.take ((i + 1) * 3) ++ dfrCells (L.drop i) ++ D.drop ((i + 1) * 3 + (dfrCells (L.drop i)).length)).take ((L.length + 1) * 3) = dfrCells (L.take i ++ x :: L.drop i) := by
  intro C D
  have e1 : (dfrC x).length = 3 := rfl
  have e2 : (dfrCells (L.drop i)).length = (L.length - i) * 3 := by rw [dfrCells_len, List.length_drop]
  have hA : dfrCells L = dfrCells (L.take i) ++ dfrCells (L.drop i) := by rw [← dfrCells_app, List.take_append_drop]
  have hAl : (dfrCells (L.take i)).length = i * 3 := by rw [dfrCells_len, List.length_take]; congr 1; omega
  have hti : (dfrCells L).take (i * 3) = dfrCells (L.take i) := by rw [hA, List.take_left' hAl]
  have hC : C.take (i * 3) = dfrCells (L.take i) := by
    show (_ ++ Z).take _ = _
    rw [hti, List.take_left' hAl]
  have hD : D.take ((i + 1) * 3) = dfrCells (L.take i) ++ dfrC x := by
    show (C.take (i * 3) ++ dfrC x ++ _).take _ = _
    rw [hC]
    exact List.take_left' (by rw [List.length_append, hAl, e1]; omega)
  rw [hD]
  have e3 : dfrCells (L.take i ++ x :: L.drop i) = dfrCells (L.take i) ++ dfrC x ++ dfrCells (L.drop i) := by
    rw [dfrCells_app, List.append_assoc]; rfl
  rw [e3]
  refine List.take_left' ?_
  rw [List.length_append, List.length_append, hAl, e1, e2]; omega
theorem wpList_append_x_Dlc {ops : Array Oper} {rest : List Oper} {o : Oper} {a : Act} {w : World} {Q : Exit → Act → World → Prop} (hgd : o.guard = none) (s x : Operand)
    (ho : o.op = .call { callee := .builtin .append, args := #[s, x], argTypes := #[26, 26] })
    {B : Nat} {v : Value} {M : List Dfr} {y : Dfr} {A : Nat} (hown : OwnD B w v M) (hB : B ≤ w.heap.size) (hs : a.eval s = v)
    (hx : a.eval x = .slice (some ⟨A, 0, none⟩) 1 1) (hy : DfBox w A y) (hlen : M.length ≤ 1000000)
    (h : ∀ v' w', OwnD B w' v' (M ++ [y]) → w.grownBy w' v.ownBlock → wpList Tryz.prog ops Q rest (a.put o.dst v') w') :
    wpList Tryz.prog ops Q (o :: rest) a w := by
  obtain ⟨i0, hi, hz0, hz1, hz2⟩ := info_parts infoDf
  obtain ⟨v', w', hr, ho', hg, _⟩ := run_append_own (P := Tryz.prog) w B 26 o.type 56 i0 (dfrV zeroDfr) 3 56 Tryz.underlying26 hi hz0 hz1 hz2 rfl (by decide) v M.length (dfrCells M) hown ⟨A, 0, none⟩ 1 1 (dfrC y) rfl (fun j u hj => by
      obtain ⟨c0, c1, c2⟩ := hy.cells
      rw [add_plain', Nat.zero_add]
      match j, hj with
      | 0, hj => simp at hj; subst hj; exact c0
      | 1, hj => simp at hj; subst hj; exact c1
      | 2, hj => simp at hj; subst hj; exact c2) (fun u hu => by simp at hu; rcases hu with rfl | rfl | rfl <;> rfl) (by unfold maxLen; omega) (by omega) hB
  refine Lib.wpList_append_run _ hgd s x 26 26 ho _ _ hs hx v' w' hr (h v' w' ?_ hg)
  unfold OwnD
  rw [List.length_append, dfrCells_app]
  have : dfrCells [y] = dfrC y := List.append_nil _
  rw [this]; exact ho'
theorem shape_of_Dlc {w : World} {g : Nat} {cur : Array Value} {t : TypeId} (h : w.heap[g]? = some (.cells cur t (0, 0))) : w.shape? g = some (t, cur.size) := by simp [World.shape?, h]
theorem frozen_of_Dlc {w : World} {g : Nat} {cur : Array Value} {t : TypeId} (h : w.heap[g]? = some (.cells cur t (0, 0))) (j : Nat) : w.frozen? ⟨g, j, none⟩ = false := by simp [World.frozen?, h]
theorem dfBox_row {w : World} {A : Nat} {x : Dfr} {t : TypeId} (h : w.heap[A]? = some (.cells #[.string x.n, .string x.d, .slice x.a x.z x.c] t (0, 0))) : DfBox w A x :=
  ⟨⟨by simp [World.cell?, h], by simp [World.cell?, h], by simp [World.cell?, h]⟩, (Array.getElem?_eq_some_iff.1 h).1⟩
def InsD (B : Nat) (vs : Value) (L : List Dfr) (w : World) (e : Ending) (w' : World) : Prop := ∃ v', e = .returned v' ∧ OwnD B w' v' L ∧ w.grownBy w' vs.ownBlock
set_option maxRecDepth 100000 in
set_option maxHeartbeats 4000000 in
theorem dInsert_end (B : Nat) (vs : Value) (L : List Dfr) (A : Nat) (x : Dfr) (w : World) (hown : OwnD B w vs L) (hL : L.length ≤ 1000) (hB : B ≤ w.heap.size) (hx : DfBox w A x) :
    Calls Tryz.prog 92 #[vs, .int .i64 L.length, .slice (some ⟨A, 0, none⟩) 1 1] w (InsD B vs (L ++ [x]) w) := by
  have HO := Lib.hid hown
  have HX := Lib.hid hx
  clear hx
  rcases hown.2 with ⟨rfl, h0⟩ | ⟨g, cap, cur, rfl, hb, hg, hle, hm, _⟩
  · obtain rfl := List.length_eq_zero_iff.1 h0
    clear h0 hown
    go_enter Tryz.func92, Tryz.ntmps92
    go_wp2_with (at_builtin; refine wpList_append_x_Dlc rfl _ _ rfl HO.out hB rfl rfl HX.out (by simp) ?_)
    intro v' w' h1 h2
    have H1 := Lib.hid h1; have H2 := Lib.hid h2
    clear h1 h2
    go_wp2
    go_ret
    exact ⟨_, rfl, H1.out, H2.out⟩
  · have hmm : L.length ≤ 9223372036854775807 := by unfold maxLen at hm; omega
    have e1 : ((L.length : Int) == (L.length : Int)) = true := beq_iff_eq.2 rfl
    have hm2 : cap ≤ 9223372036854775807 := by unfold maxLen at hm; omega
    clear hown hg hb
    go_enter Tryz.func92, Tryz.ntmps92
    go_wp2_with (at_builtin; refine wpList_append_x_Dlc rfl _ _ rfl HO.out hB rfl rfl HX.out (by omega) ?_)
    all_goals
      intro v' w' h1 h2
      have H1 := Lib.hid h1; have H2 := Lib.hid h2
      clear h1 h2
      go_wp2
      go_ret
      exact ⟨_, rfl, H1.out, H2.out⟩
theorem overlaps_no_Dlc {w : World} {A g : Nat} {ca cb : Array Value} (hA : w.heap[A]? = some (.cells ca 56 (0, 0))) (hg : w.heap[g]? = some (.cells cb 56 (0, 0))) (hne : A ≠ g) (hcb : cb.size ≠ 0) (o lb c : Nat) :
    (callFunc 107 #[.slice (some ⟨A, 0, none⟩) 1 1, .slice (some ⟨g, o, none⟩) lb c]).run Tryz.prog w = .ok (.value (.bool false)) w := by
  rw [run_callFunc_extern Tryz.func107 (by kernel_rfl) (by kernel_rfl) (by kernel_rfl) (e := Extern.SlicesOverlaps.overlaps #[26, 26] #[4]) (by kernel_rfl),
    Lib.run_overlaps_apart w 26 4 56 Tryz.underlying26 3 Tryz.sizeOf56 ⟨A, 0, none⟩ ⟨g, o, none⟩ 1 1 lb c hne _ _ _ _ (shape_of_Dlc hA) (shape_of_Dlc hg) hcb (frozen_of_Dlc hA 0) (frozen_of_Dlc hA _)]
  rfl
theorem infoSize_Dlc : (Tryz.prog.info? 56).map (·.size) = some 3 := by kernel_rfl
set_option maxRecDepth 100000 in
set_option maxHeartbeats 4000000 in
theorem dInsert_room (B g cap : Nat) (cur : Array Value) (L : List Dfr) (i : Nat) (A : Nat) (x : Dfr) (w : World) (hbg : B ≤ g) (hg : w.heap[g]? = some (.cells cur 56 (0, 0))) (hm : cap ≤ maxLen) (hcs : cur.size = cap * 3)
    (ht : cur.toList.take (L.length * 3) = dfrCells L) (hi : i < L.length) (hroom : L.length + 1 ≤ cap)
    (hx : w.heap[A]? = some (.cells #[.string x.n, .string x.d, .slice x.a x.z x.c] 56 (0, 0))) (hne : A ≠ g) :
    Calls Tryz.prog 92 #[.slice (some ⟨g, 0, none⟩) L.length cap, .int .i64 i, .slice (some ⟨A, 0, none⟩) 1 1] w (InsD B (.slice (some ⟨g, 0, none⟩) L.length cap) (L.take i ++ x :: L.drop i) w) := by
  have hov := fun o lb c => overlaps_no_Dlc hx hg hne (by omega) o lb c
  have HIB := Lib.hid (dfBox_row hx)
  have hdl : (dfrCells (L.drop i)).length = (L.length - i) * 3 := by rw [dfrCells_len, List.length_drop]
  have hcell : ∀ j v, cur.toList[j]? = some v → w.cell? ⟨g, j, none⟩ = some v := fun j v hj => by rw [cell_of_row w g j cur _ (0, 0) hg]; simpa using hj
  have hsrc : ∀ j v, (dfrCells (L.drop i))[j]? = some v → w.cell? ((⟨g, i * 3, none⟩ : Addr).add j) = some v := fun j v hj => by
    rw [add_plain']
    refine hcell _ _ ?_
    have hj4 : j < (L.length - i) * 3 := by have := (List.getElem?_eq_some_iff.1 hj).1; omega
    have h1 : (dfrCells L)[i * 3 + j]? = some v := by
      conv => lhs; rw [← List.take_append_drop i L, dfrCells_app]
      have hl : (dfrCells (L.take i)).length = i * 3 := by rw [dfrCells_len, List.length_take]; congr 1; omega
      rw [List.getElem?_append_right (by omega), hl, show i * 3 + j - i * 3 = j by omega]; exact hj
    rw [← ht, List.getElem?_take] at h1
    split at h1
    · exact h1
    · cases h1
  obtain ⟨C1, hC1⟩ : ∃ C1 : Array Value, C1 = (cur.toList.take ((i + 1) * 3) ++ dfrCells (L.drop i) ++ cur.toList.drop ((i + 1) * 3 + (dfrCells (L.drop i)).length)).toArray := ⟨_, rfl⟩
  obtain ⟨C2, hC2⟩ : ∃ C2 : Array Value, C2 = (C1.toList.take (i * 3) ++ dfrC x ++ C1.toList.drop (i * 3 + (dfrC x).length)).toArray := ⟨_, rfl⟩
  have hC1s : C1.size = cap * 3 := by
    rw [hC1]; simp only [List.size_toArray, List.length_append, List.length_take, List.length_drop, Array.length_toList]; omega
  have hcp1 : ∀ W, W.heap[g]? = w.heap[g]? → ∀ ty dc sc, (Builtin.copy_ #[26, 26] ty #[.slice (some ⟨g, (i + 1) * 3, none⟩) (L.length - i) dc, .slice (some ⟨g, i * 3, none⟩) (L.length + 1 - i) sc]).run Tryz.prog W = .ok (goInt (Nat.min (L.length + 1 - i) (L.length - i))) (W.setRow g C1) := fun W hW ty dc sc => by
    rw [hC1]
    refine run_copy_rowK_Dlc W _ _ ty 56 g ((i + 1) * 3) _ dc ⟨g, i * 3, none⟩ _ sc cur 56 (dfrCells (L.drop i)) 3 Tryz.underlying26 infoSize_Dlc (hW.trans hg) (by rw [hdl]; show _ = min _ _ * 3; omega) (fun j v hj => ?_) (by omega) (fun u hu => dfrCells_one hu)
    rw [World.cell?_of_block (w := w) (by rw [add_plain']; exact hW)]; exact hsrc j v hj
  have hcp2 : ∀ W, W.heap[g]? = some (.cells C1 56 (0, 0)) → W.heap[A]? = w.heap[A]? → ∀ ty dl dc, 0 < dl → (Builtin.copy_ #[26, 26] ty #[.slice (some ⟨g, i * 3, none⟩) dl dc, .slice (some ⟨A, 0, none⟩) 1 1]).run Tryz.prog W = .ok (goInt (Nat.min 1 dl)) (W.setRow g C2) := fun W hW hWA ty dl dc hdl => by
    rw [hC2]
    have hIB := dfBox_row (hWA.trans hx)
    refine run_copy_rowK_Dlc W _ _ ty 56 g (i * 3) _ dc ⟨A, 0, none⟩ _ 1 C1 56 (dfrC x) 3 Tryz.underlying26 infoSize_Dlc hW (by show 3 = min _ _ * 3; omega) (fun j u hj => ?_) (by simp only [List.length_cons, List.length_nil]; omega) (fun u hu => by simp at hu; rcases hu with rfl | rfl | rfl <;> rfl)
    obtain ⟨c0, c1, c2⟩ := hIB.cells
    rw [add_plain', Nat.zero_add]
    match j, hj with
    | 0, hj => simp at hj; subst hj; exact c0
    | 1, hj => simp at hj; subst hj; exact c1
    | 2, hj => simp at hj; subst hj; exact c2
  have HOWN : Hid (∀ W, W.heap[g]? = some (.cells C2 56 (0, 0)) → OwnD B W (.slice (some ⟨g, 0, none⟩) (L.length + 1) cap) (L.take i ++ x :: L.drop i)) := show ∀ W, _ → _ from fun W hW => by
    have hlen : (L.take i ++ x :: L.drop i).length = L.length + 1 := by simp; omega
    refine ⟨dfrCells_len _, .inr ⟨g, cap, C2, by rw [hlen], hbg, hW, by omega, hm, ?_, ?_⟩⟩
    · rw [hC2]; simp only [List.size_toArray, List.length_append, List.length_take, List.length_drop, Array.length_toList, hC1s, List.length_cons, List.length_nil]; omega
    · rw [hlen, hC2, hC1]
      simpa using rowD_shift (C := cur.toList) (by omega) (by simpa using hcs) hroom ht x
  have HG := Lib.hid hg
  have HX := Lib.hid hx
  have HC1 := Lib.hid hcp1; have HC2 := Lib.hid hcp2
  have hmm : cap ≤ 9223372036854775807 := by unfold maxLen at hm; omega
  have e1 : ((i : Int) == (L.length : Int)) = false := beq_eq_false_iff_ne.2 (by omega)
  have e2 : decide ((cap : Int) < (L.length : Int) + 1) = false := decide_eq_false (by omega)
  have e3 : ¬ ((cap : Int) < (L.length : Int) + 1) := by omega
  have s1 : (0 : Int) ≤ (i : Int) + 1 := by omega
  have s2 : ((i : Int) + 1).toNat = i + 1 := by omega
  have s3 : ¬ (cap = i + 1) := by omega
  have s4 : (i : Int) + 1 ≤ (L.length : Int) + 1 := by omega
  have s5 : ¬ (cap = i) := by omega
  have s6 : IntKind.i64.wrap ((i : Int) + 1) = (i : Int) + 1 := IntWalk.i64_in _ (by omega)
  have s7 : (i : Int) ≤ (L.length : Int) + 1 := by omega
  have s8 : (i : Int) ≤ (L.length : Int) := by omega
  clear hcell hsrc hC1 hC2 hC1s hcp1 hcp2 hg hx ht hcs hdl hm hbg HIB
  go_enter Tryz.func92, Tryz.ntmps92
  go_wp2_with (simp only [hov])
  clear hov
  go_still_tail 8, (by kernel_rfl)
  change wpList _ _ _ _ _ w.drew
  have HW1 : Hid ((w.drew.setRow g C1).heap[g]? = some (.cells C1 56 (0, 0))) := setRow_heap w.drew g cur C1 _ (0, 0) HG.out
  have HW2 : Hid ((w.drew.setRow g C1).heap[A]? = w.heap[A]?) := setRow_other w.drew g A C1 hne
  go_wp2_with (first
    | (refine wpList_copy_run_Dlc (o := ⟨some 77, _, _, _, _, _⟩) _ rfl (.tmp 73) (.tmp 76) 26 26 rfl _ _ rfl rfl (HC1.out w.drew rfl _ _ _) ?_)
    | (refine wpList_copy_run_Dlc (o := ⟨some 82, _, _, _, _, _⟩) _ rfl (.tmp 80) (.tmp 81) 26 26 rfl _ _ rfl rfl (HC2.out _ HW1.out HW2.out _ _ _ (by omega)) ?_))
  go_ret
  exact ⟨_, rfl, HOWN.out _ (setRow_heap _ g C1 C2 _ (0, 0) HW1.out), ⟨rfl, rfl, rfl, by simp, fun k hk hne2 => by
    have hkg : k ≠ g := fun e => hne2 (by rw [e]; rfl)
    rw [setRow_other _ g k C2 hkg, setRow_other _ g k C1 hkg]; rfl⟩⟩
theorem zc_len_Dlc (n : Nat) : (Builtin.zeroCells (dfrV zeroDfr).cells n).size = n * 3 := by rw [size_zeroCells]; rfl
set_option maxRecDepth 100000 in
set_option maxHeartbeats 4000000 in
theorem dInsert_grow (B g cap : Nat) (cur : Array Value) (L : List Dfr) (i : Nat) (A : Nat) (x : Dfr) (w : World) (hbw : B ≤ w.heap.size) (hbg : B ≤ g) (hg : w.heap[g]? = some (.cells cur 56 (0, 0))) (hm : cap ≤ maxLen) (hcs : cur.size = cap * 3)
    (ht : cur.toList.take (L.length * 3) = dfrCells L) (hi : i < L.length) (hle : L.length ≤ cap) (hroom : cap < L.length + 1) (hL : L.length ≤ 1000)
    (hx : w.heap[A]? = some (.cells #[.string x.n, .string x.d, .slice x.a x.z x.c] 56 (0, 0))) :
    Calls Tryz.prog 92 #[.slice (some ⟨g, 0, none⟩) L.length cap, .int .i64 i, .slice (some ⟨A, 0, none⟩) 1 1] w (InsD B (.slice (some ⟨g, 0, none⟩) L.length cap) (L.take i ++ x :: L.drop i) w) := by
  obtain ⟨i0, hi0, hz0, hz1, hz2⟩ := info_parts infoDf
  have hgl := (Array.getElem?_eq_some_iff.1 hg).1
  have hAl := (Array.getElem?_eq_some_iff.1 hx).1
  have hdl : (dfrCells (L.drop i)).length = (L.length - i) * 3 := by rw [dfrCells_len, List.length_drop]
  have htl : ((dfrCells L).take (i * 3)).length = i * 3 := by rw [List.length_take, dfrCells_len]; omega
  have hcell : ∀ j v, (dfrCells L)[j]? = some v → w.cell? ⟨g, j, none⟩ = some v := fun j v hj => by
    rw [cell_of_row w g j cur _ (0, 0) hg]
    rw [← ht, List.getElem?_take] at hj
    split at hj
    · simpa using hj
    · cases hj
  have hsrc : ∀ j v, (dfrCells (L.drop i))[j]? = some v → w.cell? ((⟨g, i * 3, none⟩ : Addr).add j) = some v := fun j v hj => by
    rw [add_plain']
    refine hcell _ _ ?_
    conv => lhs; rw [← List.take_append_drop i L, dfrCells_app]
    have hl : (dfrCells (L.take i)).length = i * 3 := by rw [dfrCells_len, List.length_take]; congr 1; omega
    rw [List.getElem?_append_right (by omega), hl, show i * 3 + j - i * 3 = j by omega]; exact hj
  have hold : (Builtin.firstCells i0.size i (.slice (some ⟨g, 0, none⟩) i cap)).run Tryz.prog w.drew = .ok ((dfrCells L).take (i * 3)).toArray w.drew := by
    rw [hz1]
    exact run_firstCells_some w.drew 3 i ⟨g, 0, none⟩ i cap ((dfrCells L).take (i * 3)) htl (fun j v hj => by
      rw [add_plain', Nat.zero_add]
      rw [List.getElem?_take] at hj
      split at hj
      · exact hcell j v hj
      · cases hj)
  obtain ⟨G, hG⟩ : ∃ G, G = grownCap w (L.length + 1) cap 56 := ⟨_, rfl⟩
  obtain ⟨Z, hZ⟩ : ∃ Z : List Value, Z = (Builtin.zeroCells (dfrV zeroDfr).cells (L.length + 1 - i) ++ Builtin.zeroCells (dfrV zeroDfr).cells (G - (L.length + 1))).toList := ⟨_, rfl⟩
  obtain ⟨C, hC⟩ : ∃ C : Array Value, C = ((dfrCells L).take (i * 3) ++ Z).toArray := ⟨_, rfl⟩
  have hGn : L.length + 1 ≤ G := by rw [hG]; exact grownCap_ge w _ _ _
  have hGm : G ≤ maxLen := by rw [hG]; exact grownCap_le_maxLen w _ _ _ (by unfold maxLen; omega)
  have hZl : Z.length = (L.length + 1 - i) * 3 + (G - (L.length + 1)) * 3 := by rw [hZ]; simp only [Array.toList_append, List.length_append, Array.length_toList, zc_len_Dlc]
  have hCs : C.size = G * 3 := by rw [hC]; simp only [List.size_toArray, List.length_append, htl, hZl]; omega
  have hkk : (L.length : Int) + 1 - (i : Int) = ((L.length + 1 - i : Nat) : Int) := by omega
  have hik : i + (L.length + 1 - i) = L.length + 1 := by omega
  have hrz : ∀ ty, (Builtin.append_ #[26, 3] ty #[.slice (some ⟨g, 0, none⟩) i cap, .int .i64 ((L.length : Int) + 1 - (i : Int))]).run Tryz.prog w =
      .ok (.slice (some ⟨w.heap.size, 0, none⟩) (L.length + 1) G) (w.drew.alloc (.cells C 56)) := fun ty => by
    have h := Lib.run_append_grow_zeros w 26 3 ty 56 i0 (dfrV zeroDfr) .i64 .i64 Tryz.underlying26 Tryz.underlying3 hi0 hz0 (some ⟨g, 0, none⟩) i cap ((dfrCells L).take (i * 3)) hold (L.length + 1 - i) (by omega) (by omega) (by omega) (by omega) (by rw [hz2]; omega) (by rw [hz2, hik]; exact growslice_fits hroom (by omega))
    rw [hik, ← hG] at h
    rw [hkk, h, hC, hZ]
    congr 3
    simp
  obtain ⟨D, hD⟩ : ∃ D : Array Value, D = (C.toList.take (i * 3) ++ dfrC x ++ C.toList.drop (i * 3 + (dfrC x).length)).toArray := ⟨_, rfl⟩
  obtain ⟨E, hE⟩ : ∃ E : Array Value, E = (D.toList.take ((i + 1) * 3) ++ dfrCells (L.drop i) ++ D.toList.drop ((i + 1) * 3 + (dfrCells (L.drop i)).length)).toArray := ⟨_, rfl⟩
  have hDs : D.size = G * 3 := by rw [hD]; simp only [List.size_toArray, List.length_append, List.length_take, List.length_drop, Array.length_toList, hCs, List.length_cons, List.length_nil]; omega
  have hEs : E.size = G * 3 := by rw [hE]; simp only [List.size_toArray, List.length_append, List.length_take, List.length_drop, Array.length_toList, hDs, hdl]; omega
  obtain ⟨N, hN⟩ : ∃ N, N = w.heap.size := ⟨_, rfl⟩
  rw [← hN] at hrz
  have hcp1 : ∀ W, W.heap[N]? = some (.cells C 56 (0, 0)) → W.heap[A]? = w.heap[A]? → ∀ ty dl dc, 0 < dl → (Builtin.copy_ #[26, 26] ty #[.slice (some ⟨N, i * 3, none⟩) dl dc, .slice (some ⟨A, 0, none⟩) 1 1]).run Tryz.prog W = .ok (goInt (Nat.min 1 dl)) (W.setRow N D) := fun W hW hWA ty dl dc hdl => by
    rw [hD]
    have hIB := dfBox_row (hWA.trans hx)
    refine run_copy_rowK_Dlc W _ _ ty 56 N (i * 3) _ dc ⟨A, 0, none⟩ _ 1 C 56 (dfrC x) 3 Tryz.underlying26 infoSize_Dlc hW (by show 3 = min _ _ * 3; omega) (fun j u hj => ?_) (by simp only [List.length_cons, List.length_nil]; omega) (fun u hu => by simp at hu; rcases hu with rfl | rfl | rfl <;> rfl)
    obtain ⟨c0, c1, c2⟩ := hIB.cells
    rw [add_plain', Nat.zero_add]
    match j, hj with
    | 0, hj => simp at hj; subst hj; exact c0
    | 1, hj => simp at hj; subst hj; exact c1
    | 2, hj => simp at hj; subst hj; exact c2
  have hcp2 : ∀ W, W.heap[N]? = some (.cells D 56 (0, 0)) → W.heap[g]? = w.heap[g]? → ∀ ty dc sc, (Builtin.copy_ #[26, 26] ty #[.slice (some ⟨N, (i + 1) * 3, none⟩) (L.length - i) dc, .slice (some ⟨g, i * 3, none⟩) (L.length - i) sc]).run Tryz.prog W = .ok (goInt (Nat.min (L.length - i) (L.length - i))) (W.setRow N E) := fun W hW hWg ty dc sc => by
    rw [hE]
    refine run_copy_rowK_Dlc W _ _ ty 56 N ((i + 1) * 3) _ dc ⟨g, i * 3, none⟩ _ sc D 56 (dfrCells (L.drop i)) 3 Tryz.underlying26 infoSize_Dlc hW (by rw [hdl]; show _ = min _ _ * 3; omega) (fun j v hj => ?_) (by omega) (fun u hu => dfrCells_one hu)
    rw [World.cell?_of_block (w := w) (by rw [add_plain']; exact hWg)]; exact hsrc j v hj
  have HOWN : Hid (∀ W, W.heap[N]? = some (.cells E 56 (0, 0)) → OwnD B W (.slice (some ⟨N, 0, none⟩) (L.length + 1) G) (L.take i ++ x :: L.drop i)) := show ∀ W, _ → _ from fun W hW => by
    have hlen : (L.take i ++ x :: L.drop i).length = L.length + 1 := by simp; omega
    refine ⟨dfrCells_len _, .inr ⟨N, G, E, by rw [hlen], by rw [hN]; exact hbw, hW, by omega, hGm, hEs, ?_⟩⟩
    rw [hlen, hE, hD, hC]
    simpa using rowD_grown (by omega) Z (by rw [hZl]; omega) x
  have HC1 := Lib.hid hcp1; have HC2 := Lib.hid hcp2; have HRZ := Lib.hid hrz
  have HX := Lib.hid hx; have HG := Lib.hid hg
  have hne : N ≠ g := by omega
  have hneA : N ≠ A := by omega
  have HN := Lib.hid hN
  have hmm : cap ≤ 9223372036854775807 := by unfold maxLen at hm; omega
  have hGG : G ≤ 9223372036854775807 := by unfold maxLen at hGm; omega
  have e1 : ((i : Int) == (L.length : Int)) = false := beq_eq_false_iff_ne.2 (by omega)
  have e2 : decide ((cap : Int) < (L.length : Int) + 1) = true := decide_eq_true (by omega)
  have e3 : ((cap : Int) < (L.length : Int) + 1) := by omega
  have s1 : (0 : Int) ≤ (i : Int) + 1 := by omega
  have s2 : ((i : Int) + 1).toNat = i + 1 := by omega
  have s3 : ¬ (cap = i + 1) ∨ cap = i + 1 := by omega
  have s5 : ¬ (cap = i) := by omega
  have s6 : IntKind.i64.wrap ((i : Int) + 1) = (i : Int) + 1 := IntWalk.i64_in _ (by omega)
  have s8 : (i : Int) ≤ (L.length : Int) := by omega
  have s9 : ¬ (G = i) := by omega
  have s10 : ¬ (G = i + 1) := by omega
  have s11 : (i : Int) + 1 ≤ (L.length : Int) + 1 := by omega
  have s12 : (i : Int) ≤ (L.length : Int) + 1 := by omega
  clear hcell hsrc hold hC hD hE hZ hG hCs hDs hEs hcp1 hcp2 hrz hg hx ht hcs hdl htl hZl hm hGm hkk hik hi0 hz0 hz1 hz2 hN s3
  go_enter Tryz.func92, Tryz.ntmps92
  have HW1 : Hid ((w.alloc (.cells C 56)).drew.heap[N]? = some (.cells C 56 (0, 0))) := show _ = _ by rw [HN.out]; exact heap_alloc_new w _
  have HWA : Hid ((w.alloc (.cells C 56)).drew.heap[A]? = w.heap[A]?) := heap_alloc_old w _ hAl
  have HWg : Hid ((w.alloc (.cells C 56)).drew.heap[g]? = w.heap[g]?) := heap_alloc_old w _ hgl
  go_wp2_with (first
    | (at_builtin; refine Lib.wpList_append_run _ rfl _ _ _ _ rfl _ _ rfl rfl _ _ (HRZ.out _) ?_)
    | (refine wpList_copy_run_Dlc (o := ⟨some 45, _, _, _, _, _⟩) _ rfl (.tmp 43) (.tmp 44) 26 26 rfl _ _ rfl rfl (HC1.out (w.alloc (.cells C 56)).drew HW1.out HWA.out _ _ _ (by omega)) ?_))
  have HV1 : Hid (((w.alloc (.cells C 56)).drew.setRow N D).heap[N]? = some (.cells D 56 (0, 0))) := setRow_heap _ N C D _ (0, 0) HW1.out
  have HVg : Hid (((w.alloc (.cells C 56)).drew.setRow N D).heap[g]? = w.heap[g]?) := (setRow_other _ N g D (fun e => hne e.symm)).trans HWg.out
  go_still_tail 8, (by kernel_rfl)
  change wpList _ _ _ _ _ ((w.alloc (.cells C 56)).drew.setRow N D).drew
  go_wp2_with (refine wpList_copy_run_Dlc (o := ⟨some 54, _, _, _, _, _⟩) _ rfl (.tmp 50) (.tmp 53) 26 26 rfl _ _ rfl rfl (HC2.out ((w.alloc (.cells C 56)).drew.setRow N D).drew HV1.out HVg.out _ _ _) ?_)
  go_ret
  exact ⟨_, rfl, HOWN.out _ (setRow_heap _ N D E _ (0, 0) HV1.out), ⟨rfl, rfl, rfl, by simp, fun k hk hne2 => by
    have hkN : k ≠ N := by have := HN.out; omega
    rw [setRow_other _ N k E hkN]
    show ((w.alloc (.cells C 56)).drew.setRow N D).heap[k]? = _
    rw [setRow_other _ N k D hkN]
    exact heap_alloc_old w _ hk⟩⟩
theorem dInsert_any (B : Nat) (vs : Value) (L : List Dfr) (i A : Nat) (x : Dfr) (w : World) (hown : OwnD B w vs L) (hi : i ≤ L.length) (hL : L.length ≤ 1000) (hB : B ≤ w.heap.size)
    (hx : w.heap[A]? = some (.cells #[.string x.n, .string x.d, .slice x.a x.z x.c] 56 (0, 0))) (hne : vs.ownBlock ≠ some A) :
    Calls Tryz.prog 92 #[vs, .int .i64 i, .slice (some ⟨A, 0, none⟩) 1 1] w (InsD B vs (L.take i ++ x :: L.drop i) w) := by
  by_cases he : i = L.length
  · subst he
    rw [List.take_length, List.drop_length]
    exact dInsert_end B vs L A x w hown hL hB (dfBox_row hx)
  · have hlt : i < L.length := by omega
    rcases hown.2 with ⟨rfl, h0⟩ | ⟨g, cap, cur, rfl, hbg, hg, hle, hm, hcs, ht⟩
    · omega
    · have hAg : A ≠ g := fun e => hne (by rw [e]; rfl)
      by_cases hroom : L.length + 1 ≤ cap
      · exact dInsert_room B g cap cur L i A x w hbg hg hm hcs ht hlt hroom hx hAg
      · exact dInsert_grow B g cap cur L i A x w hB hbg hg hm hcs ht hlt hle (by omega) hL hx
end Go.Proofs.YtalknbadakfppaaGreat

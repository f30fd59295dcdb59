/-
  Contracts over this translation: stream.Feed.
-/
import Derived.Test.YtciajgdjddepdaaDoorSti
import Derived.WalkMore
import Derived.OwnWalkIn
set_option linter.unusedVariables false
namespace Go.Proofs.YtciajgdjddepdaaDoor
open Go.RowKit Go.Shelf
attribute [local go_sem] Oper.semAt_some

abbrev sV (r : ByteArray) : Value := .agg #[.string r]
/-- A slice of strings in a row of its own kind: what reads, and can't be touched through another kind's row. -/
def OwnS (w : World) (v : Value) (L : List ByteArray) : Prop := w.ownsRow 0 9 1 v L.length (strCells L)
theorem OwnS.strs {w : World} {v : Value} {L : List ByteArray} (h : OwnS w v L) : IsStrs w v L := IsStrs.of_owns h
theorem OwnS.stays {w w' : World} {v : Value} {L : List ByteArray} (h : OwnS w v L) (hb : Below w.heap.size w w') : OwnS w' v L :=
  World.ownsRow.kept h (grownBy_of_below hb) (by cases hv : v.ownBlock <;> simp)
theorem OwnS.of {w : World} {base : Nat} {v : Value} {L : List ByteArray} (h : w.ownsRow base 9 1 v L.length (strCells L)) : OwnS w v L := by
  obtain ⟨h1, h2⟩ := h
  refine ⟨h1, h2.imp (fun h => h) fun ⟨g, cap, cur, a, b, c⟩ => ⟨g, cap, cur, a, Nat.zero_le _, c⟩⟩
theorem OwnS.set {w : World} {v : Value} {L : List ByteArray} {A : Nat} {xs : Array Value} {T : TypeId} (h : OwnS w v L) (hA : Row w A xs T) (hT : T ≠ 9) (u : Value) : OwnS (w.setCell ⟨A, 0, none⟩ u) v L := by
  refine World.ownsRow.kept h (grownBy_setCell' _ _ _) (.inr fun e => ?_)
  rcases h.2 with ⟨rfl, _⟩ | ⟨g, cap, cur, rfl, _, hg, _⟩
  · cases e
  · cases e
    rw [show w.heap[g]? = _ from hA] at hg
    cases hg; exact hT rfl
/-- What a stream behind more bytes comes to. -/
def RetFeed (c : List UInt8 → Nat) (mx : Nat) (l : List UInt8) (w : World) (e : Ending) (w' : World) : Prop :=
  ∃ v, e = .returned (.tuple #[sV ⟨(left c mx l).toArray⟩, v]) ∧ OwnS w' v (strsOf (fed c mx l)) ∧ Below w.heap.size w w'

/-- The boxes when the loop begins. -/
theorem feed_start (w : World) (p0 p1 p2 p3 p4 : Array Value) (t0 t1 t2 t3 t4 : TypeId) :
    ∃ V, V = ((((w.alloc (.cells p0 t0)).alloc (.cells p1 t1)).alloc (.cells p2 t2)).alloc (.cells p3 t3)).alloc (.cells p4 t4) ∧
      Row V (w.heap.size + 1 + 1) p2 t2 ∧ Row V (w.heap.size + 1 + 1 + 1) p3 t3 ∧ Row V (w.heap.size + 1 + 1 + 1 + 1) p4 t4 ∧ Below w.heap.size w V ∧ V.heap.size = w.heap.size + 1 + 1 + 1 + 1 + 1 := by
  refine ⟨_, rfl, ?_, ?_, ?_, ?_, by simp⟩
  · have := ((Row.made ((w.alloc (.cells p0 t0)).alloc (.cells p1 t1)) p2 t2).alloc (.cells p3 t3)).alloc (.cells p4 t4)
    simpa using this
  · have := (Row.made (((w.alloc (.cells p0 t0)).alloc (.cells p1 t1)).alloc (.cells p2 t2)) p3 t3).alloc (.cells p4 t4)
    simpa using this
  · have := Row.made ((((w.alloc (.cells p0 t0)).alloc (.cells p1 t1)).alloc (.cells p2 t2)).alloc (.cells p3 t3)) p4 t4
    simpa using this
  · exact (((((Below.refl _ _).alloc (Nat.le_refl _) _).alloc (by simp) _).alloc (by simp; omega) _).alloc (by simp; omega) _).alloc (by simp; omega) _

/-- What the loop of Feed holds: the pieces that have come, in a slice of the call's own; the result's box. -/
def feedI (b : Nat) (pre : List ByteArray) (W : World) : Prop :=
  b + 1 + 1 + 1 + 1 + 1 + 1 ≤ W.heap.size ∧ Row W (b + 1 + 1) #[.string ⟨#[]⟩] 25 ∧ ∃ v, Boxed W (b + 1 + 1 + 1 + 1) 28 v ∧ W.ownsRow (b + 1 + 1 + 1 + 1 + 1 + 1) 9 1 v pre.length (strCells pre)
theorem feedI_own (b : Nat) : Own (feedI b) := by
  rintro pre A B row ⟨h0, h1, v, h2, h3⟩ hg hr
  refine ⟨Nat.le_trans h0 hg.size, row_keep h1 hg hr, v, boxed_keep h2 hg hr, h3.kept hg ?_⟩
  rcases hob : v.ownBlock with _ | g
  · exact .inl rfl
  · refine .inr fun h => ?_
    obtain ⟨o, ho, hc⟩ := hr g h.symm
    rcases h3.2 with ⟨rfl, _⟩ | ⟨g', cap, cur, rfl, _, hgg, _⟩
    · cases hob
    · cases hob
      rw [hgg] at ho; cases ho; cases hc
theorem feedI_write (b : Nat) {pre : List ByteArray} {X Y : World} (h : feedI b pre X) (hg : X.grownBy Y (some (b + 1 + 1 + 1))) : feedI b pre Y := by
  obtain ⟨h0, h1, v, h2, h3⟩ := h
  refine ⟨Nat.le_trans h0 hg.size, row_grown h1 hg (by omega), v, h2.kept hg (fun e => by cases e), h3.kept hg (.inr fun e => ?_)⟩
  have := (h3.lt _ e).1
  omega

set_option maxRecDepth 100000 in
set_option maxHeartbeats 4000000 in
theorem Feed_any (mn av b mx : Nat) (hF : FitAt mn av mx b) (r s : ByteArray) (q : ByteArray) (hq : q = r ++ s) (hs : r.size + s.size ≤ 1000000) (w : World) (hT : Tabs w) :
    Calls Tryd.prog 9 #[pV mn av mx, sV r, .string s] w (RetFeed (cutN mn b mx) mx q.data.toList w) := by
  have hqs : q.size ≤ 1000000 := by rw [hq, ByteArray.size_append]; exact hs
  have HQ := Lib.hid hq
  clear hq
  refine (callsIn_wide (n := 5)).1 ?_
  have hro : Fence.wide.round = none := rfl
  refine callsIn_of_wp_marks Tryd.func9 rfl trivial ?_ hro
  simp only [Tryd.ntmps9, List.size_toArray, List.length_cons, List.length_nil, Nat.reduceAdd, Nat.reduceSub, Array.replicate_succ, Array.replicate_zero, List.push_toArray, List.append_toArray, List.nil_append, List.cons_append]
  have hsum : ¬ 9223372036854775807 < r.size + s.size := by omega
  refine wpIn_wide.2 ?_
  go_wp2_with fail
  rw [← HQ.out]
  obtain ⟨V, hV, hR2, hR3, hR4, hBV, hVs⟩ := feed_start w #[.int .i64 mn, .int .i64 av, .int .i64 mx] #[.string r] #[.string ⟨#[]⟩] (wC q mn av mx) #[.slice none 0 0] 23 25 25 40 28
  rw [← hV]
  have hTV := hT.stays hBV
  have h1b : 1 < w.heap.size := World.block_lt_of_cell? _ _ (hT 0 (by decide))
  obtain ⟨B, hB⟩ : ∃ B, B = w.heap.size := ⟨_, rfl⟩
  rw [← hB] at hR2 hR3 hR4 hVs h1b hBV ⊢
  have HBZ := Lib.hid hB
  clear hV hT hsum hB
  refine (surePieces_any _ _).mono ?_
  rintro e V1 ⟨rfl, rfl⟩
  rw [hVs]
  obtain ⟨V1, hV1⟩ : ∃ V1, V1 = V.alloc (.cells #[.pointer (some ⟨B + 1 + 1 + 1, 0, none⟩)] 47) := ⟨_, rfl⟩
  have hR5 : Row V1 (B + 1 + 1 + 1 + 1 + 1) #[.pointer (some ⟨B + 1 + 1 + 1, 0, none⟩)] 47 := by rw [hV1, ← hVs]; exact Row.made _ _ _
  have hb1 : Below V.heap.size V V1 := by rw [hV1]; exact (Below.refl _ _).alloc (Nat.le_refl _) _
  have hV1s : V1.heap.size = B + 1 + 1 + 1 + 1 + 1 + 1 := by rw [hV1, World.size_alloc, hVs]
  rw [← hV1]
  replace hR2 := hR2.step hb1; replace hR3 := hR3.step hb1; replace hR4 := hR4.step hb1; replace hTV := hTV.stays hb1
  have hB1 : Below B w V1 := hBV.trans (hb1.mono (by omega))
  clear hV1 hb1 hBV
  go_wp2_with fail
  obtain ⟨i0, hi, hz0, hz1, hz2⟩ := info_parts infoStr
  refine (wpIn_wide (n := 5)).1 ?_
  refine wpIn_rangeFunc_all hro (by decide) (gf := 22) (lb := #[.pointer (some ⟨B + 1 + 1 + 1 + 1 + 1, 0, none⟩)]) rfl trivial (enters_of Tryd.func22 (by kernel_rfl) rfl)
    (sure1_all 4 (by decide) mn av b mx hF (B + 1 + 1 + 1) (B + 1 + 1 + 1 + 1 + 1) (B + 1 + 1 + 1 + 1) (B + 1 + 1 + 1 + 1 + 1 + 1) (by omega) (by omega) (by omega) (by omega) (by omega) (by omega) (by omega) q hqs V1 hR3 hR5 hTV)
    (fun h k => fun i hi hne => (k i hi hne).trans (h i hi hne)) (fun W l o o' hl h _ i hi hne => World.putObj_heap_other (by omega)) (Below.refl _ _) (by omega) (fun _ => rfl)
    (fun xs W l o' hl h => ⟨h.1, (World.putObj_heap_other (by omega)).trans h.2⟩)
    (fun pre W => feedI B pre W ∧ Below B w W)
    (OwnFrom.and (Own.from (feedI_own B) _) (ownFrom_below (by rw [HBZ.out]; exact Nat.le_refl _) (by omega)))
    (fun pre X Y h hg => ⟨feedI_write B h.1 hg, h.2.grown hg (by have := h.2.size; rw [← HBZ.out] at this; exact this) (fun j e => by cases e; omega)⟩)
    ⟨⟨by rw [hV1s]; exact Nat.le_refl _, hR2, _, hR4, World.ownsRow_nil _ _ _ _⟩, hB1⟩
    (fun x => { tmps := #[pV mn av mx, sV r, .string s, .pointer (some ⟨B, 0, none⟩), .pointer (some ⟨B + 1, 0, none⟩), undef, .pointer (some ⟨B + 1 + 1, 0, none⟩), .slice none 0 0, .pointer (some ⟨B + 1 + 1 + 1, 0, none⟩), .pointer (some ⟨B + 1 + 1 + 1 + 1, 0, none⟩), .string x, sV r, pV mn av mx, .agg #[.string r, .int .i64 mn, .int .i64 av, .int .i64 mx], .pointer (some ⟨B + 1 + 1 + 1, 0, none⟩), .pointer (some ⟨B + 1 + 1 + 1, 0, none⟩), .string r, .string s, .string q, .pointer (some ⟨B + 1 + 1 + 1, 0, none⟩), .pointer (some ⟨B + 1 + 1 + 1, 0, none⟩), .func (.func 22) #[] #[.pointer (some ⟨B + 1 + 1 + 1 + 1 + 1, 0, none⟩)], .string x, undef, undef, undef, undef, undef, undef, undef, undef, undef, undef, undef, undef, undef], defers := [] }) ?assign ?body ?done
  case assign =>
    intro l x W K hK
    gi_wp2
    exact hK
  case body =>
    rintro l pre x W ⟨⟨hz, hR, v, hbx, hown⟩, hB⟩ hlen
    rw [← Lib.size_eq] at hlen
    have c0 := hbx.cell
    have f0 := hbx.frozen
    clear hR2 hR3 hR4 hR5 hTV hB1 hV1s hVs
    have hb1 : pre.length + 1 ≤ maxLen := by unfold maxLen; omega
    have hb2 : (pre.length + 1) * 16 ≤ 140737488355328 := by omega
    have hlt := hown.lt
    have hb3 : B + 1 + 1 + 1 + 1 + 1 + 1 ≤ (W.alloc (.cells #[.string x] 9)).heap.size := by rw [World.size_alloc]; omega
    gi_wp2_with
      (gi_at_builtin
       refine wpListIn_append_own _ rfl _ _ 28 rfl (B + 1 + 1 + 1 + 1 + 1 + 1) 9 i0 (.string ⟨#[]⟩) 1 16 Tryd.underlying28 hi hz0 hz1 hz2 rfl (by decide) _ _ _ rfl (hown.alloc _) ⟨W.heap.size, 0, none⟩ 1 1 [.string x] rfl rfl cell_one ?_ hb1 hb2 hb3 ?_
       · intro u hu; simp at hu; subst hu; rfl
       intro v' w2 hown' hgrow _
       have e0 : Boxed w2 (B + 1 + 1 + 1 + 1) 28 v := (hbx.alloc _).kept hgrow (fun e => by have := (hlt _ e.symm).1; omega)
       have d0 := e0.cell; have m0 := e0.frozen; clear c0 f0; obtain ⟨g, cap, rfl⟩ := ownsRow_succ hown')
    replace hgrow : (W.alloc (.cells #[.string x] 9)).grownBy w2 v.ownBlock := hgrow
    have hk : KeepsOthers W w2 := (KeepsOthers.alloc _ _).trans (KeepsOthers.of_grownBy hgrow (fun j o hj ho => by
      rcases (hown.alloc (.cells #[.string x] 9)).2 with ⟨rfl, _⟩ | ⟨g', cap', cur, rfl, _, hgg, _⟩
      · cases hj
      · cases hj
        rw [hgg] at ho; cases ho; rfl))
    have hsz2 : W.heap.size ≤ w2.heap.size := Nat.le_trans (by simp) hgrow.size
    have hblk : ∀ k, k < W.heap.size → k < B + 1 + 1 + 1 + 1 + 1 + 1 → w2.heap[k]? = W.heap[k]? := fun k hk hk6 =>
      (hgrow.block k (by simp; omega) (fun e => by have := (hlt _ e.symm).1; omega)).trans (Below.heap_alloc _ _ _ hk)
    have hg6 := (hown'.lt g rfl).1
    have hbw : Below B w w2 := (hB.alloc (by omega) _).grown hgrow (by simp; omega) (fun j hj => by have := (hlt j hj).1; omega)
    refine ⟨hk.trans (KeepsOthers.setCell _ _ _), fun k hk6 hne => (Below.heap_setCell _ _ _ k hne).trans (hblk k (by omega) hk6), ⟨?_, ?_, _, e0.set _, ?_⟩, hbw.setCell (p := ⟨B + 1 + 1 + 1 + 1, 0, none⟩) (by show B ≤ B + 1 + 1 + 1 + 1; omega) _⟩
    · have := (KeepsWalks.setCell w2 ⟨B + 1 + 1 + 1 + 1, 0, none⟩ (.slice (some ⟨g, 0, none⟩) (pre.length + 1) cap)).size
      omega
    · exact (Below.heap_setCell _ _ _ (B + 1 + 1) (show B + 1 + 1 ≠ B + 1 + 1 + 1 + 1 by omega)).trans ((hblk (B + 1 + 1) (by omega) (by omega)).trans hR)
    · rw [List.length_append, strCells_app]
      exact hown'.kept (grownBy_setCell' _ _ _) (.inr (by simp [Value.ownBlock]; omega))
  case done =>
    rintro D xs W hD ⟨hxs, hRw⟩ ⟨⟨hz, hR, v, hbx, hown⟩, hB⟩ hK
    have hys : (left (cutN mn b mx) mx q.data.toList).toArray.size ≤ 281474976710656 := by
      have := left_le (cutN_sure (mn := mn) (b := b) (mx := mx) (by have := hF.h1; omega) (by have := hF.h2; have := hF.h3; omega)) q.data.toList
      rw [← Lib.size_eq] at this
      simp; omega
    have CL := Lib.hid (fun W => Clone_any ⟨(left (cutN mn b mx) mx q.data.toList).toArray⟩ hys W)
    obtain ⟨y, hy⟩ : ∃ y : ByteArray, y = ⟨(left (cutN mn b mx) mx q.data.toList).toArray⟩ := ⟨_, rfl⟩
    rw [← hy] at CL hRw
    have HY := Lib.hid hy; have HXS := Lib.hid hxs; have HS1 := Lib.hid hV1s
    clear hR2 hR3 hR4 hR5 hTV hB1 hys hy hxs hVs hV1s
    have c3 := hRw.cell 0
    simp only [List.getElem?_toArray, List.getElem?_cons_zero] at c3
    go_wp2_with fail
    refine (CL.out _).mono ?_
    rintro e w2 ⟨rfl, hb2⟩
    have hD1 : D < W.heap.size := (Array.getElem?_eq_some_iff.1 hK).1
    replace hK := (hb2.block D hD1).trans hK
    replace hown := hown.kept (grownBy_of_below hb2) (by cases hv : v.ownBlock <;> simp)
    replace hRw := hRw.step hb2; replace hR := hR.step hb2
    replace hbx : Boxed w2 _ _ _ := Row.step hbx hb2
    replace hz := hb2.size
    replace hB := hB.trans (hb2.mono (by have := hB.size; rw [← HBZ.out] at this; exact this))
    clear c3 hb2
    have c3 := hRw.cell 0
    have f3 := hRw.free 0
    simp only [List.getElem?_toArray, List.getElem?_cons_zero] at c3
    go_wp2_with fail
    obtain ⟨W3, hW3⟩ : ∃ W3, W3 = w2.setCell ⟨B + 1 + 1 + 1, 0, none⟩ (.string y) := ⟨_, rfl⟩
    have gR3 : Row W3 (B + 1 + 1 + 1) (wC y mn av mx) 40 := by rw [hW3]; exact hRw.set 0 _
    have gR2 : Row W3 (B + 1 + 1) #[.string ⟨#[]⟩] 25 := by rw [hW3]; exact hR.other _ _ (by show B + 1 + 1 ≠ B + 1 + 1 + 1; omega)
    have gbx : Row W3 (B + 1 + 1 + 1 + 1) #[v] 28 := by rw [hW3]; exact Row.other hbx _ _ (by show B + 1 + 1 + 1 + 1 ≠ B + 1 + 1 + 1; omega)
    have gown : W3.ownsRow (B + 1 + 1 + 1 + 1 + 1 + 1) 9 1 v xs.length (strCells xs) := by
      rw [hW3]; exact hown.kept (grownBy_setCell' _ _ _) (.inr fun e => by have := (hown.lt _ e).1; omega)
    have gB : Below B w W3 := by rw [hW3]; exact hB.setCell (p := ⟨B + 1 + 1 + 1, 0, none⟩) (by show B ≤ B + 1 + 1 + 1; omega) _
    have gK : W3.heap[D]? = some (.deferred (some [])) := by rw [hW3]; exact (Below.heap_setCell _ _ _ D (by show D ≠ B + 1 + 1 + 1; have := HS1.out; omega)).trans hK
    have gz : W.heap.size ≤ W3.heap.size := by rw [hW3]; exact Nat.le_trans hz (KeepsWalks.setCell w2 ⟨B + 1 + 1 + 1, 0, none⟩ (.string y)).size
    rw [← hW3]
    clear hW3 hRw hR hbx hown hB hK hz c3 f3
    have c3 := gR3.cell 0; have c2 := gR2.cell 0; have f2 := gR2.free 0; have c4 := gbx.cell 0
    simp only [List.getElem?_toArray, List.getElem?_cons_zero] at c3 c2 c4
    have HB := Lib.hid gB; have HK := Lib.hid gK; have HO := Lib.hid gown; have HR2 := Lib.hid gR2
    clear gB gK gown gR3 gR2 gbx
    go_region
    obtain ⟨W4, hW4⟩ : ∃ W4, W4 = (W3.setCell ⟨B + 1 + 1, 0, none⟩ (.string y)).drew := ⟨_, rfl⟩
    have hD6 : B + 1 + 1 + 1 + 1 + 1 + 1 ≤ D := by have := HS1.out; omega
    have gK : W4.heap[D]? = some (.deferred (some [])) := by rw [hW4]; exact (Below.heap_setCell W3 ⟨B + 1 + 1, 0, none⟩ _ D (by show D ≠ B + 1 + 1; omega)).trans HK.out
    have gB : Below B w W4 := by rw [hW4]; exact (HB.out.setCell (p := ⟨B + 1 + 1, 0, none⟩) (by show B ≤ B + 1 + 1; omega) _).drew
    have gO : W4.ownsRow (B + 1 + 1 + 1 + 1 + 1 + 1) 9 1 v xs.length (strCells xs) := by
      rw [hW4]
      have : (W3.setCell ⟨B + 1 + 1, 0, none⟩ (.string y)).ownsRow (B + 1 + 1 + 1 + 1 + 1 + 1) 9 1 v xs.length (strCells xs) := HO.out.kept (grownBy_setCell' _ _ _) (.inr fun e => by have := (HO.out.lt _ e).1; omega)
      exact this
    have gc : W4.cell? ⟨B + 1 + 1, 0, none⟩ = some (.string y) := by
      have := (HR2.out.set 0 (.string y)).cell 0
      rw [hW4]; exact this
    have gD : D < W4.heap.size := (Array.getElem?_eq_some_iff.1 gK).1
    rw [← hW4]
    clear hW4 f2 c3 c2 c4 gz HB HK HO
    have HB := Lib.hid gB; have HO := Lib.hid gO
    clear gB gO
    go_wp2
    refine ⟨by simp, .inl ⟨_, _, rfl, run_takeDeferred gK, ?_⟩⟩
    have hg := grownBy_putObj' W4 D (.deferred none)
    have gc2 : (W4.putObj D (.deferred none)).cell? ⟨B + 1 + 1, 0, none⟩ = some (.string y) := by
      rw [World.cell?_of_block (World.putObj_heap_other (by show B + 1 + 1 ≠ D; omega))]; exact gc
    have gO2 := HO.out.kept hg (.inr fun e => by
      rcases HO.out.2 with ⟨rfl, _⟩ | ⟨g', cap, cur, rfl, _, hgg, _⟩
      · cases e
      · cases e
        rw [hgg] at gK; cases gK)
    have hst := OwnS.of gO2
    have hxs : xs = strsOf (fed (cutN mn b mx) mx q.data.toList) := by rw [← HXS.out, strsOf_txts]
    refine ⟨.tuple #[sV y, v], ?_, ?_⟩
    · simp [results, Tryd.f9, go_sem, gc2]
    · refine ⟨v, by rw [HY.out], by rw [← hxs]; exact hst, ?_⟩
      rw [← HBZ.out]
      exact HB.out.grown hg (by omega) (fun j e => by cases e; omega)
end Go.Proofs.YtciajgdjddepdaaDoor

/-
  Contracts over this translation: path.Split.
-/
import Derived.Test.YtlccihidedfemaaGreatDoorQb5
import Derived.Test.YtlccihidedfemaaGreatDoorQb3
import Derived.Test.YtlccihidedfemaaGreatDoorQb2
import Derived.BigRegion
set_option linter.unusedVariables false
namespace Go.Proofs.YtlccihidedfemaaGreatDoor
open Go.RowKit Go.Shelf
attribute [local go_sem] Oper.semAt_some
def splitI (w : World) (pre : List NameS) (W : World) : Prop :=
 (∃ v, Boxed W w.heap.size 38 v ∧ W.ownsRow (w.heap.size + 10) 9 1 v pre.length (strCells (vals pre))) ∧ Below w.heap.size w W
theorem wp_store_slice {o : Oper} {a : Act} {K : Act → World → Prop} {Q : Exit → Act → World → Prop} {w : World} (ho : o.op = .store 38 (.tmp 3) (.tmp 12)) {B : Nat} {u : Value} {ad : Option Addr} {n c : Nat}
  (hx : a.eval (.tmp 3) = .pointer (some ⟨B, 0, none⟩)) (hy : a.eval (.tmp 12) = .slice ad n c) (hc : w.cell? ⟨B, 0, none⟩ = some u) (hf : w.frozen? ⟨B, 0, none⟩ = false)
  (hk : K (a.put o.dst undef) (w.setCell ⟨B, 0, none⟩ (.slice ad n c))) : o.wp Tryz.prog a w K Q := by
 refine wp_skip (w' := w.setCell ⟨B, 0, none⟩ (.slice ad n c)) ?_ hk
 unfold execOp
 rw [ho]
 simp only [hx, hy]
 go_simp
theorem wpAny_at {P : Program} {md : Region.Mode} {ops : Array Oper} {Q : Exit → Act → World → Prop} {f : Nat} {listed listed' : Array Bool} {a a' : Act} {w : World} (ha : a = a') (hl : listed = listed') (h : wpAny P md ops Q f listed' a' w) : wpAny P md ops Q f listed a w := by
 rw [ha, hl]; exact h
theorem wp_load_slice {o : Oper} {a : Act} {K : Act → World → Prop} {Q : Exit → Act → World → Prop} {w : World} (ho : o.op = .load 38 (.tmp 3)) {B : Nat} {v : Value}
  (hx : a.eval (.tmp 3) = .pointer (some ⟨B, 0, none⟩)) (hc : w.cell? ⟨B, 0, none⟩ = some v) (hk : K (a.put o.dst v) w) : o.wp Tryz.prog a w K Q := by
 refine wp_value (w' := w) ?_ hk
 unfold execOp
 rw [ho]
 simp only [hx]
 go_simp
theorem wp_build_one {o : Oper} {a : Act} {K : Act → World → Prop} {Q : Exit → Act → World → Prop} {w : World} (ho : o.op = .buildSlice 38 1 #[(0, .tmp 10)]) {x : ByteArray}
  (hx : a.eval (.tmp 10) = .string x) (hk : K (a.put o.dst (.slice (some ⟨w.heap.size, 0, none⟩) 1 1)) (w.alloc (.cells #[.string x] 9))) : o.wp Tryz.prog a w K Q := by
 refine wp_value (v := .slice (some ⟨w.heap.size, 0, none⟩) 1 1) (w' := w.alloc (.cells #[.string x] 9)) ?_ hk
 have f : a.tmps[10]?.getD undef = .string x := by
  have h : a.tmps.getD 10 undef = .string x := hx
  rwa [Array.getD_eq_getD_getElem?] at h
 unfold execOp
 rw [ho]
 go_simp
theorem split_round {w W Wd W2 w3 : World} {D0 g cap : Nat} {pre : List NameS} {x : NameS} {v : Value}
  (hA : ∀ b, (winA (D0 + 2) b ∨ b = D0 ∨ b = D0 + 1) → w.heap.size + 2 ≤ b ∧ b < w.heap.size + 10)
  (hKd : KeepsAt (fun _ => True) W Wd) (hZ : Wd.heap.size = W.heap.size) (hB : Below w.heap.size w W2) (hK2 : KeepsAt (fun k => k < Wd.heap.size) Wd W2) (hz2 : Wd.heap.size ≤ W2.heap.size) (hsz : w.heap.size + 10 ≤ W.heap.size)
  (hO : W2.ownsRow (w.heap.size + 10) 9 1 v pre.length (strCells (vals pre)))
  (hown' : w3.ownsRow (w.heap.size + 10) 9 1 (.slice (some ⟨g, 0, none⟩) (pre.length + 1) cap) (pre.length + 1) (strCells (vals pre) ++ [.string x.1]))
  (hgrow : (W2.alloc (.cells #[.string x.1] 9)).grownBy w3 v.ownBlock) (e0 : Boxed w3 w.heap.size 38 v) :
  KeepsAt (fun k => winA (D0 + 2) k ∨ k = D0 ∨ k = D0 + 1) W (w3.setCell ⟨w.heap.size, 0, none⟩ (.slice (some ⟨g, 0, none⟩) (pre.length + 1) cap)) ∧
   splitI w (pre ++ [x]) (w3.setCell ⟨w.heap.size, 0, none⟩ (.slice (some ⟨g, 0, none⟩) (pre.length + 1) cap)) := by
 have hlt := hO.lt
 have hg6 := (hown'.lt g rfl).1
 refine ⟨fun k hk => ?_, ⟨_, e0.set _, ?_⟩, ?_⟩
 ·obtain ⟨h1, h2⟩ := hA k hk
  rw [Below.heap_setCell _ _ _ k (show k ≠ w.heap.size by omega), hgrow.block k (by simp; omega) (fun e => by have := (hlt _ e.symm).1; omega), Below.heap_alloc _ _ _ (by omega), hK2 k (by omega), hKd k trivial]
 ·rw [List.length_append, vals_snoc, strCells_app]
  exact hown'.kept (grownBy_setCell' _ _ _) (.inr (by simp [Value.ownBlock]; omega))
 ·exact ((hB.alloc (by omega) _).grown hgrow (by simp; omega) (fun j hj => by have := (hlt j hj).1; omega)).setCell (p := ⟨w.heap.size, 0, none⟩) (Nat.le_refl _) _
set_option maxRecDepth 100000 in
set_option maxHeartbeats 4000000 in
theorem Split_any (s : ByteArray) (hs : s.size ≤ 100000) (w : World) :
  Calls Tryz.prog 99 #[.string s] w (RetL (splitS s.data.toList) w) := by
 have NM := Lib.hid (names_any s)
 have JN := Lib.hid Join_any
 refine (callsIn_wide (n := 9)).1 ?_
 have hro : Fence.wide.round = none := rfl
 refine callsIn_of_wp_marks Tryz.func99 rfl trivial ?_ hro
 simp only [Tryz.ntmps99, List.size_toArray, List.length_cons, List.length_nil, Nat.reduceAdd, Nat.reduceSub, Array.replicate_succ, Array.replicate_zero, List.push_toArray, List.append_toArray, List.nil_append, List.cons_append]
 refine wpIn_wide.2 ?_
 go_wp2_with fail
 refine (NM.out _).mono ?_
 rintro e V1 ⟨rfl, rfl⟩
 obtain ⟨V, hV⟩ : ∃ V, V = (w.alloc (.cells #[.slice none 0 0] 38)).alloc (.cells #[.string s] 9) := ⟨_, rfl⟩
 have hbx : Boxed V w.heap.size 38 (.slice none 0 0) := by rw [hV]; exact (Row.made w _ _).alloc _
 have hR : Row V (w.heap.size + 1) #[.string s] 9 := by
  rw [hV]; have := Row.made (w.alloc (.cells #[.slice none 0 0] 38)) #[.string s] 9; rwa [World.size_alloc] at this
 have hBV : Below w.heap.size w V := by rw [hV]; exact (((Below.refl _ w).alloc (Nat.le_refl _) _).alloc (by simp) _)
 have hVs : V.heap.size = w.heap.size + 2 := by rw [hV]; simp
 rw [World.size_alloc, ← hV]
 clear hV
 go_wp2_with fail
 obtain ⟨i0, hi, hz0, hz1, hz2⟩ := info_parts infoStr
 have HVS := Lib.hid hVs
 have wA : ∀ b, (winA (V.heap.size + 2) b ∨ b = V.heap.size ∨ b = V.heap.size + 1) → w.heap.size + 2 ≤ b ∧ b < w.heap.size + 10 := fun b hb => by
  rcases hb with h | h | h
  ·unfold winA at h; omega
  ·omega
  ·omega
 have WA := Lib.hid wA
 clear wA hVs
 refine (wpIn_wide (n := 9)).1 ?_
 refine wpIn_rangeFunc_win hro (by decide) (gf := 132) (lb := #[.pointer (some ⟨w.heap.size + 1, 0, none⟩)]) rfl trivial (enters_of Tryz.func132 (by kernel_rfl) rfl)
  (names_own 8 (by decide) (w.heap.size + 1) s (by omega) V hR) (Below.refl _ _) (fun _ => rfl)
  (fun b hb => by unfold winA at hb; omega)
  (splitI w) (fun _ _ _ => False)
  (fun M b X Y hb hI hg => by
   obtain ⟨⟨v, h1, h2⟩, h3⟩ := hI
   have hw := WA.out b hb
   exact ⟨⟨v, h1.kept hg (fun e => by cases e; omega), h2.kept hg (.inr fun e => by have := (h2.lt _ e).1; omega)⟩, h3.grown hg (Nat.le_trans (Nat.le_refl _) h3.size) (fun j e => by cases e; omega)⟩)
  (fun _ _ _ _ _ _ h _ => h)
  (fun _ _ _ h => h)
  (fun o => ⟨⟨_, (hbx.alloc _).alloc _, World.ownsRow_nil _ _ _ _⟩, (hBV.alloc hBV.size _).alloc (by simp; have := hBV.size; omega) _⟩)
  (fun x => { tmps := #[.string s, undef, .slice none 0 0, .pointer (some ⟨w.heap.size, 0, none⟩), .string x.1, .string s, .func (.func 132) #[] #[.pointer (some ⟨w.heap.size + 1, 0, none⟩)], .string x.1, undef, undef, undef, undef, undef, undef, undef, undef, undef, undef], defers := [] })
  ?assign ?body ?done ?stop
 case assign =>
  intro l' x W' K hK
  gi_wp2
  exact hK
 case body =>
  rintro l pre x W ⟨⟨v, hb0, hown⟩, hB⟩ hlen hsz
  have hsz10 : w.heap.size + 10 ≤ W.heap.size := by have := hsz (by decide); have := HVS.out; omega
  rw [← Lib.size_eq] at hlen
  have c0 := hb0.cell
  have f0 := hb0.frozen
  have hx31 := (nameB_iff.1 x.2).2.1
  rw [← Lib.size_eq] at hx31
  have CL := Lib.hid (Clone_any_Pap x.1 (by omega))
  clear hbx hR hBV hsz
  have hb1 : pre.length + 1 ≤ maxLen := by unfold maxLen; omega
  have hb2 : (pre.length + 1) * 16 ≤ 140737488355328 := by omega
  have HO := Lib.hid hown; have HB0 := Lib.hid hb0
  clear hown hb0
  have hmx : Tryz.prog.follows .mixedOrders = true := by kernel_rfl
  gi_wp2_with fail
  refine wpIn_region_round (by kernel_rfl) (by kernel_rfl) ?hq ?_
  case hq =>
   rintro ⟨a, w', h⟩
   exact h
  change wpAny _ _ _ _ _ _ _ (World.drew _)
  have HBd : Hid (Boxed W.drew w.heap.size 38 v) := HB0.out
  have HOd : Hid (W.drew.ownsRow (w.heap.size + 10) 9 1 v pre.length (strCells (vals pre))) := HO.out
  have HZ : Hid (W.drew.heap.size = W.heap.size) := rfl
  have HKd : Hid (KeepsAt (fun _ => True) W W.drew) := fun _ _ => rfl
  have HBe : Hid (Below w.heap.size w W.drew) := hB.drew
  obtain ⟨Wd, hWd⟩ : ∃ Wd, Wd = W.drew := ⟨_, rfl⟩
  rw [← hWd] at HBd HOd HZ HKd HBe ⊢
  clear hWd hB HO HB0 c0 f0
  have c0 := HBd.out.cell
  refine wpAny_take (i := 1) (v := .string x.1) rfl (by kernel_rfl) (by kernel_rfl) (by kernel_rfl) (fun _ _ _ h => h) (Or.inl ⟨by kernel_rfl, fun _ => by kernel_rfl⟩) ?_
  refine wpAny_at (a' := ⟨#[.string s, undef, .slice none 0 0, .pointer (some ⟨w.heap.size, 0, none⟩), .string x.1, .string s, .func (.func 132) #[] #[.pointer (some ⟨w.heap.size + 1, 0, none⟩)], .string x.1, undef, .string x.1, undef, undef, undef, undef, undef, undef, undef, undef], []⟩) (listed' := #[false, true, false, false, false, false]) (by kernel_rfl) (by kernel_rfl) ?_
  refine wpAny_ready (rs := [0, 2]) (by kernel_rfl) (by simp) ?_
  refine BigFrame.allReady_want rfl (by kernel_rfl) (fun K hK => ?_) (BigFrame.allReady_want rfl (by kernel_rfl) (fun K hK => ?_) AllReady.nil)
  ·refine wp_load_slice (B := w.heap.size) (v := v) rfl (by kernel_rfl) c0 ?_
   refine hK _ _ ?_
   clear hK K
   refine wpAny_at (a' := ⟨#[.string s, undef, .slice none 0 0, .pointer (some ⟨w.heap.size, 0, none⟩), .string x.1, .string s, .func (.func 132) #[] #[.pointer (some ⟨w.heap.size + 1, 0, none⟩)], .string x.1, v, .string x.1, undef, undef, undef, undef, undef, undef, undef, undef], []⟩) (listed' := #[true, true, false, false, false, false]) (by kernel_rfl) (by kernel_rfl) ?_
   refine wpAny_ready (rs := [2]) (by kernel_rfl) (by simp) ?_
   refine BigFrame.allReady_want rfl (by kernel_rfl) (fun K hK => ?_) AllReady.nil
   refine wp_callf 116 _ _ rfl (enters_of Tryz.func116 (by kernel_rfl) rfl) #[.string x.1] (by kernel_rfl) (.string x.1) (CL.out _) ?_
   intro W2 hb2
   have HB2 : Hid (Boxed W2 w.heap.size 38 v) := Row.step HBd.out hb2
   have HO2 : Hid (W2.ownsRow (w.heap.size + 10) 9 1 v pre.length (strCells (vals pre))) := HOd.out.kept (grownBy_of_below hb2) (by cases hv : v.ownBlock <;> simp)
   have hz2' := hb2.size
   have HK2 : Hid (KeepsAt (fun k => k < Wd.heap.size) Wd W2) := KeepsAt.below hb2 (fun _ h => h)
   have HBf : Hid (Below w.heap.size w W2) := HBe.out.trans (hb2.mono HBe.out.size)
   have c2 := HB2.out.cell
   clear hb2
   refine hK _ _ ?_
   clear hK K
   refine wpAny_at (a' := ⟨#[.string s, undef, .slice none 0 0, .pointer (some ⟨w.heap.size, 0, none⟩), .string x.1, .string s, .func (.func 132) #[] #[.pointer (some ⟨w.heap.size + 1, 0, none⟩)], .string x.1, v, .string x.1, .string x.1, undef, undef, undef, undef, undef, undef, undef], []⟩) (listed' := #[true, true, true, false, false, false]) (by kernel_rfl) (by kernel_rfl) ?_
   refine wpAny_ready (rs := [3]) (by kernel_rfl) (by simp) ?_
   refine BigFrame.allReady_want rfl (by kernel_rfl) (fun K hK => ?_) AllReady.nil
   refine wp_build_one (x := x.1) rfl (by kernel_rfl) ?_
   have c3 := (show Row (W2.alloc (.cells #[.string x.1] 9)) w.heap.size #[v] 38 from Row.alloc HB2.out _).cell 0
   simp only [List.getElem?_toArray, List.getElem?_cons_zero] at c3
   refine hK _ _ ?_
   clear hK K
   refine wpAny_at (a' := ⟨#[.string s, undef, .slice none 0 0, .pointer (some ⟨w.heap.size, 0, none⟩), .string x.1, .string s, .func (.func 132) #[] #[.pointer (some ⟨w.heap.size + 1, 0, none⟩)], .string x.1, v, .string x.1, .string x.1, .slice (some ⟨W2.heap.size, 0, none⟩) 1 1, undef, undef, undef, undef, undef, undef], []⟩) (listed' := #[true, true, true, true, false, false]) (by kernel_rfl) (by kernel_rfl) ?_
   refine wpAny_ready (rs := [4]) (by kernel_rfl) (by simp) ?_
   refine BigFrame.allReady_want rfl (by kernel_rfl) (fun K hK => ?_) AllReady.nil
   refine wp_append_own _ (.tmp 8) (.tmp 11) 38 rfl (w.heap.size + 10) 9 i0 (.string ⟨#[]⟩) 1 16 Tryz.underlying38 hi hz0 hz1 hz2 rfl (by decide) v pre.length (strCells (vals pre)) (by kernel_rfl) (HO2.out.alloc _) ⟨W2.heap.size, 0, none⟩ 1 1 [.string x.1] (by kernel_rfl) rfl cell_one ?_ hb1 hb2 ?_ ?_
   ·intro u hu; simp at hu; subst hu; rfl
   ·rw [World.size_alloc]; have := HZ.out; omega
   intro v' w3 hown' hgrow _
   refine hK _ _ ?_
   clear hK K c3
   have hlt := HO2.out.lt
   have e0 : Boxed w3 w.heap.size 38 v := (HB2.out.alloc _).kept hgrow (fun e => by have := (hlt _ e.symm).1; omega)
   have d0 := e0.cell; have m0 := e0.frozen
   obtain ⟨g, cap, rfl⟩ := ownsRow_succ hown'
   refine wpAny_at (a' := ⟨#[.string s, undef, .slice none 0 0, .pointer (some ⟨w.heap.size, 0, none⟩), .string x.1, .string s, .func (.func 132) #[] #[.pointer (some ⟨w.heap.size + 1, 0, none⟩)], .string x.1, v, .string x.1, .string x.1, .slice (some ⟨W2.heap.size, 0, none⟩) 1 1, .slice (some ⟨g, 0, none⟩) (pre.length + 1) cap, undef, undef, undef, undef, undef], []⟩) (listed' := #[true, true, true, true, true, false]) (by kernel_rfl) (by kernel_rfl) ?_
   refine wpAny_ready (rs := [5]) (by kernel_rfl) (by simp) ?_
   refine BigFrame.allReady_want rfl (by kernel_rfl) (fun K hK => ?_) AllReady.nil
   refine wp_store_slice (ad := some ⟨g, 0, none⟩) (n := pre.length + 1) (c := cap) (B := w.heap.size) rfl (by kernel_rfl) (by kernel_rfl) d0 m0 ?_
   refine hK _ _ ?_
   clear hK K
   refine wpAny_done (by kernel_rfl) ?_ _
   exact split_round WA.out HKd.out HZ.out HBf.out HK2.out hz2' hsz10 HO2.out hown' hgrow e0
  ·refine wp_callf 116 _ _ rfl (enters_of Tryz.func116 (by kernel_rfl) rfl) #[.string x.1] (by kernel_rfl) (.string x.1) (CL.out _) ?_
   intro W2 hb2
   have HB2 : Hid (Boxed W2 w.heap.size 38 v) := Row.step HBd.out hb2
   have HO2 : Hid (W2.ownsRow (w.heap.size + 10) 9 1 v pre.length (strCells (vals pre))) := HOd.out.kept (grownBy_of_below hb2) (by cases hv : v.ownBlock <;> simp)
   have hz2' := hb2.size
   have HK2 : Hid (KeepsAt (fun k => k < Wd.heap.size) Wd W2) := KeepsAt.below hb2 (fun _ h => h)
   have HBf : Hid (Below w.heap.size w W2) := HBe.out.trans (hb2.mono HBe.out.size)
   have c2 := HB2.out.cell
   clear hb2
   refine hK _ _ ?_
   clear hK K
   refine wpAny_at (a' := ⟨#[.string s, undef, .slice none 0 0, .pointer (some ⟨w.heap.size, 0, none⟩), .string x.1, .string s, .func (.func 132) #[] #[.pointer (some ⟨w.heap.size + 1, 0, none⟩)], .string x.1, undef, .string x.1, .string x.1, undef, undef, undef, undef, undef, undef, undef], []⟩) (listed' := #[false, true, true, false, false, false]) (by kernel_rfl) (by kernel_rfl) ?_
   refine wpAny_ready (rs := [0, 3]) (by kernel_rfl) (by simp) ?_
   refine BigFrame.allReady_want rfl (by kernel_rfl) (fun K hK => ?_) (BigFrame.allReady_want rfl (by kernel_rfl) (fun K hK => ?_) AllReady.nil)
   ·refine wp_load_slice (B := w.heap.size) (v := v) rfl (by kernel_rfl) c2 ?_
    refine hK _ _ ?_
    clear hK K
    refine wpAny_at (a' := ⟨#[.string s, undef, .slice none 0 0, .pointer (some ⟨w.heap.size, 0, none⟩), .string x.1, .string s, .func (.func 132) #[] #[.pointer (some ⟨w.heap.size + 1, 0, none⟩)], .string x.1, v, .string x.1, .string x.1, undef, undef, undef, undef, undef, undef, undef], []⟩) (listed' := #[true, true, true, false, false, false]) (by kernel_rfl) (by kernel_rfl) ?_
    refine wpAny_ready (rs := [3]) (by kernel_rfl) (by simp) ?_
    refine BigFrame.allReady_want rfl (by kernel_rfl) (fun K hK => ?_) AllReady.nil
    refine wp_build_one (x := x.1) rfl (by kernel_rfl) ?_
    have c3 := (show Row (W2.alloc (.cells #[.string x.1] 9)) w.heap.size #[v] 38 from Row.alloc HB2.out _).cell 0
    simp only [List.getElem?_toArray, List.getElem?_cons_zero] at c3
    refine hK _ _ ?_
    clear hK K
    refine wpAny_at (a' := ⟨#[.string s, undef, .slice none 0 0, .pointer (some ⟨w.heap.size, 0, none⟩), .string x.1, .string s, .func (.func 132) #[] #[.pointer (some ⟨w.heap.size + 1, 0, none⟩)], .string x.1, v, .string x.1, .string x.1, .slice (some ⟨W2.heap.size, 0, none⟩) 1 1, undef, undef, undef, undef, undef, undef], []⟩) (listed' := #[true, true, true, true, false, false]) (by kernel_rfl) (by kernel_rfl) ?_
    refine wpAny_ready (rs := [4]) (by kernel_rfl) (by simp) ?_
    refine BigFrame.allReady_want rfl (by kernel_rfl) (fun K hK => ?_) AllReady.nil
    refine wp_append_own _ (.tmp 8) (.tmp 11) 38 rfl (w.heap.size + 10) 9 i0 (.string ⟨#[]⟩) 1 16 Tryz.underlying38 hi hz0 hz1 hz2 rfl (by decide) v pre.length (strCells (vals pre)) (by kernel_rfl) (HO2.out.alloc _) ⟨W2.heap.size, 0, none⟩ 1 1 [.string x.1] (by kernel_rfl) rfl cell_one ?_ hb1 hb2 ?_ ?_
    ·intro u hu; simp at hu; subst hu; rfl
    ·rw [World.size_alloc]; have := HZ.out; omega
    intro v' w3 hown' hgrow _
    refine hK _ _ ?_
    clear hK K c3
    have hlt := HO2.out.lt
    have e0 : Boxed w3 w.heap.size 38 v := (HB2.out.alloc _).kept hgrow (fun e => by have := (hlt _ e.symm).1; omega)
    have d0 := e0.cell; have m0 := e0.frozen
    obtain ⟨g, cap, rfl⟩ := ownsRow_succ hown'
    refine wpAny_at (a' := ⟨#[.string s, undef, .slice none 0 0, .pointer (some ⟨w.heap.size, 0, none⟩), .string x.1, .string s, .func (.func 132) #[] #[.pointer (some ⟨w.heap.size + 1, 0, none⟩)], .string x.1, v, .string x.1, .string x.1, .slice (some ⟨W2.heap.size, 0, none⟩) 1 1, .slice (some ⟨g, 0, none⟩) (pre.length + 1) cap, undef, undef, undef, undef, undef], []⟩) (listed' := #[true, true, true, true, true, false]) (by kernel_rfl) (by kernel_rfl) ?_
    refine wpAny_ready (rs := [5]) (by kernel_rfl) (by simp) ?_
    refine BigFrame.allReady_want rfl (by kernel_rfl) (fun K hK => ?_) AllReady.nil
    refine wp_store_slice (ad := some ⟨g, 0, none⟩) (n := pre.length + 1) (c := cap) (B := w.heap.size) rfl (by kernel_rfl) (by kernel_rfl) d0 m0 ?_
    refine hK _ _ ?_
    clear hK K
    refine wpAny_done (by kernel_rfl) ?_ _
    exact split_round WA.out HKd.out HZ.out HBf.out HK2.out hz2' hsz10 HO2.out hown' hgrow e0
   ·refine wp_build_one (x := x.1) rfl (by kernel_rfl) ?_
    have c3 := (show Row (W2.alloc (.cells #[.string x.1] 9)) w.heap.size #[v] 38 from Row.alloc HB2.out _).cell 0
    simp only [List.getElem?_toArray, List.getElem?_cons_zero] at c3
    refine hK _ _ ?_
    clear hK K
    refine wpAny_at (a' := ⟨#[.string s, undef, .slice none 0 0, .pointer (some ⟨w.heap.size, 0, none⟩), .string x.1, .string s, .func (.func 132) #[] #[.pointer (some ⟨w.heap.size + 1, 0, none⟩)], .string x.1, undef, .string x.1, .string x.1, .slice (some ⟨W2.heap.size, 0, none⟩) 1 1, undef, undef, undef, undef, undef, undef], []⟩) (listed' := #[false, true, true, true, false, false]) (by kernel_rfl) (by kernel_rfl) ?_
    refine wpAny_ready (rs := [0]) (by kernel_rfl) (by simp) ?_
    refine BigFrame.allReady_want rfl (by kernel_rfl) (fun K hK => ?_) AllReady.nil
    refine wp_load_slice (B := w.heap.size) (v := v) rfl (by kernel_rfl) c3 ?_
    refine hK _ _ ?_
    clear hK K
    refine wpAny_at (a' := ⟨#[.string s, undef, .slice none 0 0, .pointer (some ⟨w.heap.size, 0, none⟩), .string x.1, .string s, .func (.func 132) #[] #[.pointer (some ⟨w.heap.size + 1, 0, none⟩)], .string x.1, v, .string x.1, .string x.1, .slice (some ⟨W2.heap.size, 0, none⟩) 1 1, undef, undef, undef, undef, undef, undef], []⟩) (listed' := #[true, true, true, true, false, false]) (by kernel_rfl) (by kernel_rfl) ?_
    refine wpAny_ready (rs := [4]) (by kernel_rfl) (by simp) ?_
    refine BigFrame.allReady_want rfl (by kernel_rfl) (fun K hK => ?_) AllReady.nil
    refine wp_append_own _ (.tmp 8) (.tmp 11) 38 rfl (w.heap.size + 10) 9 i0 (.string ⟨#[]⟩) 1 16 Tryz.underlying38 hi hz0 hz1 hz2 rfl (by decide) v pre.length (strCells (vals pre)) (by kernel_rfl) (HO2.out.alloc _) ⟨W2.heap.size, 0, none⟩ 1 1 [.string x.1] (by kernel_rfl) rfl cell_one ?_ hb1 hb2 ?_ ?_
    ·intro u hu; simp at hu; subst hu; rfl
    ·rw [World.size_alloc]; have := HZ.out; omega
    intro v' w3 hown' hgrow _
    refine hK _ _ ?_
    clear hK K c3
    have hlt := HO2.out.lt
    have e0 : Boxed w3 w.heap.size 38 v := (HB2.out.alloc _).kept hgrow (fun e => by have := (hlt _ e.symm).1; omega)
    have d0 := e0.cell; have m0 := e0.frozen
    obtain ⟨g, cap, rfl⟩ := ownsRow_succ hown'
    refine wpAny_at (a' := ⟨#[.string s, undef, .slice none 0 0, .pointer (some ⟨w.heap.size, 0, none⟩), .string x.1, .string s, .func (.func 132) #[] #[.pointer (some ⟨w.heap.size + 1, 0, none⟩)], .string x.1, v, .string x.1, .string x.1, .slice (some ⟨W2.heap.size, 0, none⟩) 1 1, .slice (some ⟨g, 0, none⟩) (pre.length + 1) cap, undef, undef, undef, undef, undef], []⟩) (listed' := #[true, true, true, true, true, false]) (by kernel_rfl) (by kernel_rfl) ?_
    refine wpAny_ready (rs := [5]) (by kernel_rfl) (by simp) ?_
    refine BigFrame.allReady_want rfl (by kernel_rfl) (fun K hK => ?_) AllReady.nil
    refine wp_store_slice (ad := some ⟨g, 0, none⟩) (n := pre.length + 1) (c := cap) (B := w.heap.size) rfl (by kernel_rfl) (by kernel_rfl) d0 m0 ?_
    refine hK _ _ ?_
    clear hK K
    refine wpAny_done (by kernel_rfl) ?_ _
    exact split_round WA.out HKd.out HZ.out HBf.out HK2.out hz2' hsz10 HO2.out hown' hgrow e0
 case done =>
  rintro xs W hxs ⟨⟨v, hbx0, hown⟩, hB⟩ hK
  rw [HVS.out] at hK ⊢
  have hD : w.heap.size + 2 < W.heap.size := (Array.getElem?_eq_some_iff.1 hK).1
  have J := Lib.hid (JN.out v (vals xs) W (IsStrs.of_owns (L := vals xs) (by rw [vals_len]; exact hown)))
  rw [hxs] at J
  have c0 := hbx0.cell
  obtain ⟨y, hy⟩ : ∃ y : ByteArray, y = ⟨(joinN (firstN s.data.toList)).toArray⟩ := ⟨_, rfl⟩
  rw [← hy] at J
  have HXS := Lib.hid hxs
  have HO := Lib.hid hown; have HBB := Lib.hid hB; have HBX := Lib.hid hbx0; have HK := Lib.hid hK
  have hyl : y.data.toList = joinN (firstN s.data.toList) := by rw [hy]
  clear hbx hR hBV hxs hy hown hB hbx0 hK
  have fin : ∀ (L : List (List UInt8)) (u : Value) (W2 : World), Below W.heap.size W W2 → ((L = firstN s.data.toList ∧ u = v) ∨ (L = [] ∧ u = .slice none 0 0)) →
    IsStrs (W2.putObj (w.heap.size + 2) (.deferred none)) u (strsOf L) ∧ Below w.heap.size w (W2.putObj (w.heap.size + 2) (.deferred none)) := fun L u W2 hb hu => by
   have hg := grownBy_putObj' W2 (w.heap.size + 2) (.deferred none)
   refine ⟨?_, (HBB.out.trans (hb.mono HBB.out.size)).grown hg (Nat.le_trans HBB.out.size hb.size) (fun j e => by cases e; omega)⟩
   rcases hu with ⟨rfl, rfl⟩ | ⟨rfl, rfl⟩
   ·have h2 := (HO.out.kept (grownBy_of_below hb) (by cases hv : u.ownBlock <;> simp)).kept hg (.inr fun e => by
     have := ((HO.out.kept (grownBy_of_below hb) (by cases hv : u.ownBlock <;> simp)).lt _ e).1
     omega)
    rw [← HXS.out, strsOf_txts]
    exact IsStrs.of_owns (L := vals xs) (by rw [vals_len]; exact h2)
   ·exact isStrs_nil _
  have FIN := Lib.hid fin
  clear fin
  by_cases he : joinN (firstN s.data.toList) = s.data.toList
  ·have hb : (y.toList == s.toList) = true := beq_true (str_eq' (by rw [hyl]; exact he))
   have hs := split_same he
   have HS := Lib.hid hs
   clear he hs hyl
   go_wp2_with fail
   refine J.out.mono ?_
   rintro e W2 ⟨rfl, hb2⟩
   have c2 := (show Row W2 w.heap.size #[v] 38 from Row.step HBX.out hb2).cell 0
   simp only [List.getElem?_toArray, List.getElem?_cons_zero] at c2
   have HK2 := Lib.hid ((hb2.block _ hD).trans HK.out)
   have FF := Lib.hid (FIN.out _ _ W2 hb2 (.inl ⟨rfl, rfl⟩))
   clear hb2 c0
   go_wp2_with fail
   refine ⟨by simp, .inl ⟨_, _, rfl, run_takeDeferred HK2.out, ?_⟩⟩
   exact ⟨_, results_tmp rfl _ _ _, v, rfl, by rw [HS.out]; exact FF.out.1, FF.out.2⟩
  ·have hb : (y.toList == s.toList) = false := beq_false (fun e => he (by rw [← hyl, e]))
   have hs := split_other he
   have HS := Lib.hid hs
   clear he hs hyl
   go_wp2_with fail
   refine J.out.mono ?_
   rintro e W2 ⟨rfl, hb2⟩
   have HK2 := Lib.hid ((hb2.block _ hD).trans HK.out)
   have FF := Lib.hid (FIN.out _ _ W2 hb2 (.inr ⟨rfl, rfl⟩))
   clear hb2 c0
   go_wp2_with fail
   refine ⟨by simp, .inl ⟨_, _, rfl, run_takeDeferred HK2.out, ?_⟩⟩
   exact ⟨_, results_tmp rfl _ _ _, _, rfl, by rw [HS.out]; exact FF.out.1, FF.out.2⟩
 case stop => 
  intro c pre W _ h
  exact h.elim
end Go.Proofs.YtlccihidedfemaaGreatDoor

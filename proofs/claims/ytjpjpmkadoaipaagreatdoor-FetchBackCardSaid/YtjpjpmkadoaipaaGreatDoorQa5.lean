/-
  Texts put together: contracts and laws that this seat's proofs share.
-/
import Derived.Test.YtjpjpmkadoaipaaGreatDoorQa3
import Derived.Test.YtjpjpmkadoaipaaGreatDoorQa1
import Derived.Test.YtjpjpmkadoaipaaGreatDoorQa0
import Derived.Shelf.Spec.SearchS
import Derived.Shelf.Sort.Plain
import Derived.Shelf.Slices.CompactS
import Derived.Shelf.Slices.In.SortNone
import Derived.Sort.OwnSorted
import Derived.Lib.OwnBridge
import Derived.Test.YtjpjpmkadoaipaaGreatDoorQa4
import Derived.Test.YtjpjpmkadoaipaaGreatDoorQa2
import Derived.Shelf.Strings.Count
import Derived.Lib.SplitLaws
import Derived.StillTailTactics
import Derived.BigQuiet
import Derived.Maps.OwnSet
import Derived.Maps.AppendAt
import Derived.StringKeys
import Derived.RangeFuncFrom
import Derived.RangeFuncBox
import Derived.RegionTactic
import Derived.BigRegionIn
import Derived.Sort.CutIn
import Derived.OwnWalkIn
import Derived.OrdersIn
import Derived.TacticsIn
import Derived.RangeFuncCalls
import Derived.Lib.QuietBelow
set_option linter.unusedVariables false
namespace Go.Proofs.YtjpjpmkadoaipaaGreatDoor
open Go.RowKit
attribute [local go_sem] Oper.semAt_some
abbrev zeroNV : Value := .agg #[.int .i64 0, .string ⟨#[]⟩, .slice none 0 0, .slice none 0 0]
def RetLd (r : Except Int Nd) (w : World) (e : Ending) (w' : World) : Prop :=
 (∃ n pv ev, r = .ok n ∧ e = .returned (.tuple #[ndV n pv ev, .nilIface]) ∧ OwnP w.heap.size w' pv n.ps ∧ OwnE w.heap.size w' ev n.es ∧ Below w.heap.size w w')
 ∨ ∃ k s, r = .error k ∧ k ∈ wrongs ∧ e = .returned (.tuple #[zeroNV, faultV s k]) ∧ Below w.heap.size w w'
theorem RetLd.bad {r : Except Int Nd} {k : Int} {s : ByteArray} {w w' : World} (h : r = .error k) (hk : k ∈ wrongs) (hb : Below w.heap.size w w') :
  RetLd r w (.returned (.tuple #[zeroNV, faultV s k])) w' := .inr ⟨k, s, h, hk, rfl, hb⟩
noncomputable def readE (O : List Ob) (t : List UInt8) : Except Int Nd := match getO O t with
 | none => .error 5
 | some y => match readN y.u with
  | none => .error 2
  | some n => .ok n
theorem readE_none {O : List Ob} {t : List UInt8} (h : getO O t = none) : readE O t = .error 5 := by unfold readE; rw [h]
theorem readE_bad {O : List Ob} {t : List UInt8} {y : Ob} (h : getO O t = some y) (hn : readN y.u = none) : readE O t = .error 2 := by unfold readE; rw [h]; simp only [hn]
theorem readE_ok {O : List Ob} {t : List UInt8} {y : Ob} {n : Nd} (h : getO O t = some y) (hn : readN y.u = some n) : readE O t = .ok n := by unfold readE; rw [h]; simp only [hn]
set_option maxRecDepth 100000 in
set_option maxHeartbeats 4000000 in
theorem read_any (v : Value) (L : List Ob) (s : ByteArray) (w : World) (h : IsObs w v L) (hr : RiseO L) (hl : L.length ≤ 1000000) (hz : ∀ y ∈ L, y.r.size ≤ 1000000) (hT : ErrT w) :
  Calls Tryz.prog 30 #[v, .string s] w (RetLd (readE L s.data.toList) w) := by
 have hb0 := (Below.refl w.heap.size w).alloc (Nat.le_refl _) (.cells #[.int .i64 0, .string ⟨#[]⟩, .slice none 0 0, .slice none 0 0] 71)
 have HX := Lib.hid (Row.made w #[.int .i64 0, .string ⟨#[]⟩, .slice none 0 0, .slice none 0 0] 71)
 have HT := Lib.hid (hT.stays hb0)
 have CG := Lib.hid (pGet_any v L s _ (h.stays hb0) hr hl)
 have HLT : Hid (w.heap.size < (w.alloc (.cells #[.int .i64 0, .string ⟨#[]⟩, .slice none 0 0, .slice none 0 0] 71)).heap.size) := Lib.hid (by simp)
 have HB0 := Lib.hid hb0
 clear h hT hb0
 cases hg : getO L s.data.toList with
 | none =>
  have HE := Lib.hid (readE_none hg)
  rw [hg] at CG
  simp only [Option.isSome_none] at CG
  obtain ⟨x, hx⟩ : ∃ x, x = gotO L s.data.toList := ⟨_, rfl⟩
  rw [← hx] at CG
  clear hg hx hr hz
  go_enter Tryz.func30, Tryz.ntmps30
  go_wp2_with fail
  refine CG.out.mono ?_
  rintro e w1 ⟨rfl, hb1⟩
  have HB1 := Lib.hid (below_step HB0.out hb1)
  have hX1 := HX.out.step hb1
  have HX1 := Lib.hid hX1
  have p0 := hX1.cell 0; have p1 := hX1.cell 1; have p2 := hX1.cell 2; have p3 := hX1.cell 3
  have f0 := hX1.free 0; have f1 := hX1.free 1; have f2 := hX1.free 2; have f3 := hX1.free 3
  simp only [List.getElem?_toArray, List.getElem?_cons_zero, List.getElem?_cons_succ] at p0 p1 p2 p3
  have hlx := hX1.lt
  clear hb1 hX1
  go_wp2
  have hR4 := row4_row HX1.out (.int .i64 0) (.string ⟨#[]⟩) (.slice none 0 0) (.slice none 0 0)
  have d0 := hR4.cell 0; have d1 := hR4.cell 1; have d2 := hR4.cell 2; have d3 := hR4.cell 3
  simp only [List.getElem?_toArray, List.getElem?_cons_zero, List.getElem?_cons_succ] at d0 d1 d2 d3
  have hbe := ((((HB1.out.setCell (p := ⟨w.heap.size, 0, none⟩) (Nat.le_refl _) (.int .i64 0)).setCell (p := ⟨w.heap.size, 1, none⟩) (Nat.le_refl _) (.string ⟨#[]⟩)).setCell (p := ⟨w.heap.size, 2, none⟩) (Nat.le_refl _) (.slice none 0 0)).setCell (p := ⟨w.heap.size, 3, none⟩) (Nat.le_refl _) (.slice none 0 0))
  refine bodyPost_ret (v := .tuple #[.agg #[.int .i64 0, .string ⟨#[]⟩, .slice none 0 0, .slice none 0 0], faultV s 5]) (by simp [results, Tryz.results30, go_sem, d0, d1, d2, d3]) rfl ?_
  exact RetLd.bad HE.out (by decide) hbe
 | some y =>
  have hy := (getO_some hr).1 hg
  have HZ := Lib.hid (hz y hy.1)
  have hgo : gotO L s.data.toList = y.r := by unfold gotO; rw [hg]; rfl
  have HG := Lib.hid hg
  rw [hg, hgo] at CG
  simp only [Option.isSome_some] at CG
  clear hr hz hg hgo hy
  go_enter Tryz.func30, Tryz.ntmps30
  go_wp2_with fail
  refine CG.out.mono ?_
  rintro e w1 ⟨rfl, hb1⟩
  have HB1 := Lib.hid (below_step HB0.out hb1)
  have HX1 := Lib.hid (HX.out.step hb1)
  have HL1 := Lib.hid (Nat.lt_of_lt_of_le HLT.out hb1.size)
  have CR := Lib.hid (pReadO_any y.r HZ.out w1 (HT.out.stays hb1))
  clear hb1
  go_wp2_with fail
  refine CR.out.mono ?_
  rintro e w2 ⟨n, k, hrd, pv, ev, rfl, hpv, hev, hb2⟩
  have HB2 := Lib.hid (below_step HB1.out hb2)
  have hX2 := HX1.out.step hb2
  obtain ⟨_, a1, cap1, hv1, _, _⟩ := hpv.is
  obtain ⟨_, a2, cap2, hv2, _, _⟩ := hev.is
  have HP := Lib.hid hpv; have HV := Lib.hid hev
  clear hpv hev
  obtain ⟨z1, hz1⟩ : ∃ z, z = n.ps.length := ⟨_, rfl⟩
  obtain ⟨z2, hz2⟩ : ∃ z, z = n.es.length := ⟨_, rfl⟩
  rw [← hz1] at hv1; rw [← hz2] at hv2
  clear hz1 hz2
  subst hv1 hv2
  rcases readN_rd hrd with ⟨rfl, hn⟩ | ⟨rfl, rfl, hn⟩
  ·have HE := Lib.hid (readE_ok HG.out hn)
   have HX2 := Lib.hid hX2
   have p0 := hX2.cell 0; have p1 := hX2.cell 1; have p2 := hX2.cell 2; have p3 := hX2.cell 3
   have f0 := hX2.free 0; have f1 := hX2.free 1; have f2 := hX2.free 2; have f3 := hX2.free 3
   simp only [List.getElem?_toArray, List.getElem?_cons_zero, List.getElem?_cons_succ] at p0 p1 p2 p3
   have hlx := hX2.lt
   have HL1S := Lib.hid (show w.heap.size < w1.heap.size from HL1.out)
   clear hrd hn hb2 hX2
   go_wp2
   have hR4 := (row4_row HX2.out (.int .i64 n.kd) (.string n.d) (.slice a1 z1 cap1) (.slice a2 z2 cap2)).alloc (.cells #[.int .i64 n.kd, .string n.d, .slice a1 z1 cap1, .slice a2 z2 cap2] 71)
   have d0 := hR4.cell 0; have d1 := hR4.cell 1; have d2 := hR4.cell 2; have d3 := hR4.cell 3
   simp only [List.getElem?_toArray, List.getElem?_cons_zero, List.getElem?_cons_succ] at d0 d1 d2 d3
   have hbe := (((((HB2.out.setCell (p := ⟨w.heap.size, 0, none⟩) (Nat.le_refl _) (.int .i64 n.kd)).setCell (p := ⟨w.heap.size, 1, none⟩) (Nat.le_refl _) (.string n.d)).setCell (p := ⟨w.heap.size, 2, none⟩) (Nat.le_refl _) (.slice a1 z1 cap1)).setCell (p := ⟨w.heap.size, 3, none⟩) (Nat.le_refl _) (.slice a2 z2 cap2))).alloc (by have := HB2.out.size; simpa [World.setCell] using this) (.cells #[.int .i64 n.kd, .string n.d, .slice a1 z1 cap1, .slice a2 z2 cap2] 71)
   refine bodyPost_ret (v := .tuple #[.agg #[.int .i64 n.kd, .string n.d, .slice a1 z1 cap1, .slice a2 z2 cap2], .nilIface]) (by simp [results, Tryz.results30, go_sem, d0, d1, d2, d3]) rfl ?_
   refine .inl ⟨n, _, _, HE.out, rfl, ?_, ?_, hbe⟩
   ·exact World.ownsRow.alloc (((((HP.out.setBelow (a := ⟨w.heap.size, 0, none⟩) HL1S.out _).setBelow (a := ⟨w.heap.size, 1, none⟩) HL1S.out _).setBelow (a := ⟨w.heap.size, 2, none⟩) HL1S.out _).setBelow (a := ⟨w.heap.size, 3, none⟩) HL1S.out _).low (Nat.le_of_lt HL1S.out)) _
   ·exact World.ownsRow.alloc (((((HV.out.setBelow (a := ⟨w.heap.size, 0, none⟩) HL1S.out _).setBelow (a := ⟨w.heap.size, 1, none⟩) HL1S.out _).setBelow (a := ⟨w.heap.size, 2, none⟩) HL1S.out _).setBelow (a := ⟨w.heap.size, 3, none⟩) HL1S.out _).low (Nat.le_of_lt HL1S.out)) _
  ·have HE := Lib.hid (readE_bad HG.out hn)
   have HX2 := Lib.hid hX2
   have p0 := hX2.cell 0; have p1 := hX2.cell 1; have p2 := hX2.cell 2; have p3 := hX2.cell 3
   have f0 := hX2.free 0; have f1 := hX2.free 1; have f2 := hX2.free 2; have f3 := hX2.free 3
   simp only [List.getElem?_toArray, List.getElem?_cons_zero, List.getElem?_cons_succ] at p0 p1 p2 p3
   have hlx := hX2.lt
   clear hrd hn hb2 hX2
   go_wp2
   have hR4 := (row4_row HX2.out (.int .i64 0) (.string ⟨#[]⟩) (.slice none 0 0) (.slice none 0 0)).alloc (.cells #[.int .i64 zeroNd.kd, .string zeroNd.d, .slice a1 z1 cap1, .slice a2 z2 cap2] 71)
   have d0 := hR4.cell 0; have d1 := hR4.cell 1; have d2 := hR4.cell 2; have d3 := hR4.cell 3
   simp only [List.getElem?_toArray, List.getElem?_cons_zero, List.getElem?_cons_succ] at d0 d1 d2 d3
   have hbe := (((((HB2.out.setCell (p := ⟨w.heap.size, 0, none⟩) (Nat.le_refl _) (.int .i64 0)).setCell (p := ⟨w.heap.size, 1, none⟩) (Nat.le_refl _) (.string ⟨#[]⟩)).setCell (p := ⟨w.heap.size, 2, none⟩) (Nat.le_refl _) (.slice none 0 0)).setCell (p := ⟨w.heap.size, 3, none⟩) (Nat.le_refl _) (.slice none 0 0))).alloc (by have := HB2.out.size; simpa [World.setCell] using this) (.cells #[.int .i64 zeroNd.kd, .string zeroNd.d, .slice a1 z1 cap1, .slice a2 z2 cap2] 71)
   refine bodyPost_ret (v := .tuple #[.agg #[.int .i64 0, .string ⟨#[]⟩, .slice none 0 0, .slice none 0 0], faultV s 2]) (by simp [results, Tryz.results30, go_sem, d0, d1, d2, d3]) rfl ?_
   exact RetLd.bad HE.out (by decide) hbe
theorem txt_ne {l : List UInt8} {s : ByteArray} : (⟨l.toArray⟩ : ByteArray) = s ↔ l = s.data.toList := by
 constructor
 ·rintro rfl; simp
 ·rintro rfl; simp
def loadR (r : Except Int Nd) (kd : Int) : Except Int Nd := match r with
 | .error x => .error x
 | .ok n => if n.kd = kd then .ok n else .error 10
theorem loadR_ok {r : Except Int Nd} {n : Nd} {kd : Int} (h : r = .ok n) (hk : n.kd = kd) : loadR r kd = .ok n := by subst h; unfold loadR; simp only; rw [if_pos hk]
theorem loadR_kind {r : Except Int Nd} {n : Nd} {kd : Int} (h : r = .ok n) (hk : n.kd ≠ kd) : loadR r kd = .error 10 := by subst h; unfold loadR; simp only; rw [if_neg hk]
theorem loadR_bad {r : Except Int Nd} {x : Int} {kd : Int} (h : r = .error x) : loadR r kd = .error x := by subst h; rfl
theorem loadE_none {O : List Ob} {t : List UInt8} {kd : Int} (h : getO O t = none) : loadE O t kd = loadR (readE O t) kd := by unfold loadE readE; rw [h]; rfl
theorem loadE_sum {O : List Ob} {t : List UInt8} {kd : Int} {y : Ob} (h : getO O t = some y) (hs : shaSum y.u = t) : loadE O t kd = loadR (readE O t) kd := by
 unfold loadE readE; rw [h]
 simp only
 rw [if_pos hs]
 cases readN y.u <;> rfl
theorem loadE_key {O : List Ob} {t : List UInt8} {kd : Int} {y : Ob} (h : getO O t = some y) (hs : shaSum y.u ≠ t) : loadE O t kd = .error 11 := by
 unfold loadE; rw [h]
 simp only
 rw [if_neg hs]
theorem str_ne_Fgd {x y : ByteArray} (h : x ≠ y) : (x.toList == y.toList) = false ∧ (x.toList != y.toList) = true := by
 have := beq_false h
 exact ⟨this, by simp [bne, this]⟩
set_option maxRecDepth 100000 in
set_option maxHeartbeats 8000000 in
theorem load_any (v : Value) (L : List Ob) (s : ByteArray) (kd : Int) (w : World) (h : IsObs w v L) (hr : RiseO L) (hl : L.length ≤ 1000000) (hz : ∀ y ∈ L, y.r.size ≤ 1000000) (hT : ErrT w) :
  Calls Tryz.prog 51 #[v, .string s, .int .i64 kd] w (RetLd (loadE L s.data.toList kd) w) := by
 have hb0 := (Below.refl w.heap.size w).alloc (Nat.le_refl _) (.cells #[.int .i64 0, .string ⟨#[]⟩, .slice none 0 0, .slice none 0 0] 71)
 have HX0 := Lib.hid (Row.made w #[.int .i64 0, .string ⟨#[]⟩, .slice none 0 0, .slice none 0 0] 71)
 have HT0 := Lib.hid (hT.stays hb0)
 have CG := Lib.hid (pGet_any v L s _ (h.stays hb0) hr hl)
 have HO0 := Lib.hid (h.stays hb0)
 have HB0 := Lib.hid hb0
 have HR := Lib.hid hr; have HZ := Lib.hid hz
 clear h hT hb0 hr hz
 cases hg : getO L s.data.toList with
 | none =>
  have HRE := Lib.hid (loadE_none (kd := kd) hg)
  rw [hg] at CG
  simp only [Option.isSome_none] at CG
  obtain ⟨x, hx⟩ : ∃ x, x = gotO L s.data.toList := ⟨_, rfl⟩
  rw [← hx] at CG
  clear hg hx
  go_enter Tryz.func51, Tryz.ntmps51
  go_wp2_with fail
  with_reducible refine CG.out.mono ?_
  rintro e w1 ⟨rfl, hb1⟩
  have HB := Lib.hid (below_step HB0.out hb1)
  have HX := Lib.hid (HX0.out.step hb1)
  have HT := Lib.hid (HT0.out.stays hb1); have HO := Lib.hid (HO0.out.stays hb1)
  clear hb1
  have CR := Lib.hid (read_any v L s w1 HO.out HR.out hl HZ.out HT.out)
  clear hl
  go_wp2_with fail
  with_reducible refine CR.out.mono ?_
  rintro e w3 (⟨n, pv, ev, hok, rfl, hpv, hev, hb3⟩ | ⟨k, s', hbad, hk, rfl, hb3⟩)
  ·have HB3 := Lib.hid (below_step HB.out hb3)
   have HX3 := Lib.hid (HX.out.step hb3)
   have HLS := Lib.hid (show w.heap.size < w1.heap.size from HX.out.lt)
   obtain ⟨_, a1, cap1, hv1, _, _⟩ := hpv.is
   obtain ⟨_, a2, cap2, hv2, _, _⟩ := hev.is
   have HP := Lib.hid hpv; have HV := Lib.hid hev
   clear hpv hev hb3
   obtain ⟨z1, hz1⟩ : ∃ z, z = n.ps.length := ⟨_, rfl⟩
   obtain ⟨z2, hz2⟩ : ∃ z, z = n.es.length := ⟨_, rfl⟩
   rw [← hz1] at hv1; rw [← hz2] at hv2
   clear hz1 hz2
   subst hv1 hv2
   have p0 := HX3.out.cell 0; have p1 := HX3.out.cell 1; have p2 := HX3.out.cell 2; have p3 := HX3.out.cell 3
   have f0 := HX3.out.free 0; have f1 := HX3.out.free 1; have f2 := HX3.out.free 2; have f3 := HX3.out.free 3
   simp only [List.getElem?_toArray, List.getElem?_cons_zero, List.getElem?_cons_succ] at p0 p1 p2 p3
   have hlx := HX3.out.lt
   by_cases hkd : n.kd = kd
   ·have hkb : (n.kd == kd) = true := beq_iff_eq.2 hkd
    have HE := Lib.hid (HRE.out.trans (loadR_ok hok hkd))
    clear hok
    subst hkd
    go_wp2
    have hR4 := (row4_row HX3.out (.int .i64 n.kd) (.string n.d) (.slice a1 z1 cap1) (.slice a2 z2 cap2)).alloc (.cells #[.int .i64 n.kd, .string n.d, .slice a1 z1 cap1, .slice a2 z2 cap2] 71)
    have d0 := hR4.cell 0; have d1 := hR4.cell 1; have d2 := hR4.cell 2; have d3 := hR4.cell 3
    simp only [List.getElem?_toArray, List.getElem?_cons_zero, List.getElem?_cons_succ] at d0 d1 d2 d3
    have hbe := (((((HB3.out.setCell (p := ⟨w.heap.size, 0, none⟩) (Nat.le_refl _) (.int .i64 n.kd)).setCell (p := ⟨w.heap.size, 1, none⟩) (Nat.le_refl _) (.string n.d)).setCell (p := ⟨w.heap.size, 2, none⟩) (Nat.le_refl _) (.slice a1 z1 cap1)).setCell (p := ⟨w.heap.size, 3, none⟩) (Nat.le_refl _) (.slice a2 z2 cap2))).alloc (by have := HB3.out.size; simpa [World.setCell] using this) (.cells #[.int .i64 n.kd, .string n.d, .slice a1 z1 cap1, .slice a2 z2 cap2] 71)
    refine bodyPost_ret (v := .tuple #[.agg #[.int .i64 n.kd, .string n.d, .slice a1 z1 cap1, .slice a2 z2 cap2], .nilIface]) (by simp [results, Tryz.results51, go_sem, d0, d1, d2, d3]) rfl ?_
    exact .inl ⟨n, _, _, HE.out, rfl, World.ownsRow.alloc (((((HP.out.setBelow (a := ⟨w.heap.size, 0, none⟩) HLS.out _).setBelow (a := ⟨w.heap.size, 1, none⟩) HLS.out _).setBelow (a := ⟨w.heap.size, 2, none⟩) HLS.out _).setBelow (a := ⟨w.heap.size, 3, none⟩) HLS.out _).low (Nat.le_of_lt HLS.out)) _, World.ownsRow.alloc (((((HV.out.setBelow (a := ⟨w.heap.size, 0, none⟩) HLS.out _).setBelow (a := ⟨w.heap.size, 1, none⟩) HLS.out _).setBelow (a := ⟨w.heap.size, 2, none⟩) HLS.out _).setBelow (a := ⟨w.heap.size, 3, none⟩) HLS.out _).low (Nat.le_of_lt HLS.out)) _, hbe⟩
   ·have hkb : (n.kd == kd) = false := beq_eq_false_iff_ne.2 hkd
    have hkb2 : (n.kd != kd) = true := bne_iff_ne.2 hkd
    have HE := Lib.hid (HRE.out.trans (loadR_kind hok hkd))
    clear hok hkd
    go_wp2
    have hR4 := (row4_row HX3.out (.int .i64 0) (.string ⟨#[]⟩) (.slice none 0 0) (.slice none 0 0)).alloc (.cells #[.int .i64 n.kd, .string n.d, .slice a1 z1 cap1, .slice a2 z2 cap2] 71)
    have d0 := hR4.cell 0; have d1 := hR4.cell 1; have d2 := hR4.cell 2; have d3 := hR4.cell 3
    simp only [List.getElem?_toArray, List.getElem?_cons_zero, List.getElem?_cons_succ] at d0 d1 d2 d3
    have hbe := (((((HB3.out.setCell (p := ⟨w.heap.size, 0, none⟩) (Nat.le_refl _) (.int .i64 0)).setCell (p := ⟨w.heap.size, 1, none⟩) (Nat.le_refl _) (.string ⟨#[]⟩)).setCell (p := ⟨w.heap.size, 2, none⟩) (Nat.le_refl _) (.slice none 0 0)).setCell (p := ⟨w.heap.size, 3, none⟩) (Nat.le_refl _) (.slice none 0 0))).alloc (by have := HB3.out.size; simpa [World.setCell] using this) (.cells #[.int .i64 n.kd, .string n.d, .slice a1 z1 cap1, .slice a2 z2 cap2] 71)
    refine bodyPost_ret (v := .tuple #[.agg #[.int .i64 0, .string ⟨#[]⟩, .slice none 0 0, .slice none 0 0], faultV s 10]) (by simp [results, Tryz.results51, go_sem, d0, d1, d2, d3]) rfl ?_
    exact RetLd.bad HE.out (by decide) hbe
  ·have HB3 := Lib.hid (below_step HB.out hb3)
   have HX3 := Lib.hid (HX.out.step hb3)
   have HE := Lib.hid (HRE.out.trans (loadR_bad hbad))
   have HK := Lib.hid hk
   clear hbad hk hb3
   have p0 := HX3.out.cell 0; have p1 := HX3.out.cell 1; have p2 := HX3.out.cell 2; have p3 := HX3.out.cell 3
   have f0 := HX3.out.free 0; have f1 := HX3.out.free 1; have f2 := HX3.out.free 2; have f3 := HX3.out.free 3
   simp only [List.getElem?_toArray, List.getElem?_cons_zero, List.getElem?_cons_succ] at p0 p1 p2 p3
   have hlx := HX3.out.lt
   go_wp2
   have hR4 := (row4_row HX3.out (.int .i64 0) (.string ⟨#[]⟩) (.slice none 0 0) (.slice none 0 0)).alloc (.cells #[.int .i64 0, .string ⟨#[]⟩, .slice none 0 0, .slice none 0 0] 71)
   have d0 := hR4.cell 0; have d1 := hR4.cell 1; have d2 := hR4.cell 2; have d3 := hR4.cell 3
   simp only [List.getElem?_toArray, List.getElem?_cons_zero, List.getElem?_cons_succ] at d0 d1 d2 d3
   have hbe := (((((HB3.out.setCell (p := ⟨w.heap.size, 0, none⟩) (Nat.le_refl _) (.int .i64 0)).setCell (p := ⟨w.heap.size, 1, none⟩) (Nat.le_refl _) (.string ⟨#[]⟩)).setCell (p := ⟨w.heap.size, 2, none⟩) (Nat.le_refl _) (.slice none 0 0)).setCell (p := ⟨w.heap.size, 3, none⟩) (Nat.le_refl _) (.slice none 0 0))).alloc (by have := HB3.out.size; simpa [World.setCell] using this) (.cells #[.int .i64 0, .string ⟨#[]⟩, .slice none 0 0, .slice none 0 0] 71)
   refine bodyPost_ret (v := .tuple #[.agg #[.int .i64 0, .string ⟨#[]⟩, .slice none 0 0, .slice none 0 0], faultV s' k]) (by simp [results, Tryz.results51, go_sem, d0, d1, d2, d3]) rfl ?_
   exact RetLd.bad HE.out HK.out hbe
 | some y =>
  have hy := (getO_some HR.out).1 hg
  have HZy := Lib.hid (HZ.out y hy.1)
  have hgo : gotO L s.data.toList = y.r := by unfold gotO; rw [hg]; rfl
  rw [hg, hgo] at CG
  simp only [Option.isSome_some] at CG
  have CS := Lib.hid (fun W => Sum_any y.r (Nat.le_trans HZy.out (by decide)) W)
  rw [show y.r.data.toList = y.u from rfl] at CS
  have HG := Lib.hid hg
  clear hg hgo hy
  obtain ⟨x, hx⟩ : ∃ x : ByteArray, x = ⟨(shaSum y.u).toArray⟩ := ⟨_, rfl⟩
  rw [← hx] at CS
  by_cases hs : x = s
  ·have HRE := Lib.hid (loadE_sum (kd := kd) HG.out (txt_ne.1 (hx.symm.trans hs)))
   have q1 := beq_true hs
   clear hs hx
   go_enter Tryz.func51, Tryz.ntmps51
   go_wp2_with fail
   with_reducible refine CG.out.mono ?_
   rintro e w1 ⟨rfl, hb1⟩
   have HB1 := Lib.hid (below_step HB0.out hb1)
   have HX1 := Lib.hid (HX0.out.step hb1)
   have HT1 := Lib.hid (HT0.out.stays hb1); have HO1 := Lib.hid (HO0.out.stays hb1)
   clear hb1
   go_wp2_with fail
   with_reducible refine (CS.out _).mono ?_
   rintro e w2 ⟨rfl, hb2⟩
   have HB := Lib.hid (below_step HB1.out hb2)
   have HX := Lib.hid (HX1.out.step hb2)
   have HT := Lib.hid (HT1.out.stays hb2); have HO := Lib.hid (HO1.out.stays hb2)
   clear hb2
   have CR := Lib.hid (read_any v L s w2 HO.out HR.out hl HZ.out HT.out)
   clear hl
   go_wp2_with fail
   with_reducible refine CR.out.mono ?_
   rintro e w3 (⟨n, pv, ev, hok, rfl, hpv, hev, hb3⟩ | ⟨k, s', hbad, hk, rfl, hb3⟩)
   ·have HB3 := Lib.hid (below_step HB.out hb3)
    have HX3 := Lib.hid (HX.out.step hb3)
    have HLS := Lib.hid (show w.heap.size < w2.heap.size from HX.out.lt)
    obtain ⟨_, a1, cap1, hv1, _, _⟩ := hpv.is
    obtain ⟨_, a2, cap2, hv2, _, _⟩ := hev.is
    have HP := Lib.hid hpv; have HV := Lib.hid hev
    clear hpv hev hb3
    obtain ⟨z1, hz1⟩ : ∃ z, z = n.ps.length := ⟨_, rfl⟩
    obtain ⟨z2, hz2⟩ : ∃ z, z = n.es.length := ⟨_, rfl⟩
    rw [← hz1] at hv1; rw [← hz2] at hv2
    clear hz1 hz2
    subst hv1 hv2
    have p0 := HX3.out.cell 0; have p1 := HX3.out.cell 1; have p2 := HX3.out.cell 2; have p3 := HX3.out.cell 3
    have f0 := HX3.out.free 0; have f1 := HX3.out.free 1; have f2 := HX3.out.free 2; have f3 := HX3.out.free 3
    simp only [List.getElem?_toArray, List.getElem?_cons_zero, List.getElem?_cons_succ] at p0 p1 p2 p3
    have hlx := HX3.out.lt
    by_cases hkd : n.kd = kd
    ·have hkb : (n.kd == kd) = true := beq_iff_eq.2 hkd
     have HE := Lib.hid (HRE.out.trans (loadR_ok hok hkd))
     clear hok
     subst hkd
     go_wp2
     have hR4 := (row4_row HX3.out (.int .i64 n.kd) (.string n.d) (.slice a1 z1 cap1) (.slice a2 z2 cap2)).alloc (.cells #[.int .i64 n.kd, .string n.d, .slice a1 z1 cap1, .slice a2 z2 cap2] 71)
     have d0 := hR4.cell 0; have d1 := hR4.cell 1; have d2 := hR4.cell 2; have d3 := hR4.cell 3
     simp only [List.getElem?_toArray, List.getElem?_cons_zero, List.getElem?_cons_succ] at d0 d1 d2 d3
     have hbe := (((((HB3.out.setCell (p := ⟨w.heap.size, 0, none⟩) (Nat.le_refl _) (.int .i64 n.kd)).setCell (p := ⟨w.heap.size, 1, none⟩) (Nat.le_refl _) (.string n.d)).setCell (p := ⟨w.heap.size, 2, none⟩) (Nat.le_refl _) (.slice a1 z1 cap1)).setCell (p := ⟨w.heap.size, 3, none⟩) (Nat.le_refl _) (.slice a2 z2 cap2))).alloc (by have := HB3.out.size; simpa [World.setCell] using this) (.cells #[.int .i64 n.kd, .string n.d, .slice a1 z1 cap1, .slice a2 z2 cap2] 71)
     refine bodyPost_ret (v := .tuple #[.agg #[.int .i64 n.kd, .string n.d, .slice a1 z1 cap1, .slice a2 z2 cap2], .nilIface]) (by simp [results, Tryz.results51, go_sem, d0, d1, d2, d3]) rfl ?_
     exact .inl ⟨n, _, _, HE.out, rfl, World.ownsRow.alloc (((((HP.out.setBelow (a := ⟨w.heap.size, 0, none⟩) HLS.out _).setBelow (a := ⟨w.heap.size, 1, none⟩) HLS.out _).setBelow (a := ⟨w.heap.size, 2, none⟩) HLS.out _).setBelow (a := ⟨w.heap.size, 3, none⟩) HLS.out _).low (Nat.le_of_lt HLS.out)) _, World.ownsRow.alloc (((((HV.out.setBelow (a := ⟨w.heap.size, 0, none⟩) HLS.out _).setBelow (a := ⟨w.heap.size, 1, none⟩) HLS.out _).setBelow (a := ⟨w.heap.size, 2, none⟩) HLS.out _).setBelow (a := ⟨w.heap.size, 3, none⟩) HLS.out _).low (Nat.le_of_lt HLS.out)) _, hbe⟩
    ·have hkb : (n.kd == kd) = false := beq_eq_false_iff_ne.2 hkd
     have hkb2 : (n.kd != kd) = true := bne_iff_ne.2 hkd
     have HE := Lib.hid (HRE.out.trans (loadR_kind hok hkd))
     clear hok hkd
     go_wp2
     have hR4 := (row4_row HX3.out (.int .i64 0) (.string ⟨#[]⟩) (.slice none 0 0) (.slice none 0 0)).alloc (.cells #[.int .i64 n.kd, .string n.d, .slice a1 z1 cap1, .slice a2 z2 cap2] 71)
     have d0 := hR4.cell 0; have d1 := hR4.cell 1; have d2 := hR4.cell 2; have d3 := hR4.cell 3
     simp only [List.getElem?_toArray, List.getElem?_cons_zero, List.getElem?_cons_succ] at d0 d1 d2 d3
     have hbe := (((((HB3.out.setCell (p := ⟨w.heap.size, 0, none⟩) (Nat.le_refl _) (.int .i64 0)).setCell (p := ⟨w.heap.size, 1, none⟩) (Nat.le_refl _) (.string ⟨#[]⟩)).setCell (p := ⟨w.heap.size, 2, none⟩) (Nat.le_refl _) (.slice none 0 0)).setCell (p := ⟨w.heap.size, 3, none⟩) (Nat.le_refl _) (.slice none 0 0))).alloc (by have := HB3.out.size; simpa [World.setCell] using this) (.cells #[.int .i64 n.kd, .string n.d, .slice a1 z1 cap1, .slice a2 z2 cap2] 71)
     refine bodyPost_ret (v := .tuple #[.agg #[.int .i64 0, .string ⟨#[]⟩, .slice none 0 0, .slice none 0 0], faultV s 10]) (by simp [results, Tryz.results51, go_sem, d0, d1, d2, d3]) rfl ?_
     exact RetLd.bad HE.out (by decide) hbe
   ·have HB3 := Lib.hid (below_step HB.out hb3)
    have HX3 := Lib.hid (HX.out.step hb3)
    have HE := Lib.hid (HRE.out.trans (loadR_bad hbad))
    have HK := Lib.hid hk
    clear hbad hk hb3
    have p0 := HX3.out.cell 0; have p1 := HX3.out.cell 1; have p2 := HX3.out.cell 2; have p3 := HX3.out.cell 3
    have f0 := HX3.out.free 0; have f1 := HX3.out.free 1; have f2 := HX3.out.free 2; have f3 := HX3.out.free 3
    simp only [List.getElem?_toArray, List.getElem?_cons_zero, List.getElem?_cons_succ] at p0 p1 p2 p3
    have hlx := HX3.out.lt
    go_wp2
    have hR4 := (row4_row HX3.out (.int .i64 0) (.string ⟨#[]⟩) (.slice none 0 0) (.slice none 0 0)).alloc (.cells #[.int .i64 0, .string ⟨#[]⟩, .slice none 0 0, .slice none 0 0] 71)
    have d0 := hR4.cell 0; have d1 := hR4.cell 1; have d2 := hR4.cell 2; have d3 := hR4.cell 3
    simp only [List.getElem?_toArray, List.getElem?_cons_zero, List.getElem?_cons_succ] at d0 d1 d2 d3
    have hbe := (((((HB3.out.setCell (p := ⟨w.heap.size, 0, none⟩) (Nat.le_refl _) (.int .i64 0)).setCell (p := ⟨w.heap.size, 1, none⟩) (Nat.le_refl _) (.string ⟨#[]⟩)).setCell (p := ⟨w.heap.size, 2, none⟩) (Nat.le_refl _) (.slice none 0 0)).setCell (p := ⟨w.heap.size, 3, none⟩) (Nat.le_refl _) (.slice none 0 0))).alloc (by have := HB3.out.size; simpa [World.setCell] using this) (.cells #[.int .i64 0, .string ⟨#[]⟩, .slice none 0 0, .slice none 0 0] 71)
    refine bodyPost_ret (v := .tuple #[.agg #[.int .i64 0, .string ⟨#[]⟩, .slice none 0 0, .slice none 0 0], faultV s' k]) (by simp [results, Tryz.results51, go_sem, d0, d1, d2, d3]) rfl ?_
    exact RetLd.bad HE.out HK.out hbe
  ·have HE := Lib.hid (loadE_key (kd := kd) HG.out (fun e => hs (hx.trans (txt_ne.2 e))))
   obtain ⟨q1, q2⟩ := str_ne_Fgd hs
   clear hs hx hl
   go_enter Tryz.func51, Tryz.ntmps51
   go_wp2_with fail
   with_reducible refine CG.out.mono ?_
   rintro e w1 ⟨rfl, hb1⟩
   have HB1 := Lib.hid (below_step HB0.out hb1)
   have HX1 := Lib.hid (HX0.out.step hb1)
   clear hb1
   go_wp2_with fail
   with_reducible refine (CS.out _).mono ?_
   rintro e w2 ⟨rfl, hb2⟩
   have HB2 := Lib.hid (below_step HB1.out hb2)
   have HX2 := Lib.hid (HX1.out.step hb2)
   clear hb2
   have p0 := HX2.out.cell 0; have p1 := HX2.out.cell 1; have p2 := HX2.out.cell 2; have p3 := HX2.out.cell 3
   have f0 := HX2.out.free 0; have f1 := HX2.out.free 1; have f2 := HX2.out.free 2; have f3 := HX2.out.free 3
   simp only [List.getElem?_toArray, List.getElem?_cons_zero, List.getElem?_cons_succ] at p0 p1 p2 p3
   have hlx := HX2.out.lt
   go_wp2
   have hR4 := (row4_row HX2.out (.int .i64 0) (.string ⟨#[]⟩) (.slice none 0 0) (.slice none 0 0))
   have d0 := hR4.cell 0; have d1 := hR4.cell 1; have d2 := hR4.cell 2; have d3 := hR4.cell 3
   simp only [List.getElem?_toArray, List.getElem?_cons_zero, List.getElem?_cons_succ] at d0 d1 d2 d3
   have hbe := ((((HB2.out.setCell (p := ⟨w.heap.size, 0, none⟩) (Nat.le_refl _) (.int .i64 0)).setCell (p := ⟨w.heap.size, 1, none⟩) (Nat.le_refl _) (.string ⟨#[]⟩)).setCell (p := ⟨w.heap.size, 2, none⟩) (Nat.le_refl _) (.slice none 0 0)).setCell (p := ⟨w.heap.size, 3, none⟩) (Nat.le_refl _) (.slice none 0 0))
   refine bodyPost_ret (v := .tuple #[.agg #[.int .i64 0, .string ⟨#[]⟩, .slice none 0 0, .slice none 0 0], faultV s 11]) (by simp [results, Tryz.results51, go_sem, d0, d1, d2, d3]) rfl ?_
   exact RetLd.bad HE.out (by decide) hbe
structure Wf (N Bw : Nat) (w w' : World) : Prop where
 os : w'.os = w.os
 tape : w'.tape = w.tape
 output : w'.output = w.output
 size : w.heap.size ≤ w'.heap.size
 block : ∀ b, b < N → b ≠ Bw → w'.heap[b]? = w.heap[b]?
theorem Wf.refl (N Bw : Nat) (w : World) : Wf N Bw w w := ⟨rfl, rfl, rfl, Nat.le_refl _, fun _ _ _ => rfl⟩
theorem Wf.of_below {N M Bw : Nat} {w w' : World} (h : Below M w w') (hN : N ≤ M) (hs : w.heap.size ≤ w'.heap.size) : Wf N Bw w w' := ⟨h.os, h.tape, h.output, hs, fun b hb _ => h.block b (Nat.lt_of_lt_of_le hb hN)⟩
theorem Wf.trans {N Bw : Nat} {a b c : World} (h : Wf N Bw a b) (k : Wf N Bw b c) : Wf N Bw a c :=
 ⟨k.os.trans h.os, k.tape.trans h.tape, k.output.trans h.output, Nat.le_trans h.size k.size, fun i hi hn => (k.block i hi hn).trans (h.block i hi hn)⟩
theorem Wf.set {N Bw i : Nat} {w : World} (u : Value) : Wf N Bw w (w.setCell ⟨Bw, i, none⟩ u) := ⟨rfl, rfl, rfl, by simp [World.setCell], fun b hb hn => heap_setCell_other _ _ _ _ hn⟩
theorem Wf.low {N M Bw : Nat} {w w' : World} (h : Wf M Bw w w') (hN : N ≤ M) : Wf N Bw w w' := ⟨h.os, h.tape, h.output, h.size, fun b hb hn => h.block b (Nat.lt_of_lt_of_le hb hN) hn⟩
theorem Wf.row {N Bw b : Nat} {w w' : World} {xs : Array Value} {T : TypeId} (h : Wf N Bw w w') (hr : Row w b xs T) (hb : b < N) (hn : b ≠ Bw) : Row w' b xs T := (h.block b hb hn).trans hr
theorem Wf.below {N B Bw : Nat} {a w w' : World} (h : Wf N Bw w w') (hb : Below B a w) (hN : B ≤ N) (hB : B ≤ Bw) : Below B a w' :=
 hb.trans ⟨h.os, h.tape, h.output, h.size, fun k hk => h.block k (Nat.lt_of_lt_of_le hk hN) (by omega)⟩
theorem Wf.owns {N Bw C : Nat} {w w' : World} {T : TypeId} {k n : Nat} {v : Value} {xs : List Value} (h : Wf N Bw w w') (ho : w.ownsRow C T k v n xs) (hN : ∀ g, v.ownBlock = some g → g < N) (hn : v.ownBlock ≠ some Bw) : w'.ownsRow C T k v n xs := by
 refine ⟨ho.1, ?_⟩
 rcases ho.2 with h2 | ⟨g, cap, cur, h3, h4, h5, h6⟩
 ·exact .inl h2
 ·exact .inr ⟨g, cap, cur, h3, h4, (h.block g (hN g (by rw [h3]; rfl)) (fun e => hn (by rw [h3, e]; rfl))).trans h5, h6⟩
theorem owns_apart {w : World} {C : Nat} {T U : TypeId} {k n : Nat} {v : Value} {xs : List Value} (ho : w.ownsRow C T k v n xs) {A : Nat} {ys : Array Value} (hA : Row w A ys U) (hT : U ≠ T) : v.ownBlock ≠ some A := fun e => by
 rcases ho.2 with ⟨rfl, _⟩ | ⟨g, cap, cur, rfl, _, hg, _⟩
 ·cases e
 ·cases e
  rw [show w.heap[g]? = _ from hA] at hg
  cases hg; exact hT rfl
structure Wlk (W0 : World) (Bw : Nat) (vO : Value) (O : List Ob) (w : World) (M : List It) (sz : Nat) (vI : Value) : Prop where
 row : Row w Bw #[vO, vI, .int .i64 sz] 57
 objs : IsObs W0 vO O
 items : OwnI W0.heap.size w vI M
 from_ : W0.heap.size ≤ Bw
 below : Below W0.heap.size W0 w
 err : ErrT W0
section
variable {W0 : World} {Bw : Nat} {vO : Value} {O : List Ob} {w w' : World} {M : List It} {sz : Nat} {vI : Value}
theorem Wlk.stays (h : Wlk W0 Bw vO O w M sz vI) (hb : Below w.heap.size w w') : Wlk W0 Bw vO O w' M sz vI :=
 ⟨h.row.step hb, h.objs, h.items.stays hb, h.from_, below_step h.below hb, h.err⟩
theorem Wlk.apart (h : Wlk W0 Bw vO O w M sz vI) : vI.ownBlock ≠ some Bw := owns_apart h.items h.row (by decide)
theorem Wlk.lt (h : Wlk W0 Bw vO O w M sz vI) : Bw < w.heap.size := h.row.lt
theorem Wlk.above {N : Nat} (h : Wlk W0 Bw vO O w M sz vI) (hb : Below N w w') (hB : Bw < N) (hI : ∀ g, vI.ownBlock = some g → g < N) : Wlk W0 Bw vO O w' M sz vI := by
 have hs := h.row
 refine ⟨(hb.block Bw hB).trans hs, h.objs, ?_, h.from_, h.below.trans (hb.mono (Nat.le_trans h.from_ (Nat.le_of_lt hB))), h.err⟩
 refine ⟨h.items.1, ?_⟩
 rcases h.items.2 with h2 | ⟨g, cap, cur, h3, h4, h5, h6⟩
 ·exact .inl h2
 ·exact .inr ⟨g, cap, cur, h3, h4, (hb.block g (hI g (by rw [h3]; rfl))).trans h5, h6⟩
theorem Wlk.size (h : Wlk W0 Bw vO O w M sz vI) (n : Nat) : Wlk W0 Bw vO O (w.setCell ⟨Bw, 2, none⟩ (.int .i64 n)) M n vI :=
 ⟨h.row.set 2 (.int .i64 n), h.objs, (Wf.set (N := w.heap.size) (.int .i64 n)).owns h.items (fun g hg => (World.ownsRow.lt h.items g hg).2) h.apart, h.from_, h.below.setCell (p := ⟨Bw, 2, none⟩) h.from_ _, h.err⟩
theorem Wlk.cells (h : Wlk W0 Bw vO O w M sz vI) : w.cell? ⟨Bw, 0, none⟩ = some vO ∧ w.cell? ⟨Bw, 1, none⟩ = some vI ∧ w.cell? ⟨Bw, 2, none⟩ = some (.int .i64 sz) := ⟨h.row.cell 0, h.row.cell 1, h.row.cell 2⟩
theorem Wlk.load (h : Wlk W0 Bw vO O w M sz vI) (hr : RiseO O) (hl : O.length ≤ 1000000) (hz : ∀ y ∈ O, y.r.size ≤ 1000000) (s : ByteArray) (kd : Int) :
  Calls Tryz.prog 51 #[vO, .string s, .int .i64 kd] w (RetLd (loadE O s.data.toList kd) w) := load_any vO O s kd w (h.objs.stays h.below) hr hl hz (h.err.stays h.below)
end
theorem names_any (s : ByteArray) (hs : s.size ≤ 1000000) (w : World) : Calls Tryz.prog 77 #[.string s] w fun e w' => e = .returned (.int .i64 ((s.data.toList.count 47 : Nat) + 1 : Int)) ∧ w = w' := by
 have hc : Lib.countB s ⟨#[47]⟩ = s.data.toList.count 47 := Lib.count_one 47 _
 have hl : s.data.toList.count 47 ≤ s.size := by rw [Lib.size_eq]; exact List.count_le_length
 have hC : Hid (Calls Tryz.prog 98 #[.string s, .string ⟨#[47]⟩] w fun e w' => e = .returned (.int .i64 (s.data.toList.count 47 : Nat)) ∧ w' = w) := Lib.hid (by
  have C := Any.strings_Count_one Tryz.lays138 s 47 w
  change Calls Tryz.prog 98 _ _ _ at C
  refine C.mono ?_
  rintro e w' ⟨rfl, rfl⟩
  exact ⟨rfl, rfl⟩)
 obtain ⟨n, hn⟩ : ∃ n, n = s.data.toList.count 47 := ⟨_, rfl⟩
 rw [← hn] at hC hl ⊢
 clear hn hc
 go_enter Tryz.func77, Tryz.ntmps77
 go_wp2_with fail
 with_reducible refine hC.out.mono ?_
 rintro e w1 ⟨rfl, rfl⟩
 go_wp2
 go_ret
 exact ⟨rfl, rfl⟩
end Go.Proofs.YtjpjpmkadoaipaaGreatDoor
set_option linter.unusedVariables false
namespace Go.Proofs.YtjpjpmkadoaipaaGreatDoor
theorem under_iff {L : List It} (hr : Rise L) {t : List UInt8} : underT L t = true ↔ dirS t = [] ∨ ∃ u ∈ L, u.t = dirS t ∧ u.d = true := by
 unfold underT
 rw [Bool.or_eq_true, decide_eq_true_eq]
 refine or_congr_right ⟨fun h => ?_, fun ⟨u, hu, ht, hd⟩ => ?_⟩
 ·cases hf : findT L (dirS t) with
  | none => rw [foundI_none hf] at h; cases h
  | some u => rw [foundI_some hf] at h; exact ⟨u, (findT_mem hf).1, (findT_mem hf).2, h⟩
 ·rw [foundI_some ((findT_some hr).2 ⟨hu, ht⟩)]; exact hd
theorem path_of {t : List UInt8} (h8 : (pts t).length ≤ 8) (hn : ∀ n ∈ pts t, nameB n = true) : pathB t = true :=
 decide_eq_true ((path_iff t).2 ⟨h8, List.all_eq_true.2 hn⟩)
theorem load_fit {O : List Ob} {t : List UInt8} {kd : Int} {n : Nd} (h : loadE O t kd = .ok n) : fitN n = true ∧ n.kd = kd := by
 unfold loadE at h
 cases hg : getO O t with
 | none => rw [hg] at h; cases h
 | some y =>
  rw [hg] at h
  change (if shaSum y.u = t then _ else _) = _ at h
  by_cases hs : shaSum y.u = t
  ·rw [if_pos hs] at h
   cases hr : readN y.u with
   | none => rw [hr] at h; cases h
   | some m =>
    rw [hr] at h
    change (if m.kd = kd then _ else _) = _ at h
    by_cases hk : m.kd = kd
    ·rw [if_pos hk] at h
     cases h
     exact ⟨(readN_some hr).1, hk⟩
    ·rw [if_neg hk] at h; cases h
  ·rw [if_neg hs] at h; cases h
theorem sumPt_cons (p : Pt) (P : List Pt) : sumPt (p :: P) = p.n + sumPt P := rfl
theorem parts_len {O : List Ob} {room : Int} : ∀ (P : List Pt) (s r : List UInt8), partsE O P room s = .ok r → (s.length : Int) ≤ room → (r.length : Int) ≤ room ∧ (r.length : Int) = s.length + sumPt P
 | [], s, r, h, hr => by
  unfold partsE at h
  cases h
  exact ⟨hr, by show _ = _ + (0 : Int); omega⟩
 | p :: P, s, r, h, hr => by
  unfold partsE at h
  cases hl : loadE O p.k.data.toList 1 with
  | error e => rw [hl] at h; cases h
  | ok n =>
   rw [hl] at h
   change (if _ then _ else _) = _ at h
   by_cases hc : (n.d.size : Int) = p.n ∧ (n.d.size : Int) ≤ room - s.length
   ·rw [if_pos hc] at h
    have hz := Lib.size_eq n.d
    obtain ⟨h1, h2⟩ := parts_len P _ r h (by rw [List.length_append]; omega)
    refine ⟨h1, ?_⟩
    rw [h2, sumPt_cons, List.length_append]; omega
   ·rw [if_neg hc] at h; cases h
theorem file_len {O : List Ob} {t s : List UInt8} {room : Int} (h : fileE O t room = .ok s) (hr : 0 ≤ room) : (s.length : Int) ≤ room ∧ s.length ≤ 32768 := by
 unfold fileE at h
 cases hl : loadE O t 2 with
 | error e => rw [hl] at h; cases h
 | ok n =>
  rw [hl] at h
  obtain ⟨h1, h2⟩ := load_fit hl
  obtain ⟨g1, g2⟩ := parts_len n.ps [] s h hr
  have := (fitFile_iff.1 (fit2 h2 h1).2.2.2).2
  refine ⟨g1, ?_⟩
  simp at g2; omega
def preL (D : List (List UInt8)) : List UInt8 := if D = [] then [] else joinS D ++ [47]
theorem free_name {n : List UInt8} (h : nameB n = true) : (47 : UInt8) ∉ n := (nameB_iff.1 h).2.2.2.2.2
theorem pre_pts {D : List (List UInt8)} {n : List UInt8} (hD : ∀ p ∈ D, nameB p = true) (hn : nameB n = true) : pts (preL D ++ n) = D ++ [n] ∧ preL D ++ n ++ [47] = preL (D ++ [n]) := by
 have hj : joinS (D ++ [n]) = preL D ++ n := by
  unfold preL
  by_cases h : D = []
  ·rw [if_pos h]; subst h; rfl
  ·rw [if_neg h, joinS_snoc h, List.append_assoc]; rfl
 refine ⟨?_, ?_⟩
 ·rw [← hj]
  exact pts_joinS (by simp) fun p hp => by
   rcases List.mem_append.1 hp with h | h
   ·exact free_name (hD p h)
   ·rw [List.mem_singleton.1 h]; exact free_name hn
 ·rw [← hj]
  have h2 : preL (D ++ [n]) = joinS (D ++ [n]) ++ [47] := if_neg (by simp)
  exact h2.symm
structure BlkOk (D : List (List UInt8)) (M : List It) : Prop where
 here : ∀ y ∈ M, ∃ r, r ≠ [] ∧ pts y.t = D ++ r
 names : ∀ y ∈ M, ∀ n ∈ pts y.t, nameB n = true
 deep : ∀ y ∈ M, (pts y.t).length ≤ 8
 rise : Rise M
 form : ∀ y ∈ M, badI y = false
 data : ∀ y ∈ M, y.c.size ≤ 32768
 up : ∀ y ∈ M, (∃ n, pts y.t = D ++ [n]) ∨ ∃ z ∈ M, z.d = true ∧ ∃ n, pts y.t = pts z.t ++ [n]
theorem blk_none (D : List (List UInt8)) : BlkOk D [] :=
 ⟨fun _ h => (by cases h), fun _ h => (by cases h), fun _ h => (by cases h), List.Pairwise.nil, fun _ h => (by cases h), fun _ h => (by cases h), fun _ h => (by cases h)⟩
theorem blk_join {D : List (List UInt8)} {A B : List It} (h : BlkOk D A) (k : BlkOk D B) (ho : ∀ x ∈ A, ∀ y ∈ B, orderS x.t y.t = -1) : BlkOk D (A ++ B) := by
 refine ⟨fun y hy => ?_, fun y hy => ?_, fun y hy => ?_, List.pairwise_append.2 ⟨h.rise, k.rise, ho⟩, fun y hy => ?_, fun y hy => ?_, fun y hy => ?_⟩
 ·exact (List.mem_append.1 hy).elim (h.here y) (k.here y)
 ·exact (List.mem_append.1 hy).elim (h.names y) (k.names y)
 ·exact (List.mem_append.1 hy).elim (h.deep y) (k.deep y)
 ·exact (List.mem_append.1 hy).elim (h.form y) (k.form y)
 ·exact (List.mem_append.1 hy).elim (h.data y) (k.data y)
 ·rcases List.mem_append.1 hy with hy | hy
  ·exact (h.up y hy).imp id fun ⟨z, hz, g⟩ => ⟨z, List.mem_append_left _ hz, g⟩
  ·exact (k.up y hy).imp id fun ⟨z, hz, g⟩ => ⟨z, List.mem_append_right _ hz, g⟩
theorem blk_one {D : List (List UInt8)} {n : List UInt8} {y : It} (hp : pts y.t = D ++ [n]) (hD : ∀ p ∈ D, nameB p = true) (hn : nameB n = true) (hl : D.length < 8) (hb : badI y = false) (hs : y.c.size ≤ 32768) : BlkOk D [y] := by
 refine ⟨fun z hz => ?_, fun z hz m hm => ?_, fun z hz => ?_, List.pairwise_singleton _ _, fun z hz => ?_, fun z hz => ?_, fun z hz => ?_⟩ <;> obtain rfl := List.mem_singleton.1 hz
 ·exact ⟨[n], by simp, hp⟩
 ·rw [hp] at hm
  rcases List.mem_append.1 hm with h | h
  ·exact hD m h
  ·rw [List.mem_singleton.1 h]; exact hn
 ·rw [hp, List.length_append]; simp; omega
 ·exact hb
 ·exact hs
 ·exact .inl ⟨n, hp⟩
theorem blk_dir {D : List (List UInt8)} {n : List UInt8} {y : It} {M : List It} (h : BlkOk (D ++ [n]) M) (hp : pts y.t = D ++ [n]) (hd : y.d = true) (h1 : BlkOk D [y]) : BlkOk D (y :: M) := by
 refine ⟨fun z hz => ?_, fun z hz => ?_, fun z hz => ?_, List.pairwise_cons.2 ⟨fun z hz => ?_, h.rise⟩, fun z hz => ?_, fun z hz => ?_, fun z hz => ?_⟩
 ·rcases List.mem_cons.1 hz with e | hz
  ·exact h1.here z (by rw [e]; simp)
  ·obtain ⟨r, _, e⟩ := h.here z hz
   exact ⟨n :: r, by simp, by rw [e]; simp⟩
 ·rcases List.mem_cons.1 hz with e | hz
  ·exact h1.names z (by rw [e]; simp)
  ·exact h.names z hz
 ·rcases List.mem_cons.1 hz with e | hz
  ·exact h1.deep z (by rw [e]; simp)
  ·exact h.deep z hz
 ·obtain ⟨r, hr, e⟩ := h.here z hz
  show cmpP _ _ = _
  rw [hp, e]
  exact cmp_below _ hr
 ·rcases List.mem_cons.1 hz with e | hz
  ·exact h1.form z (by rw [e]; simp)
  ·exact h.form z hz
 ·rcases List.mem_cons.1 hz with e | hz
  ·exact h1.data z (by rw [e]; simp)
  ·exact h.data z hz
 ·rcases List.mem_cons.1 hz with e | hz
  ·exact .inl ⟨n, by rw [e]; exact hp⟩
  ·rcases h.up z hz with ⟨m, e⟩ | ⟨u, hu, hud, m, e⟩
   ·exact .inr ⟨y, by simp, hd, m, by rw [e, hp]⟩
   ·exact .inr ⟨u, List.mem_cons_of_mem _ hu, hud, m, e⟩
theorem rises_pair {E : List En} (h : RisesN E) : E.Pairwise fun a b => a.m.data.toList < b.m.data.toList := by
 refine List.pairwise_iff_getElem.2 fun i j hi hj hij => ?_
 induction j with
 | zero => omega
 | succ j ih =>
  have h1 := h (j + 1) hj (by omega)
  rcases Nat.lt_or_ge i j with e | e
  ·exact List.lt_trans (ih (by omega) e) h1
  ·obtain rfl : i = j := by omega
   exact h1
def Told (D : List (List UInt8)) (Q : It → Prop) (out out' : List It) : Prop :=
 out'.length ≤ 60 ∧ sizeT out' ≤ 65536 ∧ ∃ M, out' = out ++ M ∧ BlkOk D M ∧ ∀ y ∈ M, Q y
theorem ents_told {D : List (List UInt8)} {f : List It → En → Except Int (List It)} : ∀ (E : List En), E.Pairwise (fun a b => a.m.data.toList < b.m.data.toList) →
  (∀ e ∈ E, ∀ out out', out.length ≤ 60 → sizeT out ≤ 65536 → f out e = .ok out' → Told D (fun y => ∃ r, pts y.t = D ++ e.m.data.toList :: r) out out') →
  ∀ out out', out.length ≤ 60 → sizeT out ≤ 65536 → entsE f E out = .ok out' → Told D (fun y => ∃ e ∈ E, ∃ r, pts y.t = D ++ e.m.data.toList :: r) out out'
 | [], _, _, out, out', h1, h2, h => by
  unfold entsE at h
  cases h
  exact ⟨h1, h2, [], by simp, blk_none D, fun _ h => by cases h⟩
 | e :: E, hp, hf, out, out', h1, h2, h => by
  obtain ⟨p1, p2⟩ := List.pairwise_cons.1 hp
  unfold entsE at h
  cases hx : f out e with
  | error x => rw [hx] at h; cases h
  | ok o1 =>
   rw [hx] at h
   obtain ⟨g1, g2, M, rfl, hM, hQ⟩ := hf e (by simp) out o1 h1 h2 hx
   obtain ⟨k1, k2, M', rfl, hM', hQ'⟩ := ents_told E p2 (fun e' he' => hf e' (List.mem_cons_of_mem _ he')) _ out' g1 g2 h
   refine ⟨k1, k2, M ++ M', List.append_assoc .., blk_join hM hM' fun x hx y hy => ?_, fun y hy => ?_⟩
   ·obtain ⟨r, er⟩ := hQ x hx
    obtain ⟨e', he', r', er'⟩ := hQ' y hy
    show cmpP _ _ = _
    rw [er, er', cmp_app, cmp_cons, if_pos (p1 e' he')]
   ·rcases List.mem_append.1 hy with hy | hy
    ·obtain ⟨r, er⟩ := hQ y hy
     exact ⟨e, by simp, r, er⟩
    ·obtain ⟨e', he', r', er'⟩ := hQ' y hy
     exact ⟨e', List.mem_cons_of_mem _ he', r', er'⟩
theorem dir_told {O : List Ob} : ∀ (k : Nat) (D : List (List UInt8)) (key : List UInt8) (out out' : List It), D.length + k = 8 → (∀ n ∈ D, nameB n = true) → out.length ≤ 60 → sizeT out ≤ 65536 → dirE O k key (preL D) out = .ok out' →
  Told D (fun _ => True) out out'
 | 0, D, key, out, out', hk, hD, h1, h2, h => by
  unfold dirE at h
  cases hl : loadE O key 3 with
  | error e => rw [hl] at h; cases h
  | ok n =>
   rw [hl] at h
   change entsE _ n.es out = _ at h
   cases he : n.es with
   | nil =>
    rw [he] at h
    unfold entsE at h
    cases h
    exact ⟨h1, h2, [], by simp, blk_none D, fun _ _ => trivial⟩
   | cons e E => rw [he] at h; unfold entsE at h; cases h
 | k + 1, D, key, out, out', hk, hD, h1, h2, h => by
  unfold dirE at h
  cases hl : loadE O key 3 with
  | error e => rw [hl] at h; cases h
  | ok n =>
   rw [hl] at h
   change entsE _ n.es out = _ at h
   obtain ⟨hf, hkd⟩ := load_fit hl
   obtain ⟨hok, hri⟩ := fitDir_iff.1 (fit3 hkd hf).2.2.2
   obtain ⟨k1, k2, M, e, hM, _⟩ := ents_told (D := D) n.es (rises_pair hri) (fun e he out out' h1 h2 h => by
    have hen := okEn_iff.1 (hok e he)
    obtain ⟨hp1, hp2⟩ := pre_pts hD hen.1
    unfold ent1E at h
    by_cases h60 : 60 ≤ out.length
    ·rw [if_pos h60] at h; cases h
    rw [if_neg h60] at h
    by_cases h3 : e.kd = 3
    ·rw [if_pos h3, hp2] at h
     have hy : pts (⟨⟨(preL D ++ e.m.data.toList).toArray⟩, true, false, ⟨#[]⟩⟩ : It).t = D ++ [e.m.data.toList] := by
      rw [← hp1]; simp [It.t]
     have hb1 : BlkOk D [(⟨⟨(preL D ++ e.m.data.toList).toArray⟩, true, false, ⟨#[]⟩⟩ : It)] := blk_one hy hD hen.1 (by omega) (by rfl) (Nat.zero_le _)
     obtain ⟨g1, g2, M', rfl, hM', _⟩ := dir_told k (D ++ [e.m.data.toList]) e.k.data.toList _ out' (by rw [List.length_append]; simp; omega) (fun m hm => by
      rcases List.mem_append.1 hm with h | h
      ·exact hD m h
      ·rw [List.mem_singleton.1 h]; exact hen.1) (by rw [List.length_append]; simp; omega) (by rw [sizeT_app, sizeT_cons]; exact h2) h
     refine ⟨g1, g2, _ :: M', List.append_assoc .., blk_dir hM' hy rfl hb1, fun y hy' => ?_⟩
     rcases List.mem_cons.1 hy' with e' | hy'
     ·exact ⟨[], by rw [e']; exact hy⟩
     ·obtain ⟨r, _, er⟩ := hM'.here y hy'
      exact ⟨r, by rw [er, List.append_assoc]; rfl⟩
    ·rw [if_neg h3] at h
     cases hfl : fileE O e.k.data.toList (65536 - (sizeT out : Int)) with
     | error x => rw [hfl] at h; cases h
     | ok s =>
      rw [hfl] at h
      obtain ⟨f1, f2⟩ := file_len hfl (by omega)
      injection h with h
      subst h
      have hy : pts (⟨⟨(preL D ++ e.m.data.toList).toArray⟩, false, e.x, ⟨s.toArray⟩⟩ : It).t = D ++ [e.m.data.toList] := by
       rw [← hp1]; simp [It.t]
      have hs : (⟨s.toArray⟩ : ByteArray).size = s.length := by rw [Lib.size_eq]
      refine ⟨by rw [List.length_append]; simp; omega, by rw [sizeT_app, sizeT_cons]; have : sizeT [] = 0 := rfl; show sizeT out + ((⟨s.toArray⟩ : ByteArray).size + sizeT []) ≤ 65536; omega, _, rfl, blk_one hy hD hen.1 (by omega) (by rfl) (by show (⟨s.toArray⟩ : ByteArray).size ≤ _; omega), fun y hy' => ?_⟩
      rw [List.mem_singleton.1 hy']
      exact ⟨[], hy⟩) out out' h1 h2 h
   exact ⟨k1, k2, M, e, hM, fun _ _ => trivial⟩
theorem blk_tree {M : List It} (h : BlkOk [] M) (hl : M.length ≤ 60) (hs : sizeT M ≤ 65536) : TFit M := by
 have hp : ∀ y ∈ M, pathB y.t = true := fun y hy => path_of (h.deep y hy) (h.names y hy)
 refine ⟨hl, h.rise, hp, h.form, h.data, fun y hy => (under_iff h.rise).2 ?_, hs⟩
 have P := path_ok (hp y hy)
 rcases h.up y hy with ⟨n, e⟩ | ⟨z, hz, hd, n, e⟩
 ·exact .inl (dir_of (n := n) (hp y hy) (by rw [P.pts, e, cs_nil])).1
 ·have Q := path_ok (hp z hz)
  exact .inr ⟨z, hz, ((dir_of (n := n) (hp y hy) (by rw [P.pts, e, Q.pts])).1).symm, hd⟩
theorem tree_told {O : List Ob} {key : List UInt8} {L : List It} (h : treeE O key = .ok L) : TFit L := by
 obtain ⟨h1, h2, M, e, hM, _⟩ := dir_told 8 [] key [] L rfl (fun _ h => by cases h) (Nat.zero_le _) (Nat.zero_le _) h
 rw [List.nil_append] at e
 subst e
 exact blk_tree hM h1 h2
end Go.Proofs.YtjpjpmkadoaipaaGreatDoor
set_option linter.unusedVariables false
namespace Go.Proofs.YtjpjpmkadoaipaaGreatDoor
open Go Go.RowKit
attribute [local go_sem] Oper.semAt_some
def LdV (r : Except Int Nd) (v : Value) : Prop := (∃ n pv ev, r = .ok n ∧ v = .tuple #[ndV n pv ev, .nilIface] ∧ (∃ a k c, pv = .slice a k c) ∧ ∃ a k c, ev = .slice a k c) ∨ ∃ k s, r = .error k ∧ k ∈ wrongs ∧ v = .tuple #[zeroNV, faultV s k]
def NdV (r : Except Int Nd) (v : Value) : Prop := (∃ n pv ev, r = .ok n ∧ v = ndV n pv ev ∧ (∃ a k c, pv = .slice a k c) ∧ ∃ a k c, ev = .slice a k c) ∨ ∃ k, r = .error k ∧ v = zeroNV
def EvV (r : Except Int Nd) (v : Value) : Prop := (∃ n, r = .ok n ∧ v = .nilIface) ∨ ∃ k s, r = .error k ∧ k ∈ wrongs ∧ v = faultV s k
theorem NdV.shape {r : Except Int Nd} {v : Value} (h : NdV r v) : ∃ kd d pa pn pc ea en ec, v = .agg #[.int .i64 kd, .string d, .slice pa pn pc, .slice ea en ec] := by
 rcases h with ⟨n, _, _, _, rfl, ⟨a, k, c, rfl⟩, a', k', c', rfl⟩ | ⟨k, _, rfl⟩
 ·exact ⟨_, _, _, _, _, _, _, _, rfl⟩
 ·exact ⟨_, _, _, _, _, _, _, _, rfl⟩
theorem NdV.of_ok {r : Except Int Nd} {m : Nd} {kd d pv ev : Value} (h : NdV r (.agg #[kd, d, pv, ev])) (hm : r = .ok m) : kd = .int .i64 m.kd ∧ d = .string m.d := by
 rcases h with ⟨n, _, _, hr, he, _⟩ | ⟨k, hr, _⟩
 ·rw [hm] at hr; cases hr; cases he; exact ⟨rfl, rfl⟩
 ·rw [hm] at hr; cases hr
theorem calls_ld {f : FuncId} {args : Array Value} {r : Except Int Nd} {w : World} (h : Calls Tryz.prog f args w (RetLd r w)) : Calls Tryz.prog f args w fun e w' => ∃ u, e = .returned u ∧ (LdV r u ∧ Below w.heap.size w w') :=
 h.mono fun e w' hh => by
  rcases hh with ⟨n, pv, ev, h1, h2, h3, h4, h5⟩ | ⟨k, s, h1, h2, h3, h4⟩
  ·obtain ⟨_, a, c, ha, _⟩ := h3.is
   obtain ⟨_, a', c', ha', _⟩ := h4.is
   exact ⟨_, h2, .inl ⟨n, pv, ev, h1, rfl, ⟨_, _, _, ha⟩, _, _, _, ha'⟩, h5⟩
  ·exact ⟨_, h3, .inr ⟨k, s, h1, h2, rfl⟩, h4⟩
def NewN (N : Nat) (w : World) (v : Value) (xs : Array Value) : Prop := ∃ b, v = .pointer (some ⟨b, 0, none⟩) ∧ N ≤ b ∧ Row w b xs 71
theorem NewN.stays {N : Nat} {w w' : World} {v : Value} {xs : Array Value} (h : NewN N w v xs) (hb : Below w.heap.size w w') : NewN N w' v xs := by
 obtain ⟨b, h1, h2, h3⟩ := h
 exact ⟨b, h1, h2, h3.step hb⟩
def filR (wz : World) (i : Nat) (w w' : World) : Prop := ∃ b p q r s, wz.heap.size ≤ b ∧ w' = (((w.setCell ⟨b, 0, none⟩ p).setCell ⟨b, 1, none⟩ q).setCell ⟨b, 2, none⟩ r).setCell ⟨b, 3, none⟩ s
theorem builder_set {T e : TypeId} {B b A i : Nat} {bs : List Value} {w : World} {u : Value} (h : Lib.IsBuilderF T e B b bs w) (hA : A < B) : Lib.IsBuilderF T e B b bs (w.setCell ⟨A, i, none⟩ u) := by
 have key : ∀ p, Lib.BuilderAtF T e B b p bs w → Lib.BuilderAtF T e B b p bs (w.setCell ⟨A, i, none⟩ u) := by
  rintro p ⟨hB, v, hbk, hown, hne⟩
  refine ⟨hB, v, ?_, hown.kept (grownBy_set w A i u) ?_, hne⟩
  ·rw [heap_setCell_other _ _ _ _ (by show b ≠ A; omega)]; exact hbk
  ·cases hv : v.ownBlock with
   | none => exact .inl rfl
   | some g => exact .inr (fun e => by have := (hown.lt g hv).1; cases e; omega)
 exact h.imp (key _) (key _)
theorem fit_piece_size {n : Nd} (h : fitN n = true) (hk : n.kd = 1) : 1 ≤ n.d.size ∧ n.d.size ≤ 4096 := by
 rw [fit_piece hk] at h
 simp at h
 exact h.1.1
theorem below_regrown_drewN (w : World) (n : Nat) : Below w.heap.size w (w.drewN n) := ⟨rfl, rfl, rfl, Nat.le_refl _, fun _ _ => rfl⟩
theorem fileE_bad {O : List Ob} {t : List UInt8} {room k : Int} (h : loadE O t 2 = .error k) : fileE O t room = .error k := by unfold fileE; rw [h]
theorem fileE_ok {O : List Ob} {t : List UInt8} {room : Int} {n : Nd} (h : loadE O t 2 = .ok n) : fileE O t room = partsE O n.ps room [] := by unfold fileE; rw [h]
theorem parts_step {O : List Ob} {P : List Pt} {room : Int} {s : List UInt8} {j : Nat} (hj : j < P.length) : partsE O (P.drop j) room s = match loadE O P[j].k.data.toList 1 with
  | .error e => .error e
  | .ok n => if (n.d.size : Int) = P[j].n ∧ (n.d.size : Int) ≤ room - s.length then partsE O (P.drop (j + 1)) room (s ++ n.d.data.toList) else .error 4 := by
 rw [List.drop_eq_getElem_cons hj]; rfl
def RetFile (W0 : World) (Bw : Nat) (vO : Value) (O : List Ob) (M : List It) (sz : Nat) (vI : Value) (r : Except Int (List UInt8)) (w : World) (e : Ending) (w' : World) : Prop :=
 (∃ s, r = .ok s ∧ e = .returned (.tuple #[.string ⟨s.toArray⟩, .nilIface]) ∧ Wlk W0 Bw vO O w' M (sz + s.length) vI ∧ Wf w.heap.size Bw w w')
 ∨ ∃ k x, r = .error k ∧ k ∈ wrongs ∧ e = .returned (.tuple #[.string ⟨#[]⟩, faultV x k]) ∧ (∃ sz', Wlk W0 Bw vO O w' M sz' vI) ∧ Wf w.heap.size Bw w w'
structure FileL (W0 : World) (Bw : Nat) (vO : Value) (O : List Ob) (M : List It) (sz : Nat) (vI : Value) (w1 : World) (bb : Nat) (n : Nd) (room : Int) (j : Nat) (acc : List UInt8) (wr : World) : Prop where
 parts : partsE O (n.ps.drop j) room acc = partsE O n.ps room []
 few : sz + acc.length ≤ 65536
 bld : Lib.IsBuilderF 168 5 bb bb (Lib.byteCells acc) wr
 none : acc = [] → wr.heap[bb]? = some (.cells #[.pointer none, .slice none 0 0] 168 (0, 0))
 wlk : Wlk W0 Bw vO O wr M (sz + acc.length) vI
 wf : Wf w1.heap.size Bw w1 wr
 size : bb < wr.heap.size
def fflU (W0 wz : World) (Bw bx : Nat) (vO vI : Value) (O : List Ob) (M : List It) (sz : Nat) (x : Pt) (r : Except Int Nd) : Nat → Value → Value → World → Prop
 | 0 => fun v _ _ => v = .pointer (some ⟨Bw, 0, none⟩)
 | 1 => fun v _ _ => v = .pointer (some ⟨Bw, 0, none⟩)
 | 2 => fun v _ _ => v = .pointer (some ⟨Bw, 0, none⟩)
 | 3 => fun v _ _ => v = vO
 | 4 => fun v _ _ => v = .pointer (some ⟨bx, 0, none⟩)
 | 5 => fun v _ _ => v = .string x.k
 | 6 => fun v _ _ => LdV r v
 | 7 => fun v _ _ => LdV r v
 | 8 => fun v _ _ => NdV r v
 | 9 => fun v _ _ => EvV r v
 | 10 => fun v _ w => NewN wz.heap.size w v #[.int .i64 0, .string ⟨#[]⟩, .slice none 0 0, .slice none 0 0]
 | 11 => fun _ e w => ∃ kd d pv ev, NewN wz.heap.size w e #[kd, d, pv, ev] ∧ NdV r (.agg #[kd, d, pv, ev])
 | 12 => fun v _ _ => EvV r v
 | 13 => fun _ _ w => Wlk W0 Bw vO O w M sz vI
 | 14 => fun _ _ w => Row w bx #[.string x.k, .int .i64 x.n] 109
 | _ => fun _ _ _ => True
def fflN : List (List Nat) := [[], [0], [1], [2, 13], [], [4, 14], [3, 5, 13], [6], [7], [7], [], [10, 8], [9]]
def fflE : Nat → Option Tmp
 | 11 => some 11
 | _ => none
def fflB : List (Nat × Nat) := [(11, 10), (11, 13), (11, 14)]
theorem ffl_T (W0 wz : World) (Bw bx : Nat) (vO vI : Value) (O : List Ob) (M : List It) (sz : Nat) (x : Pt) (r : Except Int Nd) (ix kx : Nat) (v e : Value) (w w' : World) (hk : kx < 15) (hne : kx ≠ ix) (hbd : (ix, kx) ∉ fflB) (hU : (fflU W0 wz Bw bx vO vI O M sz x r) kx v e w) (hT : (appTs [11] (filR wz)) ix w w') : (fflU W0 wz Bw bx vO vI O M sz x r) kx v e w' := by
 by_cases hi11 : ix = 11
 ·subst hi11
  have hR := appTs_in (by decide) hT
  rcases (show kx = 0 ∨ kx = 1 ∨ kx = 2 ∨ kx = 3 ∨ kx = 4 ∨ kx = 5 ∨ kx = 6 ∨ kx = 7 ∨ kx = 8 ∨ kx = 9 ∨ kx = 10 ∨ kx = 11 ∨ kx = 12 ∨ kx = 13 ∨ kx = 14 by omega) with rfl | rfl | rfl | rfl | rfl | rfl | rfl | rfl | rfl | rfl | rfl | rfl | rfl | rfl | rfl
  iterate 10 exact hU
  ·exact absurd (by decide) hbd
  ·exact absurd rfl hne
  ·exact hU
  ·exact absurd (by decide) hbd
  ·exact absurd (by decide) hbd
 have hi : ix ∉ [11] := by simp [hi11]
 have hb : Below w.heap.size w w' := appTs_out hi hT
 rcases (show kx = 0 ∨ kx = 1 ∨ kx = 2 ∨ kx = 3 ∨ kx = 4 ∨ kx = 5 ∨ kx = 6 ∨ kx = 7 ∨ kx = 8 ∨ kx = 9 ∨ kx = 10 ∨ kx = 11 ∨ kx = 12 ∨ kx = 13 ∨ kx = 14 by omega) with rfl | rfl | rfl | rfl | rfl | rfl | rfl | rfl | rfl | rfl | rfl | rfl | rfl | rfl | rfl
 iterate 10 exact hU
 ·exact NewN.stays hU hb
 ·exact by obtain ⟨kd, d, pv, ev, h1, h2⟩ := hU; exact ⟨kd, d, pv, ev, h1.stays hb, h2⟩
 ·exact hU
 ·exact Wlk.stays hU hb
 ·exact Row.step hU hb
set_option maxRecDepth 100000 in
set_option maxHeartbeats 16000000 in
theorem file_any (W0 : World) (Bw : Nat) (vO : Value) (O : List Ob) (hr : RiseO O) (hl : O.length ≤ 1000000) (hz : ∀ y ∈ O, y.r.size ≤ 1000000) (key : ByteArray) (w : World) (M : List It) (sz : Nat) (vI : Value) (h : Wlk W0 Bw vO O w M sz vI) (hsz : sz ≤ 65536) :
  Calls Tryz.prog 78 #[.pointer (some ⟨Bw, 0, none⟩), .string key] w (RetFile W0 Bw vO O M sz vI (fileE O key.data.toList (65536 - (sz : Int))) w) := by
 have CL := Lib.hid (h.load hr hl hz key 2)
 obtain ⟨c0, c1, c2⟩ := h.cells
 have HW := Lib.hid h
 have HRR := Lib.hid hr; have HZZ := Lib.hid hz
 clear h hr hz
 go_enter Tryz.func78, Tryz.ntmps78
 go_wp2_with fail
 with_reducible refine CL.out.mono ?_
 rintro e w1 (⟨n, pv, ev, hok, rfl, hpv, hev, hb1⟩ | ⟨k, s', hbad, hk, rfl, hb1⟩)
 ·have HW1 := Lib.hid (HW.out.stays hb1)
  have HB1 := Lib.hid hb1
  obtain ⟨hml, a1, cap1, hv1, _, _⟩ := hpv.is
  have hmm0 : n.ps.length ≤ 9223372036854775807 := by unfold maxLen at hml; omega
  obtain ⟨_, a2, cap2, hv2, _, _⟩ := hev.is
  have HP := Lib.hid hpv
  have HE := Lib.hid (fileE_ok (room := 65536 - (sz : Int)) hok)
  clear hpv hev hb1 hok
  obtain ⟨z1, hz1⟩ : ∃ z, z = n.ps.length := ⟨_, rfl⟩
  obtain ⟨z2, hz2⟩ : ∃ z, z = n.es.length := ⟨_, rfl⟩
  rw [← hz1] at hv1; rw [← hz2] at hv2
  have HZ1 := Lib.hid hz1
  have hmm : z1 ≤ 9223372036854775807 := by omega
  clear hmm0 hml
  clear hz1 hz2
  subst hv1 hv2
  have hb2 : Below w1.heap.size w1 ((w1.alloc (.cells #[.int .i64 n.kd, .string n.d, .slice a1 z1 cap1, .slice a2 z2 cap2] 71)).alloc (.cells #[.pointer none, .slice none 0 0] 168)) := ((Below.refl _ _).alloc (Nat.le_refl _) _).alloc (by simp) _
  have HPL := Lib.hid (fun g hg => (World.ownsRow.lt (show w1.ownsRow w.heap.size 109 2 (.slice a1 z1 cap1) n.ps.length (ptCells n.ps) from HP.out) g hg).2)
  have HL0 : Hid (FileL W0 Bw vO O M sz vI w1 (w1.heap.size + 1) n (65536 - (sz : Int)) 0 [] ((w1.alloc (.cells #[.int .i64 n.kd, .string n.d, .slice a1 z1 cap1, .slice a2 z2 cap2] 71)).alloc (.cells #[.pointer none, .slice none 0 0] 168))) := Lib.hid (by
   have hh : ((w1.alloc (.cells #[.int .i64 n.kd, .string n.d, .slice a1 z1 cap1, .slice a2 z2 cap2] 71)).alloc (.cells #[.pointer none, .slice none 0 0] 168)).heap[w1.heap.size + 1]? = some (.cells #[.pointer none, .slice none 0 0] 168 (0, 0)) := by
    have := heap_alloc_new (w1.alloc (.cells #[.int .i64 n.kd, .string n.d, .slice a1 z1 cap1, .slice a2 z2 cap2] 71)) (.cells #[.pointer none, .slice none 0 0] 168)
    rwa [World.size_alloc] at this
   refine ⟨rfl, by simpa using hsz, Lib.IsBuilderF.of (by
    have := Lib.fresh_isBuilder 168 5 (w1.alloc (.cells #[.int .i64 n.kd, .string n.d, .slice a1 z1 cap1, .slice a2 z2 cap2] 71))
    rwa [World.size_alloc] at this), fun _ => hh, by simpa using HW1.out.stays hb2, Wf.of_below hb2 (Nat.le_refl _) hb2.size, by simp⟩)
  have hBw1 := HW1.out.lt
  have HBW := Lib.hid hBw1
  have HIL := Lib.hid (fun g hg => (World.ownsRow.lt HW1.out.items g hg).2)
  have HPA := Lib.hid (owns_apart (show w1.ownsRow w.heap.size 109 2 (.slice a1 z1 cap1) n.ps.length (ptCells n.ps) from HP.out) HW1.out.row (by decide))
  clear hb2 c0 c1 c2 hBw1
  go_wp2_with fail
  go_loopw [28] (fun i wr => ∃ (j : Nat) (acc : List UInt8), j ≤ z1 ∧ i = .int .i64 j ∧ FileL W0 Bw vO O M sz vI w1 (w1.heap.size + 1) n (65536 - (sz : Int)) j acc wr) (fun i _ => z1 - (intOf i).toNat)
  case atStart => exact ⟨0, [], Nat.zero_le _, rfl, HL0.out⟩
  case round =>
   obtain ⟨j, acc, hj, rfl, hL⟩ := hrel
   have HL := Lib.hid hL
   clear hL
   by_cases hlt : j < z1
   ·have hjp : j < n.ps.length := by have := HZ1.out; omega
    have hown : wr.ownsRow w.heap.size 109 2 (.slice a1 z1 cap1) n.ps.length (ptCells n.ps) := HL.out.wf.owns HP.out HPL.out HPA.out
    obtain ⟨_, _, _, hev, _, hc⟩ := (show OwnP w.heap.size wr _ _ from hown).is
    cases hev
    obtain ⟨b, off, rfl, hbl, g⟩ := hc (by omega)
    obtain ⟨u0, u1⟩ := g j hjp
    have HST := Lib.hid (parts_step (O := O) (room := 65536 - (sz : Int)) (s := acc) hjp)
    obtain ⟨x, hx⟩ : ∃ x, x = n.ps[j] := ⟨_, rfl⟩
    rw [← hx] at u0 u1 HST
    clear hx g hc hown
    have hbk : decide ((j : Int) < (n.ps.length : Int)) = true := by simpa using (show (j : Int) < n.ps.length by omega)
    obtain ⟨Wz, hWz⟩ : ∃ Wz, Wz = wr.alloc (.cells #[.string x.k, .int .i64 x.n] 109) := ⟨_, rfl⟩
    have hbz : Below wr.heap.size wr Wz := by rw [hWz]; exact (Below.refl _ _).alloc (Nat.le_refl _) _
    have HBX : Hid (Row Wz wr.heap.size #[.string x.k, .int .i64 x.n] 109) := Lib.hid (by rw [hWz]; exact Row.made _ _ _)
    have HWZ := Lib.hid (HL.out.wlk.stays hbz)
    have HIZ := Lib.hid (builder_step HL.out.bld hbz)
    have HFZ := Lib.hid (HL.out.wf.trans (Wf.of_below (N := w1.heap.size) (Bw := Bw) hbz HL.out.wf.size hbz.size))
    have HBZ := Lib.hid hbz
    have HZN := Lib.hid (Nat.le_trans HL.out.wf.size hbz.size)
    have HWZN : Hid (wr.heap.size < Wz.heap.size ∧ Bw < wr.heap.size) := Lib.hid ⟨by rw [hWz]; simp, HL.out.wlk.lt⟩
    have HFEW := Lib.hid HL.out.few
    have HBB : Hid (Bw < w1.heap.size + 1) := Lib.hid (Nat.lt_succ_of_lt HBW.out)
    obtain ⟨r, hre⟩ : ∃ r, r = loadE O x.k.data.toList 1 := ⟨_, rfl⟩
    have HRV : Hid (loadE O x.k.data.toList 1 = r) := Lib.hid hre.symm
    have HWZE := Lib.hid hWz
    clear hbz hre
    go_wp2_with fail
    rw [← HWZE.out]
    clear hWz
    refine wp_region_wordsG (by kernel_rfl) (by kernel_rfl) (appTs [11] (filR Wz)) (HeldN Wz) fflE (fflU W0 Wz Bw wr.heap.size vO vI O M (sz + acc.length) x r) 15 fflN [11, 12] (by kernel_rfl) (by kernel_rfl) (by kernel_rfl)
     fflB (by kernel_rfl) (fun ix kx v e w w' hi hk hne hb hU hT => ffl_T _ _ _ _ _ _ _ _ _ _ _  ix kx v e w w' hk hne hb hU hT) (by decide) (HeldN.drew _) (fun kx hk hge => ?hv0)
     [33, 34, 35, 36, 37, 38, 39, 32, 40, 41, 11, 12] (by kernel_rfl) (forall_ops ?steps) ?behind
    case hv0 =>
     have hge' : 13 ≤ kx := hge
     rcases (show kx = 13 ∨ kx = 14 by omega) with rfl | rfl
     ·exact HWZ.out.stays ((Below.refl _ _).drew)
     ·exact HBX.out.drew
    case steps =>
     refine ⟨?_, ?_, ?_, ?_, ?_, ?_, ?_, ?_, ?_, ?_, ?_, ?_, ?_, trivial⟩
     ·refine stepG_of rfl ?_
      exact stepR_value (t := 33) (.pointer (some ⟨Bw, 0, none⟩)) rfl (fun _ => appTs_other (by decide) (Below.refl _ _)) (fun ac w hG hN hO => by
       have e0 : slot ac 0 = .pointer (some ⟨Bw, 0, none⟩) := hO 0 (by kernel_rfl)
       exact run_move_slot (.inl rfl) e0) (fun ac w hG hN => rfl)
     ·refine stepG_of rfl ?_
      exact stepR_value (t := 34) (.pointer (some ⟨Bw, 0, none⟩)) rfl (fun _ => appTs_other (by decide) (Below.refl _ _)) (fun ac w hG hN hO => by
       have e33 : slot ac 33 = .pointer (some ⟨Bw, 0, none⟩) := hN 0 (by decide)
       have f33 := slot_at e33
       unfold execOp; go_simp) (fun ac w hG hN => rfl)
     ·refine stepG_of rfl ?_
      exact stepR_value (t := 35) (.pointer (some ⟨Bw, 0, none⟩)) rfl (fun _ => appTs_other (by decide) (Below.refl _ _)) (fun ac w hG hN hO => by
       have e34 : slot ac 34 = .pointer (some ⟨Bw, 0, none⟩) := hN 1 (by decide)
       have f34 := slot_at e34
       unfold execOp; go_simp) (fun ac w hG hN => rfl)
     ·refine stepG_of rfl ?_
      exact stepR_value (t := 36) vO rfl (fun _ => appTs_other (by decide) (Below.refl _ _)) (fun ac w9 hG hN hO => by
       have e35 : slot ac 35 = .pointer (some ⟨Bw, 0, none⟩) := hN 2 (by decide)
       have hx : Wlk W0 Bw vO O w9 M (sz + acc.length) vI := hN 13 (by decide)
       have c0 := hx.cells.1
       have f := slot_at e35
       unfold execOp; go_simp) (fun ac w9 hG hN => rfl)
     ·refine stepG_of rfl ?_
      exact stepR_value (t := 37) (.pointer (some ⟨wr.heap.size, 0, none⟩)) rfl (fun _ => appTs_other (by decide) (Below.refl _ _)) (fun ac w hG hN hO => by
       have e10 : slot ac 10 = .pointer (some ⟨wr.heap.size, 0, none⟩) := hO 10 (by kernel_rfl)
       have f10 := slot_at e10
       unfold execOp; go_simp) (fun ac w hG hN => rfl)
     ·refine stepG_of rfl ?_
      exact stepR_value (t := 38) (.string x.k) rfl (fun _ => appTs_other (by decide) (Below.refl _ _)) (fun ac w9 hG hN hO => by
       have e37 : slot ac 37 = .pointer (some ⟨wr.heap.size, 0, none⟩) := hN 4 (by decide)
       have hx : Row w9 wr.heap.size #[.string x.k, .int .i64 x.n] 109 := hN 14 (by decide)
       have c0 : w9.cell? ⟨wr.heap.size, 0, none⟩ = some (.string x.k) := hx.cell 0
       have f := slot_at e37
       unfold execOp; go_simp) (fun ac w9 hG hN => rfl)
     ·refine stepG_of rfl ?_
      intro ac w9 hG hN hO
      have e36 : slot ac 36 = vO := hN 3 (by decide)
      have e38 : slot ac 38 = .string x.k := hN 5 (by decide)
      have hx : Wlk W0 Bw vO O w9 M (sz + acc.length) vI := hN 13 (by decide)
      refine wp_callx 51 _ _ rfl (enters_of Tryz.func51 (by kernel_rfl) rfl) #[vO, .string x.k, .int .i64 1] (by simp [eval_slot, e36, e38]; rfl) (by have := calls_ld (hx.load HRR.out hl HZZ.out x.k 1); rw [HRV.out] at this; exact this) ?_
      rintro v w'' ⟨hv, hb⟩
      exact ⟨v, rfl, appTs_other (by decide) hb, hG.on hb, hv⟩
     ·refine stepG_of rfl ?_
      intro ac w hG hN hO
      have e39 : LdV r (slot ac 39) := hN 6 (by decide)
      exact wp_value (run_move_slot (v := slot ac 39) (.inl rfl) rfl) ⟨_, rfl, (fun _ => appTs_other (by decide) (Below.refl _ _)) w, hG, e39⟩
     ·refine stepG_of rfl ?_
      intro ac w9 hG hN hO
      have e32 : LdV r (slot ac 32) := hN 7 (by decide)
      rcases e32 with ⟨m, pv, ev, hm, he, h1, h2⟩ | ⟨k, s, hk, hk2, he⟩
      ·have f := slot_at he
       exact wp_value (v := ndV m pv ev) (by unfold execOp; go_simp) ⟨_, rfl, appTs_other (by decide) (Below.refl _ _), hG, .inl ⟨m, pv, ev, hm, rfl, h1, h2⟩⟩
      ·have f := slot_at he
       exact wp_value (v := zeroNV) (by unfold execOp; go_simp) ⟨_, rfl, appTs_other (by decide) (Below.refl _ _), hG, .inr ⟨k, hk, rfl⟩⟩
     ·refine stepG_of rfl ?_
      intro ac w9 hG hN hO
      have e32 : LdV r (slot ac 32) := hN 7 (by decide)
      rcases e32 with ⟨m, pv, ev, hm, he, h1, h2⟩ | ⟨k, s, hk, hk2, he⟩
      ·have f := slot_at he
       exact wp_value (v := .nilIface) (by unfold execOp; go_simp) ⟨_, rfl, appTs_other (by decide) (Below.refl _ _), hG, .inl ⟨m, hm, rfl⟩⟩
      ·have f := slot_at he
       exact wp_value (v := faultV s k) (by unfold execOp; go_simp) ⟨_, rfl, appTs_other (by decide) (Below.refl _ _), hG, .inr ⟨k, s, hk, hk2, rfl⟩⟩
     ·refine stepG_of rfl ?_
      intro ac w9 hG hN hO
      exact wp_value (v := .pointer (some ⟨w9.heap.size, 0, none⟩)) (w' := w9.alloc (.cells #[.int .i64 0, .string ⟨#[]⟩, .slice none 0 0, .slice none 0 0] 71)) (by unfold execOp; go_simp) ⟨_, rfl, appTs_other (by decide) ((Below.refl _ _).alloc (Nat.le_refl _) _), hG.on ((Below.refl _ _).alloc (Nat.le_refl _) _), _, rfl, hG.below.size, Row.made _ _ _⟩
     ·refine stepG_of rfl ?_
      intro ac w9 hG hN hO
      have e40 : NdV r (slot ac 40) := hN 8 (by decide)
      obtain ⟨bn, e11, hbn, hrow⟩ : NewN Wz.heap.size w9 (slot ac 11) #[.int .i64 0, .string ⟨#[]⟩, .slice none 0 0, .slice none 0 0] := hN 10 (by decide)
      obtain ⟨kd, d, pa, pn, pc, ea, en, ec, e40b⟩ := e40.shape
      have f1 := slot_at e11
      have f2 := slot_at e40b
      have c0 := hrow.cell 0; have c1 := hrow.cell 1; have c2 := hrow.cell 2; have c3 := hrow.cell 3
      have g0 := hrow.free 0; have g1 := hrow.free 1; have g2 := hrow.free 2; have g3 := hrow.free 3
      simp only [List.getElem?_toArray, List.getElem?_cons_zero, List.getElem?_cons_succ] at c0 c1 c2 c3
      have h4 := row4_row hrow (.int .i64 kd) (.string d) (.slice pa pn pc) (.slice ea en ec)
      rw [e40b] at e40
      exact wp_skip (w' := (((w9.setCell ⟨bn, 0, none⟩ (.int .i64 kd)).setCell ⟨bn, 1, none⟩ (.string d)).setCell ⟨bn, 2, none⟩ (.slice pa pn pc)).setCell ⟨bn, 3, none⟩ (.slice ea en ec)) (by unfold execOp; go_simp) ⟨undef, rfl, appTs_at (by decide) ⟨bn, _, _, _, _, hbn, rfl⟩, ⟨(((hG.below.setCell (p := ⟨bn, 0, none⟩) hbn _).setCell (p := ⟨bn, 1, none⟩) hbn _).setCell (p := ⟨bn, 2, none⟩) hbn _).setCell (p := ⟨bn, 3, none⟩) hbn _⟩, by
       show ∃ kd d pv ev, NewN _ _ (exV fflE 11 ac) #[kd, d, pv, ev] ∧ _
       rw [show exV fflE 11 ac = slot ac 11 from rfl]
       exact ⟨_, _, _, _, ⟨bn, e11, hbn, h4⟩, e40⟩⟩
     ·refine stepG_of rfl ?_
      intro ac w hG hN hO
      have e41 : EvV r (slot ac 41) := hN 9 (by decide)
      exact wp_value (run_move_slot (v := slot ac 41) (.inr rfl) rfl) ⟨_, rfl, (fun _ => appTs_other (by decide) (Below.refl _ _)) w, hG, e41⟩
    case behind =>
     intro ac w5 hG hV hS ha
     have h11 : ∃ kd d pv ev, NewN Wz.heap.size w5 (slot ac 11) #[kd, d, pv, ev] ∧ NdV r (.agg #[kd, d, pv, ev]) := hV 11 (by decide) (by decide)
     have h12 : EvV r (slot ac 12) := hV 12 (by decide) (by decide)
     generalize slot ac = sl at ha h11 h12
     subst ha
     simp only [patchL, List.contains_cons, List.contains_nil, Nat.reduceBEq, Bool.or_false, Bool.or_true, if_true, Bool.false_eq_true, if_false, Nat.reduceAdd]
     generalize sl 33 = s33
     generalize sl 34 = s34
     generalize sl 35 = s35
     generalize sl 36 = s36
     generalize sl 37 = s37
     generalize sl 38 = s38
     generalize sl 39 = s39
     generalize sl 32 = s32
     generalize sl 40 = s40
     generalize sl 41 = s41
     generalize sl 11 = s11 at h11 ⊢
     generalize sl 12 = s12 at h12 ⊢
     clear hV hS
     have HB5 := Lib.hid (below_step HBZ.out hG.below)
     have HW5 := Lib.hid (HWZ.out.stays hG.below)
     have HX5 := Lib.hid (HBX.out.step hG.below)
     have HI5 := Lib.hid (builder_step HIZ.out hG.below)
     have HF5 := Lib.hid (HFZ.out.trans (Wf.of_below (N := w1.heap.size) (Bw := Bw) hG.below HZN.out hG.below.size))
     have hz5 := hG.below.size
     have HS5 := Lib.hid hz5
     rcases h12 with ⟨m, hm, rfl⟩ | ⟨k, s', hk1, hk2, rfl⟩
     ·obtain ⟨kd, d, pv, ev, hnew, hnd⟩ := h11
      obtain ⟨bn, rfl, hbn, hrow⟩ := hnew
      obtain ⟨hkd, hd⟩ := hnd.of_ok hm
      subst hkd hd
      obtain ⟨hfit, hk1⟩ := load_fit (HRV.out.trans hm)
      have hms := (fit_piece_size hfit hk1).2
      have HM1 := Lib.hid (fit_piece_size hfit hk1).1
      have HM := Lib.hid (HRV.out.trans hm)
      obtain ⟨c0, c1, c2⟩ := HW5.out.cells
      have p1 : w5.cell? ⟨bn, 1, none⟩ = some (.string m.d) := hrow.cell 1
      have x0 : w5.cell? ⟨wr.heap.size, 0, none⟩ = some (.string x.k) := HX5.out.cell 0
      have x1 : w5.cell? ⟨wr.heap.size, 1, none⟩ = some (.int .i64 x.n) := HX5.out.cell 1
      have hbw := HBW.out; have hwz := HWZN.out
      have n1 : bn ≠ Bw := by omega
      have n2 : wr.heap.size ≠ Bw := by omega
      obtain ⟨W5, hW5⟩ : ∃ W5, W5 = w5.drew := ⟨_, rfl⟩
      have hdr : Below w5.heap.size w5 W5 := by rw [hW5]; exact (Below.refl _ _).drew
      obtain ⟨u, hu⟩ : ∃ u : Nat, u = sz + acc.length + m.d.size := ⟨_, rfl⟩
      have HROW := Lib.hid ((hrow.step hdr).other ⟨Bw, 2, none⟩ (.int .i64 u) n1)
      have HXR := Lib.hid ((HX5.out.step hdr).other ⟨Bw, 2, none⟩ (.int .i64 u) n2)
      have HW6 := Lib.hid ((HW5.out.stays hdr).size u)
      have HI6 := Lib.hid (builder_set (A := Bw) (i := 2) (u := .int .i64 u) (builder_step HI5.out hdr) HBB.out)
      have HF6 := Lib.hid ((HF5.out.trans (Wf.of_below (N := w1.heap.size) (Bw := Bw) hdr (Nat.le_trans HZN.out hz5) hdr.size)).trans (Wf.set (N := w1.heap.size) (Bw := Bw) (i := 2) (w := W5) (.int .i64 u)))
      have hsz6 : (W5.setCell ⟨Bw, 2, none⟩ (.int .i64 u)).heap.size = w5.heap.size := by rw [hW5]; simp [World.setCell]
      have g2 := (HW5.out.stays hdr).row.free 2
      have d0 := HROW.out.cell 1; have d1 := HXR.out.cell 0; have d2 := HXR.out.cell 1; have d3 := HW6.out.cells.2.2
      simp only [List.getElem?_toArray, List.getElem?_cons_zero, List.getElem?_cons_succ] at d0 d1 d2
      have HS6 := Lib.hid hsz6
      have c2W := (HW5.out.stays hdr).cells.2.2
      clear hm hfit hnd hrow hG hk1 hsz6 hdr hz5
      obtain ⟨q, hq⟩ : ∃ q, q = sz + acc.length := ⟨_, rfl⟩
      rw [← hq] at c2 c2W hu
      have hu64 : ((q : Int) + (m.d.size : Int)) = (u : Int) := by omega
      have hub : u ≤ 100000 := by have := HFEW.out; omega
      have HU := Lib.hid hu; have HQ := Lib.hid hq
      have HW5D := Lib.hid hW5
      clear hu hq hW5 n1 n2
      have HEQ : Hid (∀ b : Bool, ((decide ((m.d.size : Int) = x.n ∧ (m.d.size : Int) ≤ 65536 - (sz : Int) - (acc.length : Int))) = b) → (b = true → partsE O (n.ps.drop (j + 1)) (65536 - (sz : Int)) (acc ++ m.d.data.toList) = partsE O n.ps (65536 - (sz : Int)) []) ∧ (b = false → partsE O n.ps (65536 - (sz : Int)) [] = .error 4)) := Lib.hid (by
       intro b hb
       rw [← HL.out.parts, HST.out, HM.out]
       simp only
       constructor
       ·rintro rfl
        rw [if_pos (of_decide_eq_true hb)]
       ·rintro rfl
        rw [if_neg (of_decide_eq_false hb)])
      by_cases e1 : (m.d.size : Int) = x.n
      ·by_cases e2 : u ≤ 65536
       ·have HOK := Lib.hid ((HEQ.out true (decide_eq_true ⟨e1, by have := HU.out; have := HQ.out; omega⟩)).1 rfl)
        have q1 : ((m.d.size : Int) == x.n) = true := beq_iff_eq.2 e1
        have q2 : ((m.d.size : Int) != x.n) = false := by simp [bne, q1]
        have q3 : decide ((65536 : Int) < (u : Int)) = false := decide_eq_false (by omega)
        have E2 := Lib.hid e2
        clear e1 e2
        go_wp2_with fail
        go_still_tail 8, (by kernel_rfl)
        change wpList _ _ _ _ _ w5.drew
        rw [← HW5D.out]
        go_wp2_with fail
        have HWS := Lib.hid (WriteString_k_Bus (w1.heap.size + 1) (w1.heap.size + 1) (Lib.byteCells acc) m.d _ HI6.out (by have := HFEW.out; rw [show (Lib.byteCells acc).length = acc.length by simp [Lib.byteCells]]; omega) (by have := HS6.out; have := HS5.out; have := HL.out.size; have := HWZN.out; omega))
        with_reducible refine HWS.out.mono ?_
        rintro e w7 ⟨rfl, h7, hb7, _⟩
        have HI7 : Hid (Lib.IsBuilderF 168 5 (w1.heap.size + 1) (w1.heap.size + 1) (Lib.byteCells (acc ++ m.d.data.toList)) w7) := Lib.hid (by
         rw [Lib.strCells_eq] at h7
         rw [Lib.byteCells_append]
         exact Or.inr h7)
        have HW7 := Lib.hid (HW6.out.above hb7 HBB.out (fun g hg => Nat.lt_succ_of_lt (HIL.out g hg)))
        have HF7 := Lib.hid (HF6.out.trans (Wf.of_below (N := w1.heap.size) (Bw := Bw) hb7 (Nat.le_succ _) hb7.size))
        have HS7 := Lib.hid hb7.size
        clear h7 hb7
        go_wp2
        go_roundw
        case rel =>
         clear d0 d1 d2 d3 c0 c1 c2 c2W g2 p1 x0 x1 q1 q2 q3
         have hlen : (acc ++ m.d.data.toList).length = acc.length + m.d.size := by rw [List.length_append, ← Lib.size_eq]
         refine ⟨j + 1, acc ++ m.d.data.toList, by omega, by go_num, ⟨HOK.out, ?_, HI7.out, ?_, ?_, HF7.out, ?_⟩⟩
         ·have := E2.out; have := HU.out; have := HQ.out; omega
         ·intro e
          have := congrArg List.length e
          rw [hlen, List.length_nil] at this
          have := HM1.out; omega
         ·have e : sz + (acc ++ m.d.data.toList).length = u := by have := HU.out; have := HQ.out; omega
          rw [e]; exact HW7.out
         ·have := HS7.out; have := HS6.out; have := HS5.out; have := HL.out.size; have := HWZN.out; omega
        case measure => simp [intOf]; omega
       ·have HNO := Lib.hid ((HEQ.out false (decide_eq_false (fun e => by have := HU.out; have := HQ.out; omega))).2 rfl)
        have q1 : ((m.d.size : Int) == x.n) = true := beq_iff_eq.2 e1
        have q2 : ((m.d.size : Int) != x.n) = false := by simp [bne, q1]
        have q3 : decide ((65536 : Int) < (u : Int)) = true := decide_eq_true (by omega)
        clear e1 e2
        go_wp2_with fail
        go_still_tail 8, (by kernel_rfl)
        change wpList _ _ _ _ _ w5.drew
        rw [← HW5D.out]
        go_wp2_with fail
        go_quiet (fail)
        go_wp2
        go_ret2
        have hbq := below_regrown_drewN (W5.setCell ⟨Bw, 2, none⟩ (.int .i64 u)) nq
        exact .inr ⟨4, x.k, HE.out.trans HNO.out, by decide, rfl, ⟨u, HW6.out.stays hbq⟩, Wf.trans (Wf.of_below HB1.out (Nat.le_refl _) HB1.out.size) ((HF6.out.trans (Wf.of_below hbq (by have := HS6.out; have := HS5.out; have := HZN.out; omega) hbq.size)).low HB1.out.size)⟩
      ·have HNO := Lib.hid ((HEQ.out false (decide_eq_false (fun e => e1 e.1))).2 rfl)
       have q1 : ((m.d.size : Int) == x.n) = false := beq_eq_false_iff_ne.2 e1
       have q2 : ((m.d.size : Int) != x.n) = true := by simp [bne, q1]
       clear e1
       go_wp2_with fail
       go_still_tail 8, (by kernel_rfl)
       change wpList _ _ _ _ _ w5.drew
       rw [← HW5D.out]
       go_wp2_with fail
       go_quiet (fail)
       go_wp2
       go_ret2
       have hbq := below_regrown_drewN (W5.setCell ⟨Bw, 2, none⟩ (.int .i64 u)) nq
       exact .inr ⟨4, x.k, HE.out.trans HNO.out, by decide, rfl, ⟨u, HW6.out.stays hbq⟩, Wf.trans (Wf.of_below HB1.out (Nat.le_refl _) HB1.out.size) ((HF6.out.trans (Wf.of_below hbq (by have := HS6.out; have := HS5.out; have := HZN.out; omega) hbq.size)).low HB1.out.size)⟩
     ·go_wp2
      go_ret2
      have hbb := HB5.out
      refine .inr ⟨k, s', ?_, hk2, rfl, ⟨_, HW5.out⟩, Wf.trans (Wf.of_below HB1.out (Nat.le_refl _) HB1.out.size) (HF5.out.low HB1.out.size)⟩
      rw [HE.out, ← HL.out.parts, HST.out, HRV.out, hk1]
   ·obtain rfl : j = z1 := by omega
    have hdone : partsE O n.ps (65536 - (sz : Int)) [] = .ok acc := by
     rw [← HL.out.parts, List.drop_of_length_le (by have := HZ1.out; omega)]; rfl
    have HD := Lib.hid (HE.out.trans hdone)
    have hbk : decide ((j : Int) < (j : Int)) = false := by simp
    clear hdone
    by_cases hacc : acc = []
    ·have CS := Lib.hid (String_nil_k (w1.heap.size + 1) (w1.heap.size + 1) (.pointer none) wr (HL.out.none hacc))
     subst hacc
     go_wp2_with fail
     with_reducible refine CS.out.mono ?_
     rintro e w7 ⟨rfl, hb7⟩
     have HB7 := Lib.hid hb7
     clear hb7
     go_wp2
     go_ret2
     exact .inl ⟨_, HD.out, rfl, HL.out.wlk.above HB7.out (Nat.lt_succ_of_lt HBW.out) (fun g hg => Nat.lt_succ_of_lt (HIL.out g hg)), Wf.trans (Wf.of_below HB1.out (Nat.le_refl _) HB1.out.size) ((HL.out.wf.trans (Wf.of_below (N := w1.heap.size) (Bw := Bw) HB7.out (Nat.le_succ _) HB7.out.size)).low HB1.out.size)⟩
    ·have CS := Lib.hid (String_full_k (w1.heap.size + 1) (w1.heap.size + 1) acc wr HL.out.bld hacc)
     clear hacc
     go_wp2_with fail
     with_reducible refine CS.out.mono ?_
     rintro e w7 ⟨rfl, _, hb7, _⟩
     have HB7 := Lib.hid hb7
     clear hb7
     go_wp2
     go_ret2
     exact .inl ⟨_, HD.out, rfl, HL.out.wlk.above HB7.out (Nat.lt_succ_of_lt HBW.out) (fun g hg => Nat.lt_succ_of_lt (HIL.out g hg)), Wf.trans (Wf.of_below HB1.out (Nat.le_refl _) HB1.out.size) ((HL.out.wf.trans (Wf.of_below (N := w1.heap.size) (Bw := Bw) HB7.out (Nat.le_succ _) HB7.out.size)).low HB1.out.size)⟩
 ·have HB1 := Lib.hid hb1
  have HE := Lib.hid (fileE_bad (room := 65536 - (sz : Int)) hbad)
  have HK := Lib.hid hk
  clear hbad hk hb1 c0 c1 c2
  have HBA := Lib.hid ((Below.refl w1.heap.size w1).alloc (Nat.le_refl _) (.cells #[.int .i64 0, .string ⟨#[]⟩, .slice none 0 0, .slice none 0 0] 71))
  go_wp2
  go_ret2
  have hbb := below_step HB1.out HBA.out
  exact .inr ⟨k, s', HE.out, HK.out, rfl, ⟨sz, HW.out.stays hbb⟩, Wf.of_below hbb (Nat.le_refl _) hbb.size⟩
structure Wk (B Bw : Nat) (w w' : World) : Prop where
 os : w'.os = w.os
 tape : w'.tape = w.tape
 output : w'.output = w.output
 size : w.heap.size ≤ w'.heap.size
 block : ∀ b, b < w.heap.size → b ≠ Bw → (b < B ∨ ∀ xs, ¬ Row w b xs 52) → w'.heap[b]? = w.heap[b]?
theorem Wk.refl (B Bw : Nat) (w : World) : Wk B Bw w w := ⟨rfl, rfl, rfl, Nat.le_refl _, fun _ _ _ _ => rfl⟩
theorem Wk.of_wf {B Bw : Nat} {w w' : World} (h : Wf w.heap.size Bw w w') : Wk B Bw w w' := ⟨h.os, h.tape, h.output, h.size, fun b hb hn _ => h.block b hb hn⟩
theorem Wk.of_below {B Bw : Nat} {w w' : World} (h : Below w.heap.size w w') : Wk B Bw w w' := ⟨h.os, h.tape, h.output, h.size, fun b hb _ _ => h.block b hb⟩
theorem Wk.trans {B Bw : Nat} {a b c : World} (h : Wk B Bw a b) (k : Wk B Bw b c) : Wk B Bw a c :=
 ⟨k.os.trans h.os, k.tape.trans h.tape, k.output.trans h.output, Nat.le_trans h.size k.size, fun i hi hn hp => by
  have e := h.block i hi hn hp
  refine (k.block i (Nat.lt_of_lt_of_le hi h.size) hn ?_).trans e
  rcases hp with hp | hp
  ·exact .inl hp
  ·exact .inr fun xs hr => hp xs (e.symm.trans (show b.heap[i]? = _ from hr))⟩
theorem Wk.step {B Bw : Nat} {a b c : World} (h : Wk B Bw a b) (k : Below b.heap.size b c) : Wk B Bw a c := h.trans (Wk.of_below k)
theorem Wk.row {B Bw b : Nat} {w w' : World} {xs : Array Value} {T : TypeId} (h : Wk B Bw w w') (hr : Row w b xs T) (hT : T ≠ 52) (hn : b ≠ Bw) : Row w' b xs T :=
 (h.block b hr.lt hn (.inr fun ys hy => by have e := (show w.heap[b]? = _ from hr).symm.trans (show w.heap[b]? = _ from hy); cases e; exact hT rfl)).trans hr
theorem Wk.set {B Bw i : Nat} {w : World} (u : Value) : Wk B Bw w (w.setCell ⟨Bw, i, none⟩ u) :=
 ⟨rfl, rfl, rfl, by simp [World.setCell], fun b hb hn _ => heap_setCell_other _ _ _ _ hn⟩
theorem Wk.turn {B Bw : Nat} {w w' : World} {r : Option Nat} (hg : w.grownBy w' r) (hr : ∀ g, r = some g → B ≤ g ∧ ∃ xs, Row w g xs 52) : Wk B Bw w w' :=
 ⟨hg.os, hg.tape, hg.output, hg.size, fun b hb hn hp => hg.block b hb (fun e => by
  obtain ⟨h1, xs, h2⟩ := hr b e.symm
  rcases hp with hp | hp
  ·omega
  ·exact hp xs h2)⟩
theorem Wk.below {B Bw : Nat} {a w w' : World} (h : Wk B Bw w w') (hb : Below B a w) (hs : B ≤ w.heap.size) (hB : B ≤ Bw) : Below B a w' :=
 hb.trans ⟨h.os, h.tape, h.output, h.size, fun k hk => h.block k (Nat.lt_of_lt_of_le hk hs) (by omega) (.inl hk)⟩
theorem Wk.ents {B Bw C : Nat} {w w' : World} {v : Value} {L : List En} (h : Wk B Bw w w') (ho : OwnE C w v L) (hn : v.ownBlock ≠ some Bw) : OwnE C w' v L := by
 refine ⟨ho.1, ?_⟩
 rcases ho.2 with h2 | ⟨g, cap, cur, h3, h4, h5, h6⟩
 ·exact .inl h2
 ·exact .inr ⟨g, cap, cur, h3, h4, h.row (xs := cur) (T := 89) h5 (by decide) (fun e => hn (by rw [h3, e]; rfl)), h6⟩
theorem OwnI.rowI {B : Nat} {w : World} {v : Value} {L : List It} (h : OwnI B w v L) {g : Nat} (hg : v.ownBlock = some g) : B ≤ g ∧ ∃ xs, Row w g xs 52 := by
 rcases h.2 with ⟨rfl, _⟩ | ⟨g', cap, cur, rfl, h4, h5, _⟩
 ·cases hg
 ·cases hg; exact ⟨h4, _, h5⟩
def OneIt (w : World) (v : Value) (x : It) : Prop := ∃ A, v = .slice (some ⟨A, 0, none⟩) 1 1 ∧ w.heap[A]? = some (.cells #[.string x.p, .bool x.d, .bool x.e, .string x.c] 52 (0, 0))
theorem OneIt.stays {w w' : World} {v : Value} {x : It} (h : OneIt w v x) (hb : Below w.heap.size w w') : OneIt w' v x := by
 obtain ⟨A, h1, h2⟩ := h
 exact ⟨A, h1, (hb.block A (Array.getElem?_eq_some_iff.1 h2).1).trans h2⟩
theorem oneIt_new (w : World) (x : It) : OneIt (w.alloc (.cells #[.string x.p, .bool x.d, .bool x.e, .string x.c] 52)) (.slice (some ⟨w.heap.size, 0, none⟩) 1 1) x := ⟨_, rfl, heap_alloc_new w _⟩
theorem wp_build_it {o : Oper} {a : Act} {K : Act → World → Prop} {Q : Exit → Act → World → Prop} {w : World} (p : Nat) (ho : o.op = .buildSlice 24 1 #[(0, .tmp p)]) {x : It}
  (hx : slot a p = .agg #[.string x.p, .bool x.d, .bool x.e, .string x.c]) (hk : K (a.put o.dst (.slice (some ⟨w.heap.size, 0, none⟩) 1 1)) (w.alloc (.cells #[.string x.p, .bool x.d, .bool x.e, .string x.c] 52))) : o.wp Tryz.prog a w K Q := by
 refine wp_value (v := .slice (some ⟨w.heap.size, 0, none⟩) 1 1) (w' := w.alloc (.cells #[.string x.p, .bool x.d, .bool x.e, .string x.c] 52)) ?_ hk
 have f := slot_at hx
 unfold execOp
 rw [ho]
 go_simp
theorem wp_append_one_it {o : Oper} {a : Act} {B : Nat} {w : World} {K : Act → World → Prop} {Q : Exit → Act → World → Prop} (s x : Nat)
  (ho : o.op = .call { callee := .builtin .append, args := #[.tmp s, .tmp x], argTypes := #[24, 24] })
  {v : Value} {M : List It} {y : It} (hown : OwnI B w v M) (hBs : B ≤ w.heap.size) (hs : a.eval (.tmp s) = v) (hx : OneIt w (slot a x) y) (hlen : M.length ≤ 1000000)
  (h : ∀ v' w', OwnI B w' v' (M ++ [y]) → w.grownBy w' v.ownBlock → K (a.put o.dst v') w') : o.wp Tryz.prog a w K Q := by
 obtain ⟨i0, hi, hz0, hz1, hz2⟩ := info_parts infoItem
 obtain ⟨A, hx1, hx2⟩ := hx
 have hr : Row w A #[.string y.p, .bool y.d, .bool y.e, .string y.c] 52 := hx2
 refine wp_append_own w (.tmp s) (.tmp x) 24 ho B 52 i0 (itV zeroIt) 4 40 Tryz.underlying24 hi hz0 hz1 hz2 rfl (by decide) v M.length (itCells M) hs hown ⟨A, 0, none⟩ 1 1 (itC y) (slotE hx1) rfl ?_ ?_ ?_ ?_ hBs ?_
 ·intro j u hj
  have := hr.cell j
  rw [add_plain', Nat.zero_add, this]
  simpa using hj
 ·intro u hu; simp at hu; rcases hu with rfl | rfl | rfl | rfl <;> rfl
 ·unfold maxLen; omega
 ·omega
 ·intro v' w' hown' hg _
  refine h v' w' ?_ hg
  unfold OwnI
  rw [List.length_append, itCells_app]
  have : itCells [y] = itC y := List.append_nil _
  rw [this]; exact hown'
theorem wpList_append_it {ops : Array Oper} {rest : List Oper} {o : Oper} {a : Act} {B z : Nat} {w0 : World} {Q : Exit → Act → World → Prop} (hgd : o.guard = none) (s x : Operand)
  (ho : o.op = .call { callee := .builtin .append, args := #[s, x], argTypes := #[24, 24] })
  {v : Value} {M : List It} {y : It} (hown : OwnI B w0 v M) (hBs : B ≤ w0.heap.size) (hz : z = w0.heap.size) (hs : a.eval s = v)
  (hx : a.eval x = .slice (some ⟨z, 0, none⟩) 1 1) (hlen : M.length ≤ 1000000)
  (h : ∀ v' w', OwnI B w' v' (M ++ [y]) → w0.grownBy w' v.ownBlock → wpList Tryz.prog ops Q rest (a.put o.dst v') w') :
  wpList Tryz.prog ops Q (o :: rest) a (w0.alloc (.cells #[.string y.p, .bool y.d, .bool y.e, .string y.c] 52)) := by
 subst hz
 obtain ⟨i0, hi, hz0, hz1, hz2⟩ := info_parts infoItem
 refine wpList_append_own _ hgd s x 24 ho B 52 i0 (itV zeroIt) 4 40 Tryz.underlying24 hi hz0 hz1 hz2 rfl (by decide) v M.length (itCells M) hs (World.ownsRow.alloc hown _) ⟨w0.heap.size, 0, none⟩ 1 1 (itC y) hx rfl cell_four ?_ ?_ ?_ ?_ ?_
 ·intro u hu; simp at hu; rcases hu with rfl | rfl | rfl | rfl <;> rfl
 ·unfold maxLen; omega
 ·omega
 ·simp; omega
 ·intro v' w' hown' hg _
  refine h v' w' ?_ (grown_after (grownBy_alloc w0 _) hg)
  unfold OwnI
  rw [List.length_append, itCells_app]
  have : itCells [y] = itC y := List.append_nil _
  rw [this]; exact hown'
theorem own_set {B Bw i : Nat} {w : World} {v : Value} {M : List It} {xs : Array Value} (h : OwnI B w v M) (hr : Row w Bw xs 57) (u : Value) : OwnI B (w.setCell ⟨Bw, i, none⟩ u) v M :=
 (Wf.set (N := w.heap.size) u).owns h (fun g hg => (World.ownsRow.lt h g hg).2) (owns_apart h hr (by decide))
section
variable {W0 : World} {Bw : Nat} {vO : Value} {O : List Ob} {w w' : World} {M : List It} {sz : Nat} {vI v' : Value}
theorem Wlk.more (h : Wlk W0 Bw vO O w M sz vI) (hg : w.grownBy w' vI.ownBlock) {y : It} (ho : OwnI W0.heap.size w' v' (M ++ [y])) : Wlk W0 Bw vO O (w'.setCell ⟨Bw, 1, none⟩ v') (M ++ [y]) sz v' ∧ Wk W0.heap.size Bw w (w'.setCell ⟨Bw, 1, none⟩ v') ∧ Row w' Bw #[vO, vI, .int .i64 sz] 57 := by
 have hr : Row w' Bw #[vO, vI, .int .i64 sz] 57 := (hg.block Bw h.row.lt (fun e => h.apart e.symm)).trans h.row
 refine ⟨⟨hr.set 1 v', h.objs, own_set ho hr v', h.from_, (h.below.grown hg h.below.size (fun g e => (h.items.rowI e).1)).setCell (p := ⟨Bw, 1, none⟩) h.from_ _, h.err⟩, (Wk.turn hg (fun g e => h.items.rowI e)).trans (Wk.set _), hr⟩
end
structure EntG (W0 : World) (Bw : Nat) (wz w : World) : Prop where
 wk : Wk W0.heap.size Bw wz w
 below : Below W0.heap.size W0 w
theorem EntG.on {W0 : World} {Bw : Nat} {wz w w' : World} (h : EntG W0 Bw wz w) (hb : Below w.heap.size w w') : EntG W0 Bw wz w' := ⟨h.wk.step hb, below_step h.below hb⟩
theorem EntG.drew {W0 : World} {Bw : Nat} {vO : Value} {O : List Ob} {w : World} {M : List It} {sz : Nat} {vI : Value} (h : Wlk W0 Bw vO O w M sz vI) : EntG W0 Bw w w.drew := ⟨Wk.of_below ((Below.refl _ _).drew), h.below.drew⟩
theorem EntG.grown {W0 : World} {Bw : Nat} {vO : Value} {O : List Ob} {wz w w' : World} {M : List It} {sz : Nat} {vI : Value} (h : EntG W0 Bw wz w) (hw : Wlk W0 Bw vO O w M sz vI) (hg : w.grownBy w' vI.ownBlock) : EntG W0 Bw wz w' :=
 ⟨h.wk.trans (Wk.turn hg (fun g e => hw.items.rowI e)), h.below.grown hg h.below.size (fun g e => (hw.items.rowI e).1)⟩
theorem EntG.set {W0 : World} {Bw i : Nat} {wz w : World} (h : EntG W0 Bw wz w) (hB : W0.heap.size ≤ Bw) (u : Value) : EntG W0 Bw wz (w.setCell ⟨Bw, i, none⟩ u) :=
 ⟨h.wk.trans (Wk.set _), h.below.setCell (p := ⟨Bw, i, none⟩) hB _⟩
def entR (W0 : World) (Bw : Nat) (vI : Value) (i : Nat) (w w' : World) : Prop :=
 W0.heap.size ≤ Bw ∧ if i = 11 then w.grownBy w' vI.ownBlock ∧ ∀ g, vI.ownBlock = some g → W0.heap.size ≤ g ∧ g ≠ Bw ∧ ∃ xs, Row w g xs 52
 else ∃ u xs, Row w Bw xs 57 ∧ w' = w.setCell ⟨Bw, 1, none⟩ u
theorem entR_app {W0 : World} {Bw : Nat} {vI : Value} {w w' : World} (h : entR W0 Bw vI 11 w w') : w.grownBy w' vI.ownBlock ∧ ∀ g, vI.ownBlock = some g → W0.heap.size ≤ g ∧ g ≠ Bw ∧ ∃ xs, Row w g xs 52 := by have h := h.2; rwa [if_pos rfl] at h
theorem entR_app' {W0 : World} {Bw : Nat} {vO : Value} {O : List Ob} {w w' : World} {M : List It} {sz : Nat} {vI : Value} (hw : Wlk W0 Bw vO O w M sz vI) (hg : w.grownBy w' vI.ownBlock) : entR W0 Bw vI 11 w w' := by
 refine ⟨hw.from_, ?_⟩
 rw [if_pos rfl]
 exact ⟨hg, fun g e => ⟨(hw.items.rowI e).1, fun e2 => hw.apart (by rw [e, e2]), (hw.items.rowI e).2⟩⟩
theorem entR_set' {W0 : World} {Bw : Nat} {vI : Value} {w : World} {xs : Array Value} (hB : W0.heap.size ≤ Bw) (hr : Row w Bw xs 57) (u : Value) : entR W0 Bw vI 14 w (w.setCell ⟨Bw, 1, none⟩ u) := by
 refine ⟨hB, ?_⟩
 rw [if_neg (by decide)]
 exact ⟨u, xs, hr, rfl⟩
noncomputable def entLE (O : List Ob) : Nat → List UInt8 → List It → En → Except Int (List It)
 | 0, _, _, _ => .error 8
 | k + 1, dp, out, e => ent1E O (dirE O k) dp out e
theorem dirE_eq {O : List Ob} {k : Nat} {key dp : List UInt8} {out : List It} : dirE O k key dp out = match loadE O key 3 with
  | .error x => .error x
  | .ok n => entsE (entLE O k dp) n.es out := by cases k <;> rfl
theorem dirE_bad {O : List Ob} {k : Nat} {key dp : List UInt8} {out : List It} {x : Int} (h : loadE O key 3 = .error x) : dirE O k key dp out = .error x := by rw [dirE_eq, h]
theorem dirE_ok {O : List Ob} {k : Nat} {key dp : List UInt8} {out : List It} {n : Nd} (h : loadE O key 3 = .ok n) : dirE O k key dp out = entsE (entLE O k dp) n.es out := by rw [dirE_eq, h]
theorem ent1_many {O : List Ob} {sub : List UInt8 → List UInt8 → List It → Except Int (List It)} {dp : List UInt8} {out : List It} {e : En} (h : 60 ≤ out.length) : ent1E O sub dp out e = .error 9 := by unfold ent1E; rw [if_pos h]
theorem preL_few : ∀ (k : Nat) (D : List (List UInt8)), D.length = k → (∀ p ∈ D, nameB p = true) → (preL D).length ≤ 32 * k ∧ (preL D).count 47 = k
 | 0, D, hk, _ => by
  obtain rfl := List.length_eq_zero_iff.1 hk
  exact ⟨Nat.le_refl _, rfl⟩
 | k + 1, D, hk, h => by
  have hne : D ≠ [] := by rintro rfl; cases hk
  have e := List.dropLast_concat_getLast hne
  have hd : ∀ p ∈ D.dropLast, nameB p = true := fun p hp => h p ((List.dropLast_sublist D).subset hp)
  have hl := h _ (List.getLast_mem hne)
  obtain ⟨h1, h2⟩ := preL_few k D.dropLast (by rw [List.length_dropLast]; omega) hd
  have hp := (pre_pts hd hl).2
  rw [e] at hp
  rw [← hp]
  have hn := (nameB_iff.1 hl).2.1
  have hz : (D.getLast hne).count 47 = 0 := List.count_eq_zero.2 (free_name hl)
  refine ⟨by simp only [List.length_append, List.length_cons, List.length_nil]; omega, ?_⟩
  rw [List.count_append, List.count_append, h2, hz]; rfl
theorem sizeT_one (y : It) : sizeT [y] = y.c.size := by simp [sizeT]
theorem sizeT_dir (M : List It) (aa : ByteArray) : sizeT (M ++ [(⟨aa, true, false, ⟨#[]⟩⟩ : It)]) = sizeT M := by rw [sizeT_app, sizeT_one]; rfl
def RetEnt (W0 : World) (Bw : Nat) (vO : Value) (O : List Ob) (r : Except Int (List It)) (w : World) (e : Ending) (w' : World) : Prop :=
 (∃ M vI, r = .ok M ∧ e = .returned .nilIface ∧ Wlk W0 Bw vO O w' M (sizeT M) vI ∧ M.length ≤ 60 ∧ sizeT M ≤ 65536 ∧ Wk W0.heap.size Bw w w')
 ∨ ∃ k x, r = .error k ∧ k ∈ wrongs ∧ e = .returned (faultV x k) ∧ Wk W0.heap.size Bw w w'
def DirFAt (W0 : World) (Bw : Nat) (vO : Value) (O : List Ob) (k : Nat) : Prop :=
 ∀ (D : List (List UInt8)) (ahead key : ByteArray) (w : World) (M : List It) (vI : Value), D.length + k = 8 → (∀ n ∈ D, nameB n = true) → ahead.data.toList = preL D → Wlk W0 Bw vO O w M (sizeT M) vI → M.length ≤ 60 → sizeT M ≤ 65536 →
  Calls Tryz.prog 25 #[.pointer (some ⟨Bw, 0, none⟩), .string key, .string ahead] w (RetEnt W0 Bw vO O (dirE O k key.data.toList (preL D) M) w)
def DirLess (W0 : World) (Bw : Nat) (vO : Value) (O : List Ob) : Nat → Prop
 | 0 => True
 | k + 1 => DirFAt W0 Bw vO O k
def fenU (W0 : World) (Bw be : Nat) (vO vI : Value) (O : List Ob) (M : List It) (sz : Nat) (x : En) (aa s : ByteArray) : Nat → Value → Value → World → Prop
 | 0 => fun v _ _ => v = .pointer (some ⟨Bw, 0, none⟩)
 | 1 => fun v _ _ => v = .pointer (some ⟨Bw, 0, none⟩)
 | 2 => fun v _ _ => v = .pointer (some ⟨Bw, 0, none⟩)
 | 3 => fun v _ _ => v = .pointer (some ⟨Bw, 1, none⟩)
 | 4 => fun v _ _ => v = vI
 | 5 => fun v _ _ => v = .string aa
 | 6 => fun v _ _ => v = .pointer (some ⟨be, 2, none⟩)
 | 7 => fun v _ _ => v = .bool x.x
 | 8 => fun v _ _ => v = .string s
 | 9 => fun v _ _ => v = itV (⟨aa, false, x.x, s⟩ : It)
 | 10 => fun v _ w => OneIt w v (⟨aa, false, x.x, s⟩ : It)
 | 11 => fun v _ w => OwnI W0.heap.size w v (M ++ [(⟨aa, false, x.x, s⟩ : It)])
 | 12 => fun v _ _ => v = .pointer (some ⟨Bw, 0, none⟩)
 | 13 => fun v _ _ => v = .pointer (some ⟨Bw, 1, none⟩)
 | 14 => fun _ e w => Row w Bw #[vO, e, .int .i64 sz] 57 ∧ OwnI W0.heap.size w e (M ++ [(⟨aa, false, x.x, s⟩ : It)])
 | 15 => fun _ _ w => Wlk W0 Bw vO O w M sz vI
 | 16 => fun _ _ w => Row w be #[.string x.m, .int .i64 x.kd, .bool x.x, .string x.k] 89
 | 17 => fun _ _ w => Row w Bw #[vO, vI, .int .i64 sz] 57
 | _ => fun _ _ _ => True
def fenN : List (List Nat) := [[], [], [1], [2], [3, 15], [], [], [6, 16], [], [5, 7, 8], [9], [4, 10, 15], [0], [12], [13, 11, 17]]
def fenE : Nat → Option Tmp
 | 14 => some 72
 | _ => none
def fenB : List (Nat × Nat) := [(11, 10), (11, 14), (11, 15), (11, 16), (14, 10), (14, 11), (14, 15), (14, 16), (14, 17)]
theorem fen_T (W0 : World) (Bw be : Nat) (vO vI : Value) (O : List Ob) (M : List It) (sz : Nat) (x : En) (aa s : ByteArray) (ix kx : Nat) (v e : Value) (w w' : World) (hk : kx < 18) (hne : kx ≠ ix) (hbd : (ix, kx) ∉ fenB) (hU : (fenU W0 Bw be vO vI O M sz x aa s) kx v e w) (hT : (appTs [11, 14] (entR W0 Bw vI)) ix w w') : (fenU W0 Bw be vO vI O M sz x aa s) kx v e w' := by
 by_cases hi11 : ix = 11
 ·subst hi11
  have hR := appTs_in (by decide) hT
  rcases (show kx = 0 ∨ kx = 1 ∨ kx = 2 ∨ kx = 3 ∨ kx = 4 ∨ kx = 5 ∨ kx = 6 ∨ kx = 7 ∨ kx = 8 ∨ kx = 9 ∨ kx = 10 ∨ kx = 11 ∨ kx = 12 ∨ kx = 13 ∨ kx = 14 ∨ kx = 15 ∨ kx = 16 ∨ kx = 17 by omega) with rfl | rfl | rfl | rfl | rfl | rfl | rfl | rfl | rfl | rfl | rfl | rfl | rfl | rfl | rfl | rfl | rfl | rfl
  iterate 10 exact hU
  ·exact absurd (by decide) hbd
  ·exact absurd rfl hne
  ·exact hU
  ·exact hU
  ·exact absurd (by decide) hbd
  ·exact absurd (by decide) hbd
  ·exact absurd (by decide) hbd
  ·exact ((entR_app hR).1.block Bw hU.lt (fun e => ((entR_app hR).2 Bw e.symm).2.1 rfl)).trans hU
 by_cases hi14 : ix = 14
 ·subst hi14
  have hR := appTs_in (by decide) hT
  rcases (show kx = 0 ∨ kx = 1 ∨ kx = 2 ∨ kx = 3 ∨ kx = 4 ∨ kx = 5 ∨ kx = 6 ∨ kx = 7 ∨ kx = 8 ∨ kx = 9 ∨ kx = 10 ∨ kx = 11 ∨ kx = 12 ∨ kx = 13 ∨ kx = 14 ∨ kx = 15 ∨ kx = 16 ∨ kx = 17 by omega) with rfl | rfl | rfl | rfl | rfl | rfl | rfl | rfl | rfl | rfl | rfl | rfl | rfl | rfl | rfl | rfl | rfl | rfl
  iterate 10 exact hU
  ·exact absurd (by decide) hbd
  ·exact absurd (by decide) hbd
  ·exact hU
  ·exact hU
  ·exact absurd rfl hne
  ·exact absurd (by decide) hbd
  ·exact absurd (by decide) hbd
  ·exact absurd (by decide) hbd
 have hi : ix ∉ [11, 14] := by simp [hi11, hi14]
 have hb : Below w.heap.size w w' := appTs_out hi hT
 rcases (show kx = 0 ∨ kx = 1 ∨ kx = 2 ∨ kx = 3 ∨ kx = 4 ∨ kx = 5 ∨ kx = 6 ∨ kx = 7 ∨ kx = 8 ∨ kx = 9 ∨ kx = 10 ∨ kx = 11 ∨ kx = 12 ∨ kx = 13 ∨ kx = 14 ∨ kx = 15 ∨ kx = 16 ∨ kx = 17 by omega) with rfl | rfl | rfl | rfl | rfl | rfl | rfl | rfl | rfl | rfl | rfl | rfl | rfl | rfl | rfl | rfl | rfl | rfl
 iterate 10 exact hU
 ·exact OneIt.stays hU hb
 ·exact OwnI.stays hU hb
 ·exact hU
 ·exact hU
 ·exact ⟨Row.step hU.1 hb, OwnI.stays hU.2 hb⟩
 ·exact Wlk.stays hU hb
 ·exact Row.step hU hb
 ·exact Row.step hU hb
set_option maxRecDepth 100000 in
set_option maxHeartbeats 16000000 in
theorem fentry_any (W0 : World) (Bw : Nat) (vO : Value) (O : List Ob) (hr : RiseO O) (hl : O.length ≤ 1000000) (hz : ∀ y ∈ O, y.r.size ≤ 1000000) (k : Nat) (IH : DirLess W0 Bw vO O k) (D : List (List UInt8)) (x : En) (aa : ByteArray) (w : World) (M : List It) (vI : Value)
  (hk : D.length + k = 8) (hD : ∀ n ∈ D, nameB n = true) (hx : okEn x = true) (ha : aa.data.toList = preL D ++ x.m.data.toList) (h : Wlk W0 Bw vO O w M (sizeT M) vI) (hM : M.length ≤ 60) (hS : sizeT M ≤ 65536) :
  Calls Tryz.prog 52 #[.pointer (some ⟨Bw, 0, none⟩), enV x, .string aa] w (RetEnt W0 Bw vO O (entLE O k (preL D) M x) w) := by
 obtain ⟨hxm, hxd⟩ : nameB x.m.data.toList = true ∧ (x.kd = 2 ∨ x.kd = 3 ∧ x.x = false) := by
  unfold okEn at hx; simp at hx
  refine ⟨hx.1.1, ?_⟩
  rcases hx.2 with h | ⟨h, g⟩
  ·exact .inl h
  ·exact .inr ⟨h, g⟩
 obtain ⟨hp1, hp2⟩ := preL_few D.length D rfl hD
 have hm31 := (nameB_iff.1 hxm).2.1
 have has : aa.size ≤ 1000 := by
  rw [Lib.size_eq, ha, List.length_append]; omega
 have hcn : aa.data.toList.count 47 = D.length := by
  rw [ha, List.count_append, hp2, List.count_eq_zero.2 (free_name hxm)]; rfl
 have CN := Lib.hid (fun W => names_any aa (by omega) W)
 rw [hcn] at CN
 obtain ⟨dl, hdl⟩ : ∃ dl, dl = D.length := ⟨_, rfl⟩
 rw [← hdl] at CN hk
 obtain ⟨V, hV⟩ : ∃ V, V = w.alloc (.cells #[.string x.m, .int .i64 x.kd, .bool x.x, .string x.k] 89) := ⟨_, rfl⟩
 have hbV : Below w.heap.size w V := by rw [hV]; exact (Below.refl _ _).alloc (Nat.le_refl _) _
 have HBX : Hid (Row V w.heap.size #[.string x.m, .int .i64 x.kd, .bool x.x, .string x.k] 89) := Lib.hid (by rw [hV]; exact Row.made _ _ _)
 have hbx := HBX.out
 have b0 : V.cell? ⟨w.heap.size, 0, none⟩ = some (.string x.m) := hbx.cell 0
 have b1 : V.cell? ⟨w.heap.size, 1, none⟩ = some (.int .i64 x.kd) := hbx.cell 1
 have b2 : V.cell? ⟨w.heap.size, 2, none⟩ = some (.bool x.x) := hbx.cell 2
 have b3 : V.cell? ⟨w.heap.size, 3, none⟩ = some (.string x.k) := hbx.cell 3
 have HWV := Lib.hid (h.stays hbV)
 have HFM : Hid (W0.heap.size ≤ Bw) := Lib.hid h.from_
 have HBWL : Hid (Bw < w.heap.size) := Lib.hid h.lt
 have HKV := Lib.hid (Wk.of_below (B := W0.heap.size) (Bw := Bw) hbV)
 have HV := Lib.hid hV
 have HDN := Lib.hid hD; have HXM := Lib.hid hxm; have HA := Lib.hid ha; have HDL := Lib.hid hdl; have HIH := Lib.hid IH
 have HR := Lib.hid hr; have HZ := Lib.hid hz; have HX := Lib.hid hx; have HXD := Lib.hid hxd
 clear hbV hV hbx hD hxm ha hdl IH hr hz hx hxd hcn hp1 hp2 hm31 h
 cases k with
 | zero =>
  have q1 : decide ((8 : Int) < ((dl : Int) + 1)) = true := decide_eq_true (by omega)
  go_enter Tryz.func52, Tryz.ntmps52
  go_wp2_with fail
  rw [← HV.out]
  with_reducible refine (CN.out _).mono ?_
  rintro e w1 ⟨rfl, rfl⟩
  go_wp2
  go_ret
  exact .inr ⟨8, x.k, rfl, by decide, rfl, HKV.out⟩
 | succ k =>
  have q1 : decide ((8 : Int) < ((dl : Int) + 1)) = false := decide_eq_false (by omega)
  obtain ⟨_, ia, ic, hvI, _, _⟩ := HWV.out.items.items
  obtain ⟨z, hzl⟩ : ∃ z, z = M.length := ⟨_, rfl⟩
  rw [← hzl] at hvI
  have HZL := Lib.hid hzl
  obtain ⟨c0, c1, c2⟩ := HWV.out.cells
  have HM := Lib.hid hM; have HS := Lib.hid hS
  clear hzl hM hS
  subst hvI
  by_cases h60 : 60 ≤ z
  ·have q2 : decide ((60 : Int) ≤ (z : Int)) = true := decide_eq_true (by omega)
   have HE := Lib.hid (ent1_many (O := O) (sub := dirE O k) (dp := preL D) (e := x) (show 60 ≤ M.length by have := HZL.out; omega))
   clear h60
   go_enter Tryz.func52, Tryz.ntmps52
   go_wp2_with fail
   rw [← HV.out]
   with_reducible refine (CN.out _).mono ?_
   rintro e w1 ⟨rfl, rfl⟩
   go_wp2
   go_ret
   exact .inr ⟨9, x.k, HE.out, by decide, rfl, HKV.out⟩
  ·have q2 : decide ((60 : Int) ≤ (z : Int)) = false := decide_eq_false (by omega)
   have HLT := Lib.hid (show M.length < 60 by have := HZL.out; omega)
   clear h60
   by_cases hd : x.kd = 3
   ·have q3 : (x.kd == 3) = true := beq_iff_eq.2 hd
    have HE := Lib.hid (ent1_dir (O := O) (sub := dirE O k) (dp := preL D) HLT.out hd)
    have HHD := Lib.hid hd
    clear hd
    go_enter Tryz.func52, Tryz.ntmps52
    go_wp2_with fail
    rw [← HV.out]
    with_reducible refine (CN.out _).mono ?_
    rintro e w1 ⟨rfl, rfl⟩
    have hlx : w.heap.size < V.heap.size := HBX.out.lt
    have HVZ : Hid (V.heap.size = V.heap.size) := Lib.hid rfl
    go_wp2_with (at_builtin; refine wpList_append_it (y := (⟨aa, true, false, ⟨#[]⟩⟩ : It)) rfl _ _ rfl HWV.out.items HWV.out.below.size rfl rfl rfl (by have := HLT.out; omega) ?_)
    intro v' w2 hown2 hg2
    obtain ⟨hw3, hk3, hrow2⟩ := HWV.out.more hg2 hown2
    have HW3 := Lib.hid hw3; have HK3 := Lib.hid (HKV.out.trans hk3)
    have hne : w.heap.size ≠ Bw := by have := HBWL.out; omega
    have hb2 : Row w2 w.heap.size #[.string x.m, .int .i64 x.kd, .bool x.x, .string x.k] 89 := (Wk.turn (B := W0.heap.size) (Bw := Bw) hg2 (fun g e => HWV.out.items.rowI e)).row HBX.out (by decide) hne
    have b3 : w2.cell? ⟨w.heap.size, 3, none⟩ = some (.string x.k) := hb2.cell 3
    have c1 : w2.cell? ⟨Bw, 1, none⟩ = some _ := hrow2.cell 1
    have g1 := hrow2.free 1
    obtain ⟨_, ua, uc, hue, _, _⟩ := hown2.items
    obtain ⟨z2, hz2⟩ : ∃ z2, z2 = (M ++ [(⟨aa, true, false, ⟨#[]⟩⟩ : It)]).length := ⟨_, rfl⟩
    rw [← hz2] at hue
    clear hz2
    subst hue
    have hng : ¬ (9223372036854775807 : Int) < (aa.size : Int) + 1 := by omega
    clear hown2 hg2 hw3 hk3 hrow2 hb2
    obtain ⟨hpp1, hpp2⟩ := pre_pts HDN.out HXM.out
    have HCD := Lib.hid (fun ah (hah : ah.data.toList = preL (D ++ [x.m.data.toList])) W hW => (show DirFAt W0 Bw vO O k from HIH.out) (D ++ [x.m.data.toList]) ah x.k W (M ++ [(⟨aa, true, false, ⟨#[]⟩⟩ : It)]) (.slice ua z2 uc) (by rw [List.length_append, ← HDL.out]; simp; omega) (fun n hn => by
     rcases List.mem_append.1 hn with h | h
     ·exact HDN.out n h
     ·rw [List.mem_singleton.1 h]; exact HXM.out) hah hW (by rw [List.length_append]; have := HLT.out; simp; omega) (by rw [sizeT_dir]; exact HS.out))
    have HAH : Hid ((aa ++ ⟨#[47]⟩ : ByteArray).data.toList = preL (D ++ [x.m.data.toList])) := Lib.hid (by rw [← hpp2, ← HA.out]; simp)
    have hsz : sizeT (M ++ [(⟨aa, true, false, ⟨#[]⟩⟩ : It)]) = sizeT M := sizeT_dir _ _
    rw [← hsz] at HW3
    have HEQ : Hid (dirE O k x.k.data.toList (preL (D ++ [x.m.data.toList])) (M ++ [(⟨aa, true, false, ⟨#[]⟩⟩ : It)]) = entLE O (k + 1) (preL D) M x) := Lib.hid (by
     show _ = ent1E O (dirE O k) (preL D) M x
     rw [HE.out, ← HA.out, ← hpp2, ← HA.out])
    clear hpp1 hpp2 hsz
    go_wp2_with fail
    have CD := Lib.hid (HCD.out _ HAH.out _ HW3.out)
    refine CD.out.mono ?_
    rintro e w4 (⟨M', vJ, hre, rfl, hw4, hl4, hs4, hk4⟩ | ⟨kk, y, hre, hkk, rfl, hk4⟩)
    ·have HRE := Lib.hid (HEQ.out.symm.trans hre)
     have HW4 := Lib.hid hw4; have HK4 := Lib.hid (HK3.out.trans hk4); have HL4 := Lib.hid hl4; have HS4 := Lib.hid hs4
     clear hre hw4 hk4 hl4 hs4
     go_wp2
     go_ret
     exact .inl ⟨M', vJ, HRE.out, rfl, HW4.out, HL4.out, HS4.out, HK4.out⟩
    ·have HRE := Lib.hid (HEQ.out.symm.trans hre)
     have HKK := Lib.hid hkk; have HK4 := Lib.hid (HK3.out.trans hk4)
     clear hre hkk hk4
     go_wp2
     go_ret
     exact .inr ⟨kk, y, HRE.out, HKK.out, rfl, HK4.out⟩
   ·have q3 : (x.kd == 3) = false := beq_eq_false_iff_ne.2 hd
    have HHD := Lib.hid hd
    clear hd
    have CF := Lib.hid (file_any W0 Bw vO O HR.out hl HZ.out x.k V M (sizeT M) _ HWV.out HS.out)
    go_enter Tryz.func52, Tryz.ntmps52
    go_wp2_with fail
    rw [← HV.out]
    with_reducible refine (CN.out _).mono ?_
    rintro e w1 ⟨rfl, rfl⟩
    go_wp2_with fail
    with_reducible refine CF.out.mono ?_
    rintro e w3 (⟨fl, hok, rfl, hw3, hf3⟩ | ⟨kk, y, hbad, hkk, rfl, _, hf3⟩)
    ·have HFL := Lib.hid (file_len hok (by have := HS.out; omega))
     have HE := Lib.hid (ent1_file (O := O) (sub := dirE O k) (dp := preL D) HLT.out HHD.out hok)
     have HWZ := Lib.hid hw3
     have hbx3 : Row w3 w.heap.size #[.string x.m, .int .i64 x.kd, .bool x.x, .string x.k] 89 := hf3.row HBX.out HBX.out.lt (by have := HBWL.out; omega)
     have HBX3 := Lib.hid hbx3
     have HK3 := Lib.hid (HKV.out.trans (Wk.of_wf hf3))
     have hMl : M.length ≤ 60 := HM.out
     clear c0 c1 c2 b0 b1 b2 b3 hw3 hf3 hok hbx3
     obtain ⟨s, hs⟩ : ∃ s : ByteArray, s = ⟨fl.toArray⟩ := ⟨_, rfl⟩
     rw [← hs]
     have HSE := Lib.hid hs
     clear hs
     obtain ⟨sz, hsz⟩ : ∃ sz, sz = sizeT M + fl.length := ⟨_, rfl⟩
     rw [← hsz] at HWZ
     have HSZ := Lib.hid hsz
     clear hsz
     obtain ⟨Wz, hWz⟩ : ∃ Wz, Wz = w3 := ⟨_, rfl⟩
     go_wp2_with fail
     rw [← hWz] at HWZ HBX3 HK3 ⊢
     clear hWz
     have HBX := HBX3
     obtain ⟨be, hbe⟩ : ∃ be, be = w.heap.size := ⟨_, rfl⟩
     rw [← hbe] at HBX ⊢
     clear hbe
     obtain ⟨vI, hvI⟩ : ∃ vI, vI = Value.slice ia z ic := ⟨_, rfl⟩
     rw [← hvI] at HWZ
     clear hvI
     refine wp_region_wordsG (by kernel_rfl) (by kernel_rfl) (appTs [11, 14] (entR W0 Bw vI)) (EntG W0 Bw Wz) fenE (fenU W0 Bw be vO vI O M sz x aa s) 18 fenN [14] (by kernel_rfl) (by kernel_rfl) (by kernel_rfl)
      fenB (by kernel_rfl) (fun ix kx v e w w' hi hk hne hb hU hT => fen_T _ _ _ _ _ _ _ _ _ _ _  ix kx v e w w' hk hne hb hU hT) (by decide) (EntG.drew HWZ.out) (fun kx hk hge => ?hv0)
      [61, 62, 63, 64, 65, 66, 67, 68, 69, 70, 71, 72, 73, 74] (by kernel_rfl) (forall_ops ?steps) ?behind
     case hv0 =>
      have hge' : 15 ≤ kx := hge
      rcases (show kx = 15 ∨ kx = 16 ∨ kx = 17 by omega) with rfl | rfl | rfl
      ·exact HWZ.out.stays ((Below.refl _ _).drew)
      ·exact HBX.out.drew
      ·exact HWZ.out.row.drew
     case steps =>
      refine ⟨?_, ?_, ?_, ?_, ?_, ?_, ?_, ?_, ?_, ?_, ?_, ?_, ?_, ?_, ?_, trivial⟩
      ·refine stepG_of rfl ?_
       exact stepR_value (t := 61) (.pointer (some ⟨Bw, 0, none⟩)) rfl (fun _ => appTs_other (by decide) (Below.refl _ _)) (fun ac w hG hN hO => by
        have e0 : slot ac 0 = .pointer (some ⟨Bw, 0, none⟩) := hO 0 (by kernel_rfl)
        exact run_move_slot (.inl rfl) e0) (fun ac w hG hN => rfl)
      ·refine stepG_of rfl ?_
       exact stepR_value (t := 62) (.pointer (some ⟨Bw, 0, none⟩)) rfl (fun _ => appTs_other (by decide) (Below.refl _ _)) (fun ac w hG hN hO => by
        have e0 : slot ac 0 = .pointer (some ⟨Bw, 0, none⟩) := hO 0 (by kernel_rfl)
        exact run_move_slot (.inl rfl) e0) (fun ac w hG hN => rfl)
      ·refine stepG_of rfl ?_
       exact stepR_value (t := 63) (.pointer (some ⟨Bw, 0, none⟩)) rfl (fun _ => appTs_other (by decide) (Below.refl _ _)) (fun ac w hG hN hO => by
        have e62 : slot ac 62 = .pointer (some ⟨Bw, 0, none⟩) := hN 1 (by decide)
        have f62 := slot_at e62
        unfold execOp; go_simp) (fun ac w hG hN => rfl)
      ·refine stepG_of rfl ?_
       exact stepR_value (t := 64) (.pointer (some ⟨Bw, 1, none⟩)) rfl (fun _ => appTs_other (by decide) (Below.refl _ _)) (fun ac w hG hN hO => by
        have e63 : slot ac 63 = .pointer (some ⟨Bw, 0, none⟩) := hN 2 (by decide)
        have f63 := slot_at e63
        unfold execOp; go_simp) (fun ac w hG hN => rfl)
      ·refine stepG_of rfl ?_
       exact stepR_value (t := 65) vI rfl (fun _ => appTs_other (by decide) (Below.refl _ _)) (fun ac w9 hG hN hO => by
        have e64 : slot ac 64 = .pointer (some ⟨Bw, 1, none⟩) := hN 3 (by decide)
        have hx : Wlk W0 Bw vO O w9 M sz vI := hN 15 (by decide)
        have c1 := hx.cells.2.1
        have f := slot_at e64
        unfold execOp; go_simp) (fun ac w9 hG hN => rfl)
      ·refine stepG_of rfl ?_
       exact stepR_value (t := 66) (.string aa) rfl (fun _ => appTs_other (by decide) (Below.refl _ _)) (fun ac w hG hN hO => by
        have e2 : slot ac 2 = .string aa := hO 2 (by kernel_rfl)
        exact run_move_slot (.inl rfl) e2) (fun ac w hG hN => rfl)
      ·refine stepG_of rfl ?_
       exact stepR_value (t := 67) (.pointer (some ⟨be, 2, none⟩)) rfl (fun _ => appTs_other (by decide) (Below.refl _ _)) (fun ac w hG hN hO => by
        have e4 : slot ac 4 = .pointer (some ⟨be, 0, none⟩) := hO 4 (by kernel_rfl)
        have f4 := slot_at e4
        unfold execOp; go_simp) (fun ac w hG hN => rfl)
      ·refine stepG_of rfl ?_
       exact stepR_value (t := 68) (.bool x.x) rfl (fun _ => appTs_other (by decide) (Below.refl _ _)) (fun ac w9 hG hN hO => by
        have e67 : slot ac 67 = .pointer (some ⟨be, 2, none⟩) := hN 6 (by decide)
        have hx : Row w9 be #[.string x.m, .int .i64 x.kd, .bool x.x, .string x.k] 89 := hN 16 (by decide)
        have c0 : w9.cell? ⟨be, 2, none⟩ = some (.bool x.x) := hx.cell 2
        have f := slot_at e67
        unfold execOp; go_simp) (fun ac w9 hG hN => rfl)
      ·refine stepG_of rfl ?_
       exact stepR_value (t := 69) (.string s) rfl (fun _ => appTs_other (by decide) (Below.refl _ _)) (fun ac w hG hN hO => by
        have e7 : slot ac 7 = .string s := hO 7 (by kernel_rfl)
        exact run_move_slot (.inl rfl) e7) (fun ac w hG hN => rfl)
      ·refine stepG_of rfl ?_
       exact stepR_value (t := 70) (itV (⟨aa, false, x.x, s⟩ : It)) rfl (fun _ => appTs_other (by decide) (Below.refl _ _)) (fun ac w hG hN hO => by
        have e66 : slot ac 66 = .string aa := hN 5 (by decide)
        have e68 : slot ac 68 = .bool x.x := hN 7 (by decide)
        have e69 : slot ac 69 = .string s := hN 8 (by decide)
        have f66 := slot_at e66
        have f68 := slot_at e68
        have f69 := slot_at e69
        unfold execOp; go_simp) (fun ac w hG hN => rfl)
      ·refine stepG_of rfl ?_
       intro ac w9 hG hN hO
       have e70 : slot ac 70 = itV (⟨aa, false, x.x, s⟩ : It) := hN 9 (by decide)
       refine wp_build_it 70 rfl (x := (⟨aa, false, x.x, s⟩ : It)) e70 ?_
       exact ⟨_, rfl, appTs_other (by decide) ((Below.refl _ _).alloc (Nat.le_refl _) _), hG.on ((Below.refl _ _).alloc (Nat.le_refl _) _), oneIt_new w9 _⟩
      ·refine stepG_of rfl ?_
       intro ac w9 hG hN hO
       have e65 : slot ac 65 = vI := hN 4 (by decide)
       have e71 : OneIt w9 (slot ac 71) (⟨aa, false, x.x, s⟩ : It) := hN 10 (by decide)
       have hx : Wlk W0 Bw vO O w9 M sz vI := hN 15 (by decide)
       refine wp_append_one_it 65 71 rfl hx.items hx.below.size (slotE e65) e71 (by omega) ?_
       intro v' w' hown' hg
       exact ⟨v', rfl, appTs_at (by decide) (entR_app' hx hg), hG.grown hx hg, hown'⟩
      ·refine stepG_of rfl ?_
       exact stepR_value (t := 73) (.pointer (some ⟨Bw, 0, none⟩)) rfl (fun _ => appTs_other (by decide) (Below.refl _ _)) (fun ac w hG hN hO => by
        have e61 : slot ac 61 = .pointer (some ⟨Bw, 0, none⟩) := hN 0 (by decide)
        have f61 := slot_at e61
        unfold execOp; go_simp) (fun ac w hG hN => rfl)
      ·refine stepG_of rfl ?_
       exact stepR_value (t := 74) (.pointer (some ⟨Bw, 1, none⟩)) rfl (fun _ => appTs_other (by decide) (Below.refl _ _)) (fun ac w hG hN hO => by
        have e73 : slot ac 73 = .pointer (some ⟨Bw, 0, none⟩) := hN 12 (by decide)
        have f73 := slot_at e73
        unfold execOp; go_simp) (fun ac w hG hN => rfl)
      ·refine stepG_of rfl ?_
       intro ac w9 hG hN hO
       have e74 : slot ac 74 = .pointer (some ⟨Bw, 1, none⟩) := hN 13 (by decide)
       have hrow : Row w9 Bw #[vO, vI, .int .i64 sz] 57 := hN 17 (by decide)
       have hown : OwnI W0.heap.size w9 (slot ac 72) (M ++ [(⟨aa, false, x.x, s⟩ : It)]) := hN 11 (by decide)
       have hc : w9.cell? ⟨Bw, 1, none⟩ = some vI := hrow.cell 1
       have hf := hrow.free 1
       have f1 := slot_at e74
       obtain ⟨u, hu⟩ : ∃ u, u = slot ac 72 := ⟨_, rfl⟩
       have f2 := slot_at hu.symm
       rw [← hu] at hown
       obtain ⟨_, ua, uc, hue, _, _⟩ := hown.items
       subst hue
       have hs := hrow.set 1 (.slice ua (M ++ [(⟨aa, false, x.x, s⟩ : It)]).length uc)
       exact wp_skip (w' := w9.setCell ⟨Bw, 1, none⟩ (.slice ua (M ++ [(⟨aa, false, x.x, s⟩ : It)]).length uc)) (by unfold execOp; go_simp) ⟨undef, rfl, appTs_at (by decide) (entR_set' HFM.out hrow _), hG.set HFM.out _, by
        show Row _ Bw #[vO, exV fenE 14 ac, .int .i64 sz] _ ∧ OwnI _ _ (exV fenE 14 ac) _
        rw [show exV fenE 14 ac = slot ac 72 from rfl, ← hu]
        exact ⟨hs, own_set hown hrow _⟩⟩
     case behind =>
      intro ac w5 hG hV hS ha
      have h14 : Row w5 Bw #[vO, (slot ac 72), .int .i64 sz] 57 ∧ OwnI W0.heap.size w5 (slot ac 72) (M ++ [(⟨aa, false, x.x, s⟩ : It)]) := hV 14 (by decide) (by decide)
      generalize slot ac = sl at ha h14
      subst ha
      simp only [patchL, List.contains_cons, List.contains_nil, Nat.reduceBEq, Bool.or_false, Bool.or_true, if_true, Bool.false_eq_true, if_false, Nat.reduceAdd]
      generalize sl 61 = s61
      generalize sl 62 = s62
      generalize sl 63 = s63
      generalize sl 64 = s64
      generalize sl 65 = s65
      generalize sl 66 = s66
      generalize sl 67 = s67
      generalize sl 68 = s68
      generalize sl 69 = s69
      generalize sl 70 = s70
      generalize sl 71 = s71
      generalize sl 72 = s72 at h14 ⊢
      generalize sl 73 = s73
      generalize sl 74 = s74
      clear hV hS
      have HK5 := Lib.hid hG.wk; have HB5 := Lib.hid hG.below
      obtain ⟨hrow5, hown5⟩ := h14
      have HR5 := Lib.hid hrow5; have HO5 := Lib.hid hown5
      clear hrow5 hown5 hG
      go_wp2
      go_ret
      exact .inl ⟨M ++ [(⟨aa, false, x.x, s⟩ : It)], _, by
        show ent1E O (dirE O k) (preL D) M x = _
        rw [HE.out, ← HA.out, ← HSE.out], rfl, by
        have e : sizeT (M ++ [(⟨aa, false, x.x, s⟩ : It)]) = sz := by
         have hs : s.size = fl.length := by rw [Lib.size_eq, HSE.out]
         rw [sizeT_app, HSZ.out, sizeT_one]
         show sizeT M + s.size = _
         rw [hs]
        rw [e]
        exact ⟨HR5.out, HWZ.out.objs, HO5.out, HFM.out, HB5.out, HWZ.out.err⟩, by rw [List.length_append]; have := HLT.out; simp; omega, by
        have hs : s.size = fl.length := by rw [Lib.size_eq, HSE.out]
        have h1 := HFL.out; have h2 := HS.out
        rw [sizeT_app, sizeT_one]
        show sizeT M + s.size ≤ _
        omega, HK3.out.trans HK5.out⟩
    ·have HE := Lib.hid (ent1_err (O := O) (sub := dirE O k) (dp := preL D) HLT.out HHD.out hbad)
     have HKK := Lib.hid hkk
     have HK3 := Lib.hid (HKV.out.trans (Wk.of_wf hf3))
     clear hbad hkk hf3 c0 c1 c2 b0 b1 b2 b3
     go_wp2
     go_ret
     exact .inr ⟨kk, y, HE.out, HKK.out, rfl, HK3.out⟩
theorem ents_step {f : List It → En → Except Int (List It)} {E : List En} {out : List It} {j : Nat} (hj : j < E.length) : entsE f (E.drop j) out = match f out E[j] with
  | .error x => .error x
  | .ok out' => entsE f (E.drop (j + 1)) out' := by
 rw [List.drop_eq_getElem_cons hj]; rfl
theorem ents_okEn {n : Nd} (h : fitN n = true) (hk : n.kd = 3) : ∀ x ∈ n.es, okEn x = true := by
 rw [fit_dir hk] at h
 simp [fitDirB] at h
 exact fun x hx => h.2.1 x hx
structure DirL (W0 : World) (Bw : Nat) (vO : Value) (O : List Ob) (w1 : World) (k : Nat) (dp : List UInt8) (es : List En) (M0 : List It) (j : Nat) (M : List It) (vI : Value) (wr : World) : Prop where
 ents : entsE (entLE O k dp) (es.drop j) M = entsE (entLE O k dp) es M0
 wlk : Wlk W0 Bw vO O wr M (sizeT M) vI
 many : M.length ≤ 60
 size : sizeT M ≤ 65536
 wk : Wk W0.heap.size Bw w1 wr
set_option maxRecDepth 100000 in
set_option maxHeartbeats 16000000 in
theorem fdir_step (W0 : World) (Bw : Nat) (vO : Value) (O : List Ob) (hr : RiseO O) (hl : O.length ≤ 1000000) (hz : ∀ y ∈ O, y.r.size ≤ 1000000) (k : Nat) (IH : DirLess W0 Bw vO O k) : DirFAt W0 Bw vO O k := by
 intro D ahead key w M0 vI hk hD hah h hM hS
 have CL := Lib.hid (h.load hr hl hz key 3)
 have CE := Lib.hid (fun x aa w M vI hx ha h hM hS => fentry_any W0 Bw vO O hr hl hz k IH D x aa w M vI hk hD hx ha h hM hS)
 obtain ⟨hp1, hp2⟩ := preL_few D.length D rfl hD
 have hahs : ahead.size ≤ 256 := by rw [Lib.size_eq, hah]; omega
 obtain ⟨c0, c1, c2⟩ := h.cells
 have HW := Lib.hid h; have HAH := Lib.hid hah; have HM := Lib.hid hM; have HS := Lib.hid hS
 obtain ⟨dp, hdp⟩ : ∃ dp, dp = preL D := ⟨_, rfl⟩
 rw [← hdp] at CE HAH ⊢
 clear h hr hz IH hk hD hah hM hS hp1 hp2 hdp
 go_enter Tryz.func25, Tryz.ntmps25
 go_wp2_with fail
 with_reducible refine CL.out.mono ?_
 rintro e w1 (⟨n, pv, ev, hok, rfl, hpv, hev, hb1⟩ | ⟨kk, s', hbad, hkk, rfl, hb1⟩)
 ·have HW1 := Lib.hid (HW.out.stays hb1)
  have HB1 := Lib.hid hb1
  obtain ⟨hml, a2, cap2, hv2, _, _⟩ := hev.is
  have hmm0 : n.es.length ≤ 9223372036854775807 := by unfold maxLen at hml; omega
  obtain ⟨_, a1, cap1, hv1, _, _⟩ := hpv.is
  have HP := Lib.hid hev
  have HE := Lib.hid (dirE_ok (k := k) (dp := dp) (out := M0) hok)
  obtain ⟨hfit, hkd⟩ := load_fit hok
  have HOKE := Lib.hid (ents_okEn hfit hkd)
  clear hpv hev hb1 hok hfit hkd
  obtain ⟨z1, hz1⟩ : ∃ z, z = n.ps.length := ⟨_, rfl⟩
  obtain ⟨z2, hz2⟩ : ∃ z, z = n.es.length := ⟨_, rfl⟩
  rw [← hz1] at hv1; rw [← hz2] at hv2
  have HZ2 := Lib.hid hz2
  have hmm : z2 ≤ 9223372036854775807 := by omega
  clear hz1 hz2 hmm0 hml
  subst hv1 hv2
  have hb2 : Below w1.heap.size w1 (w1.alloc (.cells #[.int .i64 n.kd, .string n.d, .slice a1 z1 cap1, .slice a2 z2 cap2] 71)) := (Below.refl _ _).alloc (Nat.le_refl _) _
  have HL0 : Hid (DirL W0 Bw vO O w1 k dp n.es M0 0 M0 vI (w1.alloc (.cells #[.int .i64 n.kd, .string n.d, .slice a1 z1 cap1, .slice a2 z2 cap2] 71))) := Lib.hid
   ⟨rfl, HW1.out.stays hb2, HM.out, HS.out, Wk.of_below hb2⟩
  have HPA := Lib.hid (owns_apart (show w1.ownsRow w.heap.size 89 4 (.slice a2 z2 cap2) n.es.length (enCells n.es) from HP.out) HW1.out.row (by decide))
  clear hb2 c0 c1 c2
  go_wp2_with fail
  go_loopw [27] (fun i wr => ∃ (j : Nat) (M : List It) (vI : Value), j ≤ z2 ∧ i = .int .i64 j ∧ DirL W0 Bw vO O w1 k dp n.es M0 j M vI wr) (fun i _ => z2 - (intOf i).toNat)
  case atStart => exact ⟨0, M0, vI, Nat.zero_le _, rfl, HL0.out⟩
  case round =>
   obtain ⟨j, M, vI, hj, rfl, hL⟩ := hrel
   have HL := Lib.hid hL
   clear hL
   by_cases hlt : j < z2
   ·have hjp : j < n.es.length := by have := HZ2.out; omega
    have hown := HL.out.wk.ents HP.out HPA.out
    obtain ⟨_, _, _, hev, _, hc⟩ := hown.is
    cases hev
    obtain ⟨b, off, rfl, hbl, g⟩ := hc (by omega)
    obtain ⟨u0, u1, u2, u3⟩ := g j hjp
    have HST := Lib.hid (ents_step (f := entLE O k dp) (out := M) hjp)
    have hox := HOKE.out _ (List.getElem_mem hjp)
    obtain ⟨x, hx⟩ : ∃ x, x = n.es[j] := ⟨_, rfl⟩
    rw [← hx] at u0 u1 u2 u3 HST hox
    have HOX := Lib.hid hox
    have hnm : x.m.size ≤ 31 := by
     unfold okEn at hox; simp at hox
     rw [Lib.size_eq]; exact (nameB_iff.1 hox.1.1).2.1
    clear hx g hc hown hox
    have hbk : decide ((j : Int) < (n.es.length : Int)) = true := by simpa using (show (j : Int) < n.es.length by omega)
    have hbz := (Below.refl wr.heap.size wr).alloc (Nat.le_refl _) (.cells #[.string x.m, .int .i64 x.kd, .bool x.x, .string x.k] 89)
    have HWZ := Lib.hid (HL.out.wlk.stays hbz)
    have HKZ := Lib.hid (HL.out.wk.step hbz)
    have hng : ¬ (9223372036854775807 : Int) < (ahead.size : Int) + (x.m.size : Int) := by omega
    have CE2 := Lib.hid (CE.out x (ahead ++ x.m) _ M vI HOX.out (by rw [← HAH.out]; simp) HWZ.out HL.out.many HL.out.size)
    clear hbz
    go_wp2_with fail
    refine CE2.out.mono ?_
    rintro e w4 (⟨M', vJ, hre, rfl, hw4, hl4, hs4, hk4⟩ | ⟨kk, y, hre, hkk, rfl, hk4⟩)
    ·have HRE : Hid (entsE (entLE O k dp) (n.es.drop (j + 1)) M' = entsE (entLE O k dp) n.es M0) := Lib.hid (by rw [← HL.out.ents, HST.out, hre])
     have HL4 : Hid (DirL W0 Bw vO O w1 k dp n.es M0 (j + 1) M' vJ w4) := Lib.hid ⟨HRE.out, hw4, hl4, hs4, HKZ.out.trans hk4⟩
     clear hre hw4 hk4 hl4 hs4 u0 u1 u2 u3
     go_wp2
     go_roundw
     case rel => exact ⟨j + 1, M', vJ, by omega, by go_num, HL4.out⟩
     case measure => simp [intOf]; omega
    ·have HRE : Hid (entsE (entLE O k dp) n.es M0 = .error kk) := Lib.hid (by rw [← HL.out.ents, HST.out, hre])
     have HKK := Lib.hid hkk; have HK4 := Lib.hid (HKZ.out.trans hk4)
     clear hre hkk hk4 u0 u1 u2 u3
     go_wp2
     go_ret
     exact .inr ⟨kk, y, HE.out.trans HRE.out, HKK.out, rfl, (Wk.of_below HB1.out).trans HK4.out⟩
   ·obtain rfl : j = z2 := by omega
    have hdone : entsE (entLE O k dp) n.es M0 = .ok M := by
     rw [← HL.out.ents, List.drop_of_length_le (by have := HZ2.out; omega)]; rfl
    have HD := Lib.hid (HE.out.trans hdone)
    have hbk : decide ((j : Int) < (j : Int)) = false := by simp
    clear hdone
    go_wp2
    go_ret
    exact .inl ⟨M, vI, HD.out, rfl, HL.out.wlk, HL.out.many, HL.out.size, (Wk.of_below HB1.out).trans HL.out.wk⟩
 ·have HB1 := Lib.hid hb1
  have HE := Lib.hid (dirE_bad (k := k) (dp := dp) (out := M0) hbad)
  have HK := Lib.hid hkk
  clear hbad hkk hb1 c0 c1 c2
  have HBA := Lib.hid ((Below.refl w1.heap.size w1).alloc (Nat.le_refl _) (.cells #[.int .i64 0, .string ⟨#[]⟩, .slice none 0 0, .slice none 0 0] 71))
  go_wp2
  go_ret
  exact .inr ⟨kk, s', HE.out, HK.out, rfl, Wk.of_below (below_step HB1.out HBA.out)⟩
theorem fdir_any (W0 : World) (Bw : Nat) (vO : Value) (O : List Ob) (hr : RiseO O) (hl : O.length ≤ 1000000) (hz : ∀ y ∈ O, y.r.size ≤ 1000000) : ∀ k, DirFAt W0 Bw vO O k
 | 0 => fdir_step W0 Bw vO O hr hl hz 0 trivial
 | k + 1 => fdir_step W0 Bw vO O hr hl hz (k + 1) (fdir_any W0 Bw vO O hr hl hz k)
def RetTree (r : Except Int (List It)) (w : World) (e : Ending) (w' : World) : Prop :=
 ∃ v M k, e = .returned (.tuple #[v, .int .i64 k]) ∧ OwnI w.heap.size w' v M ∧ Below w.heap.size w w' ∧ (r = .ok M ∧ k = 0 ∨ r = .error k ∧ M = [] ∧ k ∈ wrongs)
set_option maxRecDepth 100000 in
set_option maxHeartbeats 8000000 in
theorem Tree_any (vO : Value) (O : List Ob) (key : ByteArray) (w : World) (h : IsObs w vO O) (hr : RiseO O) (hl : O.length ≤ 1000000) (hz : ∀ y ∈ O, y.r.size ≤ 1000000) (hT : ErrT w) :
  Calls Tryz.prog 10 #[vO, .string key] w (RetTree (treeE O key.data.toList) w) := by
 obtain ⟨V, hV⟩ : ∃ V, V = w.alloc (.cells #[vO, .slice none 0 0, .int .i64 0] 57) := ⟨_, rfl⟩
 have hbV : Below w.heap.size w V := by rw [hV]; exact (Below.refl _ _).alloc (Nat.le_refl _) _
 have HWV : Hid (Wlk w w.heap.size vO O V [] (sizeT []) (.slice none 0 0)) := Lib.hid
  ⟨by rw [hV]; exact Row.made _ _ _, h, ownI_nil _ _, Nat.le_refl _, hbV, hT⟩
 have CD := Lib.hid (fdir_any w w.heap.size vO O hr hl hz 8 [] ⟨#[]⟩ key V [] (.slice none 0 0) rfl (fun n hn => by cases hn) rfl HWV.out (by decide) (by decide))
 have HB := Lib.hid hbV; have HV := Lib.hid hV
 obtain ⟨_, oa, oc, rfl, _, _⟩ := h
 clear hbV hV hr hl hz hT
 go_enter Tryz.func10, Tryz.ntmps10
 go_wp2_with fail
 rw [← HV.out]
 refine CD.out.mono ?_
 rintro e w4 (⟨M, vJ, hre, rfl, hw4, hl4, hs4, hk4⟩ | ⟨kk, y, hre, hkk, rfl, hk4⟩)
 ·have HRE := Lib.hid (show treeE O key.data.toList = .ok M from hre)
  have HW4 := Lib.hid hw4
  obtain ⟨_, c1, _⟩ := hw4.cells
  clear hre hw4 hk4 hl4 hs4
  go_wp2
  go_ret2
  exact ⟨_, M, 0, rfl, HW4.out.items, HW4.out.below, .inl ⟨HRE.out, rfl⟩⟩
 ·have HRE := Lib.hid (show treeE O key.data.toList = .error kk from hre)
  have HB4 := Lib.hid (hk4.below HB.out HB.out.size (Nat.le_refl _))
  have CN := Lib.hid (fnumber_any y kk hkk w4)
  have HKK := Lib.hid hkk
  clear hre hk4 hkk
  go_wp2_with fail
  with_reducible refine CN.out.mono ?_
  rintro e w5 ⟨rfl, hb5⟩
  have HB5 := Lib.hid (below_step HB4.out hb5)
  clear hb5
  go_wp2
  go_ret2
  exact ⟨_, [], kk, rfl, World.ownsRow_nil _ _ _ _, HB5.out, .inr ⟨HRE.out, rfl, HKK.out⟩⟩
end Go.Proofs.YtjpjpmkadoaipaaGreatDoor
set_option linter.unusedVariables false
namespace Go.Proofs.YtjpjpmkadoaipaaGreatDoor
open Go Go.RowKit Go.Maps
attribute [local go_sem] Oper.semAt_some
def addQ (Q L : List Txt) : List Txt := L.foldl (fun Q k => if k ∈ Q then Q else Q ++ [k]) Q
theorem addQ_snoc (Q L : List Txt) (k : Txt) : addQ Q (L ++ [k]) = if k ∈ addQ Q L then addQ Q L else addQ Q L ++ [k] := by unfold addQ; rw [List.foldl_append]; rfl
theorem addQ_take {Q L : List Txt} {j : Nat} (hj : j < L.length) : addQ Q (L.take (j + 1)) = if L[j] ∈ addQ Q (L.take j) then addQ Q (L.take j) else addQ Q (L.take j) ++ [L[j]] := by
 rw [List.take_succ_eq_append_getElem hj, addQ_snoc]
theorem mem_addQ {t : Txt} : ∀ {L Q : List Txt}, t ∈ addQ Q L ↔ t ∈ Q ∨ t ∈ L
 | [], Q => by simp [addQ]
 | k :: L, Q => by
  show t ∈ addQ (if k ∈ Q then Q else Q ++ [k]) L ↔ _
  rw [mem_addQ (L := L)]
  by_cases h : k ∈ Q
  ·rw [if_pos h]
   simp only [List.mem_cons]
   constructor
   ·rintro (h1 | h1)
    ·exact .inl h1
    ·exact .inr (.inr h1)
   ·rintro (h1 | rfl | h1)
    ·exact .inl h1
    ·exact .inl h
    ·exact .inr h1
  ·rw [if_neg h]
   simp only [List.mem_append, List.mem_cons, List.not_mem_nil, or_false]
   constructor
   ·rintro ((h1 | h1) | h1)
    ·exact .inl h1
    ·exact .inr (.inl h1)
    ·exact .inr (.inr h1)
   ·rintro (h1 | h1 | h1)
    ·exact .inl (.inl h1)
    ·exact .inl (.inr h1)
    ·exact .inr h1
theorem addQ_nodup : ∀ {L Q : List Txt}, Q.Nodup → (addQ Q L).Nodup
 | [], Q, h => h
 | k :: L, Q, h => by
  show (addQ (if k ∈ Q then Q else Q ++ [k]) L).Nodup
  refine addQ_nodup ?_
  by_cases hk : k ∈ Q
  ·rw [if_pos hk]; exact h
  ·rw [if_neg hk, List.nodup_append]
   refine ⟨h, by simp, ?_⟩
   intro a ha b hb e
   simp at hb
   subst hb e
   exact hk ha
theorem addQ_grows : ∀ {L Q : List Txt}, ∃ R, addQ Q L = Q ++ R
 | [], Q => ⟨[], by simp [addQ]⟩
 | k :: L, Q => by
  obtain ⟨R, hR⟩ := addQ_grows (L := L) (Q := if k ∈ Q then Q else Q ++ [k])
  have e : addQ Q (k :: L) = addQ (if k ∈ Q then Q else Q ++ [k]) L := rfl
  rw [e, hR]
  by_cases hk : k ∈ Q
  ·rw [if_pos hk]; exact ⟨R, rfl⟩
  ·rw [if_neg hk]; exact ⟨k :: R, by simp⟩
theorem strK : Keyed Tryz.prog 9 := string_keyed Tryz.underlying9
theorem zeroUnit (w : World) : (zeroValue 106).run Tryz.prog w = .ok (.agg #[]) w := by kernel_rfl
def SetM (w : World) (Bm : Nat) (Q : List Txt) : Prop := ∃ D : DataW Unit, w.ownsMap Tryz.prog 9 unitElem Bm Q.length D ∧ ∀ x : Txt, Maps.has D (.string x) = decide (x ∈ Q)
theorem SetM.block {w : World} {Bm : Nat} {Q : List Txt} (h : SetM w Bm Q) : ∃ es cl, w.heap[Bm]? = some (.map es cl) := by
 obtain ⟨D, ⟨es, cl, hb, _⟩, _⟩ := h
 exact ⟨es, cl, hb⟩
theorem SetM.kept {w w' : World} {Bm : Nat} {Q : List Txt} {r : Option Nat} (h : SetM w Bm Q) (hg : w.grownBy w' r) (hne : some Bm ≠ r) : SetM w' Bm Q := by
 obtain ⟨D, h1, h2⟩ := h
 exact ⟨D, h1.kept hg hne, h2⟩
theorem row_ne_map {w : World} {b Bm : Nat} {xs : Array Value} {T : TypeId} (h : Row w b xs T) {Q : List Txt} (hm : SetM w Bm Q) : b ≠ Bm := fun e => by
 obtain ⟨es, cl, hb⟩ := hm.block
 subst e
 rw [show w.heap[b]? = _ from h] at hb
 cases hb
theorem owns_ne_map {w : World} {C : Nat} {T : TypeId} {k n : Nat} {v : Value} {xs : List Value} (ho : w.ownsRow C T k v n xs) {Bm : Nat} {Q : List Txt} (hm : SetM w Bm Q) : v.ownBlock ≠ some Bm := fun e => by
 obtain ⟨es, cl, hb⟩ := hm.block
 rcases ho.2 with ⟨rfl, _⟩ | ⟨g, cap, cur, rfl, _, hg, _⟩
 ·cases e
 ·cases e
  rw [hg] at hb
  cases hb
structure Que (W0 : World) (Bq Bm : Nat) (w : World) (Q : List Txt) (vQ : Value) : Prop where
 row : Row w Bq #[vQ, .map (some Bm)] 97
 list : OwnTxt W0 w vQ Q
 set : SetM w Bm Q
 fq : W0.heap.size ≤ Bq
 fm : W0.heap.size ≤ Bm
 below : Below W0.heap.size W0 w
structure Qk (B Bq Bm : Nat) (w w' : World) : Prop where
 os : w'.os = w.os
 tape : w'.tape = w.tape
 output : w'.output = w.output
 size : w.heap.size ≤ w'.heap.size
 block : ∀ b, b < w.heap.size → b ≠ Bq → b ≠ Bm → (b < B ∨ ∀ xs, ¬ Row w b xs 9) → w'.heap[b]? = w.heap[b]?
theorem Qk.refl (B Bq Bm : Nat) (w : World) : Qk B Bq Bm w w := ⟨rfl, rfl, rfl, Nat.le_refl _, fun _ _ _ _ _ => rfl⟩
theorem Qk.of_below {B Bq Bm : Nat} {w w' : World} (h : Below w.heap.size w w') : Qk B Bq Bm w w' := ⟨h.os, h.tape, h.output, h.size, fun b hb _ _ _ => h.block b hb⟩
theorem Qk.trans {B Bq Bm : Nat} {a b c : World} (h : Qk B Bq Bm a b) (k : Qk B Bq Bm b c) : Qk B Bq Bm a c :=
 ⟨k.os.trans h.os, k.tape.trans h.tape, k.output.trans h.output, Nat.le_trans h.size k.size, fun i hi hn hm hp => by
  have e := h.block i hi hn hm hp
  refine (k.block i (Nat.lt_of_lt_of_le hi h.size) hn hm ?_).trans e
  rcases hp with hp | hp
  ·exact .inl hp
  ·exact .inr fun xs hr => hp xs (e.symm.trans (show b.heap[i]? = _ from hr))⟩
theorem Qk.step {B Bq Bm : Nat} {a b c : World} (h : Qk B Bq Bm a b) (k : Below b.heap.size b c) : Qk B Bq Bm a c := h.trans (Qk.of_below k)
theorem Qk.row {B Bq Bm b : Nat} {w w' : World} {xs : Array Value} {T : TypeId} (h : Qk B Bq Bm w w') (hr : Row w b xs T) (hT : T ≠ 9) (hn : b ≠ Bq) (hm : b ≠ Bm) : Row w' b xs T :=
 (h.block b hr.lt hn hm (.inr fun ys hy => by have e := (show w.heap[b]? = _ from hr).symm.trans (show w.heap[b]? = _ from hy); cases e; exact hT rfl)).trans hr
theorem Qk.turn {B Bq Bm : Nat} {w w' : World} {r : Option Nat} (hg : w.grownBy w' r) (hr : ∀ g, r = some g → g = Bq ∨ g = Bm ∨ B ≤ g ∧ ∃ xs, Row w g xs 9) : Qk B Bq Bm w w' :=
 ⟨hg.os, hg.tape, hg.output, hg.size, fun b hb hn hm hp => hg.block b hb (fun e => by
  rcases hr b e.symm with h1 | h1 | ⟨h1, xs, h2⟩
  ·exact hn h1
  ·exact hm h1
  ·rcases hp with hp | hp
   ·omega
   ·exact hp xs h2)⟩
theorem Qk.below {B Bq Bm : Nat} {a w w' : World} (h : Qk B Bq Bm w w') (hb : Below B a w) (hs : B ≤ w.heap.size) (hB : B ≤ Bq) (hM : B ≤ Bm) : Below B a w' :=
 hb.trans ⟨h.os, h.tape, h.output, h.size, fun k hk => h.block k (Nat.lt_of_lt_of_le hk hs) (by omega) (by omega) (.inl hk)⟩
theorem Que.stays {W0 : World} {Bq Bm : Nat} {w w' : World} {Q : List Txt} {vQ : Value} (h : Que W0 Bq Bm w Q vQ) (hb : Below w.heap.size w w') : Que W0 Bq Bm w' Q vQ :=
 ⟨h.row.step hb, h.list.stays hb, h.set.kept (grownBy_of_below hb) (by simp), h.fq, h.fm, below_step h.below hb⟩
structure AddL (W0 Wl : World) (Bq Bm : Nat) (w : World) (Q0 L : List Txt) (vl : Value) (j : Nat) (vQ : Value) (wr : World) : Prop where
 que : Que W0 Bq Bm wr (addQ Q0 (L.take j)) vQ
 lst : OwnTxt Wl wr vl L
 ap : ∀ g, vl.ownBlock = some g → vQ.ownBlock ≠ some g
 wk : Qk W0.heap.size Bq Bm w wr
section
variable {W0 Wl : World} {Bq Bm : Nat} {wA w2 w3 : World} {Q L : List Txt} {vQ v' vl : Value} {t : Txt} {D : DataW Unit} {d : DataW Unit}
theorem que_put (hq : Que W0 Bq Bm wA Q vQ) (hg : wA.grownBy w2 (some Bm)) (hl : OwnTxt Wl wA vl L) :
  Row w2 Bq #[vQ, .map (some Bm)] 97 ∧ OwnTxt W0 w2 vQ Q ∧ OwnTxt Wl w2 vl L ∧ Below W0.heap.size W0 w2 ∧ W0.heap.size ≤ w2.heap.size := by
 have hb := hq.below.grown hg hq.below.size (fun g e => by cases e; exact hq.fm)
 refine ⟨(hg.block Bq hq.row.lt (fun e => row_ne_map hq.row hq.set (by cases e; rfl))).trans hq.row, World.ownsRow.kept hq.list hg (.inr (owns_ne_map hq.list hq.set)), World.ownsRow.kept hl hg (.inr (owns_ne_map hl hq.set)), hb, hb.size⟩
theorem own_setQ {C : World} {w : World} {v : Value} {M : List Txt} {xs : Array Value} {i : Nat} (h : OwnTxt C w v M) (hr : Row w Bq xs 97) (u : Value) : OwnTxt C (w.setCell ⟨Bq, i, none⟩ u) v M :=
 (Wf.set (N := w.heap.size) u).owns h (fun g hg => (World.ownsRow.lt h g hg).2) (owns_apart h hr (by decide))
theorem que_more (hq : Que W0 Bq Bm wA Q vQ) (hhas : ∀ x : Txt, Maps.has D (.string x) = decide (x ∈ Q)) (hD : IsMap D) (ho2 : w2.ownsMap Tryz.prog 9 unitElem Bm (Q.length + 1) (D.put (.string t) d)) (hg : wA.grownBy w2 (some Bm)) (hl : OwnTxt Wl wA vl L) (hap : ∀ g, vl.ownBlock = some g → vQ.ownBlock ≠ some g)
  (ho3 : OwnTxt W0 w3 v' (Q ++ [t])) (hg3 : w2.grownBy w3 vQ.ownBlock) (hat : v'.ownBlock = vQ.ownBlock ∨ ∃ g, v'.ownBlock = some g ∧ w2.heap.size ≤ g) :
  Row w3 Bq #[vQ, .map (some Bm)] 97 ∧ Que W0 Bq Bm (w3.setCell ⟨Bq, 0, none⟩ v') (Q ++ [t]) v' ∧ OwnTxt Wl (w3.setCell ⟨Bq, 0, none⟩ v') vl L ∧ (∀ g, vl.ownBlock = some g → v'.ownBlock ≠ some g) ∧ Qk W0.heap.size Bq Bm wA (w3.setCell ⟨Bq, 0, none⟩ v') := by
 obtain ⟨hr2, hq2, hl2, hb2, _⟩ := que_put hq hg hl
 have hne := owns_apart hq2 hr2 (by decide)
 have hr3 : Row w3 Bq #[vQ, .map (some Bm)] 97 := (hg3.block Bq hr2.lt (fun e => hne e.symm)).trans hr2
 have hrow : ∀ g, vQ.ownBlock = some g → W0.heap.size ≤ g ∧ ∃ xs, Row w2 g xs 9 := fun g e => hq2.row e
 have hbm : some Bm ≠ vQ.ownBlock := fun e => owns_ne_map hq.list hq.set e.symm
 have hl3 : OwnTxt Wl w3 vl L := World.ownsRow.kept hl2 hg3 (by
  cases hv : vl.ownBlock with
  | none => exact .inl rfl
  | some g => exact .inr (fun e => hap g hv e.symm))
 have hb3 := hb2.grown hg3 hb2.size (fun g e => (hrow g e).1)
 have hmq : Bm ≠ Bq := fun e => row_ne_map hq.row hq.set e.symm
 refine ⟨hr3, ⟨hr3.set 0 v', own_setQ ho3 hr3 v', ⟨D.put (.string t) d, ?_, fun x => ?_⟩, hq.fq, hq.fm, hb3.setCell (p := ⟨Bq, 0, none⟩) hq.fq _⟩, own_setQ hl3 hr3 v', fun g hvg => ?_, ?_⟩
 ·rw [List.length_append]
  exact (ho2.kept hg3 hbm).setCell (a := ⟨Bq, 0, none⟩) hmq v'
 ·by_cases hx : x = t
  ·subst hx
   rw [has_put_same hD (show WideAt.IsKeyLit (.string x) from trivial), decide_eq_true (by simp)]
  ·rw [has_put_other (fun e => hx (by cases e; rfl)), hhas x]
   exact decide_eq_decide.2 (by simp [hx])
 ·rcases hat with e | ⟨g', e, hlt⟩
  ·rw [e]; exact hap g hvg
  ·rw [e]
   intro e2
   cases e2
   have := (World.ownsRow.lt hl2 g hvg).2
   omega
 ·refine ((Qk.turn hg (fun g e => by cases e; exact .inr (.inl rfl))).trans (Qk.turn hg3 (fun g e => .inr (.inr (hrow g e))))).trans (Qk.turn (grownBy_set w3 Bq 0 v') (fun g e => by cases e; exact .inl rfl))
end
set_option maxRecDepth 100000 in
set_option maxHeartbeats 16000000 in
theorem fadd_any (W0 Wl : World) (Bq Bm : Nat) (Q0 L : List Txt) (vQ vl : Value) (w : World) (h : Que W0 Bq Bm w Q0 vQ) (hl : OwnTxt Wl w vl L) (hap : ∀ g, vl.ownBlock = some g → vQ.ownBlock ≠ some g) (h32 : ∀ t ∈ L, t.length = 32) (hn : ∀ j, (addQ Q0 (L.take j)).length ≤ 1000000) :
  Calls Tryz.prog 32 #[.pointer (some ⟨Bq, 0, none⟩), vl] w fun e w' => e = .returned (.tuple #[]) ∧ ∃ vQ', Que W0 Bq Bm w' (addQ Q0 L) vQ' ∧ Qk W0.heap.size Bq Bm w w' := by
 have HL0 : Hid (AddL W0 Wl Bq Bm w Q0 L vl 0 vQ w) := Lib.hid ⟨h, hl, hap, Qk.refl _ _ _ _⟩
 have H32 := Lib.hid h32; have HN := Lib.hid hn
 obtain ⟨hml, a, cap, hv, _, _⟩ := hl.strs
 rw [strsOf_len] at hv hml
 have hmm0 : L.length ≤ 9223372036854775807 := by unfold maxLen at hml; omega
 obtain ⟨z, hz⟩ : ∃ z, z = L.length := ⟨_, rfl⟩
 rw [← hz] at hv hmm0
 have HZ := Lib.hid hz
 clear h hl hap h32 hn hml hz
 subst hv
 go_enter Tryz.func32, Tryz.ntmps32
 go_wp2_with fail
 go_loopw [10] (fun i wr => ∃ (j : Nat) (vQ : Value), j ≤ z ∧ i = .int .i64 j ∧ AddL W0 Wl Bq Bm w Q0 L (.slice a z cap) j vQ wr) (fun i _ => z - (intOf i).toNat)
 case atStart => exact ⟨0, vQ, Nat.zero_le _, rfl, HL0.out⟩
 case round =>
  obtain ⟨j, vQ, hj, rfl, hL⟩ := hrel
  have HL := Lib.hid hL
  clear hL
  by_cases hlt : j < z
  ·have hjl : j < L.length := by have := HZ.out; omega
   obtain ⟨_, _, _, hev, _, hc⟩ := HL.out.lst.strs
   rw [strsOf_len, ← HZ.out] at hev
   cases hev
   obtain ⟨b, off, rfl, hbl, g⟩ := hc (by rw [strsOf_len]; omega)
   have c0 := g j (by rw [strsOf_len]; exact hjl)
   rw [strsOf_get hjl] at c0
   have HST := Lib.hid (addQ_take (Q := Q0) hjl)
   have hx32 := H32.out _ (List.getElem_mem hjl)
   obtain ⟨t, ht⟩ : ∃ t, t = L[j] := ⟨_, rfl⟩
   rw [← ht] at c0 HST hx32
   obtain ⟨x, hx⟩ : ∃ x : ByteArray, x = ⟨t.toArray⟩ := ⟨_, rfl⟩
   rw [← hx] at c0
   have hxt : x.data.toList = t := by rw [hx]
   have hkey : keyOf Tryz.prog 9 (.string x) = some (.string t) := by
    rw [← hxt]
    exact Go.WideMaps.keyOf_string_mk Tryz.underlying9 (by rw [Lib.size_eq, hxt, hx32]; decide)
   clear ht g hc hx
   have HXT := Lib.hid hxt
   have hbk : decide ((j : Int) < (z : Int)) = true := by simpa using (show (j : Int) < z by omega)
   obtain ⟨D, hown, hhas⟩ := HL.out.que.set
   have hm := hhas t
   have HHAS := Lib.hid hhas
   have hr := HL.out.que.row
   have q0 : wr.cell? ⟨Bq, 0, none⟩ = some vQ := hr.cell 0
   have q1 : wr.cell? ⟨Bq, 1, none⟩ = some (.map (some Bm)) := hr.cell 1
   have hql := hr.lt
   have HBA := Lib.hid ((Below.refl wr.heap.size wr).alloc (Nat.le_refl _) (.cells #[] 106))
   obtain ⟨n, hnn⟩ : ∃ n, n = (addQ Q0 (L.take j)).length := ⟨_, rfl⟩
   have hn1 := HN.out j
   rw [← hnn] at hown hn1
   have HNN := Lib.hid hnn
   clear hhas hr hxt hnn
   by_cases hin : t ∈ addQ Q0 (L.take j)
   ·have hb : Maps.has D (.string t) = true := by rw [hm]; exact decide_eq_true hin
    have HS2 : Hid (addQ Q0 (L.take (j + 1)) = addQ Q0 (L.take j)) := Lib.hid (by rw [HST.out, if_pos hin])
    clear hm hin
    go_wp2_with (at_lookup; refine wpList_lookup_own_unit _ rfl _ _ 95 rfl 9 106 strK Tryz.underlying95 (zeroUnit _) Bm n D rfl hown _ _ rfl hkey ?_)
    go_roundw
    case rel =>
     refine ⟨j + 1, vQ, by omega, by go_num, ⟨?_, HL.out.lst.stays HBA.out, HL.out.ap, HL.out.wk.step HBA.out⟩⟩
     rw [HS2.out]; exact HL.out.que.stays HBA.out
    case measure => simp [intOf]; omega
   ·have hb : Maps.has D (.string t) = false := by rw [hm]; exact decide_eq_false hin
    have HS2 : Hid (addQ Q0 (L.take (j + 1)) = addQ Q0 (L.take j) ++ [t]) := Lib.hid (by rw [HST.out, if_neg hin])
    have HIN := Lib.hid hin
    clear hm hin
    have hD := hown.isMap
    have HQA := Lib.hid (HL.out.que.stays HBA.out); have HLA := Lib.hid (HL.out.lst.stays HBA.out)
    have HOW := Lib.hid (hown.alloc (.cells #[] 106))
    have HDD := Lib.hid hD
    clear hD
    go_wp2_with (first
     | (at_lookup; refine wpList_lookup_own_unit _ rfl _ _ 95 rfl 9 106 strK Tryz.underlying95 (zeroUnit _) Bm n D rfl hown _ _ rfl hkey ?_)
     | (at_mapUpdate; refine wpList_mapUpdate_own _ rfl _ _ _ 95 rfl 9 106 strK Tryz.underlying95 (unitElem (H := Unit)) Bm n D rfl HOW.out (by unfold maxLen; omega) _ _ _ rfl rfl hkey _ [] unitElem_mk ?_))
    intro w2 ho2 hg2
    have HO2 := Lib.hid ho2; have HG2 := Lib.hid hg2
    obtain ⟨hr2, hq2, hl2, hb2, hs2⟩ := que_put HQA.out hg2 HLA.out
    have HQ2 := Lib.hid hq2; have HL2 := Lib.hid hl2; have HS2' := Lib.hid hs2
    have d0 : w2.cell? ⟨Bq, 0, none⟩ = some vQ := hr2.cell 0
    have hql2 := hr2.lt
    obtain ⟨_, qa, qc, hvq, _, _⟩ := hq2.strs
    obtain ⟨m, hmm⟩ : ∃ m, m = (strsOf (addQ Q0 (L.take j))).length := ⟨_, rfl⟩
    rw [← hmm] at hvq
    clear ho2 hg2 hr2 hq2 hl2 hb2 hs2 c0 q0 q1 hown hb hmm hql
    subst hvq
    go_wp2_with (at_builtin; refine wpList_append_txt_at rfl _ _ rfl HQ2.out HS2'.out rfl rfl rfl (by rw [← HNN.out]; exact hn1) ?_)
    intro v' w3 ho3 hg3 hat
    rw [HXT.out] at ho3
    have hq3 := que_more HQA.out HHAS.out HDD.out (by rw [← HNN.out]; exact HO2.out) HG2.out HLA.out HL.out.ap ho3 hg3 hat
    have HQ3 := Lib.hid hq3.2
    have e0 : w3.cell? ⟨Bq, 0, none⟩ = some _ := hq3.1.cell 0
    have f0 := hq3.1.free 0
    obtain ⟨_, ua, uc, hue, _, _⟩ := ho3.strs
    obtain ⟨m2, hm2⟩ : ∃ m2, m2 = (strsOf (addQ Q0 (L.take j) ++ [t])).length := ⟨_, rfl⟩
    rw [← hm2] at hue
    clear ho3 hg3 hat hq3 hm2
    subst hue
    go_wp2
    go_roundw
    case rel =>
     obtain ⟨r1, r2, r3, r4⟩ := HQ3.out
     refine ⟨j + 1, _, by omega, by go_num, ⟨?_, r2, r3, (HL.out.wk.step HBA.out).trans r4⟩⟩
     rw [HS2.out]; exact r1
    case measure => simp [intOf]; omega
  ·obtain rfl : j = z := by omega
   have hbk : decide ((j : Int) < (j : Int)) = false := by simp
   have hall : L.take j = L := List.take_of_length_le (by have := HZ.out; omega)
   have hq := HL.out.que
   rw [hall] at hq
   have HQ := Lib.hid hq
   clear hq hall
   go_wp2
   go_end0
   exact ⟨rfl, vQ, HQ.out, HL.out.wk⟩
end Go.Proofs.YtjpjpmkadoaipaaGreatDoor
set_option linter.unusedVariables false
namespace Go.Proofs.YtjpjpmkadoaipaaGreatDoor
open Go Go.RowKit Go.Maps Go.Sort
attribute [local go_sem] Oper.semAt_some
theorem addQ_len : ∀ {L Q : List Txt}, (addQ Q L).length ≤ Q.length + L.length
 | [], Q => by simp [addQ]
 | k :: L, Q => by
  have h := addQ_len (L := L) (Q := if k ∈ Q then Q else Q ++ [k])
  have e : addQ Q (k :: L) = addQ (if k ∈ Q then Q else Q ++ [k]) L := rfl
  rw [e, List.length_cons]
  by_cases hk : k ∈ Q
  ·rw [if_pos hk] at h ⊢; omega
  ·rw [if_neg hk] at h ⊢
   rw [List.length_append] at h
   simp at h; omega
set_option maxRecDepth 100000 in
set_option maxHeartbeats 4000000 in
theorem newQueue_any (Wl : World) (L : List Txt) (vl : Value) (w : World) (hl : OwnTxt Wl w vl L) (h32 : ∀ t ∈ L, t.length = 32) (hn : L.length ≤ 1000000) :
  Calls Tryz.prog 27 #[vl] w fun e w' => e = .returned (.pointer (some ⟨w.heap.size + 1, 0, none⟩)) ∧ ∃ vQ, Que w (w.heap.size + 1) w.heap.size w' (addQ [] L) vQ := by
 have hmm := @run_makeMap Tryz.prog
 obtain ⟨V, hV⟩ : ∃ V, V = (w.alloc (.map #[] 0)).alloc (.cells #[.slice none 0 0, .map (some w.heap.size)] 97) := ⟨_, rfl⟩
 have hbV : Below w.heap.size w V := by rw [hV]; exact ((Below.refl _ _).alloc (Nat.le_refl _) _).alloc (by simp) _
 have hQ : Que w (w.heap.size + 1) w.heap.size V [] (.slice none 0 0) := by
  refine ⟨?_, ?_, ⟨.map [], ?_, fun x => rfl⟩, Nat.le_succ _, Nat.le_refl _, hbV⟩
  ·rw [hV]
   have := Row.made (w.alloc (.map #[] 0)) #[.slice none 0 0, .map (some w.heap.size)] 97
   simpa using this
  ·exact (ownTxt_nil w).stays hbV
  ·rw [hV]
   exact (World.ownsMap_made w _ _ _).alloc _
 have CA := Lib.hid (fadd_any w Wl (w.heap.size + 1) w.heap.size [] L (.slice none 0 0) vl V hQ (hl.stays hbV) (fun g hg => by simp [Value.ownBlock]) h32 (fun j => by
  have h1 := addQ_len (L := L.take j) (Q := [])
  have h2 := List.length_take_le j L
  simp at h1 h2; omega))
 have HV := Lib.hid hV
 obtain ⟨_, a, cap, hv, _, _⟩ := hl.strs
 obtain ⟨z, hz⟩ : ∃ z, z = (strsOf L).length := ⟨_, rfl⟩
 rw [← hz] at hv
 clear hbV hQ hl h32 hV hz
 subst hv
 go_enter Tryz.func27, Tryz.ntmps27
 go_wp2_with fail
 rw [← HV.out]
 refine CA.out.mono ?_
 rintro e w2 ⟨rfl, vQ, hq, _⟩
 have HQ := Lib.hid hq
 clear hq
 go_wp2
 go_ret
 exact ⟨rfl, vQ, HQ.out⟩
def SeqQ (F : Fence) (n : Nat) (g : Nat) (lb : Array Value) (N : Nat) (Good : List Txt → World → Prop) (w : World) : Prop :=
 ∀ (l : Nat) (J : List Txt → List Txt → World → Prop) (W : World), Below w.heap.size w W →
  (∀ P R X, J P R X → Good (P ++ R) X ∧ (P ++ R).length ≤ N) → (∀ P R X Y, J P R X → Below X.heap.size X Y → J P R Y) →
  (∀ P x R X, J P (x :: R) X → YieldAt F (n - 1) Tryz.prog l #[.string ⟨x.toArray⟩] X fun e Y => e = .returned (.bool true) ∧ ∃ R', J (P ++ [x]) R' Y) →
  ∀ R0, J [] R0 W → CallsIn F n Tryz.prog g (#[.func (.yield l) #[] #[]] ++ lb) W fun e Y => (∃ v, e = .returned v) ∧ ∃ P, J P [] Y
def KeptQ (D L : Nat) (r : Loop) (W : World) : Prop := W.heap[D]? = some (.deferred (some [])) ∧ W.heap[L]? = some (.loop r)
theorem KeptQ.put {D L : Nat} {r r' : Loop} {W : World} (h : KeptQ D L r W) (hne : D ≠ L) : KeptQ D L r' (W.putObj L (.loop r')) :=
 ⟨(World.putObj_heap_other hne).trans h.1, World.putObj_heap_same (Array.getElem?_eq_some_iff.1 h.2).1⟩
def KeepsLD (W Y : World) : Prop := ∀ (k : Nat) (o : Obj), W.heap[k]? = some o → ((∃ l, o = .loop l) ∨ ∃ d, o = .deferred d) → Y.heap[k]? = some o
theorem KeepsLD.of {W Y : World} (h : KeepsOthers W Y) : KeepsLD W Y := fun k o hk ho => h.same k o hk (by rcases ho with ⟨l, rfl⟩ | ⟨d, rfl⟩ <;> rfl)
theorem KeepsLD.trans {A B C : World} (h : KeepsLD A B) (k : KeepsLD B C) : KeepsLD A C := fun i o hi ho => k i o (h i o hi ho) ho
theorem KeepsLD.below {W Y : World} (h : Below W.heap.size W Y) : KeepsLD W Y := fun i o hi _ => (h.block i (Array.getElem?_eq_some_iff.1 hi).1).trans hi
theorem Qk.ld {B Bq Bm : Nat} {W Y : World} (h : Qk B Bq Bm W Y) {xs : Array Value} {T : TypeId} (hq : Row W Bq xs T) {Q : List Txt} (hm : SetM W Bm Q) : KeepsLD W Y := fun k o hk ho => by
 have hnc : ∀ ys t z, o ≠ .cells ys t z := fun ys t z e => by rcases ho with ⟨l, rfl⟩ | ⟨d, rfl⟩ <;> cases e
 refine (h.block k (Array.getElem?_eq_some_iff.1 hk).1 (fun e => ?_) (fun e => ?_) (.inr fun ys hr => ?_)).trans hk
 ·subst e
  have := (show W.heap[k]? = _ from hq).symm.trans hk
  exact hnc _ _ _ (Option.some.inj this).symm
 ·subst e
  obtain ⟨es, cl, hb⟩ := hm.block
  rw [hk] at hb
  cases hb
  rcases ho with ⟨l, e⟩ | ⟨d, e⟩ <;> cases e
 ·have := (show W.heap[k]? = _ from hr).symm.trans hk
  exact hnc _ _ _ (Option.some.inj this).symm
theorem KeptQ.others {D L : Nat} {r : Loop} {W W' : World} (h : KeptQ D L r W) (hk : KeepsLD W W') : KeptQ D L r W' := ⟨hk _ _ h.1 (.inr ⟨_, rfl⟩), hk _ _ h.2 (.inl ⟨_, rfl⟩)⟩
theorem KeptQ.below {D L : Nat} {r : Loop} {W W' : World} (h : KeptQ D L r W) (hb : Below W.heap.size W W') : KeptQ D L r W' :=
 ⟨(hb.block D (Array.getElem?_eq_some_iff.1 h.1).1).trans h.1, (hb.block L (Array.getElem?_eq_some_iff.1 h.2).1).trans h.2⟩
variable {F : Fence} {n : Nat}
theorem wpIn_rangeFunc_que {g : Operand} {ps : Array Tmp} {assign body : Code} {Q : Exit → Act → World → Prop} {a : Act} {w : World}
  (hro : F.round = none) (h1 : 1 ≤ n) {gf : Nat} {lb : Array Value} (hg : a.eval g = .func (.func gf) #[] lb) (hF : F.fn gf) (eg : ∀ args w, (callFunc gf args).run Tryz.prog w = .ok (.enter gf args) w)
  {N : Nat} {Good : List Txt → World → Prop} {w0 : World} (hseq : SeqQ F (n - 1) gf lb N Good w0) (hb0 : Below w0.heap.size w0 w) (hps : ps.size = 1)
  (I : List Txt → List Txt → World → Prop) (hgood : ∀ P R X, I P R X → Good (P ++ R) X ∧ (P ++ R).length ≤ N) (hI : ∀ P R X Y, I P R X → Below X.heap.size X Y → I P R Y)
  (hIo : ∀ P R X l o o', I P R X → w.heap.size ≤ l → X.heap[l]? = some (.loop o) → I P R (X.putObj l (.loop o')))
  (R0 : List Txt) (h0 : I [] R0 w) (a₁ : Txt → Act)
  (hassign : ∀ (l : Nat) (x : Txt) (W : World) (K : Act → World → Prop), K (a₁ x) W →
   assign.wpIn (F.inRound l) (n - 1 - 1) Tryz.prog (Exit.then K (fun _ _ _ => False)) { tmps := (ps.zip #[.string ⟨x.toArray⟩]).foldl (fun t (p, v) => t.setIfInBounds p v) a.tmps, defers := [] } W)
  (hbody : ∀ (l : Nat) (P : List Txt) (x : Txt) (R : List Txt) (W : World), I P (x :: R) W → body.wpIn (F.inRound l) (n - 1 - 1) Tryz.prog (fun e _ Y => e = .normal ∧ KeepsLD W Y ∧ ∃ R', I (P ++ [x]) R' Y) (a₁ x) W)
  (hdone : ∀ (D : Nat) (P : List Txt) (W : World), w.heap.size ≤ D → I P [] W → W.heap[D]? = some (.deferred (some [])) → Q .normal { a with defers := { target := .collected D, args := #[] } :: a.defers } W) :
  (Code.rangeFunc g ps assign body).wpIn F n Tryz.prog Q a w := by
 refine wpIn_rangeFunc fun fn hfn => ?_
 rw [hro]
 let D := w.heap.size
 let L := w.heap.size + 1
 let r0 : Loop := { state := .ready, pending := none, fn, tmps := a.tmps, params := ps, assign, body, defers := D }
 let W1 := (w.alloc (.deferred (some []))).alloc (.loop r0)
 have hDL : D ≠ L := by show w.heap.size ≠ w.heap.size + 1; omega
 have hD0 : w.heap.size ≤ D := Nat.le_refl _
 have hL0 : w.heap.size ≤ L := Nat.le_succ _
 have hb1 : Below w.heap.size w W1 := ((Below.refl _ w).alloc (Nat.le_refl _) _).alloc (by simp) _
 have hk1 : KeptQ D L r0 W1 := by
  refine ⟨(Below.heap_alloc _ _ _ (by show D < _; simp [D])).trans (World.alloc_heap_new w _), ?_⟩
  have := World.alloc_heap_new (w.alloc (.deferred (some []))) (.loop r0)
  rwa [World.size_alloc] at this
 have hI1 : I [] R0 W1 := hI _ _ _ _ h0 hb1
 refine ⟨L, [{ target := .collected D, args := #[] }], W1, { target := .fn (.func gf) lb, args := #[.func (.yield L) #[] #[]] }, W1, gf, #[.func (.yield L) #[] #[]] ++ lb, W1,
  run_enterLoop_outer fn a.tmps ps assign body, ?_, ?_, by simp [invoke, go_sem, eg], fun _ => h1, ?_⟩
 ·simp only [resolve, hg]; simp [go_sem]
 ·intro f' hf'; simp [Target.leads] at hf'; subst hf'; exact hF
 ·refine (hseq L (fun P R W => I P R W ∧ KeptQ D L r0 W) W1 (below_step hb0 hb1) (fun P R X h => hgood P R X h.1) (fun P R X Y h hb => ⟨hI P R X Y h.1 hb, h.2.below hb⟩) ?_ R0 ⟨hI1, hk1⟩).mono ?_
  ·rintro P x R W ⟨hi, hk⟩
   refine ⟨fn, _, assign, body, run_yield hk.2 (by rw [hps]; rfl), roundIn_of_wpIn hfn (hassign L x W _ ⟨_, run_beginRound hk.2 rfl, ?_⟩)⟩
   have hk2 : KeptQ D L { r0 with state := .busy } (W.putObj L (.loop { r0 with state := .busy })) := hk.put hDL
   refine wpIn_mono (hbody L P x R _ (hIo _ _ _ _ _ _ hi hL0 hk.2)) ?_
   rintro e a3 W3 ⟨rfl, hko, R', hi3⟩
   have hk3 := hk2.others hko
   exact ⟨_, _, run_endRound none hk3.2, rfl, R', hIo _ _ _ _ _ _ hi3 hL0 hk3.2, hk3.put hDL⟩
  ·rintro e W2 ⟨⟨v, rfl⟩, P, hi, hk⟩
   refine ⟨none, _, run_endLoop hk.2 (by simp [r0]), ?_⟩
   exact hdone D P _ hD0 (hIo _ _ _ _ _ _ hi hL0 hk.2) ((World.putObj_heap_other hDL).trans hk.1)
abbrev allV (n : Nat) : Value := .func (.func 56) #[] #[.pointer (some ⟨n, 0, none⟩)]
theorem all_any (Bq : Nat) (w : World) : Calls Tryz.prog 29 #[.pointer (some ⟨Bq, 0, none⟩)] w fun e w' => e = .returned (allV w.heap.size) ∧ w.alloc (.cells #[.pointer (some ⟨Bq, 0, none⟩)] 62) = w' := by
 go_enter Tryz.func29, Tryz.ntmps29
 go_wp2
 go_ret
 exact ⟨rfl, rfl⟩
structure QueOk (Bq bq : Nat) (Q : List Txt) (X : World) : Prop where
 list : ∃ vQ, X.cell? ⟨Bq, 0, none⟩ = some vQ ∧ IsStrs X vQ (strsOf Q)
 pt : X.cell? ⟨bq, 0, none⟩ = some (.pointer (some ⟨Bq, 0, none⟩))
set_option maxHeartbeats 8000000 in
set_option maxRecDepth 100000 in
theorem all_seq (n : Nat) (hn : 1 ≤ n) (Bq bq N : Nat) (hN : N ≤ 1000000) (w : World) : SeqQ Fence.wide n 56 #[.pointer (some ⟨bq, 0, none⟩)] N (QueOk Bq bq) w := fun l J W hW hG hB hY R0 h0 => by
 have hro : Fence.wide.round = none := rfl
 refine callsIn_of_wp Tryz.func56 rfl trivial ?_ hro
 simp only [Tryz.ntmps56, List.size_toArray, List.length_cons, List.length_nil, Nat.reduceAdd, Nat.reduceSub, Array.replicate_succ, Array.replicate_zero, List.push_toArray, List.append_toArray, List.nil_append, List.cons_append]
 have HY := Lib.hid hY; have HG := Lib.hid hG; have HB := Lib.hid hB; have H0 := Lib.hid h0
 clear hW hG hB hY h0
 gi_wp2
 gi_loopw [3] (fun i wr => ∃ P R : List Txt, i = .int .i64 P.length ∧ J P R wr) (fun i _ => N + 1 - (intOf i).toNat)
 case atStart => exact ⟨[], R0, rfl, H0.out⟩
 case round =>
  obtain ⟨P, R, rfl, hJ⟩ := hrel
  have HJ := Lib.hid hJ
  obtain ⟨hT, hPN⟩ := HG.out P R wr hJ
  obtain ⟨vQ, c0, hI⟩ := hT.list
  have c1 := hT.pt
  obtain ⟨_, a, cap, hv, _, hc⟩ := hI
  rw [strsOf_len] at hv
  have hlen : (P ++ R).length = P.length + R.length := List.length_append
  obtain ⟨p, hp⟩ : ∃ p, p = P.length := ⟨_, rfl⟩
  obtain ⟨q, hq⟩ : ∃ q, q = (P ++ R).length := ⟨_, rfl⟩
  rw [← hq] at hv hPN hlen
  rw [← hp] at hlen ⊢
  clear hJ hT
  subst hv
  cases R with
  | nil =>
   have hnl : ¬ p < q := by simp at hlen; omega
   have hb : decide (p < q) = false := decide_eq_false hnl
   have HP := Lib.hid hp
   clear hp hq hc hlen
   gi_wp2
   go_end0
   exact ⟨⟨_, rfl⟩, P, HJ.out⟩
  | cons x R =>
   rw [List.length_cons] at hlen
   have hb : decide ((p : Int) < (q : Int)) = true := decide_eq_true (by omega)
   obtain ⟨b, off, rfl, hbl, g⟩ := hc (by rw [strsOf_len, ← hq]; omega)
   have d0 := g p (by rw [strsOf_len, ← hq]; omega)
   rw [strsOf_get (by rw [← hq]; omega)] at d0
   have hx : (P ++ x :: R)[p]'(by rw [← hq]; omega) = x := by simp [hp]
   rw [hx] at d0
   have HP := Lib.hid hp
   have hpq : p < q := by omega
   clear hp hq hc g hx hlen
   obtain ⟨fn, tmps, assign, body, hy, hRd⟩ := HY.out P x R wr HJ.out
   gi_wp2
   refine hRd.mono ?_
   rintro e W3 ⟨rfl, R', hJ3⟩
   have HJ3 := Lib.hid hJ3
   clear hJ3 hy hRd c0 c1 d0
   gi_wp2
   refine ⟨⟨P ++ [x], R', ?_, HJ3.out⟩, ?_⟩
   ·rw [List.length_append, ← HP.out]
    simp
   ·simp [intOf]; omega
abbrev valsV (n : Nat) : Value := .func (.func 86) #[] #[.pointer (some ⟨n, 0, none⟩)]
theorem Values_any (a : Option Addr) (z cap : Nat) (w : World) : Calls Tryz.prog 62 #[.slice a z cap] w fun e w' => e = .returned (valsV w.heap.size) ∧ w.alloc (.cells #[.slice a z cap] 33) = w' := by
 go_enter Tryz.func62, Tryz.ntmps62
 go_wp2
 go_ret
 exact ⟨rfl, rfl⟩
def ValOk (bv : Nat) (a : Option Addr) (cap : Nat) (L : List Txt) (Q : List Txt) (X : World) : Prop := Q = L ∧ X.cell? ⟨bv, 0, none⟩ = some (.slice a L.length cap) ∧ IsStrs X (.slice a L.length cap) (strsOf L)
set_option maxHeartbeats 8000000 in
set_option maxRecDepth 100000 in
theorem vals_seq (n : Nat) (hn : 1 ≤ n) (bv : Nat) (a : Option Addr) (cap : Nat) (L : List Txt) (hN : L.length ≤ 1000000) (w : World) :
  SeqQ Fence.wide n 86 #[.pointer (some ⟨bv, 0, none⟩)] L.length (ValOk bv a cap L) w := fun l J W hW hG hB hY R0 h0 => by
 have hro : Fence.wide.round = none := rfl
 refine callsIn_of_wp Tryz.func86 rfl trivial ?_ hro
 simp only [Tryz.ntmps86, List.size_toArray, List.length_cons, List.length_nil, Nat.reduceAdd, Nat.reduceSub, Array.replicate_succ, Array.replicate_zero, List.push_toArray, List.append_toArray, List.nil_append, List.cons_append]
 have HY := Lib.hid hY; have HG := Lib.hid hG; have H0 := Lib.hid h0
 obtain ⟨⟨hR0, k0, _⟩, _⟩ := hG [] R0 W h0
 obtain ⟨q, hq⟩ : ∃ q, q = L.length := ⟨_, rfl⟩
 rw [← hq] at k0 hN
 have HQ := Lib.hid hq
 clear hW hG hB hY h0 hq hR0
 gi_wp2
 gi_loopw [7] (fun i wr => ∃ P R : List Txt, i = .int .i64 P.length ∧ J P R wr) (fun i _ => q + 1 - (intOf i).toNat)
 case atStart => exact ⟨[], R0, rfl, H0.out⟩
 case round =>
  obtain ⟨P, R, rfl, hJ⟩ := hrel
  have HJ := Lib.hid hJ
  obtain ⟨⟨hPR, _, hI⟩, _⟩ := HG.out P R wr hJ
  obtain ⟨_, _, _, hv, _, hc⟩ := hI
  have hlen : L.length = P.length + R.length := by rw [← hPR]; exact List.length_append
  obtain ⟨p, hp⟩ : ∃ p, p = P.length := ⟨_, rfl⟩
  rw [← HQ.out, ← hp] at hlen
  rw [← hp]
  clear hJ k0
  cases R with
  | nil =>
   have hnl : ¬ p < q := by simp at hlen; omega
   have hb : decide (p < q) = false := decide_eq_false hnl
   clear hp hc hlen hv hPR
   gi_wp2
   go_end0
   exact ⟨⟨_, rfl⟩, P, HJ.out⟩
  | cons x R =>
   rw [List.length_cons] at hlen
   rw [strsOf_len] at hv
   cases hv
   obtain ⟨b, off, rfl, hbl, g⟩ := hc (by rw [strsOf_len, ← HQ.out]; omega)
   have d0 := g p (by rw [strsOf_len, ← HQ.out]; omega)
   rw [strsOf_get (by rw [← HQ.out]; omega)] at d0
   have hx : L[p]'(by rw [← HQ.out]; omega) = x := by
    have : (P ++ x :: R)[p]'(by rw [hPR, ← HQ.out]; omega) = x := by simp [hp]
    rw [← this]; congr 1; exact hPR.symm
   rw [hx] at d0
   have HP := Lib.hid hp
   have hpq : p < q := by omega
   clear hp hc g hx hlen hPR
   obtain ⟨fn, tmps, assign, body, hy, hRd⟩ := HY.out P x R wr HJ.out
   gi_wp2
   refine hRd.mono ?_
   rintro e W3 ⟨rfl, R', hJ3⟩
   have HJ3 := Lib.hid hJ3
   clear hJ3 hy hRd d0
   gi_wp2
   refine ⟨⟨P ++ [x], R', ?_, HJ3.out⟩, ?_⟩
   ·rw [List.length_append, ← HP.out]
    simp
   ·simp [intOf]; omega
def ApI (w : World) (L : List Txt) (P R : List Txt) (X : World) : Prop := P ++ R = L ∧ Below w.heap.size w X ∧ ∃ v, Row X w.heap.size #[v] 33 ∧ OwnTxt w X v P
theorem ApI.put {w : World} {L P R : List Txt} {X : World} {l : Nat} {o o' : Loop} (h : ApI w L P R X) (hl : w.heap.size ≤ l) (ho : X.heap[l]? = some (.loop o)) : ApI w L P R (X.putObj l (.loop o')) := by
 obtain ⟨h1, h2, v, h3, h4⟩ := h
 have hg := grownBy_putObj' X l (.loop o')
 refine ⟨h1, h2.grown hg h2.size (fun g e => by cases e; exact hl), v, ?_, World.ownsRow.kept h4 hg ?_⟩
 ·refine (World.putObj_heap_other (fun e => ?_)).trans h3
  rw [show Row X w.heap.size _ _ = (X.heap[w.heap.size]? = some _) from rfl, e, ho] at h3
  cases h3
 ·rcases h4.2 with ⟨rfl, _⟩ | ⟨g, cap, cur, rfl, _, h5, _⟩
  ·exact .inl rfl
  ·refine .inr fun e => ?_
   cases e
   rw [ho] at h5; cases h5
set_option maxRecDepth 100000 in
set_option maxHeartbeats 8000000 in
theorem AppendSeq_any (bv : Nat) (a : Option Addr) (cap : Nat) (L : List Txt) (hN : L.length ≤ 900000) (w : World) (hc : w.cell? ⟨bv, 0, none⟩ = some (.slice a L.length cap)) (hs : IsStrs w (.slice a L.length cap) (strsOf L)) :
  Calls Tryz.prog 125 #[.slice none 0 0, valsV bv] w (RetOwn w L) := by
 refine (callsIn_wide (n := 5)).1 ?_
 have hro : Fence.wide.round = none := rfl
 obtain ⟨i0, hi, hz0, hz1, hz2⟩ := info_parts infoStr
 have hb1 : Below w.heap.size w (w.alloc (.cells #[.slice none 0 0] 33)) := (Below.refl _ _).alloc (Nat.le_refl _) _
 have hbv : bv < w.heap.size := block_lt_of_cell hc
 have HI0 : Hid (ApI w L [] L (w.alloc (.cells #[.slice none 0 0] 33))) := Lib.hid ⟨rfl, hb1, _, Row.made _ _ _, World.ownsRow_nil _ _ _ _⟩
 have HC := Lib.hid hc; have HS := Lib.hid hs
 have HG : Hid (∀ P R X, ApI w L P R X → ValOk bv a cap L (P ++ R) X ∧ (P ++ R).length ≤ L.length) := Lib.hid (fun P R X h => by
  obtain ⟨h1, h2, _⟩ := h
  exact ⟨⟨h1, (h2.cell (p := ⟨bv, 0, none⟩) hbv).trans hc, hs.stays h2⟩, by rw [h1]; exact Nat.le_refl _⟩)
 clear hc hs hb1
 refine callsIn_of_wp_marks Tryz.func125 rfl trivial ?_ hro
 simp only [Tryz.ntmps125, List.size_toArray, List.length_cons, List.length_nil, Nat.reduceAdd, Nat.reduceSub, Array.replicate_succ, Array.replicate_zero, List.push_toArray, List.append_toArray, List.nil_append, List.cons_append]
 gi_wp2_with fail
 refine wpIn_rangeFunc_que hro (by decide) (gf := 86) (lb := #[.pointer (some ⟨bv, 0, none⟩)]) (by simp [Act.eval]) trivial (enters_of Tryz.func86 (by kernel_rfl) rfl)
  (vals_seq 4 (by decide) bv a cap L (by omega) _) (Below.refl _ _) rfl
  (ApI w L) HG.out (fun P R X Y h hb => by
   obtain ⟨h1, h2, v, h3, h4⟩ := h
   exact ⟨h1, below_step h2 hb, v, h3.step hb, h4.stays hb⟩)
  (fun P R X l o o' h hl ho => h.put (by simp at hl; omega) ho) L HI0.out
  (fun x => { tmps := #[.slice none 0 0, valsV bv, .pointer (some ⟨w.heap.size, 0, none⟩), undef, .slice none 0 0, .string ⟨x.toArray⟩, valsV bv, .string ⟨x.toArray⟩, undef, undef, undef, undef, undef], defers := [] })
  ?assign ?body ?done
 case assign =>
  intro l x W K hK
  gi_wp2
  exact hK
 case body =>
  intro l P x R W hI
  obtain ⟨h1, h2, v, h3, h4⟩ := hI
  have HPR := Lib.hid h1
  have hlen : P.length ≤ 900000 := by have := congrArg List.length h1; rw [List.length_append] at this; omega
  have c0 : W.cell? ⟨w.heap.size, 0, none⟩ = some v := h3.cell 0
  have hqw := h3.lt
  have HW2 := Lib.hid h2; have H3 := Lib.hid h3
  obtain ⟨_, va, vc, hve, _, _⟩ := h4.strs
  have hown : W.ownsRow w.heap.size 9 1 v (strsOf P).length (strCells (strsOf P)) := h4
  have hsl : (strsOf P).length ≤ 900000 := by rw [strsOf_len]; exact hlen
  obtain ⟨m, hm⟩ : ∃ m, m = (strsOf P).length := ⟨_, rfl⟩
  rw [← hm] at hown hsl hve
  have HM := Lib.hid hm
  have hsw := h2.size
  clear h1 h2 h3 h4 hm hlen
  subst hve
  have HO := Lib.hid hown
  clear hown
  gi_wp2_with (gi_at_builtin; refine wpListIn_append_own _ rfl _ _ 33 rfl w.heap.size 9 i0 (.string ⟨#[]⟩) 1 16 Tryz.underlying33 hi hz0 hz1 hz2 rfl (by decide) _ _ _ rfl (World.ownsRow.alloc HO.out _) ⟨W.heap.size, 0, none⟩ 1 1 [.string ⟨x.toArray⟩] rfl rfl cell_one ?c2 ?c3 ?c4 ?c5 ?_)
  case c2 => exact fun u hu => by simp at hu; subst hu; rfl
  case c3 => unfold maxLen; omega
  case c4 => omega
  case c5 => simp; omega
  intro v' w2 hown' hgrow _
  have hne : (Value.slice va m vc).ownBlock ≠ some w.heap.size := owns_apart HO.out H3.out (by decide)
  have hg' := grown_after (grownBy_alloc W (.cells #[.string ⟨x.toArray⟩] 9)) hgrow
  have h32 : Row w2 w.heap.size #[.slice va m vc] 33 := (hg'.block w.heap.size H3.out.lt (fun e => hne e.symm)).trans H3.out
  have hk : KeepsOthers W w2 := (KeepsOthers.alloc _ _).trans (KeepsOthers.of_grownBy hgrow (fun j o hj ho => by
   rcases (World.ownsRow.alloc HO.out (.cells #[.string ⟨x.toArray⟩] 9)).2 with ⟨h, _⟩ | ⟨g', cap', cur, h, _, hgg, _⟩
   ·cases h; cases hj
   ·cases h; cases hj
    rw [hgg] at ho; cases ho; rfl))
  have hb2 : Below w.heap.size w w2 := HW2.out.grown hg' hsw (fun j hj => (World.ownsRow.lt HO.out j hj).1)
  have e0 : w2.cell? ⟨w.heap.size, 0, none⟩ = some (.slice va m vc) := h32.cell 0
  have f0 := h32.free 0
  have hot : OwnTxt w w2 v' (P ++ [x]) := by
   unfold OwnTxt
   rw [strsOf_snoc, List.length_append, strCells_app, ← HM.out]
   exact hown'
  obtain ⟨_, ua, uc, hue, _, _⟩ := hot.strs
  have H32 := Lib.hid h32; have HK := Lib.hid hk; have HB2 := Lib.hid hb2; have HOT := Lib.hid hot
  obtain ⟨m2, hm2⟩ : ∃ m2, m2 = (strsOf (P ++ [x])).length := ⟨_, rfl⟩
  rw [← hm2] at hue
  clear hown' hgrow hne hg' h32 hk hb2 hot hm2 c0
  subst hue
  gi_wp2
  exact ⟨KeepsLD.of (HK.out.trans (KeepsOthers.setCell _ _ _)), R, by rw [← HPR.out]; simp, HB2.out.setCell (p := ⟨w.heap.size, 0, none⟩) (Nat.le_refl _) _, _, H32.out.set 0 _, (Wf.set (N := w2.heap.size) (Bw := w.heap.size) _).owns HOT.out (fun g hg => (World.ownsRow.lt HOT.out g hg).2) (owns_apart HOT.out H32.out (by decide))⟩
 case done =>
  intro D P W hD hI hdef
  obtain ⟨h1, h2, v, h3, h4⟩ := hI
  rw [List.append_nil] at h1
  subst h1
  have c0 : W.cell? ⟨w.heap.size, 0, none⟩ = some v := h3.cell 0
  have hqw := h3.lt
  have HB := Lib.hid h2; have HO := Lib.hid h4; have HDF := Lib.hid hdef
  have hDw : w.heap.size ≤ D := by simp at hD; omega
  clear h2 h3 h4 hdef
  gi_wp2
  refine ⟨by simp, .inl ⟨_, _, rfl, run_takeDeferred HDF.out, ?_⟩⟩
  refine ⟨_, results_tmp rfl _ _ _, v, rfl, World.ownsRow.kept HO.out (grownBy_putObj' W D (.deferred none)) ?_, HB.out.grown (grownBy_putObj' W D (.deferred none)) HB.out.size (fun g e => by cases e; exact hDw)⟩
  rcases HO.out.2 with ⟨rfl, _⟩ | ⟨g, cap, cur, rfl, _, h5, _⟩
  ·exact .inl rfl
  ·refine .inr fun e => ?_
   have := HDF.out
   cases e
   rw [h5] at this; cases this
theorem Collect_any (bv : Nat) (a : Option Addr) (cap : Nat) (L : List Txt) (hN : L.length ≤ 900000) (w : World) (hc : w.cell? ⟨bv, 0, none⟩ = some (.slice a L.length cap)) (hs : IsStrs w (.slice a L.length cap) (strsOf L)) :
  Calls Tryz.prog 85 #[valsV bv] w (RetOwn w L) := by
 have C := Lib.hid (AppendSeq_any bv a cap L hN w hc hs)
 clear hc hs
 go_enter Tryz.func85, Tryz.ntmps85
 go_wp2_with fail
 refine C.out.mono ?_
 rintro e w1 ⟨v, rfl, ho, hb⟩
 have HO := Lib.hid ho; have HB := Lib.hid hb
 clear ho hb
 go_wp2
 go_ret
 exact ⟨v, rfl, HO.out, HB.out⟩
theorem Sorted_any (bv : Nat) (a : Option Addr) (cap : Nat) (L : List Txt) (hN : L.length ≤ 900000) (w : World) (hc : w.cell? ⟨bv, 0, none⟩ = some (.slice a L.length cap)) (hs : IsStrs w (.slice a L.length cap) (strsOf L)) :
  Calls Tryz.prog 61 #[valsV bv] w (RetOwn w (L.mergeSort fun x y => decide (x ≤ y))) := by
 have C := Lib.hid (Collect_any bv a cap L hN w hc hs)
 have hN1 : L.length ≤ 1000000 := by omega
 clear hc hs
 go_enter Tryz.func61, Tryz.ntmps61
 go_wp2_with fail
 refine C.out.mono ?_
 rintro e w1 ⟨v, rfl, ho, hb⟩
 have CS := Lib.hid (Sort_own w w1 v L ho hb hN1)
 clear ho hb
 go_wp2_with fail
 refine CS.out.mono ?_
 rintro e w2 ⟨rfl, ho, hb⟩
 have HO := Lib.hid ho; have HB := Lib.hid hb
 clear ho hb
 go_wp2
 go_ret
 exact ⟨v, rfl, HO.out, HB.out⟩
theorem set_any (W0 : World) (Bq Bm : Nat) (Q : List Txt) (vQ : Value) (w : World) (h : Que W0 Bq Bm w Q vQ) (hN : Q.length ≤ 900000) :
  Calls Tryz.prog 34 #[.pointer (some ⟨Bq, 0, none⟩)] w (RetOwn w (Q.mergeSort fun x y => decide (x ≤ y))) := by
 have c0 : w.cell? ⟨Bq, 0, none⟩ = some vQ := h.row.cell 0
 have hI := h.list.strs
 obtain ⟨_, a, cap, rfl, _, _⟩ := id hI
 rw [strsOf_len] at hI c0
 have hb : Below w.heap.size w (w.alloc (.cells #[.slice a Q.length cap] 33)) := (Below.refl _ _).alloc (Nat.le_refl _) _
 have CV := Lib.hid (Values_any a Q.length cap w)
 have CS := Lib.hid (Sorted_any w.heap.size a cap Q hN (w.alloc (.cells #[.slice a Q.length cap] 33)) ((Row.made w #[.slice a Q.length cap] 33).cell 0) (hI.stays hb))
 have HB := Lib.hid hb
 obtain ⟨m, hm⟩ : ∃ m, m = Q.length := ⟨_, rfl⟩
 rw [← hm] at c0 CV CS HB
 clear h hI hb hm
 go_enter Tryz.func34, Tryz.ntmps34
 go_wp2_with fail
 with_reducible refine CV.out.mono ?_
 rintro e w1 ⟨rfl, rfl⟩
 go_wp2_with fail
 refine CS.out.mono ?_
 rintro e w2 ⟨v, rfl, ho, hb2⟩
 have HO := Lib.hid (ho.low_Ned HB.out.size); have HB2 := Lib.hid (below_step HB.out hb2)
 clear ho hb2
 go_wp2
 go_ret
 exact ⟨v, rfl, HO.out, HB2.out⟩
end Go.Proofs.YtjpjpmkadoaipaaGreatDoor
set_option linter.unusedVariables false
namespace Go.Proofs.YtjpjpmkadoaipaaGreatDoor
open Go Go.RowKit
variable {P : Program} {ops : Array Oper} {Q : Exit → Act → World → Prop}
theorem rowsIn_wide {l n : Nat} {row : String} {args : Array Value} {w : World} {R : Value → World → Prop} (h : Rows P row args w R) : RowsIn (Fence.wide.inRound l) n P row args w R :=
 fun c cs _ => let ⟨v, w', r, s⟩ := h c cs; ⟨v, w', r, stepsIn_wide.2 s⟩
theorem uponIn_round {l n : Nat} {o : Oper} {a : Act} {next : Act → World → Prop} {r : Result Next} (h : o.upon P a next Q r) : o.uponIn (Fence.wide.inRound l) n P a next Q r := by
 cases r with
 | ok x w' =>
  cases x <;> simp only [Oper.upon, Oper.uponIn] at h ⊢ <;>
   first
    | exact h
    | exact ⟨fun h => (by cases h), CallsIn.inRound l (callsIn_wide.2 h)⟩
    | exact ⟨fun h => (by cases h), rowsIn_wide h⟩
 | halt x w' => cases x <;> simp only [Oper.upon, Oper.uponIn] at h ⊢ <;> exact h
theorem wpIn_round {l n : Nat} {o : Oper} {a : Act} {w : World} {next : Act → World → Prop} (hd : ∀ c, o.op ≠ .defer c) (h : o.wp P a w next Q) : o.wpIn (Fence.wide.inRound l) n P a w next Q := by
 refine ⟨fun _ _ => trivial, ?_⟩
 rw [Fence.inRound_round, Oper.semAt_some _ _ _ hd]
 exact uponIn_round h
def noDefer (ops : Array Oper) : Bool := ops.all fun o => match o.op with
 | .defer _ => false
 | _ => true
theorem noDefer_at (h : noDefer ops = true) {i : Nat} {o : Oper} (hi : ops[i]? = some o) : ∀ c, o.op ≠ .defer c := fun c e => by
 obtain ⟨hlt, rfl⟩ := Array.getElem?_eq_some_iff.1 hi
 have := Array.all_eq_true.1 h i hlt
 rw [e] at this; cases this
theorem wpOpIn_round {l n i : Nat} {K : Act → World → Prop} {a : Act} {w : World} (hd : noDefer ops = true) (hQ : ¬ LetsOut Q) (h : wpOp P ops Q i K a w) : wpOpIn (Fence.wide.inRound l) n P ops Q i K a w := by
 unfold wpOp at h; unfold wpOpIn
 cases ho : ops[i]? with
 | none => rw [ho] at h; exact h
 | some o =>
  rw [ho] at h
  simp only at h ⊢
  by_cases hw : Region.wanted o (yielded ops a.tmps) = true
  ·simp only [hw, if_true] at h ⊢
   rcases h with h | h
   ·exact wpIn_round (noDefer_at hd ho) h
   ·exact absurd h.2 hQ
  ·simp only [hw] at h ⊢
   exact ⟨fun _ _ => trivial, h⟩
theorem wpAnyIn_round {l n : Nat} {md : Region.Mode} (hd : noDefer ops = true) (hQ : ¬ LetsOut Q) : ∀ (fuel : Nat) (listed : Array Bool) (a : Act) (w : World), wpAny P md ops Q fuel listed a w → wpAnyIn (Fence.wide.inRound l) n P md ops Q fuel listed a w
 | 0, _, _, _, h => h
 | fuel + 1, listed, a, w, h => ⟨h.1, fun i hi => wpOpIn_mono (fun a w h => wpAnyIn_round hd hQ fuel _ a w h) (wpOpIn_round hd hQ (h.2 i hi))⟩
theorem wpIn_region_round {l n id : Nat} {a : Act} {w : World} (hm : P.follows .mixedOrders = true) (hd : noDefer ops = true) (hQ : ¬ LetsOut Q)
  (h : wpAny P .any ops Q ops.size (Array.replicate ops.size false) a { w with drawn := w.drawn + 1 }) : (Code.region id ops true).wpIn (Fence.wide.inRound l) n P Q a w :=
 wpIn_region_any hm (wpAnyIn_round hd hQ _ _ _ _ h)
end Go.Proofs.YtjpjpmkadoaipaaGreatDoor
set_option linter.unusedVariables false
namespace Go.Proofs.YtjpjpmkadoaipaaGreatDoor
open Go Go.RowKit Go.Maps Go.Sort
attribute [local go_sem] Oper.semAt_some
theorem Qk.on {B Bq Bm : Nat} {a b c : World} (h : Qk B Bq Bm a b) (k : Below b.heap.size b c) : Qk B Bq Bm a c := h.step k
def rchR (W1 : World) (i : Nat) (w w' : World) : Prop := Qk W1.heap.size (W1.heap.size + 1) W1.heap.size w w'
theorem calls_own {f : FuncId} {args : Array Value} {wz w : World} {M : List Txt} (hs : wz.heap.size ≤ w.heap.size) (h : Calls Tryz.prog f args w (RetOwn w M)) : Calls Tryz.prog f args w fun e w' => ∃ u, e = .returned u ∧ (OwnTxt wz w' u M ∧ Below w.heap.size w w') :=
 h.mono fun e w' ⟨v, h1, h2, h3⟩ => ⟨v, h1, h2.low_Ned hs, h3⟩
theorem calls_add {f : FuncId} {args : Array Value} {w : World} {A : World → Value → Prop} {K : World → Prop} (h : Calls Tryz.prog f args w fun e w' => e = .returned (.tuple #[]) ∧ ∃ v, A w' v ∧ K w') : Calls Tryz.prog f args w fun e w' => ∃ u, e = .returned u ∧ ((∃ v, A w' v) ∧ K w') :=
 h.mono fun e w' ⟨h1, v, h2, h3⟩ => ⟨_, h1, ⟨v, h2⟩, h3⟩
theorem sort_rises {Q : List Txt} (h : Q.Nodup) : Rises (Q.mergeSort fun x y => decide (x ≤ y)) := by
 have h1 := List.pairwise_mergeSort (le := fun x y : Txt => decide (x ≤ y)) t_le_trans t_le_total Q
 have h2 : (Q.mergeSort fun x y => decide (x ≤ y)).Nodup := (List.mergeSort_perm _ _).nodup_iff.2 h
 exact (h1.and h2).imp fun ⟨a, b⟩ => t_lt_of_le_ne (of_decide_eq_true a) b
theorem is_yes (s : ByteArray) (k : Int) (w : World) : Calls Tryz.prog 31 #[faultV s k, errK k] w fun e w' => e = .returned (.bool true) ∧ Below w.heap.size w w' := by
 have := is_fault s k k w
 rwa [beq_self_eq_true] at this
theorem is_no (s : ByteArray) {a b : Int} (h : a ≠ b) (w : World) : Calls Tryz.prog 31 #[faultV s a, errK b] w fun e w' => e = .returned (.bool false) ∧ Below w.heap.size w w' := by
 have := is_fault s a b w
 rwa [beq_eq_false_iff_ne.2 h] at this
theorem rises_nodup {l : List Txt} (h : Rises l) : l.Nodup := List.Pairwise.imp (fun {a b} (h : a < b) (e : a = b) => t_irrefl b (by rw [e] at h; exact h)) h
theorem RetLd.of_ok {n : Nd} {w w' : World} {e : Ending} (h : RetLd (.ok n) w e w') : ∃ pv ev, e = .returned (.tuple #[ndV n pv ev, .nilIface]) ∧ OwnP w.heap.size w' pv n.ps ∧ OwnE w.heap.size w' ev n.es ∧ Below w.heap.size w w' := by
 rcases h with ⟨m, pv, ev, h1, h2, h3, h4, h5⟩ | ⟨k, s, h1, _⟩
 ·cases h1; exact ⟨pv, ev, h2, h3, h4, h5⟩
 ·cases h1
theorem RetLd.of_err {k : Int} {w w' : World} {e : Ending} (h : RetLd (.error k) w e w') : ∃ s, e = .returned (.tuple #[zeroNV, faultV s k]) ∧ Below w.heap.size w w' := by
 rcases h with ⟨m, pv, ev, h1, _⟩ | ⟨k', s, h1, h2, h3, h4⟩
 ·cases h1
 ·cases h1; exact ⟨s, h3, h4⟩
theorem readE_node {O : List Ob} {t : Txt} {n : Nd} : readE O t = .ok n ↔ nodeO O t = some n := by
 unfold readE nodeO
 cases h : getO O t with
 | none => simp
 | some y =>
  cases h2 : readN y.u with
  | none => simp [h2]
  | some m => simp [h2]
theorem readE_err {O : List Ob} {t : Txt} {k : Int} (h : readE O t = .error k) : nodeO O t = none ∧ (k = 5 ∨ k = 2) := by
 unfold readE at h
 unfold nodeO
 cases h1 : getO O t with
 | none => rw [h1] at h; simp at h; exact ⟨rfl, .inl h.symm⟩
 | some y =>
  rw [h1] at h
  cases h2 : readN y.u with
  | none => simp [h2] at h; exact ⟨h2, .inr h.symm⟩
  | some m => simp [h2] at h
theorem kidsO_of {O : List Ob} {t : Txt} {n : Nd} (h : nodeO O t = some n) : kidsO O t = kidsN n := by unfold kidsO; rw [h]
theorem kidsO_none {O : List Ob} {t : Txt} (h : nodeO O t = none) : kidsO O t = [] := by unfold kidsO; rw [h]
theorem fit_few {n : Nd} (h : fitN n = true) : n.ps.length + n.es.length ≤ 100000 := by
 rcases fit_kinds h with hk | hk | hk
 ·rw [fit_piece hk] at h; simp at h; rw [h.1.2, h.2]; simp
 ·rw [fit_file hk] at h; simp at h; rw [h.1.1.2]; have := h.1.2; simp; omega
 ·rw [fit_dir hk] at h; simp at h; rw [h.1.1.2]; have := h.1.2; simp; omega
def RetReach (O : List Ob) (F : List Txt) (w : World) (e : Ending) (w' : World) : Prop :=
 ∃ v M c, e = .returned (.tuple #[v, .bool c]) ∧ OwnTxt w w' v M ∧ Rises M ∧ (∀ t, t ∈ M ↔ ReachO O F t) ∧ (c = true ↔ WholeO O F) ∧ Below w.heap.size w w'
structure ReachI (w W1 : World) (b : Nat) (vO : Value) (O : List Ob) (F P Q : List Txt) (X : World) : Prop where
 que : ∃ vQ, Que W1 (W1.heap.size + 1) W1.heap.size X Q vQ
 nodup : Q.Nodup
 sub : ∀ t ∈ Q, ReachO O F t
 start : ∀ t ∈ F, t.length = 32 → t ∈ Q
 kids : ∀ t ∈ P, ∀ u ∈ kidsO O t, u ∈ Q
 objs : Row X w.heap.size #[vO] 27
 pq : Row X b #[.pointer (some ⟨W1.heap.size + 1, 0, none⟩)] 62
 wh : ∃ c, Row X (b + 1) #[.bool c] 4 ∧ (c = true ↔ ∀ t ∈ P, (nodeO O t).isSome = true)
 pt : Row X (b + 2) #[.pointer (some ⟨W1.heap.size + 1, 0, none⟩)] 62
 below : Below w.heap.size w X
 fr : w.heap.size < W1.heap.size ∧ W1.heap.size + 1 < b
section
variable {w W1 X Y : World} {b : Nat} {vO : Value} {O : List Ob} {F P Q : List Txt}
theorem ReachI.stays (h : ReachI w W1 b vO O F P Q X) (hb : Below X.heap.size X Y) : ReachI w W1 b vO O F P Q Y := by
 obtain ⟨⟨vQ, h1⟩, h2, h3, h4, h5, h6, h7, ⟨c, h8, h8'⟩, h9, h10, h11⟩ := h
 exact ⟨⟨vQ, h1.stays hb⟩, h2, h3, h4, h5, h6.step hb, h7.step hb, ⟨c, h8.step hb, h8'⟩, h9.step hb, below_step h10 hb, h11⟩
theorem row_put {X : World} {k l : Nat} {xs : Array Value} {T : TypeId} {o o' : Loop} (h : Row X k xs T) (ho : X.heap[l]? = some (.loop o)) : Row (X.putObj l (.loop o')) k xs T :=
 (World.putObj_heap_other (fun e => by
  rw [show Row X k _ _ = (X.heap[k]? = some _) from rfl, e, ho] at h
  cases h)).trans h
theorem ReachI.put {l : Nat} {o o' : Loop} (h : ReachI w W1 b vO O F P Q X) (hl : W1.heap.size ≤ l) (ho : X.heap[l]? = some (.loop o)) : ReachI w W1 b vO O F P Q (X.putObj l (.loop o')) := by
 obtain ⟨⟨vQ, h1⟩, h2, h3, h4, h5, h6, h7, ⟨c, h8, h8'⟩, h9, h10, h11⟩ := h
 have hg := grownBy_putObj' X l (.loop o')
 refine ⟨⟨vQ, row_put h1.row ho, World.ownsRow.kept h1.list hg ?_, h1.set.kept hg (fun e => ?_), h1.fq, h1.fm, h1.below.grown hg h1.below.size (fun g e => by cases e; exact hl)⟩, h2, h3, h4, h5, row_put h6 ho, row_put h7 ho, ⟨c, row_put h8 ho, h8'⟩, row_put h9 ho, h10.grown hg h10.size (fun g e => by cases e; have := h11.1; omega), h11⟩
 ·rcases h1.list.2 with ⟨rfl, _⟩ | ⟨g, cap, cur, rfl, _, h5, _⟩
  ·exact .inl rfl
  ·refine .inr fun e => ?_
   cases e
   rw [ho] at h5; cases h5
 ·cases e
  obtain ⟨es, cl, hb⟩ := h1.set.block
  rw [ho] at hb; cases hb
theorem ReachI.bad {x : Txt} (h : ReachI w W1 b vO O F P Q X) (hx : nodeO O x = none) : ReachI w W1 b vO O F (P ++ [x]) Q (X.setCell ⟨b + 1, 0, none⟩ (.bool false)) := by
 obtain ⟨⟨vQ, h1⟩, h2, h3, h4, h5, h6, h7, ⟨c, h8, h8'⟩, h9, h10, h11⟩ := h
 obtain ⟨f1, f2⟩ := h11
 have hs : Wf X.heap.size (b + 1) X (X.setCell ⟨b + 1, 0, none⟩ (.bool false)) := Wf.set _
 have hg := grownBy_set X (b + 1) 0 (.bool false)
 refine ⟨⟨vQ, hs.row h1.row h1.row.lt (by omega), hs.owns h1.list (fun g e => (World.ownsRow.lt h1.list g e).2) (owns_apart h1.list h8 (by decide)), h1.set.kept hg (fun e => by have := Option.some.inj e; omega), h1.fq, h1.fm, h1.below.setCell (p := ⟨b + 1, 0, none⟩) (by show _ ≤ b + 1; omega) _⟩, h2, h3, h4, ?_, hs.row h6 h6.lt (by omega), hs.row h7 h7.lt (by omega), ⟨false, h8.set 0 _, ?_⟩, hs.row h9 h9.lt (by omega), h10.setCell (p := ⟨b + 1, 0, none⟩) (by show _ ≤ b + 1; omega) _, f1, f2⟩
 ·intro t ht u hu
  rcases List.mem_append.1 ht with ht | ht
  ·exact h5 t ht u hu
  ·rw [List.mem_singleton.1 ht, kidsO_none hx] at hu
   cases hu
 ·constructor
  ·intro e; cases e
  ·intro e
   have := e x (by simp)
   rw [hx] at this; cases this
theorem ReachI.good {x : Txt} {n : Nd} (h : ReachI w W1 b vO O F P Q X) (hxq : x ∈ Q) (hx : nodeO O x = some n) (hk : Qk W1.heap.size (W1.heap.size + 1) W1.heap.size X Y) (hq : ∃ vQ, Que W1 (W1.heap.size + 1) W1.heap.size Y (addQ Q (ofL (kidsN n))) vQ) :
  ReachI w W1 b vO O F (P ++ [x]) (addQ Q (ofL (kidsN n))) Y := by
 obtain ⟨⟨vQ, h1⟩, h2, h3, h4, h5, h6, h7, ⟨c, h8, h8'⟩, h9, h10, h11⟩ := h
 obtain ⟨f1, f2⟩ := h11
 refine ⟨hq, addQ_nodup h2, ?_, fun t ht hl => mem_addQ.2 (.inl (h4 t ht hl)), ?_, hk.row h6 (by decide) (by omega) (by omega), hk.row h7 (by decide) (by omega) (by omega), ⟨c, hk.row h8 (by decide) (by omega) (by omega), ?_⟩, hk.row h9 (by decide) (by omega) (by omega), ?_, f1, f2⟩
 ·intro t ht
  rcases mem_addQ.1 ht with ht | ht
  ·exact h3 t ht
  ·refine .kid (h3 x hxq) ?_
   rw [kidsO_of hx]
   exact (((ofL_spec _).2 t).1 ht).1
 ·intro t ht u hu
  rcases List.mem_append.1 ht with ht | ht
  ·exact mem_addQ.2 (.inl (h5 t ht u hu))
  ·rw [List.mem_singleton.1 ht] at hu
   have hl := kidsO_len hu
   rw [kidsO_of hx] at hu
   exact mem_addQ.2 (.inr (((ofL_spec _).2 u).2 ⟨hu, hl⟩))
 ·rw [h8']
  constructor
  ·intro e t ht
   rcases List.mem_append.1 ht with ht | ht
   ·exact e t ht
   ·rw [List.mem_singleton.1 ht, hx]; rfl
  ·exact fun e t ht => e t (List.mem_append_left _ ht)
 ·exact h10.trans ⟨hk.os, hk.tape, hk.output, hk.size, fun k hk' => hk.block k (by have := h10.size; omega) (by omega) (by omega) (.inl (by omega))⟩
theorem ReachI.done (h : ReachI w W1 b vO O F P P X) : (∀ t, t ∈ P ↔ ReachO O F t) ∧ ∀ c, Row X (b + 1) #[.bool c] 4 → (c = true ↔ WholeO O F) := by
 obtain ⟨_, _, h3, h4, h5, _, _, ⟨c, h8, h8'⟩, _⟩ := h
 have hm : ∀ t, t ∈ P ↔ ReachO O F t := fun t => ⟨h3 t, fun hr => by
  induction hr with
  | start h1 h2 => exact h4 _ h1 h2
  | kid _ h2 ih => exact h5 _ ih _ h2⟩
 refine ⟨hm, fun c' hc => ?_⟩
 have e := (show X.heap[b + 1]? = _ from h8).symm.trans hc
 cases e
 rw [h8']
 exact ⟨fun e t ht => e t ((hm t).2 ht), fun e t ht => e t ((hm t).1 ht)⟩
end
def fraU (W1 wz : World) (b bn : Nat) (Q : List Txt) (vQ : Value) (n : Nd) (a1 a2 : Option Addr) (z1 cap1 z2 cap2 : Nat) : Nat → Value → Value → World → Prop
 | 0 => fun v _ _ => v = .pointer (some ⟨W1.heap.size + 1, 0, none⟩)
 | 1 => fun v _ _ => v = .agg #[.int .i64 n.kd, .string n.d, .slice a1 z1 cap1, .slice a2 z2 cap2]
 | 2 => fun v _ w => OwnTxt wz w v (ofL (kidsN n))
 | 3 => fun _ _ w => ∃ vQ', Que W1 (W1.heap.size + 1) W1.heap.size w (addQ Q (ofL (kidsN n))) vQ'
 | 4 => fun _ _ w => Row w b #[.pointer (some ⟨W1.heap.size + 1, 0, none⟩)] 62
 | 5 => fun _ _ w => Row w bn #[.int .i64 n.kd, .string n.d, .slice a1 z1 cap1, .slice a2 z2 cap2] 71
 | 6 => fun _ _ w => Que W1 (W1.heap.size + 1) W1.heap.size w Q vQ
 | 7 => fun _ _ w => IsParts w (.slice a1 z1 cap1) n.ps ∧ IsEntries w (.slice a2 z2 cap2) n.es
 | _ => fun _ _ _ => True
def fraN : List (List Nat) := [[4], [5], [1, 7], [0, 2, 6]]
def fraE : Nat → Option Tmp
 | _ => none
def fraB : List (Nat × Nat) := [(3, 2), (3, 4), (3, 5), (3, 6), (3, 7)]
theorem fra_T (W1 wz : World) (b bn : Nat) (Q : List Txt) (vQ : Value) (n : Nd) (a1 a2 : Option Addr) (z1 cap1 z2 cap2 : Nat) (ix kx : Nat) (v e : Value) (w w' : World) (hk : kx < 8) (hne : kx ≠ ix) (hbd : (ix, kx) ∉ fraB) (hU : (fraU W1 wz b bn Q vQ n a1 a2 z1 cap1 z2 cap2) kx v e w) (hT : (appTs [3] (rchR W1)) ix w w') : (fraU W1 wz b bn Q vQ n a1 a2 z1 cap1 z2 cap2) kx v e w' := by
 by_cases hi3 : ix = 3
 ·subst hi3
  have hR := appTs_in (by decide) hT
  rcases (show kx = 0 ∨ kx = 1 ∨ kx = 2 ∨ kx = 3 ∨ kx = 4 ∨ kx = 5 ∨ kx = 6 ∨ kx = 7 by omega) with rfl | rfl | rfl | rfl | rfl | rfl | rfl | rfl
  ·exact hU
  ·exact hU
  ·exact absurd (by decide) hbd
  ·exact absurd rfl hne
  ·exact absurd (by decide) hbd
  ·exact absurd (by decide) hbd
  ·exact absurd (by decide) hbd
  ·exact absurd (by decide) hbd
 have hi : ix ∉ [3] := by simp [hi3]
 have hb : Below w.heap.size w w' := appTs_out hi hT
 rcases (show kx = 0 ∨ kx = 1 ∨ kx = 2 ∨ kx = 3 ∨ kx = 4 ∨ kx = 5 ∨ kx = 6 ∨ kx = 7 by omega) with rfl | rfl | rfl | rfl | rfl | rfl | rfl | rfl
 ·exact hU
 ·exact hU
 ·exact OwnTxt.stays hU hb
 ·exact by obtain ⟨vQ', h⟩ := hU; exact ⟨vQ', h.stays hb⟩
 ·exact Row.step hU hb
 ·exact Row.step hU hb
 ·exact Que.stays hU hb
 ·exact ⟨IsParts.stays hU.1 hb, IsEntries.stays hU.2 hb⟩
def frbU (W1 wz : World) (b : Nat) (Q S : List Txt) (vQ : Value) (c : Bool) : Nat → Value → Value → World → Prop
 | 0 => fun v _ _ => v = .pointer (some ⟨W1.heap.size + 1, 0, none⟩)
 | 1 => fun v _ w => OwnTxt wz w v S
 | 2 => fun v _ _ => v = .bool c
 | 3 => fun v _ w => OwnTxt wz w v S
 | 4 => fun v _ _ => v = .bool c
 | 5 => fun _ _ w => Row w b #[.pointer (some ⟨W1.heap.size + 1, 0, none⟩)] 62
 | 6 => fun _ _ w => Que W1 (W1.heap.size + 1) W1.heap.size w Q vQ
 | 7 => fun _ _ w => Row w (b + 1) #[.bool c] 4
 | _ => fun _ _ _ => True
def frbN : List (List Nat) := [[5], [0, 6], [7], [1], [2]]
def frbE : Nat → Option Tmp
 | _ => none
def frbB : List (Nat × Nat) := []
theorem frb_T (W1 wz : World) (b : Nat) (Q S : List Txt) (vQ : Value) (c : Bool) (ix kx : Nat) (v e : Value) (w w' : World) (hk : kx < 8) (hne : kx ≠ ix) (hbd : (ix, kx) ∉ frbB) (hU : (frbU W1 wz b Q S vQ c) kx v e w) (hT : allT ix w w') : (frbU W1 wz b Q S vQ c) kx v e w' := by
 have hb : Below w.heap.size w w' := hT
 rcases (show kx = 0 ∨ kx = 1 ∨ kx = 2 ∨ kx = 3 ∨ kx = 4 ∨ kx = 5 ∨ kx = 6 ∨ kx = 7 by omega) with rfl | rfl | rfl | rfl | rfl | rfl | rfl | rfl
 ·exact hU
 ·exact OwnTxt.stays hU hb
 ·exact hU
 ·exact OwnTxt.stays hU hb
 ·exact hU
 ·exact Row.step hU hb
 ·exact Que.stays hU hb
 ·exact Row.step hU hb
set_option maxRecDepth 100000 in
set_option maxHeartbeats 16000000 in
theorem Reach_any (vO fv : Value) (O : List Ob) (F : List ByteArray) (w : World) (h : IsObs w vO O) (hr : RiseO O) (hl : O.length ≤ 1000000) (hz : ∀ y ∈ O, y.r.size ≤ 1000000) (hT : ErrT w) (hf : IsStrs w fv F) (hF : F.length ≤ 800000)
  (U : List Txt) (hU : ∀ t, ReachO O (txts F) t → t ∈ U) (hUl : U.length ≤ 900000) :
  Calls Tryz.prog 11 #[vO, fv] w (RetReach O (txts F) w) := by
 have hro : Fence.wide.round = none := rfl
 obtain ⟨W, hW⟩ : ∃ W, W = w.alloc (.cells #[vO] 27) := ⟨_, rfl⟩
 have hbW : Below w.heap.size w W := by rw [hW]; exact (Below.refl _ _).alloc (Nat.le_refl _) _
 have HRW : Hid (Row W w.heap.size #[vO] 27) := Lib.hid (by rw [hW]; exact Row.made _ _ _)
 have CO := Lib.hid (Of_own fv F W (hf.stays hbW) hF)
 have HB := Lib.hid hbW; have HW := Lib.hid hW; have HO := Lib.hid h; have HR := Lib.hid hr; have HZ := Lib.hid hz; have HT := Lib.hid hT; have HU := Lib.hid hU
 obtain ⟨_, fa, fc, hfv, _, _⟩ := hf
 obtain ⟨_, oa, oc, hov, _, _⟩ := h
 obtain ⟨zf, hzf⟩ : ∃ z, z = F.length := ⟨_, rfl⟩
 obtain ⟨zo, hzo⟩ : ∃ z, z = O.length := ⟨_, rfl⟩
 rw [← hzf] at hfv; rw [← hzo] at hov
 clear hbW hW hr hz hT hU hzf hzo hF
 subst hfv hov
 refine (callsIn_wide (n := 9)).1 ?_
 refine callsIn_of_wp_marks Tryz.func11 rfl trivial ?_ hro
 simp only [Tryz.ntmps11, List.size_toArray, List.length_cons, List.length_nil, Nat.reduceAdd, Nat.reduceSub, Array.replicate_succ, Array.replicate_zero, List.push_toArray, List.append_toArray, List.nil_append, List.cons_append]
 refine wpIn_wide.2 ?_
 go_wp2_with fail
 rw [← HW.out]
 refine CO.out.mono ?_
 rintro e W1 ⟨v1, rfl, ho1, hb1⟩
 have CN := Lib.hid (newQueue_any W (ofL (txts F)) v1 W1 ho1 (fun t ht => (((ofL_spec _).2 t).1 ht).2) (by have := HU.out; exact Nat.le_trans (List.Nodup.length_le_of_subset (rises_nodup (ofL_spec (txts F)).1) (fun t ht => this t (.start (((ofL_spec _).2 t).1 ht).1 (((ofL_spec _).2 t).1 ht).2))) (by omega)))
 have HB1 := Lib.hid (below_step HB.out hb1)
 have HR1 := Lib.hid (HRW.out.step hb1)
 obtain ⟨_, qa, qc, hv1, _, _⟩ := ho1.strs
 obtain ⟨zq, hzq⟩ : ∃ z, z = (strsOf (ofL (txts F))).length := ⟨_, rfl⟩
 rw [← hzq] at hv1
 clear ho1 hb1 hzq
 subst hv1
 go_wp2_with fail
 refine CN.out.mono ?_
 rintro e W2 ⟨rfl, vQ0, hq0⟩
 have HQ0 := Lib.hid hq0
 obtain ⟨V, hV⟩ : ∃ V, V = (W2.alloc (.cells #[.pointer (some ⟨W1.heap.size + 1, 0, none⟩)] 62)).alloc (.cells #[.bool true] 4) := ⟨_, rfl⟩
 obtain ⟨V2, hV2⟩ : ∃ V2, V2 = V.alloc (.cells #[.pointer (some ⟨W1.heap.size + 1, 0, none⟩)] 62) := ⟨_, rfl⟩
 have hb2 := HQ0.out.below
 have hs2 : W1.heap.size + 1 < W2.heap.size := HQ0.out.row.lt
 have hs1 : w.heap.size < W1.heap.size := HR1.out.lt
 have hbV : Below W2.heap.size W2 V2 := by
  rw [hV2, hV]
  exact (((Below.refl _ _).alloc (Nat.le_refl _) _).alloc (by simp) _).alloc (by simp; omega) _
 have hVs : V.heap.size = W2.heap.size + 2 := by rw [hV]; simp
 have HI0 : Hid (ReachI w W1 W2.heap.size (.slice oa zo oc) O (txts F) [] (addQ [] (ofL (txts F))) V2) := Lib.hid (by
  refine ⟨⟨vQ0, HQ0.out.stays hbV⟩, addQ_nodup List.nodup_nil, ?_, ?_, (fun t ht => by cases ht), (HR1.out.step hb2).step hbV, ?_, ⟨true, ?_, by simp⟩, ?_, below_step (below_step HB1.out hb2) hbV, hs1, hs2⟩
  ·intro t ht
   have := (((ofL_spec _).2 t).1 ((mem_addQ.1 ht).resolve_left (by simp)))
   exact .start this.1 this.2
  ·exact fun t ht hl => mem_addQ.2 (.inr (((ofL_spec _).2 t).2 ⟨ht, hl⟩))
  ·rw [hV2, hV]; exact ((Row.made _ _ _).alloc _).alloc _
  ·rw [hV2, hV]
   have := (Row.made (W2.alloc (.cells #[.pointer (some ⟨W1.heap.size + 1, 0, none⟩)] 62)) #[.bool true] 4).alloc (.cells #[.pointer (some ⟨W1.heap.size + 1, 0, none⟩)] 62)
   simpa using this
  ·rw [hV2]
   have := Row.made V #[.pointer (some ⟨W1.heap.size + 1, 0, none⟩)] 62
   rw [hVs] at this; exact this)
 have CA := Lib.hid (all_any (W1.heap.size + 1) V)
 have HV := Lib.hid hV; have HV2 := Lib.hid hV2; have HVS := Lib.hid hVs; have HS2 := Lib.hid hs2; have HS1 := Lib.hid hs1
 have HBV := Lib.hid hbV
 clear hq0 hb2 hbV hV hV2 hVs hs1
 go_wp2_with fail
 rw [← HV.out]
 with_reducible refine CA.out.mono ?_
 rintro e V3 ⟨rfl, hV3⟩
 obtain rfl := HV2.out.trans hV3
 clear hV3
 have HGI : Hid (∀ P R X, ReachI w W1 W2.heap.size (.slice oa zo oc) O (txts F) P (P ++ R) X → QueOk (W1.heap.size + 1) (W2.heap.size + 2) (P ++ R) X ∧ (P ++ R).length ≤ U.length) := Lib.hid (fun P R X hI => by
  obtain ⟨vQ, hq⟩ := hI.que
  exact ⟨⟨⟨vQ, hq.row.cell 0, hq.list.strs⟩, hI.pt.cell 0⟩, List.Nodup.length_le_of_subset hI.nodup (fun t ht => HU.out t (hI.sub t ht))⟩)
 rw [HVS.out]
 go_wp2_with fail
 refine (wpIn_wide (n := 9)).1 ?_
 refine wpIn_rangeFunc_que hro (by decide) (gf := 56) (lb := #[.pointer (some ⟨W2.heap.size + 2, 0, none⟩)]) (by simp [Act.eval]) trivial (enters_of Tryz.func56 (by kernel_rfl) rfl)
  (all_seq 8 (by decide) (W1.heap.size + 1) (W2.heap.size + 2) U.length (by omega) V2) (Below.refl _ _) rfl
  (fun P R X => ReachI w W1 W2.heap.size (.slice oa zo oc) O (txts F) P (P ++ R) X) HGI.out (fun P R X Y h hb => h.stays hb)
  (fun P R X l o o' h hl ho => h.put (by have := HBV.out.size; omega) ho) (addQ [] (ofL (txts F))) HI0.out
  (fun x => { tmps := #[.slice oa zo oc, .slice fa zf fc, .pointer (some ⟨w.heap.size, 0, none⟩), undef, .slice none 0 0, .bool false, .pointer (some ⟨W2.heap.size, 0, none⟩), .pointer (some ⟨W2.heap.size + 1, 0, none⟩), .string ⟨x.toArray⟩, undef, undef, .slice fa zf fc, .slice qa zq qc, .pointer (some ⟨W1.heap.size + 1, 0, none⟩), .pointer (some ⟨W1.heap.size + 1, 0, none⟩), allV (W2.heap.size + 2), .string ⟨x.toArray⟩, undef, undef, undef, undef, undef, undef, undef, undef, undef, undef, undef, undef, undef, undef, undef, undef, undef, undef, undef, undef, undef], defers := [] })
  ?assign ?body ?done
 case assign =>
  intro l x W' K hK
  gi_wp2
  exact hK
 case body =>
  intro l P x R X hI
  have HI := Lib.hid hI
  have hbX := hI.below
  have k0 : X.cell? ⟨w.heap.size, 0, none⟩ = some (.slice oa zo oc) := hI.objs.cell 0
  have CR := Lib.hid (read_any (.slice oa zo oc) O ⟨x.toArray⟩ X (HO.out.stays hbX) HR.out hl HZ.out (HT.out.stays hbX))
  rw [show (⟨x.toArray⟩ : ByteArray).data.toList = x by simp] at CR
  clear hI hbX
  cases hre : readE O x with
  | ok n =>
   rw [hre] at CR
   have CR2 := Lib.hid (CR.out.mono fun e w' h => h.of_ok)
   obtain ⟨hfit, _⟩ : fitN n = true ∧ True := ⟨nodeO_fit (readE_node.1 hre), trivial⟩
   have HNO := Lib.hid (readE_node.1 hre)
   have HNK := Lib.hid (fit_few hfit)
   have HK32 : Hid (∀ t ∈ ofL (kidsN n), t.length = 32) := Lib.hid (fun t ht => (((ofL_spec _).2 t).1 ht).2)
   have IN5 := Lib.hid (is_nil_any 5); have IN2 := Lib.hid (is_nil_any 2)
   clear CR hre hfit
   gi_wp2_with (first
    | (refine ⟨trivial, ?_⟩; gi_at_call 30; refine (CallsIn.inRound l (callsIn_wide.2 CR2.out)).mono ?_; rintro e w1 ⟨pv, ev, rfl, hpv, hev, hb1⟩; obtain ⟨_, a1, cap1, hv1, _, _⟩ := hpv.is; obtain ⟨_, a2, cap2, hv2, _, _⟩ := hev.is; have HP := Lib.hid (And.intro hpv.is hev.is); have HI1 := Lib.hid (HI.out.stays hb1); have HXW := Lib.hid hb1; (obtain ⟨z1, hz1⟩ : ∃ z, z = n.ps.length := ⟨_, rfl⟩); (obtain ⟨z2, hz2⟩ : ∃ z, z = n.es.length := ⟨_, rfl⟩); rw [← hz1] at hv1; rw [← hz2] at hv2; clear hz1 hz2 hpv hev hb1; subst hv1 hv2)
    | (refine ⟨trivial, ?_⟩; gi_at_call 31; (with_reducible refine (CallsIn.inRound l (callsIn_wide.2 (IN5.out _))).mono ?_); rintro e w3 ⟨rfl, rfl⟩)
    | (refine ⟨trivial, ?_⟩; gi_at_call 31; (with_reducible refine (CallsIn.inRound l (callsIn_wide.2 (IN2.out _))).mono ?_); rintro e w3 ⟨rfl, rfl⟩))
   obtain ⟨Wz, hWz⟩ : ∃ Wz, Wz = w1.alloc (.cells #[.int .i64 n.kd, .string n.d, .slice a1 z1 cap1, .slice a2 z2 cap2] 71) := ⟨_, rfl⟩
   have hbz : Below w1.heap.size w1 Wz := by rw [hWz]; exact (Below.refl _ _).alloc (Nat.le_refl _) _
   have HBN0 : Hid (Row Wz w1.heap.size #[.int .i64 n.kd, .string n.d, .slice a1 z1 cap1, .slice a2 z2 cap2] 71) := Lib.hid (by rw [hWz]; exact Row.made _ _ _)
   have HI2 := Lib.hid (HI1.out.stays hbz)
   have HXZ := Lib.hid (below_step HXW.out hbz)
   have HPZ := Lib.hid (And.intro (HP.out.1.stays hbz) (HP.out.2.stays hbz))
   rw [← hWz]
   clear hWz hbz k0
   obtain ⟨bn, hbn⟩ : ∃ bn, bn = w1.heap.size := ⟨_, rfl⟩
   have HBN : Hid (Row Wz bn #[.int .i64 n.kd, .string n.d, .slice a1 z1 cap1, .slice a2 z2 cap2] 71) := Lib.hid (by rw [hbn]; exact HBN0.out)
   rw [← hbn]
   clear hbn
   obtain ⟨vQ, hqz⟩ := HI2.out.que
   obtain ⟨Q, hQ⟩ : ∃ Q, Q = P ++ x :: R := ⟨_, rfl⟩
   rw [← hQ] at hqz HI2
   have HQE := Lib.hid hQ
   obtain ⟨b, hb⟩ : ∃ b, b = W2.heap.size := ⟨_, rfl⟩
   rw [← hb] at HI2 ⊢
   have HP6 := Lib.hid HI2.out.pq
   have HQZ := Lib.hid hqz
   have HQL : Hid (∀ g, vQ.ownBlock = some g → g < Wz.heap.size) := Lib.hid (fun g hg => (World.ownsRow.lt hqz.list g hg).2)
   have HXQ : Hid (x ∈ Q) := Lib.hid (by rw [hQ]; simp)
   have HADD : Hid (∀ j, (addQ Q ((ofL (kidsN n)).take j)).length ≤ 1000000) := Lib.hid (fun j => by
    have h1 := List.Nodup.length_le_of_subset (addQ_nodup (L := (ofL (kidsN n)).take j) HI2.out.nodup) (fun t ht => HU.out t (by
     rcases mem_addQ.1 ht with ht | ht
     ·exact HI2.out.sub t ht
     ·refine .kid (HI2.out.sub x HXQ.out) ?_
      rw [kidsO_of HNO.out]
      exact (((ofL_spec _).2 t).1 (List.mem_of_mem_take ht)).1))
    omega)
   have FIN : Hid (∀ w5, (∃ vQ', Que W1 (W1.heap.size + 1) W1.heap.size w5 (addQ Q (ofL (kidsN n))) vQ') → Qk W1.heap.size (W1.heap.size + 1) W1.heap.size Wz w5 → KeepsLD X w5 ∧ ∃ R', ReachI w W1 W2.heap.size (.slice oa zo oc) O (txts F) (P ++ [x]) (P ++ [x] ++ R') w5) := Lib.hid (fun w5 h3 hG => by
    rw [← hb]
    refine ⟨(KeepsLD.below HXZ.out).trans (hG.ld HQZ.out.row HQZ.out.set), ?_⟩
    have h4 := HI2.out.good HXQ.out HNO.out hG h3
    obtain ⟨R2, hR2⟩ := addQ_grows (L := ofL (kidsN n)) (Q := Q)
    rw [hR2, HQE.out] at h4
    exact ⟨R ++ R2, by simpa using h4⟩)
   clear hqz hQ hb
   refine wpIn_region_round (by kernel_rfl) (by kernel_rfl) ?hq ?_
   case hq =>
    rintro ⟨a, w', h⟩
    exact absurd h.1 (by simp)
   refine wp_any_wordsG (by kernel_rfl) (appTs [3] (rchR W1)) (Qk W1.heap.size (W1.heap.size + 1) W1.heap.size Wz) fraE (fraU W1 Wz b bn Q vQ n a1 a2 z1 cap1 z2 cap2) 8 fraN [3] (by kernel_rfl) (by kernel_rfl) (by kernel_rfl)
    fraB (by kernel_rfl) (fun ix kx v e w w' hi hk hne hb hU hT => fra_T _ _ _ _ _ _ _ _ _ _ _ _ _  ix kx v e w w' hk hne hb hU hT) (by decide) (Qk.of_below ((Below.refl _ _).drew)) (fun kx hk hge => ?hv0)
    [31, 32, 33, 34] (by kernel_rfl) (forall_ops ?steps) ?behind
   case hv0 =>
    have hge' : 4 ≤ kx := hge
    rcases (show kx = 4 ∨ kx = 5 ∨ kx = 6 ∨ kx = 7 by omega) with rfl | rfl | rfl | rfl
    ·exact HP6.out.drew
    ·exact HBN.out.drew
    ·exact HQZ.out.stays ((Below.refl _ _).drew)
    ·exact ⟨HPZ.out.1.stays ((Below.refl _ _).drew), HPZ.out.2.stays ((Below.refl _ _).drew)⟩
   case steps =>
    refine ⟨?_, ?_, ?_, ?_, trivial⟩
    ·refine stepG_of rfl ?_
     exact stepR_value (t := 31) (.pointer (some ⟨W1.heap.size + 1, 0, none⟩)) rfl (fun _ => appTs_other (by decide) (Below.refl _ _)) (fun ac w9 hG hN hO => by
      have e6 : slot ac 6 = .pointer (some ⟨b, 0, none⟩) := hO 6 (by kernel_rfl)
      have hx : Row w9 b #[.pointer (some ⟨W1.heap.size + 1, 0, none⟩)] 62 := hN 4 (by decide)
      have c0 : w9.cell? ⟨b, 0, none⟩ = some (.pointer (some ⟨W1.heap.size + 1, 0, none⟩)) := hx.cell 0
      have f := slot_at e6
      unfold execOp; go_simp) (fun ac w9 hG hN => rfl)
    ·refine stepG_of rfl ?_
     exact stepR_value (t := 32) (.agg #[.int .i64 n.kd, .string n.d, .slice a1 z1 cap1, .slice a2 z2 cap2]) rfl (fun _ => appTs_other (by decide) (Below.refl _ _)) (fun ac w9 hG hN hO => by
      have e9 : slot ac 9 = .pointer (some ⟨bn, 0, none⟩) := hO 9 (by kernel_rfl)
      have hx : Row w9 bn #[.int .i64 n.kd, .string n.d, .slice a1 z1 cap1, .slice a2 z2 cap2] 71 := hN 5 (by decide)
      have c0 : w9.cell? ⟨bn, 0, none⟩ = some (.int .i64 n.kd) := hx.cell 0
      have c1 : w9.cell? ⟨bn, 1, none⟩ = some (.string n.d) := hx.cell 1
      have c2 : w9.cell? ⟨bn, 2, none⟩ = some (.slice a1 z1 cap1) := hx.cell 2
      have c3 : w9.cell? ⟨bn, 3, none⟩ = some (.slice a2 z2 cap2) := hx.cell 3
      have f := slot_at e9
      unfold execOp; go_simp) (fun ac w9 hG hN => rfl)
    ·refine stepG_of rfl ?_
     intro ac w9 hG hN hO
     have e32 : slot ac 32 = .agg #[.int .i64 n.kd, .string n.d, .slice a1 z1 cap1, .slice a2 z2 cap2] := hN 1 (by decide)
     have hx : IsParts w9 _ _ ∧ IsEntries w9 _ _ := hN 7 (by decide)
     refine wp_callx 33 _ _ rfl (enters_of Tryz.func33 (by kernel_rfl) rfl) #[.agg #[.int .i64 n.kd, .string n.d, .slice a1 z1 cap1, .slice a2 z2 cap2]] (by simp [eval_slot, e32]) (calls_own hG.size (pKids_own n _ _ w9 hx.1 hx.2 HNK.out)) ?_
     rintro v w'' ⟨hv, hb⟩
     exact ⟨v, rfl, appTs_other (by decide) hb, hG.on hb, hv⟩
    ·refine stepG_of rfl ?_
     intro ac w9 hG hN hO
     have e31 : slot ac 31 = .pointer (some ⟨W1.heap.size + 1, 0, none⟩) := hN 0 (by decide)
     have e33 : OwnTxt Wz w9 (slot ac 33) (ofL (kidsN n)) := hN 2 (by decide)
     have hq : Que W1 (W1.heap.size + 1) W1.heap.size w9 Q vQ := hN 6 (by decide)
     refine wp_callx 32 _ _ rfl (enters_of Tryz.func32 (by kernel_rfl) rfl) #[.pointer (some ⟨W1.heap.size + 1, 0, none⟩), slot ac 33] (by simp [eval_slot, e31]) (calls_add (fadd_any W1 Wz (W1.heap.size + 1) W1.heap.size Q (ofL (kidsN n)) vQ (slot ac 33) w9 hq e33 (fun g hg e => by
      have h1 := (World.ownsRow.lt e33 g hg).1
      have h2 := HQL.out g e
      omega) HK32.out HADD.out)) ?_
     rintro v w'' ⟨hv, hb⟩
     exact ⟨v, rfl, appTs_at (by decide) hb, hG.trans hb, hv⟩
   case behind =>
    intro ac w5 hG hV hS ha
    have h3 : ∃ vQ', Que W1 (W1.heap.size + 1) W1.heap.size w5 (addQ Q (ofL (kidsN n))) vQ' := hV 3 (by decide) (by decide)
    generalize slot ac = sl at ha h3
    subst ha
    simp only [patchL, List.contains_cons, List.contains_nil, Nat.reduceBEq, Bool.or_false, Bool.or_true, if_true, Bool.false_eq_true, if_false, Nat.reduceAdd]
    generalize sl 31 = s31
    generalize sl 32 = s32
    generalize sl 33 = s33
    generalize sl 34 = s34 at h3 ⊢
    clear hV hS
    first
     | (gi_wp2; exact FIN.out w5 h3 hG)
     | (simp only [Exit.inBlock]; exact ⟨rfl, FIN.out w5 h3 hG⟩)
  | error k =>
   rw [hre] at CR
   have CR2 := Lib.hid (CR.out.mono fun e w' h => h.of_err)
   obtain ⟨hno, hk5⟩ := readE_err hre
   clear CR hre
   gi_wp2_with (refine ⟨trivial, ?_⟩; gi_at_call 30; refine (CallsIn.inRound l (callsIn_wide.2 CR2.out)).mono ?_; rintro e w1 ⟨s', rfl, hb1⟩)
   have HNO := Lib.hid hno
   have hbA := (Below.refl w1.heap.size w1).alloc (Nat.le_refl _) (.cells #[.int .i64 0, .string ⟨#[]⟩, .slice none 0 0, .slice none 0 0] 71)
   have HI2 := Lib.hid ((HI.out.stays hb1).stays hbA)
   have HXW := Lib.hid (below_step hb1 hbA)
   clear hno hb1 hbA k0
   rcases hk5 with rfl | rfl
   ·have IS55 := Lib.hid (is_yes s' 5)
    gi_wp2_with (refine ⟨trivial, ?_⟩; gi_at_call 31; (with_reducible refine (CallsIn.inRound l (callsIn_wide.2 (IS55.out _))).mono ?_); rintro e w3 ⟨rfl, hb3⟩; have HI3 := Lib.hid (HI2.out.stays hb3); have HXW3 := Lib.hid (below_step HXW.out hb3); obtain ⟨c, hc7, _⟩ := HI3.out.wh; have d0 : w3.cell? ⟨W2.heap.size + 1, 0, none⟩ = some (.bool c) := hc7.cell 0; have f0 := hc7.free 0; clear hc7 hb3)
    refine ⟨trivial, ?_⟩
    gi_wp2
    exact ⟨(KeepsLD.below HXW3.out).trans (KeepsLD.of (KeepsOthers.setCell _ _ _)), R, by have := HI3.out.bad HNO.out; simpa using this⟩
   ·have IS25 := Lib.hid (is_no s' (show (2 : Int) ≠ 5 by decide))
    have IS22 := Lib.hid (is_yes s' 2)
    gi_wp2_with (first
     | (refine ⟨trivial, ?_⟩; gi_at_call 31; (with_reducible refine (CallsIn.inRound l (callsIn_wide.2 (IS25.out _))).mono ?_); rintro e w3 ⟨rfl, hb3⟩; have HI3 := Lib.hid (HI2.out.stays hb3); have HXW3 := Lib.hid (below_step HXW.out hb3); clear hb3)
     | (refine ⟨trivial, ?_⟩; gi_at_call 31; (with_reducible refine (CallsIn.inRound l (callsIn_wide.2 (IS22.out _))).mono ?_); rintro e w4 ⟨rfl, hb4⟩; have HI4 := Lib.hid (HI3.out.stays hb4); have HXW4 := Lib.hid (below_step HXW3.out hb4); obtain ⟨c, hc7, _⟩ := HI4.out.wh; have d0 : w4.cell? ⟨W2.heap.size + 1, 0, none⟩ = some (.bool c) := hc7.cell 0; have f0 := hc7.free 0; clear hc7 hb4))
    exact ⟨(KeepsLD.below HXW4.out).trans (KeepsLD.of (KeepsOthers.setCell _ _ _)), R, by have := HI4.out.bad HNO.out; simpa using this⟩
 case done =>
  intro D P Wz hD hI hdef
  rw [List.append_nil] at hI
  obtain ⟨hfm, hfw⟩ := hI.done
  obtain ⟨vQ, hqz⟩ := hI.que
  obtain ⟨c, hc7, _⟩ := hI.wh
  have hfc := hfw c hc7
  have HQN : Hid (P.length ≤ 900000) := Lib.hid (Nat.le_trans (List.Nodup.length_le_of_subset hI.nodup (fun t ht => HU.out t (hI.sub t ht))) hUl)
  obtain ⟨S, hS⟩ : ∃ S, S = P.mergeSort fun x y => decide (x ≤ y) := ⟨_, rfl⟩
  have HFS : Hid (Rises S ∧ (∀ t, t ∈ S ↔ ReachO O (txts F) t) ∧ (c = true ↔ WholeO O (txts F))) := Lib.hid ⟨by rw [hS]; exact sort_rises hI.nodup, fun t => by rw [hS, (List.mergeSort_perm _ _).mem_iff]; exact hfm t, hfc⟩
  have HSQ := Lib.hid hS
  have HBW := Lib.hid hI.below
  have HWW := Lib.hid hI.below.size
  have HDF := Lib.hid hdef
  have HDW : Hid (w.heap.size ≤ D) := Lib.hid (by have := HBV.out.size; have := HS1.out; omega)
  have HP60 := Lib.hid hI.pq
  have HQZ := Lib.hid hqz
  obtain ⟨Q, hQ⟩ : ∃ Q, Q = P := ⟨_, rfl⟩
  rw [← hQ] at HQZ HQN HSQ
  have HQE := Lib.hid hQ
  clear hI hfm hfw hqz hfc hS hdef hQ
  obtain ⟨b, hb⟩ : ∃ b, b = W2.heap.size := ⟨_, rfl⟩
  rw [← hb] at HP60 hc7 ⊢
  have HP6 := HP60
  have HP7 := Lib.hid hc7
  clear hb hc7
  go_wp2_with fail
  refine wp_region_wordsG (by kernel_rfl) (by kernel_rfl) allT (HeldN Wz) frbE (frbU W1 Wz b Q S vQ c) 8 frbN [3, 4] (by kernel_rfl) (by kernel_rfl) (by kernel_rfl)
   frbB (by kernel_rfl) (fun ix kx v e w w' hi hk hne hb hU hT => frb_T _ _ _ _ _ _ _  ix kx v e w w' hk hne hb hU hT) (by decide) (HeldN.drew _) (fun kx hk hge => ?hv09)
   [35, 36, 37, 4, 5] (by kernel_rfl) (forall_ops ?steps9) ?behind9
  case hv09 =>
   have hge' : 5 ≤ kx := hge
   rcases (show kx = 5 ∨ kx = 6 ∨ kx = 7 by omega) with rfl | rfl | rfl
   ·exact HP6.out.drew
   ·exact HQZ.out.stays ((Below.refl _ _).drew)
   ·exact HP7.out.drew
  case steps9 =>
   refine ⟨?_, ?_, ?_, ?_, ?_, trivial⟩
   ·refine stepG_of rfl ?_
    exact stepR_value (t := 35) (.pointer (some ⟨W1.heap.size + 1, 0, none⟩)) rfl (fun _ => Below.refl _ _) (fun ac w9 hG hN hO => by
     have e6 : slot ac 6 = .pointer (some ⟨b, 0, none⟩) := hO 6 (by kernel_rfl)
     have hx : Row w9 b #[.pointer (some ⟨W1.heap.size + 1, 0, none⟩)] 62 := hN 5 (by decide)
     have c0 : w9.cell? ⟨b, 0, none⟩ = some (.pointer (some ⟨W1.heap.size + 1, 0, none⟩)) := hx.cell 0
     have f := slot_at e6
     unfold execOp; go_simp) (fun ac w9 hG hN => rfl)
   ·refine stepG_of rfl ?_
    intro ac w9 hG hN hO
    have e35 : slot ac 35 = .pointer (some ⟨W1.heap.size + 1, 0, none⟩) := hN 0 (by decide)
    have hq : Que W1 (W1.heap.size + 1) W1.heap.size w9 Q vQ := hN 6 (by decide)
    refine wp_callx 34 _ _ rfl (enters_of Tryz.func34 (by kernel_rfl) rfl) #[.pointer (some ⟨W1.heap.size + 1, 0, none⟩)] (by simp [eval_slot, e35]) (calls_own hG.below.size (by have := set_any W1 _ _ Q vQ w9 hq HQN.out; rw [← HSQ.out] at this; exact this)) ?_
    rintro v w'' ⟨hv, hb⟩
    exact ⟨v, rfl, hb, hG.on hb, hv⟩
   ·refine stepG_of rfl ?_
    exact stepR_value (t := 37) (.bool c) rfl (fun _ => Below.refl _ _) (fun ac w9 hG hN hO => by
     have e7 : slot ac 7 = .pointer (some ⟨b + 1, 0, none⟩) := hO 7 (by kernel_rfl)
     have hx : Row w9 (b + 1) #[.bool c] 4 := hN 7 (by decide)
     have c0 : w9.cell? ⟨b + 1, 0, none⟩ = some (.bool c) := hx.cell 0
     have f := slot_at e7
     unfold execOp; go_simp) (fun ac w9 hG hN => rfl)
   ·refine stepG_of rfl ?_
    intro ac w9 hG hN hO
    have e36 : OwnTxt Wz w9 (slot ac 36) S := hN 1 (by decide)
    exact wp_value (run_move_slot (v := slot ac 36) (.inr rfl) rfl) ⟨_, rfl, Below.refl _ _, hG, e36⟩
   ·refine stepG_of rfl ?_
    exact stepR_value (t := 5) (.bool c) rfl (fun _ => Below.refl _ _) (fun ac w hG hN hO => by
     have e37 : slot ac 37 = .bool c := hN 2 (by decide)
     exact run_move_slot (.inr rfl) e37) (fun ac w hG hN => rfl)
  case behind9 =>
   intro ac w5 hG hV hS ha
   have h3 : OwnTxt Wz w5 (slot ac 4) S := hV 3 (by decide) (by decide)
   have h4 : slot ac 5 = .bool c := hV 4 (by decide) (by decide)
   generalize slot ac = sl at ha h3 h4
   subst ha
   simp only [patchL, List.contains_cons, List.contains_nil, Nat.reduceBEq, Bool.or_false, Bool.or_true, if_true, Bool.false_eq_true, if_false, Nat.reduceAdd]
   generalize sl 35 = s35
   generalize sl 36 = s36
   generalize sl 37 = s37
   generalize sl 4 = s4 at h3 ⊢
   generalize sl 5 = s5 at h4 ⊢
   subst h4
   clear hV hS
   have HB5 := Lib.hid hG.below
   have HO5 := Lib.hid (h3.low_Ned (W' := w) HWW.out)
   have HDF5 := Lib.hid ((hG.below.block D (Array.getElem?_eq_some_iff.1 HDF.out).1).trans HDF.out)
   clear h3 hG
   go_wp2
   refine ⟨by simp, .inl ⟨_, _, rfl, run_takeDeferred HDF5.out, ?_⟩⟩
   have hgp := grownBy_putObj' w5 D (.deferred none)
   refine ⟨.tuple #[s4, .bool c], by simp [results, Tryz.f11, go_sem], s4, S, c, rfl, World.ownsRow.kept HO5.out hgp ?_, HFS.out.1, HFS.out.2.1, HFS.out.2.2, (below_step HBW.out HB5.out).grown hgp (Nat.le_trans HBW.out.size HB5.out.size) (fun g e => by cases e; exact HDW.out)⟩
   rcases HO5.out.2 with ⟨rfl, _⟩ | ⟨g, cap, cur, rfl, _, h5, _⟩
   ·exact .inl rfl
   ·refine .inr fun e => ?_
    have := HDF5.out
    cases e
    rw [h5] at this; cases this
end Go.Proofs.YtjpjpmkadoaipaaGreatDoor
set_option linter.unusedVariables false
namespace Go.Proofs.YtjpjpmkadoaipaaGreatDoor
open Go Go.RowKit
attribute [local go_sem] Oper.semAt_some
def okSum (x : Ob) : Bool := decide (shaSum x.u = x.t)
def checkB (L : List Ob) : Bool := L.all okSum
theorem all_take {L : List Ob} {p : Ob → Bool} {k : Nat} (hk : k < L.length) (h : (L.take k).all p = true) : (L.take (k + 1)).all p = p L[k] := by
 rw [List.take_succ_eq_append_getElem hk, List.all_append, h]; simp
theorem all_no {L : List Ob} {p : Ob → Bool} {k : Nat} (hk : k < L.length) (h : p L[k] = false) : L.all p = false := by
 cases e : L.all p with
 | false => rfl
 | true => rw [List.all_eq_true.1 e _ (List.getElem_mem hk)] at h; cases h
set_option maxRecDepth 100000 in
set_option maxHeartbeats 4000000 in
theorem Check_any (v : Value) (L : List Ob) (w : World) (h : IsObs w v L) (hz : ∀ x ∈ L, x.r.size ≤ 1152921504606846976) :
  Calls Tryz.prog 23 #[v] w fun e w' => e = .returned (.bool (checkB L)) ∧ Below w.heap.size w w' := by
 have HI := Lib.hid h; have HZ := Lib.hid hz
 obtain ⟨hml, a, cap, hv, _, _⟩ := h
 have hmm0 : L.length ≤ 9223372036854775807 := by unfold maxLen at hml; omega
 obtain ⟨z, hzl⟩ : ∃ z, z = L.length := ⟨_, rfl⟩
 rw [← hzl] at hv hmm0
 have HZL := Lib.hid hzl
 clear hml hzl hz
 subst hv
 go_enter Tryz.func23, Tryz.ntmps23
 go_wp2_with fail
 go_loopw [7] (fun i wr => ∃ k : Nat, k ≤ z ∧ i = .int .i64 k ∧ (L.take k).all okSum = true ∧ Below w.heap.size w wr) (fun i _ => z - (intOf i).toNat)
 case atStart => exact ⟨0, Nat.zero_le _, rfl, by simp, Below.refl _ _⟩
 case round =>
  obtain ⟨k, hk, rfl, hA, hB⟩ := hrel
  have HA := Lib.hid hA; have HB := Lib.hid hB
  by_cases hlt : k < z
  ·have hkl : k < L.length := by have := HZL.out; omega
   obtain ⟨_, _, _, hev, _, hc⟩ := HI.out.stays hB
   rw [← HZL.out] at hev
   cases hev
   obtain ⟨b, off, rfl, hbl, g⟩ := hc (by omega)
   obtain ⟨u0, u1⟩ := g k hkl
   have HNO := Lib.hid (all_no (p := okSum) hkl)
   have HST := Lib.hid (all_take hkl hA)
   have hzx := HZ.out _ (List.getElem_mem hkl)
   obtain ⟨x, hx⟩ : ∃ x, x = L[k] := ⟨_, rfl⟩
   rw [← hx] at u0 u1 HNO HST hzx
   have CS := Lib.hid (fun W => Sum_any x.r hzx W)
   obtain ⟨s, hs⟩ : ∃ s : ByteArray, s = ⟨(shaSum x.r.data.toList).toArray⟩ := ⟨_, rfl⟩
   rw [← hs] at CS
   have hbk : decide ((k : Int) < (z : Int)) = true := by simpa using (show (k : Int) < z by omega)
   obtain ⟨W, hW⟩ : ∃ W, W = wr.alloc (.cells #[.string x.k, .string x.r] 43) := ⟨_, rfl⟩
   have hbW : Below wr.heap.size wr W := by rw [hW]; exact (Below.refl _ _).alloc (Nat.le_refl _) _
   have hrow : Row W wr.heap.size #[.string x.k, .string x.r] 43 := by rw [hW]; exact Row.made _ _ _
   have c0 : W.cell? ⟨wr.heap.size, 0, none⟩ = some (.string x.k) := hrow.cell 0
   have c1 : W.cell? ⟨wr.heap.size, 1, none⟩ = some (.string x.r) := hrow.cell 1
   have k0 := fun d os => cell_regrown c0 d os
   have k1 := fun d os => cell_regrown c1 d os
   have HBW := Lib.hid (below_step HB.out hbW)
   have HW := Lib.hid hW
   clear g hc hx hA hB hbW hrow hW hzx
   by_cases he : s = x.k
   ·have q1 := beq_true he
    have q2 : (s.toList != x.k.toList) = false := by simp [bne, q1]
    have HOK : Hid (okSum x = true) := Lib.hid (decide_eq_true (by
     rw [hs] at he
     exact (txt_ne.1 he)))
    clear he hs
    go_wp2_with fail
    rw [← HW.out]
    refine wp_region_quiet_below (by kernel_rfl) (by kernel_rfl) ?_
    repeat (first | go_big_quiet_step (exact Calls.regrown_of (CS.out _)) | quiet_step (exact Calls.regrown_of (CS.out _)))
    refine wpQuiet_nil ?_
    intro wq hwq
    have hbq : Below W.heap.size W wq := by obtain ⟨p, rfl⟩ := hwq; exact below_regrown _ _ _
    clear hwq k0 k1 c0 c1
    have HBQ := Lib.hid (below_step HBW.out hbq)
    clear hbq
    go_wp2
    go_roundw
    case rel => exact ⟨k + 1, by omega, by go_num, by rw [HST.out]; exact HOK.out, HBQ.out⟩
    case measure => simp [intOf]; omega
   ·obtain ⟨q1, q2⟩ := str_ne_Fgd he
    have HOK : Hid (okSum x = false) := Lib.hid (decide_eq_false (fun e => he (by rw [hs]; exact txt_ne.2 e)))
    clear he hs
    go_wp2_with fail
    rw [← HW.out]
    refine wp_region_quiet_below (by kernel_rfl) (by kernel_rfl) ?_
    repeat (first | go_big_quiet_step (exact Calls.regrown_of (CS.out _)) | quiet_step (exact Calls.regrown_of (CS.out _)))
    refine wpQuiet_nil ?_
    intro wq hwq
    have hbq : Below W.heap.size W wq := by obtain ⟨p, rfl⟩ := hwq; exact below_regrown _ _ _
    clear hwq k0 k1 c0 c1
    have HBQ := Lib.hid (below_step HBW.out hbq)
    clear hbq
    go_wp2
    go_ret
    exact ⟨by unfold checkB; rw [HNO.out HOK.out]; rfl, HBQ.out⟩
  ·obtain rfl : k = z := by omega
   have hbk : decide ((k : Int) < (k : Int)) = false := by simp
   have hall : L.all okSum = true := by rw [List.take_of_length_le (by have := HZL.out; omega)] at hA; exact hA
   have HALL := Lib.hid hall
   clear hA hB hall
   go_wp2
   go_ret
   exact ⟨by unfold checkB; rw [HALL.out]; rfl, HB.out⟩
def thin (x : Ob) : Bool := decide (x.r.size ≤ 4200)
def wideB (L : List Ob) : Bool := !L.all thin
set_option maxRecDepth 100000 in
set_option maxHeartbeats 4000000 in
theorem wide_any (v : Value) (L : List Ob) (w : World) (h : IsObs w v L) (hz : ∀ x ∈ L, x.r.size ≤ 1152921504606846976) :
  Calls Tryz.prog 19 #[v] w fun e w' => e = .returned (.bool (wideB L)) ∧ Below w.heap.size w w' := by
 have HI := Lib.hid h; have HZ := Lib.hid hz
 obtain ⟨hml, a, cap, hv, _, _⟩ := h
 have hmm0 : L.length ≤ 9223372036854775807 := by unfold maxLen at hml; omega
 obtain ⟨z, hzl⟩ : ∃ z, z = L.length := ⟨_, rfl⟩
 rw [← hzl] at hv hmm0
 have HZL := Lib.hid hzl
 clear hml hzl hz
 subst hv
 go_enter Tryz.func19, Tryz.ntmps19
 go_wp2_with fail
 go_loopw [7] (fun i wr => ∃ k : Nat, k ≤ z ∧ i = .int .i64 k ∧ (L.take k).all thin = true ∧ Below w.heap.size w wr) (fun i _ => z - (intOf i).toNat)
 case atStart => exact ⟨0, Nat.zero_le _, rfl, by simp, Below.refl _ _⟩
 case round =>
  obtain ⟨k, hk, rfl, hA, hB⟩ := hrel
  have HB := Lib.hid hB
  by_cases hlt : k < z
  ·have hkl : k < L.length := by have := HZL.out; omega
   obtain ⟨_, _, _, hev, _, hc⟩ := HI.out.stays hB
   rw [← HZL.out] at hev
   cases hev
   obtain ⟨b, off, rfl, hbl, g⟩ := hc (by omega)
   obtain ⟨u0, u1⟩ := g k hkl
   have HNO := Lib.hid (all_no (p := thin) hkl)
   have HST := Lib.hid (all_take hkl hA)
   have hzx := HZ.out _ (List.getElem_mem hkl)
   obtain ⟨x, hx⟩ : ∃ x, x = L[k] := ⟨_, rfl⟩
   rw [← hx] at u0 u1 HNO HST hzx
   have hbk : decide ((k : Int) < (z : Int)) = true := by simpa using (show (k : Int) < z by omega)
   have HBA := Lib.hid ((HB.out).trans (((Below.refl wr.heap.size wr).alloc (Nat.le_refl _) (.cells #[.string x.k, .string x.r] 43)).mono hB.size))
   clear g hc hx hA hB
   by_cases he : x.r.size ≤ 4200
   ·have q1 : decide ((4200 : Int) < (x.r.size : Int)) = false := decide_eq_false (by omega)
    have HOK : Hid (thin x = true) := Lib.hid (decide_eq_true he)
    go_wp2
    go_roundw
    case rel => exact ⟨k + 1, by omega, by go_num, by rw [HST.out]; exact HOK.out, HBA.out⟩
    case measure => simp [intOf]; omega
   ·have q1 : decide ((4200 : Int) < (x.r.size : Int)) = true := decide_eq_true (by omega)
    have HOK : Hid (thin x = false) := Lib.hid (decide_eq_false he)
    go_wp2
    go_ret
    exact ⟨by unfold wideB; rw [HNO.out HOK.out]; rfl, HBA.out⟩
  ·obtain rfl : k = z := by omega
   have hbk : decide ((k : Int) < (k : Int)) = false := by simp
   have hall : L.all thin = true := by rw [List.take_of_length_le (by have := HZL.out; omega)] at hA; exact hA
   have HALL := Lib.hid hall
   clear hA hB hall
   go_wp2
   go_ret
   exact ⟨by unfold wideB; rw [HALL.out]; rfl, HB.out⟩
end Go.Proofs.YtjpjpmkadoaipaaGreatDoor

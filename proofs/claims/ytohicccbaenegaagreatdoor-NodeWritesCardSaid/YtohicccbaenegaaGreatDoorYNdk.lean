/-
  Contracts over this translation: node's reader: part, entry.
-/
import Derived.Test.YtohicccbaenegaaGreatDoorQ0
set_option linter.unusedVariables false
namespace Go.Proofs.YtohicccbaenegaaGreatDoor
open Go.RowKit
attribute [local go_sem] Oper.semAt_some

theorem Row.turned {w w' : World} {b B : Nat} {xs : Array Value} {T : TypeId} (h : Row w B xs T) (hg : w.grownBy w' (some b)) (hne : B ≠ b) : Row w' B xs T := by
  unfold Row; rw [hg.block B h.lt (fun e => hne (by cases e; rfl))]; exact h
theorem Rd.other {w : World} {b : Nat} {l : List UInt8} (h : Rd w b l) (p : Addr) (hne : b ≠ p.block) (u : Value) : Rd (w.setCell p u) b l := by
  obtain ⟨S, h1, h2⟩ := h; exact ⟨S, h1, h2.other p u hne⟩
theorem grownBy_setNew {w0 w : World} {r : Option Nat} (h : w0.grownBy w r) {p : Addr} (hp : w0.heap.size ≤ p.block) (u : Value) : w0.grownBy (w.setCell p u) r :=
  ⟨h.os, h.tape, h.output, Nat.le_trans h.size (by simp [World.setCell]), fun k hk hr => (Below.heap_setCell _ _ _ _ (by omega)).trans (h.block k hk hr)⟩
theorem cs_same {w : World} {b i : Nat} {u v : Value} (h : w.cell? ⟨b, i, none⟩ = some u) : (w.setCell ⟨b, i, none⟩ v).cell? ⟨b, i, none⟩ = some v := World.cell?_setCell_same _ _ _ h
theorem cs_other {w : World} {b i j : Nat} {v : Value} (h : i ≠ j) : (w.setCell ⟨b, i, none⟩ v).cell? ⟨b, j, none⟩ = w.cell? ⟨b, j, none⟩ := World.cell?_setCell_other _ _ _ _ (fun e => h (by cases e; rfl))

theorem row4_set {w : World} {B : Nat} {a b c d : Value} {T : TypeId} (h : Row w B #[a, b, c, d] T) (p q r s : Value) :
    ((((w.setCell ⟨B, 0, none⟩ p).setCell ⟨B, 1, none⟩ q).setCell ⟨B, 2, none⟩ r).setCell ⟨B, 3, none⟩ s).cell? ⟨B, 0, none⟩ = some p ∧
    ((((w.setCell ⟨B, 0, none⟩ p).setCell ⟨B, 1, none⟩ q).setCell ⟨B, 2, none⟩ r).setCell ⟨B, 3, none⟩ s).cell? ⟨B, 1, none⟩ = some q ∧
    ((((w.setCell ⟨B, 0, none⟩ p).setCell ⟨B, 1, none⟩ q).setCell ⟨B, 2, none⟩ r).setCell ⟨B, 3, none⟩ s).cell? ⟨B, 2, none⟩ = some r ∧
    ((((w.setCell ⟨B, 0, none⟩ p).setCell ⟨B, 1, none⟩ q).setCell ⟨B, 2, none⟩ r).setCell ⟨B, 3, none⟩ s).cell? ⟨B, 3, none⟩ = some s := by
  have h1 := (((h.set 0 p).set 1 q).set 2 r).set 3 s
  exact ⟨h1.cell 0, h1.cell 1, h1.cell 2, h1.cell 3⟩

def oPart (l : List UInt8) : Option (Value × List UInt8) := (pPart l).map fun x => (ptV x.1, x.2)
theorem oPart_short {l : List UInt8} (h : l.length < 32) : oPart l = none := by unfold oPart pPart; rw [if_pos h]; rfl
theorem oPart_bad {l : List UInt8} (h : ¬ l.length < 32) (h2 : (vtake (l.drop 32)).2.2 ≠ 0) : oPart l = none := by unfold oPart pPart; rw [if_neg h, if_pos h2]; rfl
theorem oPart_great {l : List UInt8} {n j : Nat} (h : ¬ l.length < 32) (h2 : vtake (l.drop 32) = (n, j, 0)) (h3 : 4096 < n) : oPart l = none := by
  unfold oPart pPart; rw [if_neg h, h2, if_neg (by simp), if_pos h3]; rfl
theorem oPart_good {l : List UInt8} {n j : Nat} (h : ¬ l.length < 32) (h2 : vtake (l.drop 32) = (n, j, 0)) (h3 : ¬ 4096 < n) : oPart l = some (.agg #[.string ⟨(l.take 32).toArray⟩, .int .i64 (n : Int)], (l.drop 32).drop j) := by
  unfold oPart pPart; rw [if_neg h, h2, if_neg (by simp), if_neg h3, List.drop_drop]; rfl
set_option maxRecDepth 100000 in
set_option maxHeartbeats 4000000 in
theorem part_any (b : Nat) (l : List UInt8) (hl : l.length ≤ 1000000) (w : World) (hR : Rd w b l) :
    Calls Tryz.prog 84 #[.pointer (some ⟨b, 0, none⟩)] w (RdRet b w (oPart l)) := by
  have hb0 := (Below.refl w.heap.size w).alloc (Nat.le_refl _) (.cells #[.string ⟨#[]⟩, .int .i64 0] 40)
  have hlt := hR.lt
  have TA := Lib.hid (take_any b 32 l hl _ (hR.stays hb0))
  have HBX := Lib.hid (Row.made w #[.string ⟨#[]⟩, .int .i64 0] 40)
  have hne : w.heap.size ≠ b := by omega
  by_cases h32 : l.length < 32
  · have hO := Lib.hid (oPart_short h32)
    have hT : Hid (oTake 32 l = none) := if_neg (by omega)
    rw [hT.out] at TA
    clear hT h32
    go_enter Tryz.func84, Tryz.ntmps84
    go_wp2_with fail
    refine TA.out.mono ?_
    rintro e w1 ⟨⟨k, rfl⟩, hg⟩
    go_wp2
    refine ⟨rfl, ?_⟩
    rw [hO.out]
    exact ⟨⟨k, rfl⟩, grownBy_trans (grownBy_some hb0) hg⟩
  · have hT : Hid (oTake 32 l = some (.string ⟨(l.take 32).toArray⟩, l.drop 32)) := if_pos (by omega)
    rw [hT.out] at TA
    have NA := Lib.hid (fun w h => number_any b (l.drop 32) (by rw [List.length_drop]; omega) w h)
    obtain ⟨n, j, x, hv⟩ : ∃ n j x, vtake (l.drop 32) = (n, j, x) := ⟨_, _, _, rfl⟩
    have hON : Hid (oNumber (l.drop 32) = if x ≠ 0 then none else some (.int .u64 (n : Nat), (l.drop 32).drop j)) := show _ = _ by unfold oNumber; rw [hv]
    by_cases hx : x = 0
    · subst hx
      rw [if_neg (by simp)] at hON
      rw [hON.out] at NA
      by_cases h4 : 4096 < n
      · have hO := Lib.hid (oPart_great h32 hv h4)
        have q : decide ((4096 : Int) < (n : Int)) = true := decide_eq_true (by omega)
        clear hv h32 hT hON
        go_enter Tryz.func84, Tryz.ntmps84
        go_wp2_with fail
        refine TA.out.mono ?_
        rintro e w1 ⟨rfl, hg1, hR1⟩
        go_wp2_with fail
        refine (NA.out _ hR1).mono ?_
        rintro e w2 ⟨rfl, hg2, hR2⟩
        have HG := Lib.hid (grownBy_trans (grownBy_some (B := b) hb0) (grownBy_trans hg1 hg2))
        clear hg1 hg2 hR1 hR2
        go_wp2
        refine ⟨rfl, ?_⟩
        rw [hO.out]
        exact ⟨⟨4, rfl⟩, HG.out⟩
      · have hO := Lib.hid (oPart_good h32 hv h4)
        have q : decide ((4096 : Int) < (n : Int)) = false := decide_eq_false (by omega)
        have hn : n ≤ 4096 := by omega
        clear hv h32 hT hON h4
        go_enter Tryz.func84, Tryz.ntmps84
        go_wp2_with fail
        refine TA.out.mono ?_
        rintro e w1 ⟨rfl, hg1, hR1⟩
        go_wp2_with fail
        refine (NA.out _ hR1).mono ?_
        rintro e w2 ⟨rfl, hg2, hR2⟩
        have HG := Lib.hid (grownBy_trans (grownBy_some (B := b) hb0) (grownBy_trans hg1 hg2))
        have hX := (HBX.out.turned hg1 hne).turned hg2 hne
        have HR2 := Lib.hid hR2
        clear hg1 hg2 hR1 hR2
        have c0 := hX.cell 0; have c1 := hX.cell 1; have f0 := hX.free 0; have f1 := hX.free 1
        simp only [List.getElem?_toArray, List.getElem?_cons_zero, List.getElem?_cons_succ] at c0 c1
        clear hX
        go_wp2
        have d0 := cs_same (v := .string ⟨(l.take 32).toArray⟩) c0
        have d1 := cs_same (v := .int .i64 (n : Int)) ((cs_other (v := .string ⟨(l.take 32).toArray⟩) (i := 0) (j := 1) (by decide)).trans c1)
        have d2 := (cs_other (w := w2.setCell ⟨w.heap.size, 0, none⟩ (.string ⟨(l.take 32).toArray⟩)) (b := w.heap.size) (i := 1) (j := 0) (v := .int .i64 (n : Int)) (by decide)).trans d0
        refine bodyPost_ret (v := .agg #[.string ⟨(l.take 32).toArray⟩, .int .i64 (n : Int)]) (by simp [results, Tryz.results84, go_sem, d1, d2]) rfl ?_
        rw [hO.out]
        exact ⟨rfl, grownBy_setNew (grownBy_setNew HG.out (Nat.le_refl _) _) (Nat.le_refl _) _, (HR2.out.other _ (Ne.symm hne) _).other _ (Ne.symm hne) _⟩
    · rw [if_pos hx] at hON
      rw [hON.out] at NA
      have hO := Lib.hid (oPart_bad h32 (by rw [hv]; exact hx))
      clear hv h32 hT hON hx
      go_enter Tryz.func84, Tryz.ntmps84
      go_wp2_with fail
      refine TA.out.mono ?_
      rintro e w1 ⟨rfl, hg1, hR1⟩
      go_wp2_with fail
      refine (NA.out _ hR1).mono ?_
      rintro e w2 ⟨⟨k, rfl⟩, hg2⟩
      have HG := Lib.hid (grownBy_trans (grownBy_some (B := b) hb0) (grownBy_trans hg1 hg2))
      clear hg1 hg2 hR1
      go_wp2
      refine ⟨rfl, ?_⟩
      rw [hO.out]
      exact ⟨⟨k, rfl⟩, HG.out⟩

def oEntry (l : List UInt8) : Option (Value × List UInt8) := (pEntry l).map fun x => (enV x.1, x.2)
theorem oEntry_bad {l : List UInt8} (h : (vtakeText l).2.2 ≠ 0) : oEntry l = none := by unfold oEntry pEntry; rw [if_pos h]; rfl
theorem oEntry_short {l t : List UInt8} {j : Nat} (h : vtakeText l = (t, j, 0)) (h2 : (l.drop j).length < 33) : oEntry l = none := by
  unfold oEntry pEntry; rw [h, if_neg (by simp), if_pos h2]; rfl
theorem oEntry_good {l t r : List UInt8} {c : UInt8} {j : Nat} (h : vtakeText l = (t, j, 0)) (hd : l.drop j = c :: r) (h2 : 32 ≤ r.length) (q : Nat) (x : Bool) (hq : q = if c.toNat / 4 % 2 = 1 then 4 else 0) (hx : x = decide (c.toNat / 4 % 2 = 1)) :
    oEntry l = some (.agg #[.string ⟨t.toArray⟩, .int .i64 ((c.toNat - q : Nat) : Int), .bool x, .string ⟨(r.take 32).toArray⟩], r.drop 32) := by
  subst hq hx
  have h1 : l.drop (j + 1) = r := by rw [← List.drop_drop, hd]; rfl
  have h3 : l.drop (j + 33) = r.drop 32 := by rw [show j + 33 = j + 1 + 32 by omega, ← List.drop_drop, h1]
  unfold oEntry pEntry
  rw [h, if_neg (by simp)]
  simp only [hd, h1, h3]
  rw [if_neg (by simp; omega)]
  rfl
theorem and4_all : ∀ c : Fin 256, bits .and .i64 (c.val : Int) 4 = if c.val / 4 % 2 = 1 then 4 else 0 := by decide +kernel
theorem and4 (c : UInt8) : bits .and .i64 (c.toNat : Int) 4 = if c.toNat / 4 % 2 = 1 then 4 else 0 := and4_all ⟨c.toNat, c.toNat_lt⟩
set_option maxRecDepth 100000 in
set_option maxHeartbeats 4000000 in
theorem entry_any (b : Nat) (l : List UInt8) (hl : l.length ≤ 1000000) (w : World) (hR : Rd w b l) :
    Calls Tryz.prog 86 #[.pointer (some ⟨b, 0, none⟩)] w (RdRet b w (oEntry l)) := by
  have hb0 := (Below.refl w.heap.size w).alloc (Nat.le_refl _) (.cells #[.string ⟨#[]⟩, .int .i64 0, .bool false, .string ⟨#[]⟩] 43)
  have hlt := hR.lt
  have TX := Lib.hid (text_any b l hl _ (hR.stays hb0))
  have HBX := Lib.hid (Row.made w #[.string ⟨#[]⟩, .int .i64 0, .bool false, .string ⟨#[]⟩] 43)
  have hne : w.heap.size ≠ b := by omega
  obtain ⟨t, j, x, hv⟩ : ∃ n j x, vtakeText l = (n, j, x) := ⟨_, _, _, rfl⟩
  have hON : Hid (oText l = if x ≠ 0 then none else some (.string ⟨t.toArray⟩, l.drop j)) := show _ = _ by unfold oText; rw [hv]
  by_cases hx : x = 0
  · subst hx
    rw [if_neg (by simp)] at hON
    rw [hON.out] at TX
    have KA := Lib.hid (fun w h => kind_any b (l.drop j) (by rw [List.length_drop]; omega) w h)
    cases hd : l.drop j with
    | nil =>
      have hO := Lib.hid (oEntry_short hv (by rw [hd]; decide))
      rw [hd] at KA TX
      clear hv hON hd
      go_enter Tryz.func86, Tryz.ntmps86
      go_wp2_with fail
      refine TX.out.mono ?_
      rintro e w1 ⟨rfl, hg1, hR1⟩
      go_wp2_with fail
      refine (KA.out _ hR1).mono ?_
      rintro e w2 ⟨⟨k, rfl⟩, hg2⟩
      have HG := Lib.hid (grownBy_trans (grownBy_some (B := b) hb0) (grownBy_trans hg1 hg2))
      clear hg1 hg2 hR1
      go_wp2
      refine ⟨rfl, ?_⟩
      rw [hO.out]
      exact ⟨⟨k, rfl⟩, HG.out⟩
    | cons c r =>
      have hrl : r.length ≤ 1000000 := by have := congrArg List.length hd; rw [List.length_drop, List.length_cons] at this; omega
      have TA := Lib.hid (fun w h => take_any b 32 r hrl w h)
      rw [hd] at KA TX
      by_cases h32 : 32 ≤ r.length
      · have hT : Hid (oTake 32 r = some (.string ⟨(r.take 32).toArray⟩, r.drop 32)) := if_pos h32
        rw [hT.out] at TA
        have hc := c.toNat_lt
        have h4 := and4 c
        by_cases hq : c.toNat / 4 % 2 = 1
        · rw [if_pos hq] at h4
          have hO := Lib.hid (oEntry_good hv hd h32 4 true (by rw [if_pos hq]) (decide_eq_true hq).symm)
          have hc4 : 4 ≤ c.toNat := by omega
          have hI : ((c.toNat - 4 : Nat) : Int) = (c.toNat : Int) - 4 := by omega
          rw [hI] at hO
          clear hv hON hd hT h32 hq hI
          go_enter Tryz.func86, Tryz.ntmps86
          go_wp2_with fail
          refine TX.out.mono ?_
          rintro e w1 ⟨rfl, hg1, hR1⟩
          go_wp2_with fail
          refine (KA.out _ hR1).mono ?_
          rintro e w2 ⟨rfl, hg2, hR2⟩
          go_wp2_with fail
          refine (TA.out _ hR2).mono ?_
          rintro e w3 ⟨rfl, hg3, hR3⟩
          have HG := Lib.hid (grownBy_trans (grownBy_some (B := b) hb0) (grownBy_trans hg1 (grownBy_trans hg2 hg3)))
          have hX := ((HBX.out.turned hg1 hne).turned hg2 hne).turned hg3 hne
          have HR3 := Lib.hid hR3
          clear hg1 hg2 hg3 hR1 hR2 hR3
          have c0 := hX.cell 0; have c1 := hX.cell 1; have c2 := hX.cell 2; have c3 := hX.cell 3
          have f0 := hX.free 0; have f1 := hX.free 1; have f2 := hX.free 2; have f3 := hX.free 3
          simp only [List.getElem?_toArray, List.getElem?_cons_zero, List.getElem?_cons_succ] at c0 c1 c2 c3
          have HX := Lib.hid hX
          clear hX
          go_wp2
          have HW := row4_set HX.out (.string ⟨t.toArray⟩) (.int .i64 ((c.toNat : Int) - 4)) (.bool true) (.string ⟨(r.take 32).toArray⟩)
          obtain ⟨d0, d1, d2, d3⟩ := HW
          refine bodyPost_ret (v := .agg #[.string ⟨t.toArray⟩, .int .i64 ((c.toNat : Int) - 4), .bool true, .string ⟨(r.take 32).toArray⟩]) (by simp [results, Tryz.results86, go_sem, d0, d1, d2, d3]) rfl ?_
          rw [hO.out]
          exact ⟨rfl, grownBy_setNew (grownBy_setNew (grownBy_setNew (grownBy_setNew HG.out (Nat.le_refl _) _) (Nat.le_refl _) _) (Nat.le_refl _) _) (Nat.le_refl _) _, (((HR3.out.other _ (Ne.symm hne) _).other _ (Ne.symm hne) _).other _ (Ne.symm hne) _).other _ (Ne.symm hne) _⟩
        · rw [if_neg hq] at h4
          have hO := Lib.hid (oEntry_good hv hd h32 0 false (by rw [if_neg hq]) (decide_eq_false hq).symm)
          rw [Nat.sub_zero] at hO
          clear hv hON hd hT h32 hq
          go_enter Tryz.func86, Tryz.ntmps86
          go_wp2_with fail
          refine TX.out.mono ?_
          rintro e w1 ⟨rfl, hg1, hR1⟩
          go_wp2_with fail
          refine (KA.out _ hR1).mono ?_
          rintro e w2 ⟨rfl, hg2, hR2⟩
          go_wp2_with fail
          refine (TA.out _ hR2).mono ?_
          rintro e w3 ⟨rfl, hg3, hR3⟩
          have HG := Lib.hid (grownBy_trans (grownBy_some (B := b) hb0) (grownBy_trans hg1 (grownBy_trans hg2 hg3)))
          have hX := ((HBX.out.turned hg1 hne).turned hg2 hne).turned hg3 hne
          have HR3 := Lib.hid hR3
          clear hg1 hg2 hg3 hR1 hR2 hR3
          have c0 := hX.cell 0; have c1 := hX.cell 1; have c2 := hX.cell 2; have c3 := hX.cell 3
          have f0 := hX.free 0; have f1 := hX.free 1; have f2 := hX.free 2; have f3 := hX.free 3
          simp only [List.getElem?_toArray, List.getElem?_cons_zero, List.getElem?_cons_succ] at c0 c1 c2 c3
          have HX := Lib.hid hX
          clear hX
          go_wp2
          have HW := row4_set HX.out (.string ⟨t.toArray⟩) (.int .i64 (c.toNat : Int)) (.bool false) (.string ⟨(r.take 32).toArray⟩)
          obtain ⟨d0, d1, d2, d3⟩ := HW
          refine bodyPost_ret (v := .agg #[.string ⟨t.toArray⟩, .int .i64 (c.toNat : Int), .bool false, .string ⟨(r.take 32).toArray⟩]) (by simp [results, Tryz.results86, go_sem, d0, d1, d2, d3]) rfl ?_
          rw [hO.out]
          exact ⟨rfl, grownBy_setNew (grownBy_setNew (grownBy_setNew (grownBy_setNew HG.out (Nat.le_refl _) _) (Nat.le_refl _) _) (Nat.le_refl _) _) (Nat.le_refl _) _, (((HR3.out.other _ (Ne.symm hne) _).other _ (Ne.symm hne) _).other _ (Ne.symm hne) _).other _ (Ne.symm hne) _⟩
      · have hO := Lib.hid (oEntry_short hv (by rw [hd, List.length_cons]; omega))
        have hT : Hid (oTake 32 r = none) := if_neg (by omega)
        rw [hT.out] at TA
        have hc := c.toNat_lt
        clear hv hON hd hT h32
        go_enter Tryz.func86, Tryz.ntmps86
        go_wp2_with fail
        refine TX.out.mono ?_
        rintro e w1 ⟨rfl, hg1, hR1⟩
        go_wp2_with fail
        refine (KA.out _ hR1).mono ?_
        rintro e w2 ⟨rfl, hg2, hR2⟩
        go_wp2_with fail
        refine (TA.out _ hR2).mono ?_
        rintro e w3 ⟨⟨k, rfl⟩, hg3⟩
        have HG := Lib.hid (grownBy_trans (grownBy_some (B := b) hb0) (grownBy_trans hg1 (grownBy_trans hg2 hg3)))
        clear hg1 hg2 hg3 hR1 hR2
        go_wp2
        refine ⟨rfl, ?_⟩
        rw [hO.out]
        exact ⟨⟨k, rfl⟩, HG.out⟩
  · rw [if_pos hx] at hON
    rw [hON.out] at TX
    have hO := Lib.hid (oEntry_bad (by rw [hv]; exact hx))
    clear hv hON hx
    go_enter Tryz.func86, Tryz.ntmps86
    go_wp2_with fail
    refine TX.out.mono ?_
    rintro e w1 ⟨⟨k, rfl⟩, hg1⟩
    have HG := Lib.hid (grownBy_trans (grownBy_some (B := b) hb0) hg1)
    go_wp2
    refine ⟨rfl, ?_⟩
    rw [hO.out]
    exact ⟨⟨k, rfl⟩, HG.out⟩
end Go.Proofs.YtohicccbaenegaaGreatDoor

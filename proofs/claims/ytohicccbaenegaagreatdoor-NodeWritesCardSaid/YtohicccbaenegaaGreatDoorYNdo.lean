/-
  Contracts over this translation: the node that a reader reads.
-/
import Derived.Test.YtohicccbaenegaaGreatDoorYNdn
import Derived.Test.YtohicccbaenegaaGreatDoorQ2
set_option linter.unusedVariables false
namespace Go.Proofs.YtohicccbaenegaaGreatDoor
open Go.RowKit
attribute [local go_sem] Oper.semAt_some

def RdNode (b : Nat) (w : World) (o : Option (Nd × List UInt8)) (e : Ending) (w' : World) : Prop :=
  match o with
  | some x => (∃ pv ev, e = .returned (ndV x.1 pv ev) ∧ OwnP w.heap.size w' pv x.1.ps ∧ OwnE w.heap.size w' ev x.1.es) ∧ w.grownBy w' (some b) ∧ Rd w' b x.2
  | none => Threw b w e w'
theorem row4_row {w : World} {B : Nat} {a b c d : Value} {T : TypeId} (h : Row w B #[a, b, c, d] T) (p q r s : Value) :
    Row ((((w.setCell ⟨B, 0, none⟩ p).setCell ⟨B, 1, none⟩ q).setCell ⟨B, 2, none⟩ r).setCell ⟨B, 3, none⟩ s) B #[p, q, r, s] T := (((h.set 0 p).set 1 q).set 2 r).set 3 s
theorem OwnP.setBelow {B : Nat} {w : World} {v : Value} {L : List Pt} (h : OwnP B w v L) {a : Addr} (ha : a.block < B) (u : Value) : OwnP B (w.setCell a u) v L := ownsRow_setCell_below h ha u
theorem OwnE.setBelow {B : Nat} {w : World} {v : Value} {L : List En} (h : OwnE B w v L) {a : Addr} (ha : a.block < B) (u : Value) : OwnE B (w.setCell a u) v L := ownsRow_setCell_below h ha u
theorem ownsRow_mono {w : World} {base base' : Nat} {e : TypeId} {size : Nat} {v : Value} {n : Nat} {xs : List Value} (h : w.ownsRow base e size v n xs) (hb : base' ≤ base) : w.ownsRow base' e size v n xs := by
  obtain ⟨h1, h2⟩ := h
  refine ⟨h1, ?_⟩
  rcases h2 with h2 | ⟨g, cap, cur, hv, hg, r⟩
  · exact Or.inl h2
  · exact Or.inr ⟨g, cap, cur, hv, Nat.le_trans hb hg, r⟩
theorem OwnP.mono {B B' : Nat} {w : World} {v : Value} {L : List Pt} (h : OwnP B w v L) (hb : B' ≤ B) : OwnP B' w v L := ownsRow_mono h hb
theorem OwnE.mono {B B' : Nat} {w : World} {v : Value} {L : List En} (h : OwnE B w v L) (hb : B' ≤ B) : OwnE B' w v L := ownsRow_mono h hb
theorem pNode_one {c : UInt8} {r : List UInt8} (h : c.toNat = 1) : pNode (c :: r) = some (⟨1, ⟨r.toArray⟩, [], []⟩, []) := by unfold pNode; simp only; rw [if_pos h]
theorem pNode_other {c : UInt8} {r : List UInt8} (h1 : c.toNat ≠ 1) (h2 : c.toNat ≠ 2) (h3 : c.toNat ≠ 3) : pNode (c :: r) = some (⟨(c.toNat : Int), ⟨#[]⟩, [], []⟩, r) := by
  unfold pNode; simp only; rw [if_neg h1, if_neg h2, if_neg h3]
theorem pNode_file {c : UInt8} {r : List UInt8} {n j x : Nat} (h : c.toNat = 2) (hv : vtake r = (n, j, x)) : pNode (c :: r) = if x ≠ 0 then none else (pList pPart n (r.drop j)).map fun y => (⟨2, ⟨#[]⟩, y.1, []⟩, y.2) := by
  unfold pNode; simp only; rw [if_neg (by omega), if_pos h, hv]
theorem pNode_dir {c : UInt8} {r : List UInt8} {n j x : Nat} (h : c.toNat = 3) (hv : vtake r = (n, j, x)) : pNode (c :: r) = if x ≠ 0 then none else (pList pEntry n (r.drop j)).map fun y => (⟨3, ⟨#[]⟩, [], y.1⟩, y.2) := by
  unfold pNode; simp only; rw [if_neg (by omega), if_neg (by omega), if_pos h, hv]
set_option maxRecDepth 100000 in
set_option maxHeartbeats 2000000 in
theorem node_any (b : Nat) (l : List UInt8) (hl : l.length ≤ 1000000) (w : World) (hR : Rd w b l) :
    Calls Tryz.prog 61 #[.pointer (some ⟨b, 0, none⟩)] w (RdNode b w (pNode l)) := by
  have hb0 := (Below.refl w.heap.size w).alloc (Nat.le_refl _) (.cells #[.int .i64 0, .string ⟨#[]⟩, .slice none 0 0, .slice none 0 0] 25)
  have hlt := hR.lt
  have KA := Lib.hid (kind_any b l hl _ (hR.stays hb0))
  have HBX := Lib.hid (Row.made w #[.int .i64 0, .string ⟨#[]⟩, .slice none 0 0, .slice none 0 0] 25)
  have hne : w.heap.size ≠ b := by omega
  cases l with
  | nil =>
    go_enter Tryz.func61, Tryz.ntmps61
    go_wp2_with fail
    refine KA.out.mono ?_
    rintro e w1 ⟨⟨k, rfl⟩, hg⟩
    go_wp2
    exact ⟨rfl, ⟨k, rfl⟩, grownBy_trans (grownBy_some hb0) hg⟩
  | cons c r =>
    have hc := c.toNat_lt
    have hrl : r.length ≤ 1000000 := by rw [List.length_cons] at hl; omega
    by_cases h1 : c.toNat = 1
    · have q1 : ((c.toNat : Int) == 1) = true := ie_t (by omega)
      have hk1 : (c.toNat : Int) = 1 := by omega
      have HN := Lib.hid (pNode_one (r := r) h1)
      have KA2 : Hid (Calls Tryz.prog 80 #[.pointer (some ⟨b, 0, none⟩)] (w.alloc (.cells #[.int .i64 0, .string ⟨#[]⟩, .slice none 0 0, .slice none 0 0] 25)) (RdRet b (w.alloc (.cells #[.int .i64 0, .string ⟨#[]⟩, .slice none 0 0, .slice none 0 0] 25)) (some (.int .i64 1, r)))) := Lib.hid (by have := KA.out; unfold oKind at this; simp only [hk1] at this; exact this)
      clear KA
      have KA := KA2
      clear KA2 q1 hk1 h1
      go_enter Tryz.func61, Tryz.ntmps61
      go_wp2_with fail
      refine KA.out.mono ?_
      rintro e w1 ⟨rfl, hg1, hR1⟩
      have HG1 := Lib.hid (grownBy_trans (grownBy_some (B := b) hb0) hg1)
      have hX := HBX.out.turned hg1 hne
      have c0 := hX.cell 0; have c1 := hX.cell 1; have c2 := hX.cell 2; have c3 := hX.cell 3
      have f0 := hX.free 0; have f1 := hX.free 1; have f2 := hX.free 2; have f3 := hX.free 3
      simp only [List.getElem?_toArray, List.getElem?_cons_zero, List.getElem?_cons_succ] at c0 c1 c2 c3
      have hlx := hX.lt
      have HX := Lib.hid hX; have HR1 := Lib.hid hR1
      clear hX hR1 hg1
      have r0 := (HR1.out.stays (Below.refl _ _))
      obtain ⟨S, hS, hRS⟩ := r0
      have s0 := hRS.cell 0
      simp only [List.getElem?_toArray, List.getElem?_cons_zero] at s0
      have hblt := hRS.lt
      have hSz : S.size = r.length := by rw [Lib.size_eq, hS]
      go_wp2_with fail
      obtain ⟨V, hV⟩ : ∃ V, V = w1.alloc (.cells #[.int .i64 1, .string ⟨#[]⟩, .slice none 0 0, .slice none 0 0] 25) := ⟨_, rfl⟩
      have hbV : Below w1.heap.size w1 V := by rw [hV]; exact (Below.refl _ _).alloc (Nat.le_refl _) _
      have HB : Hid (Row V w1.heap.size #[.int .i64 1, .string ⟨#[]⟩, .slice none 0 0, .slice none 0 0] 25) := Lib.hid (by rw [hV]; exact Row.made _ _ _)
      have HRV := Lib.hid (HR1.out.stays hbV)
      have HXV := Lib.hid (HX.out.step hbV)
      have HGV := Lib.hid (grownBy_then HG1.out hbV)
      have hbx : w1.heap.size ≠ b := by have := HR1.out.lt; omega
      have hxx : w1.heap.size ≠ w.heap.size := by omega
      obtain ⟨X, hXe⟩ : ∃ X, X = w1.heap.size := ⟨_, rfl⟩
      obtain ⟨B0, hB0⟩ : ∃ B0, B0 = w.heap.size := ⟨_, rfl⟩
      rw [← hV]
      have TA := Lib.hid (take_any b r.length r hrl V HRV.out)
      have hT : Hid (oTake r.length r = some (.string ⟨r.toArray⟩, [])) := Lib.hid (by unfold oTake; rw [if_pos (by omega), List.take_length, List.drop_length])
      rw [hT.out] at TA
      clear hS hRS s0 hSz hT hV c0 c1 c2 c3 f0 f1 f2 f3

      with_reducible refine TA.out.mono ?_
      rintro e w2 ⟨rfl, hg2, hR2⟩
      have HG2 := Lib.hid (grownBy_trans HGV.out hg2)
      have HR2 := Lib.hid hR2
      have hsz2 := hg2.size
      have hbx2 := HB.out.turned hg2 hbx
      have hbx3 := HXV.out.turned hg2 hne
      have HB2 := Lib.hid hbx2; have HX2 := Lib.hid hbx3
      have b0 := hbx2.cell 0; have b1 := hbx2.cell 1; have b2 := hbx2.cell 2; have b3 := hbx2.cell 3
      have g0 := hbx2.free 0; have g1 := hbx2.free 1; have g2 := hbx2.free 2; have g3 := hbx2.free 3
      have c0 := hbx3.cell 0; have c1 := hbx3.cell 1; have c2 := hbx3.cell 2; have c3 := hbx3.cell 3
      have f0 := hbx3.free 0; have f1 := hbx3.free 1; have f2 := hbx3.free 2; have f3 := hbx3.free 3
      simp only [List.getElem?_toArray, List.getElem?_cons_zero, List.getElem?_cons_succ] at b0 b1 b2 b3 c0 c1 c2 c3
      clear hbx2 hbx3
      clear hg2 hR2 hXe hB0
      have hs1 := HB2.out.set 1 (.string ⟨r.toArray⟩)
      have hs2 := HX2.out.other ⟨w1.heap.size, 1, none⟩ (.string ⟨r.toArray⟩) (Ne.symm hxx)
      have e0 := hs1.cell 0; have e1 := hs1.cell 1; have e2 := hs1.cell 2; have e3 := hs1.cell 3
      have p0 := hs2.cell 0; have p1 := hs2.cell 1; have p2 := hs2.cell 2; have p3 := hs2.cell 3
      simp at e0 e1 e2 e3 p0 p1 p2 p3
      go_wp2
      have hR4 := row4_row hs2 (.int .i64 1) (.string ⟨r.toArray⟩) (.slice none 0 0) (.slice none 0 0)
      have d0 := hR4.cell 0; have d1 := hR4.cell 1; have d2 := hR4.cell 2; have d3 := hR4.cell 3
      simp only [List.getElem?_toArray, List.getElem?_cons_zero, List.getElem?_cons_succ] at d0 d1 d2 d3
      refine bodyPost_ret (v := .agg #[.int .i64 1, .string ⟨r.toArray⟩, .slice none 0 0, .slice none 0 0]) (by simp [results, Tryz.results61, go_sem, d0, d1, d2, d3]) rfl ?_
      rw [HN.out]
      refine ⟨⟨_, _, rfl, parts_own_nil _ _, entries_own_nil _ _⟩, ?_, ?_⟩
      · exact grownBy_setNew (grownBy_setNew (grownBy_setNew (grownBy_setNew (grownBy_setNew HG2.out (by show w.heap.size ≤ w1.heap.size; omega) _) (Nat.le_refl _) _) (Nat.le_refl _) _) (Nat.le_refl _) _) (Nat.le_refl _) _
      · exact ((((HR2.out.other _ (Ne.symm hbx) _).other _ (Ne.symm hne) _).other _ (Ne.symm hne) _).other _ (Ne.symm hne) _).other _ (Ne.symm hne) _
    · have q1 : ((c.toNat : Int) == 1) = false := ie_f (by omega)
      by_cases h2 : c.toNat = 2
      · have hk1 : (c.toNat : Int) = 2 := by omega
        obtain ⟨n, j, x, hv⟩ : ∃ n j x, vtake r = (n, j, x) := ⟨_, _, _, rfl⟩
        have HN := Lib.hid (pNode_file (r := r) h2 hv)
        have KA2 : Hid (Calls Tryz.prog 80 #[.pointer (some ⟨b, 0, none⟩)] (w.alloc (.cells #[.int .i64 0, .string ⟨#[]⟩, .slice none 0 0, .slice none 0 0] 25)) (RdRet b (w.alloc (.cells #[.int .i64 0, .string ⟨#[]⟩, .slice none 0 0, .slice none 0 0] 25)) (some (.int .i64 2, r)))) := Lib.hid (by have := KA.out; unfold oKind at this; simp only [hk1] at this; exact this)
        clear KA
        have KA := KA2
        have NA := Lib.hid (fun w h => number_any b r hrl w h)
        have hON : Hid (oNumber r = if x ≠ 0 then none else some (.int .u64 (n : Nat), r.drop j)) := show _ = _ by unfold oNumber; rw [hv]
        rw [hON.out] at NA
        clear KA2 q1 h1 h2 hk1 hON
        by_cases hx : x = 0
        · subst hx
          rw [if_neg (by simp)] at HN NA
          have hu := (put_take hv).2.2.2.2
          have LA := Lib.hid (fun w h => listP_any b n hu (r.drop j) (by rw [List.length_drop]; omega) w h)
          clear hv
          go_enter Tryz.func61, Tryz.ntmps61
          go_wp2_with fail
          refine KA.out.mono ?_
          rintro e w1 ⟨rfl, hg1, hR1⟩
          have HG1 := Lib.hid (grownBy_trans (grownBy_some (B := b) hb0) hg1)
          have hX := HBX.out.turned hg1 hne
          have c0 := hX.cell 0; have c1 := hX.cell 1; have c2 := hX.cell 2; have c3 := hX.cell 3
          have f0 := hX.free 0; have f1 := hX.free 1; have f2 := hX.free 2; have f3 := hX.free 3
          simp only [List.getElem?_toArray, List.getElem?_cons_zero, List.getElem?_cons_succ] at c0 c1 c2 c3
          have hlx := hX.lt
          have HX := Lib.hid hX; have HR1 := Lib.hid hR1
          clear hX hR1 hg1
          have hblt := HR1.out.lt
          go_wp2_with fail
          obtain ⟨V, hV⟩ : ∃ V, V = w1.alloc (.cells #[.int .i64 2, .string ⟨#[]⟩, .slice none 0 0, .slice none 0 0] 25) := ⟨_, rfl⟩
          have hbV : Below w1.heap.size w1 V := by rw [hV]; exact (Below.refl _ _).alloc (Nat.le_refl _) _
          have HB : Hid (Row V w1.heap.size #[.int .i64 2, .string ⟨#[]⟩, .slice none 0 0, .slice none 0 0] 25) := Lib.hid (by rw [hV]; exact Row.made _ _ _)
          have HRV := Lib.hid (HR1.out.stays hbV)
          have HXV := Lib.hid (HX.out.step hbV)
          have HGV := Lib.hid (grownBy_then HG1.out hbV)
          have hbx : w1.heap.size ≠ b := by have := HR1.out.lt; omega
          have hxx : w1.heap.size ≠ w.heap.size := by omega
          obtain ⟨X, hXe⟩ : ∃ X, X = w1.heap.size := ⟨_, rfl⟩
          obtain ⟨B0, hB0⟩ : ∃ B0, B0 = w.heap.size := ⟨_, rfl⟩
          rw [← hV]
          clear hV c0 c1 c2 c3 f0 f1 f2 f3
          with_reducible refine (NA.out V HRV.out).mono ?_
          rintro e w2 ⟨rfl, hg2, hR2⟩
          have HG2 := Lib.hid (grownBy_trans HGV.out hg2)
          have HBn := Lib.hid (HB.out.turned hg2 hbx)
          have HXn := Lib.hid (HXV.out.turned hg2 hne)
          have HR2 := Lib.hid hR2
          clear hg2 hR2
          go_wp2_with fail
          have LA2 := Lib.hid (LA.out w2 HR2.out)
          cases hp : pList pPart n (r.drop j) with
          | none =>
            rw [hp] at LA2 HN
            clear hp
            with_reducible refine LA2.out.mono ?_
            rintro e w3 ⟨⟨k, rfl⟩, hg3⟩
            have HG3 := Lib.hid (grownBy_trans HG2.out hg3)
            clear hg3
            go_wp2
            refine ⟨rfl, ?_⟩
            rw [HN.out]
            exact ⟨⟨k, rfl⟩, HG3.out⟩
          | some y =>
            obtain ⟨L, r'⟩ := y
            rw [hp] at LA2 HN
            clear hp
            with_reducible refine LA2.out.mono ?_
            rintro e w3 ⟨⟨v, rfl, hO⟩, hg3, hR3⟩
            have HG3 := Lib.hid (grownBy_trans HG2.out hg3)
            have HR3 := Lib.hid hR3
            have hX2 := HBn.out.lt; have hB2 := HXn.out.lt
            obtain ⟨_, av, cv, hve, _, _⟩ := hO.is
            subst hve
            have HO := Lib.hid hO
            have hbx2 := HBn.out.turned hg3 hbx
            have hbx3 := HXn.out.turned hg3 hne
            have HB2 := Lib.hid hbx2; have HX2 := Lib.hid hbx3
            have b0 := hbx2.cell 0; have b1 := hbx2.cell 1; have b2 := hbx2.cell 2; have b3 := hbx2.cell 3
            have g0 := hbx2.free 0; have g1 := hbx2.free 1; have g2 := hbx2.free 2; have g3 := hbx2.free 3
            have c0 := hbx3.cell 0; have c1 := hbx3.cell 1; have c2 := hbx3.cell 2; have c3 := hbx3.cell 3
            have f0 := hbx3.free 0; have f1 := hbx3.free 1; have f2 := hbx3.free 2; have f3 := hbx3.free 3
            simp only [List.getElem?_toArray, List.getElem?_cons_zero, List.getElem?_cons_succ] at b0 b1 b2 b3 c0 c1 c2 c3
            clear hbx2 hbx3
            clear hg3 hR3 hO hXe hB0
            have hs1 := HB2.out.set 2 (.slice av L.length cv)
            have hs2 := HX2.out.other ⟨w1.heap.size, 2, none⟩ (.slice av L.length cv) (Ne.symm hxx)
            have e0 := hs1.cell 0; have e1 := hs1.cell 1; have e2 := hs1.cell 2; have e3 := hs1.cell 3
            have p0 := hs2.cell 0; have p1 := hs2.cell 1; have p2 := hs2.cell 2; have p3 := hs2.cell 3
            simp at e0 e1 e2 e3 p0 p1 p2 p3
            go_wp2
            have hR4 := row4_row hs2 (.int .i64 2) (.string ⟨#[]⟩) (.slice av L.length cv) (.slice none 0 0)
            have d0 := hR4.cell 0; have d1 := hR4.cell 1; have d2 := hR4.cell 2; have d3 := hR4.cell 3
            simp only [List.getElem?_toArray, List.getElem?_cons_zero, List.getElem?_cons_succ] at d0 d1 d2 d3
            refine bodyPost_ret (v := .agg #[.int .i64 2, .string ⟨#[]⟩, .slice av L.length cv, .slice none 0 0]) (by simp [results, Tryz.results61, go_sem, d0, d1, d2, d3]) rfl ?_
            rw [HN.out]
            refine ⟨⟨_, _, rfl, (((((HO.out.setBelow (a := ⟨w1.heap.size, 2, none⟩) hX2 _).setBelow (a := ⟨w.heap.size, 0, none⟩) hB2 _).setBelow (a := ⟨w.heap.size, 1, none⟩) hB2 _).setBelow (a := ⟨w.heap.size, 2, none⟩) hB2 _).setBelow (a := ⟨w.heap.size, 3, none⟩) hB2 _).mono (Nat.le_of_lt hB2), entries_own_nil _ _⟩, ?_, ?_⟩
            · exact grownBy_setNew (grownBy_setNew (grownBy_setNew (grownBy_setNew (grownBy_setNew HG3.out (by show w.heap.size ≤ w1.heap.size; omega) _) (Nat.le_refl _) _) (Nat.le_refl _) _) (Nat.le_refl _) _) (Nat.le_refl _) _
            · exact ((((HR3.out.other _ (Ne.symm hbx) _).other _ (Ne.symm hne) _).other _ (Ne.symm hne) _).other _ (Ne.symm hne) _).other _ (Ne.symm hne) _
        · rw [if_pos hx] at HN NA
          clear hv hx
          go_enter Tryz.func61, Tryz.ntmps61
          go_wp2_with fail
          refine KA.out.mono ?_
          rintro e w1 ⟨rfl, hg1, hR1⟩
          have HG1 := Lib.hid (grownBy_trans (grownBy_some (B := b) hb0) hg1)
          have hX := HBX.out.turned hg1 hne
          have c0 := hX.cell 0; have c1 := hX.cell 1; have c2 := hX.cell 2; have c3 := hX.cell 3
          have f0 := hX.free 0; have f1 := hX.free 1; have f2 := hX.free 2; have f3 := hX.free 3
          simp only [List.getElem?_toArray, List.getElem?_cons_zero, List.getElem?_cons_succ] at c0 c1 c2 c3
          have hlx := hX.lt
          have HX := Lib.hid hX; have HR1 := Lib.hid hR1
          clear hX hR1 hg1
          have hblt := HR1.out.lt
          go_wp2_with fail
          obtain ⟨V, hV⟩ : ∃ V, V = w1.alloc (.cells #[.int .i64 2, .string ⟨#[]⟩, .slice none 0 0, .slice none 0 0] 25) := ⟨_, rfl⟩
          have hbV : Below w1.heap.size w1 V := by rw [hV]; exact (Below.refl _ _).alloc (Nat.le_refl _) _
          have HB : Hid (Row V w1.heap.size #[.int .i64 2, .string ⟨#[]⟩, .slice none 0 0, .slice none 0 0] 25) := Lib.hid (by rw [hV]; exact Row.made _ _ _)
          have HRV := Lib.hid (HR1.out.stays hbV)
          have HXV := Lib.hid (HX.out.step hbV)
          have HGV := Lib.hid (grownBy_then HG1.out hbV)
          have hbx : w1.heap.size ≠ b := by have := HR1.out.lt; omega
          have hxx : w1.heap.size ≠ w.heap.size := by omega
          obtain ⟨X, hXe⟩ : ∃ X, X = w1.heap.size := ⟨_, rfl⟩
          obtain ⟨B0, hB0⟩ : ∃ B0, B0 = w.heap.size := ⟨_, rfl⟩
          rw [← hV]
          clear hV c0 c1 c2 c3 f0 f1 f2 f3
          with_reducible refine (NA.out V HRV.out).mono ?_
          rintro e w2 ⟨⟨k, rfl⟩, hg2⟩
          have HG2 := Lib.hid (grownBy_trans HGV.out hg2)
          clear hg2
          go_wp2
          refine ⟨rfl, ?_⟩
          rw [HN.out]
          exact ⟨⟨k, rfl⟩, HG2.out⟩
      · have q2 : ((c.toNat : Int) == 2) = false := ie_f (by omega)
        by_cases h3 : c.toNat = 3
        · have hk1 : (c.toNat : Int) = 3 := by omega
          obtain ⟨n, j, x, hv⟩ : ∃ n j x, vtake r = (n, j, x) := ⟨_, _, _, rfl⟩
          have HN := Lib.hid (pNode_dir (r := r) h3 hv)
          have KA2 : Hid (Calls Tryz.prog 80 #[.pointer (some ⟨b, 0, none⟩)] (w.alloc (.cells #[.int .i64 0, .string ⟨#[]⟩, .slice none 0 0, .slice none 0 0] 25)) (RdRet b (w.alloc (.cells #[.int .i64 0, .string ⟨#[]⟩, .slice none 0 0, .slice none 0 0] 25)) (some (.int .i64 3, r)))) := Lib.hid (by have := KA.out; unfold oKind at this; simp only [hk1] at this; exact this)
          clear KA
          have KA := KA2
          have NA := Lib.hid (fun w h => number_any b r hrl w h)
          have hON : Hid (oNumber r = if x ≠ 0 then none else some (.int .u64 (n : Nat), r.drop j)) := show _ = _ by unfold oNumber; rw [hv]
          rw [hON.out] at NA
          clear KA2 q1 h1 q2 h2 h3 hk1 hON
          by_cases hx : x = 0
          · subst hx
            rw [if_neg (by simp)] at HN NA
            have hu := (put_take hv).2.2.2.2
            have LA := Lib.hid (fun w h => listE_any b n hu (r.drop j) (by rw [List.length_drop]; omega) w h)
            clear hv
            go_enter Tryz.func61, Tryz.ntmps61
            go_wp2_with fail
            refine KA.out.mono ?_
            rintro e w1 ⟨rfl, hg1, hR1⟩
            have HG1 := Lib.hid (grownBy_trans (grownBy_some (B := b) hb0) hg1)
            have hX := HBX.out.turned hg1 hne
            have c0 := hX.cell 0; have c1 := hX.cell 1; have c2 := hX.cell 2; have c3 := hX.cell 3
            have f0 := hX.free 0; have f1 := hX.free 1; have f2 := hX.free 2; have f3 := hX.free 3
            simp only [List.getElem?_toArray, List.getElem?_cons_zero, List.getElem?_cons_succ] at c0 c1 c2 c3
            have hlx := hX.lt
            have HX := Lib.hid hX; have HR1 := Lib.hid hR1
            clear hX hR1 hg1
            have hblt := HR1.out.lt
            go_wp2_with fail
            obtain ⟨V, hV⟩ : ∃ V, V = w1.alloc (.cells #[.int .i64 3, .string ⟨#[]⟩, .slice none 0 0, .slice none 0 0] 25) := ⟨_, rfl⟩
            have hbV : Below w1.heap.size w1 V := by rw [hV]; exact (Below.refl _ _).alloc (Nat.le_refl _) _
            have HB : Hid (Row V w1.heap.size #[.int .i64 3, .string ⟨#[]⟩, .slice none 0 0, .slice none 0 0] 25) := Lib.hid (by rw [hV]; exact Row.made _ _ _)
            have HRV := Lib.hid (HR1.out.stays hbV)
            have HXV := Lib.hid (HX.out.step hbV)
            have HGV := Lib.hid (grownBy_then HG1.out hbV)
            have hbx : w1.heap.size ≠ b := by have := HR1.out.lt; omega
            have hxx : w1.heap.size ≠ w.heap.size := by omega
            obtain ⟨X, hXe⟩ : ∃ X, X = w1.heap.size := ⟨_, rfl⟩
            obtain ⟨B0, hB0⟩ : ∃ B0, B0 = w.heap.size := ⟨_, rfl⟩
            rw [← hV]
            clear hV c0 c1 c2 c3 f0 f1 f2 f3
            with_reducible refine (NA.out V HRV.out).mono ?_
            rintro e w2 ⟨rfl, hg2, hR2⟩
            have HG2 := Lib.hid (grownBy_trans HGV.out hg2)
            have HBn := Lib.hid (HB.out.turned hg2 hbx)
            have HXn := Lib.hid (HXV.out.turned hg2 hne)
            have HR2 := Lib.hid hR2
            clear hg2 hR2
            go_wp2_with fail
            have LA2 := Lib.hid (LA.out w2 HR2.out)
            cases hp : pList pEntry n (r.drop j) with
            | none =>
              rw [hp] at LA2 HN
              clear hp
              with_reducible refine LA2.out.mono ?_
              rintro e w3 ⟨⟨k, rfl⟩, hg3⟩
              have HG3 := Lib.hid (grownBy_trans HG2.out hg3)
              clear hg3
              go_wp2
              refine ⟨rfl, ?_⟩
              rw [HN.out]
              exact ⟨⟨k, rfl⟩, HG3.out⟩
            | some y =>
              obtain ⟨L, r'⟩ := y
              rw [hp] at LA2 HN
              clear hp
              with_reducible refine LA2.out.mono ?_
              rintro e w3 ⟨⟨v, rfl, hO⟩, hg3, hR3⟩
              have HG3 := Lib.hid (grownBy_trans HG2.out hg3)
              have HR3 := Lib.hid hR3
              have hX2 := HBn.out.lt; have hB2 := HXn.out.lt
              obtain ⟨_, av, cv, hve, _, _⟩ := hO.is
              subst hve
              have HO := Lib.hid hO
              have hbx2 := HBn.out.turned hg3 hbx
              have hbx3 := HXn.out.turned hg3 hne
              have HB2 := Lib.hid hbx2; have HX2 := Lib.hid hbx3
              have b0 := hbx2.cell 0; have b1 := hbx2.cell 1; have b2 := hbx2.cell 2; have b3 := hbx2.cell 3
              have g0 := hbx2.free 0; have g1 := hbx2.free 1; have g2 := hbx2.free 2; have g3 := hbx2.free 3
              have c0 := hbx3.cell 0; have c1 := hbx3.cell 1; have c2 := hbx3.cell 2; have c3 := hbx3.cell 3
              have f0 := hbx3.free 0; have f1 := hbx3.free 1; have f2 := hbx3.free 2; have f3 := hbx3.free 3
              simp only [List.getElem?_toArray, List.getElem?_cons_zero, List.getElem?_cons_succ] at b0 b1 b2 b3 c0 c1 c2 c3
              clear hbx2 hbx3
              clear hg3 hR3 hO hXe hB0
              have hs1 := HB2.out.set 3 (.slice av L.length cv)
              have hs2 := HX2.out.other ⟨w1.heap.size, 3, none⟩ (.slice av L.length cv) (Ne.symm hxx)
              have e0 := hs1.cell 0; have e1 := hs1.cell 1; have e2 := hs1.cell 2; have e3 := hs1.cell 3
              have p0 := hs2.cell 0; have p1 := hs2.cell 1; have p2 := hs2.cell 2; have p3 := hs2.cell 3
              simp at e0 e1 e2 e3 p0 p1 p2 p3
              go_wp2
              have hR4 := row4_row hs2 (.int .i64 3) (.string ⟨#[]⟩) (.slice none 0 0) (.slice av L.length cv)
              have d0 := hR4.cell 0; have d1 := hR4.cell 1; have d2 := hR4.cell 2; have d3 := hR4.cell 3
              simp only [List.getElem?_toArray, List.getElem?_cons_zero, List.getElem?_cons_succ] at d0 d1 d2 d3
              refine bodyPost_ret (v := .agg #[.int .i64 3, .string ⟨#[]⟩, .slice none 0 0, .slice av L.length cv]) (by simp [results, Tryz.results61, go_sem, d0, d1, d2, d3]) rfl ?_
              rw [HN.out]
              refine ⟨⟨_, _, rfl, parts_own_nil _ _, (((((HO.out.setBelow (a := ⟨w1.heap.size, 3, none⟩) hX2 _).setBelow (a := ⟨w.heap.size, 0, none⟩) hB2 _).setBelow (a := ⟨w.heap.size, 1, none⟩) hB2 _).setBelow (a := ⟨w.heap.size, 2, none⟩) hB2 _).setBelow (a := ⟨w.heap.size, 3, none⟩) hB2 _).mono (Nat.le_of_lt hB2)⟩, ?_, ?_⟩
              · exact grownBy_setNew (grownBy_setNew (grownBy_setNew (grownBy_setNew (grownBy_setNew HG3.out (by show w.heap.size ≤ w1.heap.size; omega) _) (Nat.le_refl _) _) (Nat.le_refl _) _) (Nat.le_refl _) _) (Nat.le_refl _) _
              · exact ((((HR3.out.other _ (Ne.symm hbx) _).other _ (Ne.symm hne) _).other _ (Ne.symm hne) _).other _ (Ne.symm hne) _).other _ (Ne.symm hne) _
          · rw [if_pos hx] at HN NA
            clear hv hx
            go_enter Tryz.func61, Tryz.ntmps61
            go_wp2_with fail
            refine KA.out.mono ?_
            rintro e w1 ⟨rfl, hg1, hR1⟩
            have HG1 := Lib.hid (grownBy_trans (grownBy_some (B := b) hb0) hg1)
            have hX := HBX.out.turned hg1 hne
            have c0 := hX.cell 0; have c1 := hX.cell 1; have c2 := hX.cell 2; have c3 := hX.cell 3
            have f0 := hX.free 0; have f1 := hX.free 1; have f2 := hX.free 2; have f3 := hX.free 3
            simp only [List.getElem?_toArray, List.getElem?_cons_zero, List.getElem?_cons_succ] at c0 c1 c2 c3
            have hlx := hX.lt
            have HX := Lib.hid hX; have HR1 := Lib.hid hR1
            clear hX hR1 hg1
            have hblt := HR1.out.lt
            go_wp2_with fail
            obtain ⟨V, hV⟩ : ∃ V, V = w1.alloc (.cells #[.int .i64 3, .string ⟨#[]⟩, .slice none 0 0, .slice none 0 0] 25) := ⟨_, rfl⟩
            have hbV : Below w1.heap.size w1 V := by rw [hV]; exact (Below.refl _ _).alloc (Nat.le_refl _) _
            have HB : Hid (Row V w1.heap.size #[.int .i64 3, .string ⟨#[]⟩, .slice none 0 0, .slice none 0 0] 25) := Lib.hid (by rw [hV]; exact Row.made _ _ _)
            have HRV := Lib.hid (HR1.out.stays hbV)
            have HXV := Lib.hid (HX.out.step hbV)
            have HGV := Lib.hid (grownBy_then HG1.out hbV)
            have hbx : w1.heap.size ≠ b := by have := HR1.out.lt; omega
            have hxx : w1.heap.size ≠ w.heap.size := by omega
            obtain ⟨X, hXe⟩ : ∃ X, X = w1.heap.size := ⟨_, rfl⟩
            obtain ⟨B0, hB0⟩ : ∃ B0, B0 = w.heap.size := ⟨_, rfl⟩
            rw [← hV]
            clear hV c0 c1 c2 c3 f0 f1 f2 f3
            with_reducible refine (NA.out V HRV.out).mono ?_
            rintro e w2 ⟨⟨k, rfl⟩, hg2⟩
            have HG2 := Lib.hid (grownBy_trans HGV.out hg2)
            clear hg2
            go_wp2
            refine ⟨rfl, ?_⟩
            rw [HN.out]
            exact ⟨⟨k, rfl⟩, HG2.out⟩
        · have q3 : ((c.toNat : Int) == 3) = false := ie_f (by omega)
          have HN := Lib.hid (pNode_other (r := r) h1 h2 h3)
          clear h1 h2 h3
          go_enter Tryz.func61, Tryz.ntmps61
          go_wp2_with fail
          refine KA.out.mono ?_
          rintro e w1 ⟨rfl, hg1, hR1⟩
          have HG1 := Lib.hid (grownBy_trans (grownBy_some (B := b) hb0) hg1)
          have hX := HBX.out.turned hg1 hne
          have c0 := hX.cell 0; have c1 := hX.cell 1; have c2 := hX.cell 2; have c3 := hX.cell 3
          have f0 := hX.free 0; have f1 := hX.free 1; have f2 := hX.free 2; have f3 := hX.free 3
          simp only [List.getElem?_toArray, List.getElem?_cons_zero, List.getElem?_cons_succ] at c0 c1 c2 c3
          have hlx := hX.lt
          have HX := Lib.hid hX; have HR1 := Lib.hid hR1
          clear hX hR1 hg1
          go_wp2
          have hR4 := (row4_row HX.out (.int .i64 c.toNat) (.string ⟨#[]⟩) (.slice none 0 0) (.slice none 0 0)).alloc (.cells #[.int .i64 c.toNat, .string ⟨#[]⟩, .slice none 0 0, .slice none 0 0] 25)
          have d0 := hR4.cell 0; have d1 := hR4.cell 1; have d2 := hR4.cell 2; have d3 := hR4.cell 3
          simp only [List.getElem?_toArray, List.getElem?_cons_zero, List.getElem?_cons_succ] at d0 d1 d2 d3
          refine bodyPost_ret (v := .agg #[.int .i64 c.toNat, .string ⟨#[]⟩, .slice none 0 0, .slice none 0 0]) (by simp [results, Tryz.results61, go_sem, d0, d1, d2, d3]) rfl ?_
          rw [HN.out]
          refine ⟨⟨_, _, rfl, parts_own_nil _ _, entries_own_nil _ _⟩, ?_, ?_⟩
          · exact grownBy_then (grownBy_setNew (grownBy_setNew (grownBy_setNew (grownBy_setNew HG1.out (Nat.le_refl _) _) (Nat.le_refl _) _) (Nat.le_refl _) _) (Nat.le_refl _) _) ((Below.refl _ _).alloc (Nat.le_refl _) _)
          · exact ((((HR1.out.other _ (Ne.symm hne) _).other _ (Ne.symm hne) _).other _ (Ne.symm hne) _).other _ (Ne.symm hne) _).stays ((Below.refl _ _).alloc (Nat.le_refl _) _)
end Go.Proofs.YtohicccbaenegaaGreatDoor

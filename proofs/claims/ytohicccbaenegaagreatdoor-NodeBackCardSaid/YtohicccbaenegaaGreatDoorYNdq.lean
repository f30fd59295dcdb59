/-
  Contracts over this translation: node's Read.
-/
import Derived.Test.YtohicccbaenegaaGreatDoorYNdp
import Derived.Test.YtohicccbaenegaaGreatDoorQ0
import Derived.Test.YtohicccbaenegaaGreatDoorYNdh
set_option linter.unusedVariables false
namespace Go.Proofs.YtohicccbaenegaaGreatDoor
open Go.RowKit
attribute [local go_sem] Oper.semAt_some

/-- The library's own variable holds the type 'error'. -/
def ErrT (w : World) : Prop := w.cell? ⟨0, 0, none⟩ = some (.iface 125 (.agg #[.pointer (some ⟨2, 59, none⟩)]))
theorem ErrT.pos {w : World} (h : ErrT w) : 0 < w.heap.size := by
  rcases Nat.eq_zero_or_pos w.heap.size with h0 | h1
  · simp [ErrT, World.cell?, h0] at h
  · exact h1
theorem ErrT.stays {w w' : World} (h : ErrT w) (hb : Below w.heap.size w w') : ErrT w' := (hb.cell (p := ⟨0, 0, none⟩) h.pos).trans h
/-- A node is handed back, and a number. -/
def RetN (n : Nd) (err : Int) (w : World) (e : Ending) (w' : World) : Prop := ∃ pv ev, e = .returned (.tuple #[ndV n pv ev, .int .i64 err]) ∧ IsParts w' pv n.ps ∧ IsEntries w' ev n.es ∧ Below w.heap.size w w'
set_option maxRecDepth 100000 in
set_option maxHeartbeats 4000000 in
theorem pRead_any (S : ByteArray) (hS : S.size ≤ 1000000) (w : World) (hT : ErrT w) :
    Calls Tryz.prog 20 #[.string S] w fun e w' => ∃ n err, RdOk S.data.toList n err ∧ RetN n err w e w' := by
  have hb0 := (Below.refl w.heap.size w).alloc (Nat.le_refl _) (.cells #[.int .i64 0, .string ⟨#[]⟩, .slice none 0 0, .slice none 0 0] 25)
  have HX := Lib.hid (Row.made w #[.int .i64 0, .string ⟨#[]⟩, .slice none 0 0, .slice none 0 0] 25)
  have HT := Lib.hid (hT.stays hb0)
  have FA := Lib.hid pFit_any
  clear hT
  by_cases hp : ∃ n, pNode S.data.toList = some (n, [])
  · obtain ⟨n, hp⟩ := hp
    have WG := Lib.hid (whole_good S n hS hp (w.alloc (.cells #[.int .i64 0, .string ⟨#[]⟩, .slice none 0 0, .slice none 0 0] 25)))
    rcases hf : fitN n with _ | _
    · have HN := Lib.hid (rd_bad (l := S.data.toList) (fun m hm => by rw [hp] at hm; cases hm; exact hf))
      have HF := Lib.hid hf
      clear hp hf
      go_enter Tryz.func20, Tryz.ntmps20
      go_wp2_with fail
      refine WG.out.mono ?_
      rintro e w1 ⟨pv, ev, rfl, hpv, hev, hb1⟩
      have HB1 := Lib.hid (below_step hb0 hb1)
      have hX1 := HX.out.step hb1
      have HP := Lib.hid hpv; have HE := Lib.hid hev
      have HLT : Hid (w.heap.size < (w.alloc (.cells #[.int .i64 0, .string ⟨#[]⟩, .slice none 0 0, .slice none 0 0] 25)).heap.size) := Lib.hid (by simp)
      obtain ⟨_, a1, cap1, hv1, _, _⟩ := hpv.is
      obtain ⟨_, a2, cap2, hv2, _, _⟩ := hev.is
      clear hpv hev
      obtain ⟨z1, hz1⟩ : ∃ z, z = n.ps.length := ⟨_, rfl⟩
      obtain ⟨z2, hz2⟩ : ∃ z, z = n.es.length := ⟨_, rfl⟩
      rw [← hz1] at hv1; rw [← hz2] at hv2
      clear hz1 hz2
      subst hv1 hv2
      have hlx := hX1.lt
      have HX1 := Lib.hid hX1
      clear hb1 hX1 hb0
      go_wp2_with fail
      obtain ⟨V, hV⟩ : ∃ V, V = (w1.alloc (.cells #[.int .i64 n.kd, .string n.d, .slice a1 z1 cap1, .slice a2 z2 cap2] 25)).alloc (.cells #[.int .i64 0] 63) := ⟨_, rfl⟩
      have hbV : Below w1.heap.size w1 V := by rw [hV]; exact ((Below.refl _ _).alloc (Nat.le_refl _) _).alloc (by simp) _
      have hXV := HX1.out.step hbV
      have hNV : Row V w1.heap.size #[.int .i64 n.kd, .string n.d, .slice a1 z1 cap1, .slice a2 z2 cap2] 25 := by rw [hV]; exact (Row.made w1 _ _).alloc _
      have HPV := Lib.hid (HP.out.stays hbV); have HEV := Lib.hid (HE.out.stays hbV)
      have HBV := Lib.hid (below_step HB1.out hbV)
      have c0 := hNV.cell 0; have c1 := hNV.cell 1; have c2 := hNV.cell 2; have c3 := hNV.cell 3
      simp only [List.getElem?_toArray, List.getElem?_cons_zero, List.getElem?_cons_succ] at c0 c1 c2 c3
      rw [← hV]
      clear hV hbV
      refine (as_nil _ V).mono ?_
      rintro e w2 ⟨rfl, hw2⟩
      subst hw2
      have HXV := Lib.hid hXV; have HNV := Lib.hid hNV
      have hltN := hNV.lt
      clear hXV hNV
      go_wp2_with fail
      have F1 := Lib.hid (FA.out n (.slice a1 z1 cap1) (.slice a2 z2 cap2) w2 HPV.out.is HEV.out.is)
      rw [HF.out] at F1
      refine F1.out.mono ?_
      rintro e w3 ⟨rfl, hb3⟩
      have hX3 := HXV.out.step hb3
      have hN3 := HNV.out.step hb3
      have HB3 := Lib.hid (below_step HBV.out hb3)
      have HP3 := Lib.hid (HPV.out.stays hb3); have HE3 := Lib.hid (HEV.out.stays hb3)
      have p0 := hX3.cell 0; have p1 := hX3.cell 1; have p2 := hX3.cell 2; have p3 := hX3.cell 3
      have f0 := hX3.free 0; have f1 := hX3.free 1; have f2 := hX3.free 2; have f3 := hX3.free 3
      have q0 := hN3.cell 0; have q1 := hN3.cell 1; have q2 := hN3.cell 2; have q3 := hN3.cell 3
      simp only [List.getElem?_toArray, List.getElem?_cons_zero, List.getElem?_cons_succ] at p0 p1 p2 p3 q0 q1 q2 q3
      have HX3 := Lib.hid hX3
      clear c0 c1 c2 c3 hb3 hX3 hN3 F1
      go_wp2
      have hR4 := row4_row HX3.out (.int .i64 0) (.string ⟨#[]⟩) (.slice none 0 0) (.slice none 0 0)
      have d0 := hR4.cell 0; have d1 := hR4.cell 1; have d2 := hR4.cell 2; have d3 := hR4.cell 3
      simp only [List.getElem?_toArray, List.getElem?_cons_zero, List.getElem?_cons_succ] at d0 d1 d2 d3
      have hbe := (((HB3.out.setCell (p := ⟨w.heap.size, 0, none⟩) (Nat.le_refl _) (.int .i64 0)).setCell (p := ⟨w.heap.size, 1, none⟩) (Nat.le_refl _) (.string ⟨#[]⟩)).setCell (p := ⟨w.heap.size, 2, none⟩) (Nat.le_refl _) (.slice none 0 0)).setCell (p := ⟨w.heap.size, 3, none⟩) (Nat.le_refl _) (.slice none 0 0)
      refine bodyPost_ret (v := .tuple #[.agg #[.int .i64 0, .string ⟨#[]⟩, .slice none 0 0, .slice none 0 0], .int .i64 2]) (by simp [results, Tryz.results20, go_sem, d0, d1, d2, d3]) rfl ?_
      exact ⟨zeroNd, 2, HN.out, _, _, rfl, parts_nil _, entries_nil _, hbe⟩
    · have HN := Lib.hid (rd_good hp hf)
      have HF := Lib.hid hf
      clear hp hf
      go_enter Tryz.func20, Tryz.ntmps20
      go_wp2_with fail
      refine WG.out.mono ?_
      rintro e w1 ⟨pv, ev, rfl, hpv, hev, hb1⟩
      have HB1 := Lib.hid (below_step hb0 hb1)
      have hX1 := HX.out.step hb1
      have HP := Lib.hid hpv; have HE := Lib.hid hev
      have HLT : Hid (w.heap.size < (w.alloc (.cells #[.int .i64 0, .string ⟨#[]⟩, .slice none 0 0, .slice none 0 0] 25)).heap.size) := Lib.hid (by simp)
      obtain ⟨_, a1, cap1, hv1, _, _⟩ := hpv.is
      obtain ⟨_, a2, cap2, hv2, _, _⟩ := hev.is
      clear hpv hev
      obtain ⟨z1, hz1⟩ : ∃ z, z = n.ps.length := ⟨_, rfl⟩
      obtain ⟨z2, hz2⟩ : ∃ z, z = n.es.length := ⟨_, rfl⟩
      rw [← hz1] at hv1; rw [← hz2] at hv2
      clear hz1 hz2
      subst hv1 hv2
      have hlx := hX1.lt
      have HX1 := Lib.hid hX1
      clear hb1 hX1 hb0
      go_wp2_with fail
      obtain ⟨V, hV⟩ : ∃ V, V = (w1.alloc (.cells #[.int .i64 n.kd, .string n.d, .slice a1 z1 cap1, .slice a2 z2 cap2] 25)).alloc (.cells #[.int .i64 0] 63) := ⟨_, rfl⟩
      have hbV : Below w1.heap.size w1 V := by rw [hV]; exact ((Below.refl _ _).alloc (Nat.le_refl _) _).alloc (by simp) _
      have hXV := HX1.out.step hbV
      have hNV : Row V w1.heap.size #[.int .i64 n.kd, .string n.d, .slice a1 z1 cap1, .slice a2 z2 cap2] 25 := by rw [hV]; exact (Row.made w1 _ _).alloc _
      have HPV := Lib.hid (HP.out.stays hbV); have HEV := Lib.hid (HE.out.stays hbV)
      have HBV := Lib.hid (below_step HB1.out hbV)
      have c0 := hNV.cell 0; have c1 := hNV.cell 1; have c2 := hNV.cell 2; have c3 := hNV.cell 3
      simp only [List.getElem?_toArray, List.getElem?_cons_zero, List.getElem?_cons_succ] at c0 c1 c2 c3
      rw [← hV]
      clear hV hbV
      refine (as_nil _ V).mono ?_
      rintro e w2 ⟨rfl, hw2⟩
      subst hw2
      have HXV := Lib.hid hXV; have HNV := Lib.hid hNV
      have hltN := hNV.lt
      clear hXV hNV
      go_wp2_with fail
      have F1 := Lib.hid (FA.out n (.slice a1 z1 cap1) (.slice a2 z2 cap2) w2 HPV.out.is HEV.out.is)
      rw [HF.out] at F1
      refine F1.out.mono ?_
      rintro e w3 ⟨rfl, hb3⟩
      have hX3 := HXV.out.step hb3
      have hN3 := HNV.out.step hb3
      have HB3 := Lib.hid (below_step HBV.out hb3)
      have HP3 := Lib.hid (HPV.out.stays hb3); have HE3 := Lib.hid (HEV.out.stays hb3)
      have p0 := hX3.cell 0; have p1 := hX3.cell 1; have p2 := hX3.cell 2; have p3 := hX3.cell 3
      have f0 := hX3.free 0; have f1 := hX3.free 1; have f2 := hX3.free 2; have f3 := hX3.free 3
      have q0 := hN3.cell 0; have q1 := hN3.cell 1; have q2 := hN3.cell 2; have q3 := hN3.cell 3
      simp only [List.getElem?_toArray, List.getElem?_cons_zero, List.getElem?_cons_succ] at p0 p1 p2 p3 q0 q1 q2 q3
      have HX3 := Lib.hid hX3
      clear c0 c1 c2 c3 hb3 hX3 hN3 F1
      go_wp2
      have hR4 := row4_row HX3.out (.int .i64 n.kd) (.string n.d) (.slice a1 z1 cap1) (.slice a2 z2 cap2)
      have d0 := hR4.cell 0; have d1 := hR4.cell 1; have d2 := hR4.cell 2; have d3 := hR4.cell 3
      simp only [List.getElem?_toArray, List.getElem?_cons_zero, List.getElem?_cons_succ] at d0 d1 d2 d3
      have hbe := (((HB3.out.setCell (p := ⟨w.heap.size, 0, none⟩) (Nat.le_refl _) (.int .i64 n.kd)).setCell (p := ⟨w.heap.size, 1, none⟩) (Nat.le_refl _) (.string n.d)).setCell (p := ⟨w.heap.size, 2, none⟩) (Nat.le_refl _) (.slice a1 z1 cap1)).setCell (p := ⟨w.heap.size, 3, none⟩) (Nat.le_refl _) (.slice a2 z2 cap2)
      refine bodyPost_ret (v := .tuple #[.agg #[.int .i64 n.kd, .string n.d, .slice a1 z1 cap1, .slice a2 z2 cap2], .int .i64 0]) (by simp [results, Tryz.results20, go_sem, d0, d1, d2, d3]) rfl ?_
      exact ⟨n, 0, HN.out, _, _, rfl, ((((HP3.out.setBelow (a := ⟨w.heap.size, 0, none⟩) HLT.out _).setBelow (a := ⟨w.heap.size, 1, none⟩) HLT.out _).setBelow (a := ⟨w.heap.size, 2, none⟩) HLT.out _).setBelow (a := ⟨w.heap.size, 3, none⟩) HLT.out _).is, ((((HE3.out.setBelow (a := ⟨w.heap.size, 0, none⟩) HLT.out _).setBelow (a := ⟨w.heap.size, 1, none⟩) HLT.out _).setBelow (a := ⟨w.heap.size, 2, none⟩) HLT.out _).setBelow (a := ⟨w.heap.size, 3, none⟩) HLT.out _).is, hbe⟩
  · have hp2 : ∀ n, pNode S.data.toList ≠ some (n, []) := fun n e => hp ⟨n, e⟩
    have WB := Lib.hid (whole_bad S hS hp2 (w.alloc (.cells #[.int .i64 0, .string ⟨#[]⟩, .slice none 0 0, .slice none 0 0] 25)))
    have HN := Lib.hid (rd_bad (l := S.data.toList) (fun m hm => absurd hm (hp2 m)))
    clear hp hp2
    go_enter Tryz.func20, Tryz.ntmps20
    go_wp2_with fail
    refine WB.out.mono ?_
    rintro e w1 ⟨kd, k, d, a1, a2, z1, cap1, z2, cap2, rfl, hb1⟩
    have HB1 := Lib.hid (below_step hb0 hb1)
    have hX1 := HX.out.step hb1
    have HT1 := Lib.hid (HT.out.stays hb1)
    have hlx := hX1.lt
    have HX1 := Lib.hid hX1
    clear hb1 hX1 hb0
    go_wp2_with fail
    obtain ⟨V, hV⟩ : ∃ V, V = (w1.alloc (.cells #[.int .i64 kd, .string d, .slice a1 z1 cap1, .slice a2 z2 cap2] 25)).alloc (.cells #[.int .i64 0] 63) := ⟨_, rfl⟩
    have hbV : Below w1.heap.size w1 V := by rw [hV]; exact ((Below.refl _ _).alloc (Nat.le_refl _) _).alloc (by simp) _
    have hXV := HX1.out.step hbV
    have hFV : Row V (w1.heap.size + 1) #[.int .i64 0] 63 := by
      have := Row.made (w1.alloc (.cells #[.int .i64 kd, .string d, .slice a1 z1 cap1, .slice a2 z2 cap2] 25)) #[.int .i64 0] 63
      rw [hV]; simpa using this
    have HTV := Lib.hid (HT1.out.stays hbV)
    have HBV := Lib.hid (below_step HB1.out hbV)
    have g0 := hFV.cell 0
    simp only [List.getElem?_toArray, List.getElem?_cons_zero] at g0
    rw [← hV]
    clear hV hbV
    refine (as_hit k (w1.heap.size + 1) (.int .i64 0) V HTV.out g0 (hFV.free 0)).mono ?_
    rintro e w2 ⟨rfl, hg2⟩
    have hX2 := hXV.turned hg2 (by omega)
    have HB2 := Lib.hid (below_turned HBV.out hg2 (by omega) HBV.out.size)
    have p0 := hX2.cell 0; have p1 := hX2.cell 1; have p2 := hX2.cell 2; have p3 := hX2.cell 3
    have f0 := hX2.free 0; have f1 := hX2.free 1; have f2 := hX2.free 2; have f3 := hX2.free 3
    simp only [List.getElem?_toArray, List.getElem?_cons_zero, List.getElem?_cons_succ] at p0 p1 p2 p3
    have HX2 := Lib.hid hX2
    clear hX2 hg2 hXV hFV g0
    go_wp2
    have hR4 := row4_row HX2.out (.int .i64 0) (.string ⟨#[]⟩) (.slice none 0 0) (.slice none 0 0)
    have d0 := hR4.cell 0; have d1 := hR4.cell 1; have d2 := hR4.cell 2; have d3 := hR4.cell 3
    simp only [List.getElem?_toArray, List.getElem?_cons_zero, List.getElem?_cons_succ] at d0 d1 d2 d3
    refine bodyPost_ret (v := .tuple #[.agg #[.int .i64 0, .string ⟨#[]⟩, .slice none 0 0, .slice none 0 0], .int .i64 2]) (by simp [results, Tryz.results20, go_sem, d0, d1, d2, d3]) rfl ?_
    exact ⟨zeroNd, 2, HN.out, _, _, rfl, parts_nil _, entries_nil _, (((HB2.out.setCell (p := ⟨w.heap.size, 0, none⟩) (Nat.le_refl _) _).setCell (p := ⟨w.heap.size, 1, none⟩) (Nat.le_refl _) _).setCell (p := ⟨w.heap.size, 2, none⟩) (Nat.le_refl _) _).setCell (p := ⟨w.heap.size, 3, none⟩) (Nat.le_refl _) _⟩
end Go.Proofs.YtohicccbaenegaaGreatDoor

/-
  DiskDoes as a walk over this translation. Written by wip/tools/gen_disk_laws.py.
-/
import Derived.Test.YtninfmlemdnjbaaQa4
import Derived.Test.YtninfmlemdnjbaaYaDmq
import Derived.Test.YtninfmlemdnjbaaQa1
set_option linter.unusedVariables false
namespace Go.Proofs.Ytninfmlemdnjbaa
open Go.RowKit
attribute [local go_sem] Oper.semAt_some
def dldU (w0 w3 : World) (a ga : Option Addr) (z cap gz gcap : Nat) (off goff fb sb : Bool) (fuse gfuse : Int) : Nat → Value → Value → World → Prop
  | 0 => fun v _ _ => v = .agg #[.slice a z cap, .bool off, .int .i64 fuse]
  | 1 => fun v _ _ => v = .bool fb
  | 2 => fun v _ _ => v = .agg #[.slice a z cap, .bool off, .int .i64 fuse]
  | 3 => fun v _ _ => v = .bool fb
  | 4 => fun v _ _ => v = .bool false
  | 5 => fun v _ _ => v = .bool false
  | 6 => fun v _ _ => v = .agg #[.slice a z cap, .bool off, .int .i64 fuse]
  | 7 => fun v _ _ => v = .agg #[.slice ga gz gcap, .bool goff, .int .i64 gfuse]
  | 8 => fun v _ _ => v = .bool sb
  | 9 => fun v _ _ => v = .agg #[.slice a z cap, .bool off, .int .i64 fuse]
  | 10 => fun v _ _ => v = .agg #[.slice ga gz gcap, .bool goff, .int .i64 gfuse]
  | 11 => fun v _ _ => v = .bool sb
  | 12 => fun v _ _ => v = .bool false
  | 13 => fun v _ _ => v = .bool false
  | 14 => fun v _ _ => v = .bool false
  | 15 => fun v _ _ => v = .agg #[.slice a z cap, .bool off, .int .i64 fuse]
  | 16 => fun v _ _ => v = .agg #[.slice a z cap, .bool off, .int .i64 fuse]
  | 17 => fun v _ _ => v = .bool true
  | 18 => fun v _ _ => v = .bool false
  | 19 => fun v _ _ => v = .bool false
  | 20 => fun _ _ wz => Below w3.heap.size w3 wz
  | _ => fun _ _ _ => True
def dldN : List (List Nat) := [[20], [0, 20], [20], [2, 20], [1, 3], [4], [5, 20], [5, 20], [6, 7, 5, 20], [5, 20], [5, 20], [9, 10, 5, 20], [8, 11, 5], [5, 12], [13], [14, 20], [14, 20], [15, 16, 14, 20], [17, 14], [14, 18]]
def dldE : Nat → Option Tmp
  | _ => none
def dldB : List (Nat × Nat) := []
theorem dld_T (w0 w3 : World) (a ga : Option Addr) (z cap gz gcap : Nat) (off goff fb sb : Bool) (fuse gfuse : Int) (ix kx : Nat) (v e : Value) (w w' : World) (hk : kx < 21) (hne : kx ≠ ix) (hbd : (ix, kx) ∉ dldB) (hU : (dldU w0 w3 a ga z cap gz gcap off goff fb sb fuse gfuse) kx v e w) (hT : allT ix w w') : (dldU w0 w3 a ga z cap gz gcap off goff fb sb fuse gfuse) kx v e w' := by
  have hb : Below w.heap.size w w' := hT
  rcases (show kx = 0 ∨ kx = 1 ∨ kx = 2 ∨ kx = 3 ∨ kx = 4 ∨ kx = 5 ∨ kx = 6 ∨ kx = 7 ∨ kx = 8 ∨ kx = 9 ∨ kx = 10 ∨ kx = 11 ∨ kx = 12 ∨ kx = 13 ∨ kx = 14 ∨ kx = 15 ∨ kx = 16 ∨ kx = 17 ∨ kx = 18 ∨ kx = 19 ∨ kx = 20 by omega) with rfl | rfl | rfl | rfl | rfl | rfl | rfl | rfl | rfl | rfl | rfl | rfl | rfl | rfl | rfl | rfl | rfl | rfl | rfl | rfl | rfl
  iterate 20 exact hU
  · exact below_step hU hb
set_option maxRecDepth 100000 in
set_option maxHeartbeats 32000000 in
theorem diskDoes_w (d : Dsk) (fv : Value) (g : Dsk) (gv : Value) (n m : ByteArray) (x : Int) (s : ByteArray) (hA : ∀ f ∈ d.fs, ∀ o ∈ f.ops, o.at_ ≤ 9223372036854775807) (hx : x ≤ 9223372036854775807) (w0 : World) (h : IsDfs w0 fv d.fs) (h2 : IsDfs w0 gv g.fs) :
    Calls Try.prog 3 #[dskV fv d, dskV gv g, .string n, .string m, .int .i64 x, .string s] w0 fun e w' => e = .returned (.bool true) ∧ Below w0.heap.size w0 w' := by
  have CA := Lib.hid awake15_any
  obtain ⟨_, a, cap, hu, _, _⟩ := id h
  obtain ⟨z, hz⟩ : ∃ z, z = d.fs.length := ⟨_, rfl⟩
  rw [← hz] at hu
  subst hu
  obtain ⟨_, ga, gcap, hu, _, _⟩ := id h2
  obtain ⟨gz, hgz⟩ : ∃ z, z = g.fs.length := ⟨_, rfl⟩
  rw [← hgz] at hu
  subst hu
  have HAT := Lib.hid hA; have HX := Lib.hid hx
  obtain ⟨fs, off, fuse⟩ := d
  obtain ⟨gs, goff, gfuse⟩ := g
  obtain ⟨V, hV⟩ : ∃ V, V = (w0.alloc (.cells #[.slice a z cap, .bool off, .int .i64 fuse] 24)).alloc (.cells #[.slice ga gz gcap, .bool goff, .int .i64 gfuse] 24) := ⟨_, rfl⟩
  have hbV : Below w0.heap.size w0 V := by rw [hV]; exact ((Below.refl _ _).alloc (Nat.le_refl _) _).alloc (by simp) _
  have hR : Row V w0.heap.size #[.slice a z cap, .bool off, .int .i64 fuse] 24 := by rw [hV]; exact (Row.made _ _ _).alloc _
  have hRG : Row V (w0.heap.size + 1) #[.slice ga gz gcap, .bool goff, .int .i64 gfuse] 24 := by
    rw [hV]
    have h9 := Row.made (w0.alloc (.cells #[.slice a z cap, .bool off, .int .i64 fuse] 24)) #[.slice ga gz gcap, .bool goff, .int .i64 gfuse] 24
    simpa using h9
  have HV := Lib.hid hV; have HB := Lib.hid hbV; have HR := Lib.hid hR; have HI := Lib.hid (h.stays hbV)
  have HRG := Lib.hid hRG; have HIG := Lib.hid (h2.stays hbV)
  unfold dskV
  dsimp only at HI HIG HAT ⊢
  clear h h2 hz hgz hV hbV hR hRG hA hx
  go_enter Try.func3, Try.ntmps3
  go_wp2_with fail
  rw [← HV.out]
  have HRl := HR.out.lt
  obtain ⟨⟨HR0, HR1, HR2⟩, HRz⟩ := HR.out.three
  go_wp2_with fail
  clear HR0 HR1 HR2 HRz HRl
  have C := few15_any ⟨fs, off, fuse⟩ (.slice a z cap) V HI.out
  unfold dskV at C
  dsimp only at C
  refine C.mono ?_
  clear C
  rintro e w2 ⟨rfl, hb⟩
  replace HB := Lib.hid (below_step HB.out hb)
  replace HR := Lib.hid (HR.out.step hb)
  replace HI := Lib.hid (HI.out.stays hb)
  replace HRG := Lib.hid (HRG.out.step hb)
  replace HIG := Lib.hid (HIG.out.stays hb)
  clear hb
  cases hfw : fewDB ⟨fs, off, fuse⟩ with
  | false =>
    clear hfw
    go_wp2_with fail
    refine (CA.out _).mono ?_
    rintro e w9 ⟨rfl, hb⟩
    replace HB := Lib.hid (below_step HB.out hb)
    clear hb
    go_wp2_with fail
    go_ret
    exact ⟨rfl, HB.out⟩
  | true =>
    have HFW := Lib.hid (fewDB_iff.1 hfw)
    clear hfw
    have HRGl := HRG.out.lt
    obtain ⟨⟨HRG0, HRG1, HRG2⟩, HRGz⟩ := HRG.out.three
    go_wp2_with fail
    clear HRG0 HRG1 HRG2 HRGz HRGl
    have C := few15_any ⟨gs, goff, gfuse⟩ (.slice ga gz gcap) w2 HIG.out
    unfold dskV at C
    dsimp only at C
    refine C.mono ?_
    clear C
    rintro e w3 ⟨rfl, hb⟩
    replace HB := Lib.hid (below_step HB.out hb)
    replace HR := Lib.hid (HR.out.step hb)
    replace HI := Lib.hid (HI.out.stays hb)
    replace HRG := Lib.hid (HRG.out.step hb)
    replace HIG := Lib.hid (HIG.out.stays hb)
    clear hb
    cases hfw : fewDB ⟨gs, goff, gfuse⟩ with
    | false =>
      clear hfw
      go_wp2_with fail
      refine (CA.out _).mono ?_
      rintro e w9 ⟨rfl, hb⟩
      replace HB := Lib.hid (below_step HB.out hb)
      clear hb
      go_wp2_with fail
      go_ret
      exact ⟨rfl, HB.out⟩
    | true =>
      clear hfw
      by_cases hcc : 100 < n.size
      · have d1 : decide ((100 : Int) < (n.size : Int)) = true := decide_eq_true (by omega)
        clear hcc
        go_wp2_with fail
        refine (CA.out _).mono ?_
        rintro e w9 ⟨rfl, hb⟩
        replace HB := Lib.hid (below_step HB.out hb)
        clear hb
        go_wp2_with fail
        go_ret
        exact ⟨rfl, HB.out⟩
      · have d1 : decide ((100 : Int) < (n.size : Int)) = false := decide_eq_false (by omega)
        have HLd1 : Hid (n.size ≤ 100) := Lib.hid (by omega)
        clear hcc
        by_cases hcc : 100 < m.size
        · have d2 : decide ((100 : Int) < (m.size : Int)) = true := decide_eq_true (by omega)
          clear hcc
          go_wp2_with fail
          refine (CA.out _).mono ?_
          rintro e w9 ⟨rfl, hb⟩
          replace HB := Lib.hid (below_step HB.out hb)
          clear hb
          go_wp2_with fail
          go_ret
          exact ⟨rfl, HB.out⟩
        · have d2 : decide ((100 : Int) < (m.size : Int)) = false := decide_eq_false (by omega)
          have HLd2 : Hid (m.size ≤ 100) := Lib.hid (by omega)
          clear hcc
          by_cases hcc : 5000 < s.size
          · have d3 : decide ((5000 : Int) < (s.size : Int)) = true := decide_eq_true (by omega)
            clear hcc
            go_wp2_with fail
            refine (CA.out _).mono ?_
            rintro e w9 ⟨rfl, hb⟩
            replace HB := Lib.hid (below_step HB.out hb)
            clear hb
            go_wp2_with fail
            go_ret
            exact ⟨rfl, HB.out⟩
          · have d3 : decide ((5000 : Int) < (s.size : Int)) = false := decide_eq_false (by omega)
            have HLd3 : Hid (s.size ≤ 5000) := Lib.hid (by omega)
            clear hcc
            by_cases hc1 : 20000 < x
            · have d4 : decide ((20000 : Int) < x) = true := decide_eq_true hc1
              by_cases hc2 : x ≤ 262144
              · have d5 : decide (x ≤ (262144 : Int)) = true := decide_eq_true hc2
                clear hc1 hc2
                go_wp2_with fail
                refine (CA.out _).mono ?_
                rintro e w9 ⟨rfl, hb⟩
                replace HB := Lib.hid (below_step HB.out hb)
                clear hb
                go_wp2_with fail
                go_ret
                exact ⟨rfl, HB.out⟩
              · have d5 : decide (x ≤ (262144 : Int)) = false := decide_eq_false hc2
                clear hc1 hc2
                obtain ⟨fb, hfb⟩ : ∃ b, b = fitDB ⟨fs, off, fuse⟩ := ⟨_, rfl⟩
                obtain ⟨sb, hsb⟩ : ∃ b, b = sameD ⟨fs, off, fuse⟩ ⟨gs, goff, gfuse⟩ := ⟨_, rfl⟩
                have HFB := Lib.hid hfb; have HSB := Lib.hid hsb
                clear hfb hsb
                have HSM := Lib.hid (FewD.small HFW.out HAT.out)
                go_wp2_with fail
                refine wp_region_wordsG (by kernel_rfl) (by kernel_rfl) allT (fun _ => True) dldE (dldU w0 w3 a ga z cap gz gcap off goff fb sb fuse gfuse) 21 dldN [19, 20] (by kernel_rfl) (by kernel_rfl) (by kernel_rfl)
                  dldB (by kernel_rfl) (fun ix kx v e w w' hi hk hne hb hU hT => dld_T _ _ _ _ _ _ _ _ _ _ _ _ _ _  ix kx v e w w' hk hne hb hU hT) (by decide) trivial (fun kx hk hge => ?hv0)
                  [65, 66, 67, 68, 69, 70, 71, 72, 73, 74, 75, 76, 77, 78, 79, 80, 81, 82, 83, 84] (by kernel_rfl) (forall_ops ?steps) ?behind
                case hv0 =>
                  have hge' : 20 ≤ kx := hge
                  rcases (show kx = 20 by omega) with rfl
                  · exact (Below.refl _ _).drew
                case steps =>
                  refine ⟨?_, ?_, ?_, ?_, ?_, ?_, ?_, ?_, ?_, ?_, ?_, ?_, ?_, ?_, ?_, ?_, ?_, ?_, ?_, ?_, trivial⟩
                  · refine stepG_of rfl ?_
                    exact stepR_value (t := 65) (.agg #[.slice a z cap, .bool off, .int .i64 fuse]) rfl (fun _ => Below.refl _ _) (fun ac w hG hN hO => by
                      have e6 : slot ac 6 = .pointer (some ⟨w0.heap.size, 0, none⟩) := hO 6 (by kernel_rfl)
                      have hx9 : Below w3.heap.size w3 w := hN 20 (by decide)
                      obtain ⟨⟨p0, p1, p2⟩, _⟩ := (HR.out.step hx9).three
                      obtain ⟨⟨r0, r1, r2⟩, _⟩ := (HRG.out.step hx9).three
                      have f6 := slot_at e6
                      unfold execOp; go_simp) (fun ac w hG hN => rfl)
                  · refine stepG_of rfl ?_
                    intro ac wx hG hN hO
                    have e65 : slot ac 65 = .agg #[.slice a z cap, .bool off, .int .i64 fuse] := hN 0 (by decide)
                    have hx9 : Below w3.heap.size w3 wx := hN 20 (by decide)
                    have C := pFitD_any ⟨fs, off, fuse⟩ (.slice a z cap) wx (HI.out.stays hx9) HSM.out
                    rw [← HFB.out] at C
                    refine wp_callx 11 _ _ rfl (enters_of Try.func11 (by kernel_rfl) rfl) #[.agg #[.slice a z cap, .bool off, .int .i64 fuse]] (by simp [eval_slot, e65]) (R := fun v wz => v = .bool fb ∧ Below wx.heap.size wx wz) (C.mono fun e wz hz => ⟨_, hz.1, rfl, hz.2⟩) ?_
                    rintro v wz ⟨hv, hb⟩
                    exact ⟨v, rfl, hb, trivial, hv⟩
                  · refine stepG_of rfl ?_
                    exact stepR_value (t := 67) (.agg #[.slice a z cap, .bool off, .int .i64 fuse]) rfl (fun _ => Below.refl _ _) (fun ac w hG hN hO => by
                      have e6 : slot ac 6 = .pointer (some ⟨w0.heap.size, 0, none⟩) := hO 6 (by kernel_rfl)
                      have hx9 : Below w3.heap.size w3 w := hN 20 (by decide)
                      obtain ⟨⟨p0, p1, p2⟩, _⟩ := (HR.out.step hx9).three
                      obtain ⟨⟨r0, r1, r2⟩, _⟩ := (HRG.out.step hx9).three
                      have f6 := slot_at e6
                      unfold execOp; go_simp) (fun ac w hG hN => rfl)
                  · refine stepG_of rfl ?_
                    intro ac wx hG hN hO
                    have e67 : slot ac 67 = .agg #[.slice a z cap, .bool off, .int .i64 fuse] := hN 2 (by decide)
                    have hx9 : Below w3.heap.size w3 wx := hN 20 (by decide)
                    have C := rFitD_any ⟨fs, off, fuse⟩ (.slice a z cap) wx (HI.out.stays hx9)
                    rw [← HFB.out] at C
                    refine wp_callx 12 _ _ rfl (enters_of Try.func12 (by kernel_rfl) rfl) #[.agg #[.slice a z cap, .bool off, .int .i64 fuse]] (by simp [eval_slot, e67]) (R := fun v wz => v = .bool fb ∧ Below wx.heap.size wx wz) (C.mono fun e wz hz => ⟨_, hz.1, rfl, hz.2⟩) ?_
                    rintro v wz ⟨hv, hb⟩
                    exact ⟨v, rfl, hb, trivial, hv⟩
                  · refine stepG_of rfl ?_
                    exact stepR_value (t := 69) (.bool false) rfl (fun _ => Below.refl _ _) (fun ac w hG hN hO => by
                      have e66 : slot ac 66 = .bool fb := hN 1 (by decide)
                      have e68 : slot ac 68 = .bool fb := hN 3 (by decide)
                      have f66 := slot_at e66
                      have f68 := slot_at e68
                      unfold execOp; go_simp) (fun ac w hG hN => rfl)
                  · refine stepG_of rfl ?_
                    exact stepR_value (t := 70) (.bool false) rfl (fun _ => Below.refl _ _) (fun ac w hG hN hO => by
                      have e69 : slot ac 69 = .bool false := hN 4 (by decide)
                      exact run_move_slot (.inl rfl) e69) (fun ac w hG hN => rfl)
                  · refine stepG_on (j := 5) (b := false) rfl (by decide) (fun v e w h => h) ?_
                    exact stepR_value (t := 71) (.agg #[.slice a z cap, .bool off, .int .i64 fuse]) rfl (fun _ => Below.refl _ _) (fun ac w hG hN hO => by
                      have e6 : slot ac 6 = .pointer (some ⟨w0.heap.size, 0, none⟩) := hO 6 (by kernel_rfl)
                      have hx9 : Below w3.heap.size w3 w := hN 20 (by decide)
                      obtain ⟨⟨p0, p1, p2⟩, _⟩ := (HR.out.step hx9).three
                      obtain ⟨⟨r0, r1, r2⟩, _⟩ := (HRG.out.step hx9).three
                      have f6 := slot_at e6
                      unfold execOp; go_simp) (fun ac w hG hN => rfl)
                  · refine stepG_on (j := 5) (b := false) rfl (by decide) (fun v e w h => h) ?_
                    exact stepR_value (t := 72) (.agg #[.slice ga gz gcap, .bool goff, .int .i64 gfuse]) rfl (fun _ => Below.refl _ _) (fun ac w hG hN hO => by
                      have e7 : slot ac 7 = .pointer (some ⟨w0.heap.size + 1, 0, none⟩) := hO 7 (by kernel_rfl)
                      have hx9 : Below w3.heap.size w3 w := hN 20 (by decide)
                      obtain ⟨⟨p0, p1, p2⟩, _⟩ := (HR.out.step hx9).three
                      obtain ⟨⟨r0, r1, r2⟩, _⟩ := (HRG.out.step hx9).three
                      have f7 := slot_at e7
                      unfold execOp; go_simp) (fun ac w hG hN => rfl)
                  · refine stepG_on (j := 5) (b := false) rfl (by decide) (fun v e w h => h) ?_
                    intro ac wx hG hN hO
                    have e71 : slot ac 71 = .agg #[.slice a z cap, .bool off, .int .i64 fuse] := hN 6 (by decide)
                    have e72 : slot ac 72 = .agg #[.slice ga gz gcap, .bool goff, .int .i64 gfuse] := hN 7 (by decide)
                    have hx9 : Below w3.heap.size w3 wx := hN 20 (by decide)
                    have C := pSame_any_Dly ⟨fs, off, fuse⟩ ⟨gs, goff, gfuse⟩ (.slice a z cap) (.slice ga gz gcap) wx (HI.out.stays hx9) (HIG.out.stays hx9)
                    rw [← HSB.out] at C
                    refine wp_callx 13 _ _ rfl (enters_of Try.func13 (by kernel_rfl) rfl) #[.agg #[.slice a z cap, .bool off, .int .i64 fuse], .agg #[.slice ga gz gcap, .bool goff, .int .i64 gfuse]] (by simp [eval_slot, e71, e72]) (R := fun v wz => v = .bool sb ∧ Below wx.heap.size wx wz) (C.mono fun e wz hz => ⟨_, hz.1, rfl, hz.2⟩) ?_
                    rintro v wz ⟨hv, hb⟩
                    exact ⟨v, rfl, hb, trivial, hv⟩
                  · refine stepG_on (j := 5) (b := false) rfl (by decide) (fun v e w h => h) ?_
                    exact stepR_value (t := 74) (.agg #[.slice a z cap, .bool off, .int .i64 fuse]) rfl (fun _ => Below.refl _ _) (fun ac w hG hN hO => by
                      have e6 : slot ac 6 = .pointer (some ⟨w0.heap.size, 0, none⟩) := hO 6 (by kernel_rfl)
                      have hx9 : Below w3.heap.size w3 w := hN 20 (by decide)
                      obtain ⟨⟨p0, p1, p2⟩, _⟩ := (HR.out.step hx9).three
                      obtain ⟨⟨r0, r1, r2⟩, _⟩ := (HRG.out.step hx9).three
                      have f6 := slot_at e6
                      unfold execOp; go_simp) (fun ac w hG hN => rfl)
                  · refine stepG_on (j := 5) (b := false) rfl (by decide) (fun v e w h => h) ?_
                    exact stepR_value (t := 75) (.agg #[.slice ga gz gcap, .bool goff, .int .i64 gfuse]) rfl (fun _ => Below.refl _ _) (fun ac w hG hN hO => by
                      have e7 : slot ac 7 = .pointer (some ⟨w0.heap.size + 1, 0, none⟩) := hO 7 (by kernel_rfl)
                      have hx9 : Below w3.heap.size w3 w := hN 20 (by decide)
                      obtain ⟨⟨p0, p1, p2⟩, _⟩ := (HR.out.step hx9).three
                      obtain ⟨⟨r0, r1, r2⟩, _⟩ := (HRG.out.step hx9).three
                      have f7 := slot_at e7
                      unfold execOp; go_simp) (fun ac w hG hN => rfl)
                  · refine stepG_on (j := 5) (b := false) rfl (by decide) (fun v e w h => h) ?_
                    intro ac wx hG hN hO
                    have e74 : slot ac 74 = .agg #[.slice a z cap, .bool off, .int .i64 fuse] := hN 9 (by decide)
                    have e75 : slot ac 75 = .agg #[.slice ga gz gcap, .bool goff, .int .i64 gfuse] := hN 10 (by decide)
                    have hx9 : Below w3.heap.size w3 wx := hN 20 (by decide)
                    have C := rSameD_any ⟨fs, off, fuse⟩ ⟨gs, goff, gfuse⟩ (.slice a z cap) (.slice ga gz gcap) wx (HI.out.stays hx9) (HIG.out.stays hx9)
                    rw [← HSB.out] at C
                    refine wp_callx 14 _ _ rfl (enters_of Try.func14 (by kernel_rfl) rfl) #[.agg #[.slice a z cap, .bool off, .int .i64 fuse], .agg #[.slice ga gz gcap, .bool goff, .int .i64 gfuse]] (by simp [eval_slot, e74, e75]) (R := fun v wz => v = .bool sb ∧ Below wx.heap.size wx wz) (C.mono fun e wz hz => ⟨_, hz.1, rfl, hz.2⟩) ?_
                    rintro v wz ⟨hv, hb⟩
                    exact ⟨v, rfl, hb, trivial, hv⟩
                  · refine stepG_on (j := 5) (b := false) rfl (by decide) (fun v e w h => h) ?_
                    exact stepR_value (t := 77) (.bool false) rfl (fun _ => Below.refl _ _) (fun ac w hG hN hO => by
                      have e73 : slot ac 73 = .bool sb := hN 8 (by decide)
                      have e76 : slot ac 76 = .bool sb := hN 11 (by decide)
                      have f73 := slot_at e73
                      have f76 := slot_at e76
                      unfold execOp; go_simp) (fun ac w hG hN => rfl)
                  · refine stepG_of rfl ?_
                    exact stepR_value (t := 78) (.bool false) rfl (fun _ => Below.refl _ _) (fun ac w hG hN hO => by
                      have e70 : slot ac 70 = .bool false := hN 5 (by decide)
                      have e77 : slot ac 77 = .bool false := hN 12 (by decide)
                      have f70 := slot_at e70
                      have f77 := slot_at e77
                      unfold execOp; go_simp) (fun ac w hG hN => rfl)
                  · refine stepG_of rfl ?_
                    exact stepR_value (t := 79) (.bool false) rfl (fun _ => Below.refl _ _) (fun ac w hG hN hO => by
                      have e78 : slot ac 78 = .bool false := hN 13 (by decide)
                      exact run_move_slot (.inl rfl) e78) (fun ac w hG hN => rfl)
                  · refine stepG_on (j := 14) (b := false) rfl (by decide) (fun v e w h => h) ?_
                    exact stepR_value (t := 80) (.agg #[.slice a z cap, .bool off, .int .i64 fuse]) rfl (fun _ => Below.refl _ _) (fun ac w hG hN hO => by
                      have e6 : slot ac 6 = .pointer (some ⟨w0.heap.size, 0, none⟩) := hO 6 (by kernel_rfl)
                      have hx9 : Below w3.heap.size w3 w := hN 20 (by decide)
                      obtain ⟨⟨p0, p1, p2⟩, _⟩ := (HR.out.step hx9).three
                      obtain ⟨⟨r0, r1, r2⟩, _⟩ := (HRG.out.step hx9).three
                      have f6 := slot_at e6
                      unfold execOp; go_simp) (fun ac w hG hN => rfl)
                  · refine stepG_on (j := 14) (b := false) rfl (by decide) (fun v e w h => h) ?_
                    exact stepR_value (t := 81) (.agg #[.slice a z cap, .bool off, .int .i64 fuse]) rfl (fun _ => Below.refl _ _) (fun ac w hG hN hO => by
                      have e6 : slot ac 6 = .pointer (some ⟨w0.heap.size, 0, none⟩) := hO 6 (by kernel_rfl)
                      have hx9 : Below w3.heap.size w3 w := hN 20 (by decide)
                      obtain ⟨⟨p0, p1, p2⟩, _⟩ := (HR.out.step hx9).three
                      obtain ⟨⟨r0, r1, r2⟩, _⟩ := (HRG.out.step hx9).three
                      have f6 := slot_at e6
                      unfold execOp; go_simp) (fun ac w hG hN => rfl)
                  · refine stepG_on (j := 14) (b := false) rfl (by decide) (fun v e w h => h) ?_
                    intro ac wx hG hN hO
                    have e80 : slot ac 80 = .agg #[.slice a z cap, .bool off, .int .i64 fuse] := hN 15 (by decide)
                    have e81 : slot ac 81 = .agg #[.slice a z cap, .bool off, .int .i64 fuse] := hN 16 (by decide)
                    have hx9 : Below w3.heap.size w3 wx := hN 20 (by decide)
                    have C := pSame_any_Dly ⟨fs, off, fuse⟩ ⟨fs, off, fuse⟩ (.slice a z cap) (.slice a z cap) wx (HI.out.stays hx9) (HI.out.stays hx9)
                    rw [sameD_yes rfl] at C
                    refine wp_callx 13 _ _ rfl (enters_of Try.func13 (by kernel_rfl) rfl) #[.agg #[.slice a z cap, .bool off, .int .i64 fuse], .agg #[.slice a z cap, .bool off, .int .i64 fuse]] (by simp [eval_slot, e80, e81]) (R := fun v wz => v = .bool true ∧ Below wx.heap.size wx wz) (C.mono fun e wz hz => ⟨_, hz.1, rfl, hz.2⟩) ?_
                    rintro v wz ⟨hv, hb⟩
                    exact ⟨v, rfl, hb, trivial, hv⟩
                  · refine stepG_on (j := 14) (b := false) rfl (by decide) (fun v e w h => h) ?_
                    exact stepR_value (t := 83) (.bool false) rfl (fun _ => Below.refl _ _) (fun ac w hG hN hO => by
                      have e82 : slot ac 82 = .bool true := hN 17 (by decide)
                      have f82 := slot_at e82
                      unfold execOp; go_simp) (fun ac w hG hN => rfl)
                  · refine stepG_of rfl ?_
                    exact stepR_value (t := 84) (.bool false) rfl (fun _ => Below.refl _ _) (fun ac w hG hN hO => by
                      have e79 : slot ac 79 = .bool false := hN 14 (by decide)
                      have e83 : slot ac 83 = .bool false := hN 18 (by decide)
                      have f79 := slot_at e79
                      have f83 := slot_at e83
                      unfold execOp; go_simp) (fun ac w hG hN => rfl)
                case behind =>
                  intro ac w5 hG hV hS ha
                  have h19 : slot ac 84 = .bool false := hV 19 (by decide) (by decide)
                  have h20 : Below w3.heap.size w3 w5 := hV 20 (by decide) (by decide)
                  generalize slot ac = sl at ha h19
                  subst ha
                  simp only [patchL, List.contains_cons, List.contains_nil, Nat.reduceBEq, Bool.or_false, Bool.or_true, if_true, Bool.false_eq_true, if_false, Nat.reduceAdd]
                  generalize sl 65 = s65
                  generalize sl 66 = s66
                  generalize sl 67 = s67
                  generalize sl 68 = s68
                  generalize sl 69 = s69
                  generalize sl 70 = s70
                  generalize sl 71 = s71
                  generalize sl 72 = s72
                  generalize sl 73 = s73
                  generalize sl 74 = s74
                  generalize sl 75 = s75
                  generalize sl 76 = s76
                  generalize sl 77 = s77
                  generalize sl 78 = s78
                  generalize sl 79 = s79
                  generalize sl 80 = s80
                  generalize sl 81 = s81
                  generalize sl 82 = s82
                  generalize sl 83 = s83
                  generalize sl 84 = s84 at h19 ⊢
                  subst h19
                  clear hV hS
                  have hb := h20
                  clear hG h20
                  replace HB := Lib.hid (below_step HB.out hb)
                  replace HR := Lib.hid (HR.out.step hb)
                  replace HI := Lib.hid (HI.out.stays hb)
                  replace HRG := Lib.hid (HRG.out.step hb)
                  replace HIG := Lib.hid (HIG.out.stays hb)
                  clear hb
                  have HRl := HR.out.lt
                  obtain ⟨⟨HR0, HR1, HR2⟩, HRz⟩ := HR.out.three
                  go_wp2_with fail
                  clear HR0 HR1 HR2 HRz HRl
                  have C := rFitD_any ⟨fs, off, fuse⟩ (.slice a z cap) w5 HI.out
                  unfold dskV at C
                  dsimp only at C
                  rw [← HFB.out] at C
                  refine C.mono ?_
                  clear C
                  rintro e w4 ⟨rfl, hb⟩
                  replace HB := Lib.hid (below_step HB.out hb)
                  replace HR := Lib.hid (HR.out.step hb)
                  replace HI := Lib.hid (HI.out.stays hb)
                  replace HRG := Lib.hid (HRG.out.step hb)
                  replace HIG := Lib.hid (HIG.out.stays hb)
                  clear hb
                  cases fb with
                  | false =>
                    go_wp2_with fail
                    refine (CA.out _).mono ?_
                    rintro e w9 ⟨rfl, hb⟩
                    replace HB := Lib.hid (below_step HB.out hb)
                    clear hb
                    go_wp2_with fail
                    go_ret
                    exact ⟨rfl, HB.out⟩
                  | true =>
                    have HF := Lib.hid (fitDB_iff.1 HFB.out.symm)
                    obtain ⟨⟨t0, was⟩, hA0⟩ : ∃ r, r = readL fs n.data.toList := ⟨_, rfl⟩
                    have HA0 := Lib.hid hA0.symm
                    obtain ⟨S, hS⟩ : ∃ S, S = strT t0 := ⟨_, rfl⟩
                    have HS := Lib.hid hS
                    have t1 : (S.toList == S.toList) = true := beq_str rfl
                    have t2 : (was == was) = true := by cases was <;> rfl
                    clear hA0 hS
                    obtain ⟨⟨⟨fs1, o1, u1⟩, e1⟩, hr⟩ : ∃ r, r = writeD nameB ⟨fs, off, fuse⟩ n x s := ⟨_, rfl⟩
                    have HF1 : Hid (FitD nameB ⟨fs1, o1, u1⟩) := Lib.hid (by have h9 := writeD_fit HF.out n x s; rwa [← hr] at h9)
                    have HR1 := Lib.hid hr
                    clear hr
                    have g1 : ((e1 : Int) == e1) = true := by simp
                    obtain ⟨⟨⟨fs2, o2, u2⟩, e2⟩, hr⟩ : ∃ r, r = syncD ⟨fs, off, fuse⟩ n := ⟨_, rfl⟩
                    have HF2 : Hid (FitD nameB ⟨fs2, o2, u2⟩) := Lib.hid (by have h9 := syncD_fit HF.out n; rwa [← hr] at h9)
                    have HR2 := Lib.hid hr
                    clear hr
                    have g2 : ((e2 : Int) == e2) = true := by simp
                    obtain ⟨⟨⟨fs3, o3, u3⟩, e3⟩, hr⟩ : ∃ r, r = renameD nameB ⟨fs, off, fuse⟩ n m := ⟨_, rfl⟩
                    have HF3 : Hid (FitD nameB ⟨fs3, o3, u3⟩) := Lib.hid (by have h9 := renameD_fit HF.out n m; rwa [← hr] at h9)
                    have HR3 := Lib.hid hr
                    clear hr
                    have g3 : ((e3 : Int) == e3) = true := by simp
                    obtain ⟨⟨⟨fs4, o4, u4⟩, e4⟩, hr⟩ : ∃ r, r = removeD ⟨fs, off, fuse⟩ n := ⟨_, rfl⟩
                    have HF4 : Hid (FitD nameB ⟨fs4, o4, u4⟩) := Lib.hid (by have h9 := removeD_fit HF.out n; rwa [← hr] at h9)
                    have HR4 := Lib.hid hr
                    clear hr
                    have g4 : ((e4 : Int) == e4) = true := by simp
                    have HRl := HR.out.lt
                    obtain ⟨⟨HR0, HR1, HR2⟩, HRz⟩ := HR.out.three
                    go_wp2_with fail
                    clear HR0 HR1 HR2 HRz HRl
                    have C := pRead_as ⟨fs, off, fuse⟩ (.slice a z cap) n w4 HI.out HF.out HA0.out
                    unfold dskV at C
                    dsimp only at C
                    rw [← HS.out] at C
                    refine C.mono ?_
                    clear C
                    rintro e w5 ⟨rfl, hb⟩
                    replace HB := Lib.hid (below_step HB.out hb)
                    replace HR := Lib.hid (HR.out.step hb)
                    replace HI := Lib.hid (HI.out.stays hb)
                    replace HRG := Lib.hid (HRG.out.step hb)
                    replace HIG := Lib.hid (HIG.out.stays hb)
                    clear hb
                    have HRl := HR.out.lt
                    obtain ⟨⟨HR0, HR1, HR2⟩, HRz⟩ := HR.out.three
                    go_wp2_with fail
                    clear HR0 HR1 HR2 HRz HRl
                    have C := rRead_as ⟨fs, off, fuse⟩ (.slice a z cap) n w5 HI.out HF.out HA0.out
                    unfold dskV at C
                    dsimp only at C
                    rw [← HS.out] at C
                    refine C.mono ?_
                    clear C
                    rintro e w6 ⟨rfl, hb⟩
                    replace HB := Lib.hid (below_step HB.out hb)
                    replace HR := Lib.hid (HR.out.step hb)
                    replace HI := Lib.hid (HI.out.stays hb)
                    replace HRG := Lib.hid (HRG.out.step hb)
                    replace HIG := Lib.hid (HIG.out.stays hb)
                    clear hb
                    have HRl := HR.out.lt
                    obtain ⟨⟨HR0, HR1, HR2⟩, HRz⟩ := HR.out.three
                    go_wp2_with fail
                    clear HR0 HR1 HR2 HRz HRl
                    have C := pWrite_any ⟨fs, off, fuse⟩ (.slice a z cap) n x s w6 HI.out HF.out (Nat.le_trans HLd1.out (by decide)) HX.out (Nat.le_trans HLd3.out (by decide))
                    rw [← HR1.out] at C
                    unfold dskV at C
                    refine C.mono ?_
                    clear C
                    rintro e w7 hr
                    obtain ⟨a1, z1, c1, rfl, h1, hb⟩ := hr.open
                    have HI1 := Lib.hid h1
                    clear hr h1
                    replace HB := Lib.hid (below_step HB.out hb)
                    replace HR := Lib.hid (HR.out.step hb)
                    replace HI := Lib.hid (HI.out.stays hb)
                    replace HRG := Lib.hid (HRG.out.step hb)
                    replace HIG := Lib.hid (HIG.out.stays hb)
                    clear hb
                    dsimp only at HI1 ⊢
                    have HRl := HR.out.lt
                    obtain ⟨⟨HR0, HR1, HR2⟩, HRz⟩ := HR.out.three
                    go_wp2_with fail
                    clear HR0 HR1 HR2 HRz HRl
                    obtain ⟨X7, hX⟩ : ∃ X, X = w7.alloc (.cells #[.slice a1 z1 c1, .bool o1, .int .i64 u1] 24) := ⟨_, rfl⟩
                    have hb : Below w7.heap.size w7 X7 := by rw [hX]; exact (Below.refl _ _).alloc (Nat.le_refl _) _
                    have HC1 : Hid (Row X7 w7.heap.size #[.slice a1 z1 c1, .bool o1, .int .i64 u1] 24) := by rw [hX]; exact Lib.hid (Row.made _ _ _)
                    rw [← hX]
                    replace HB := Lib.hid (below_step HB.out hb)
                    replace HR := Lib.hid (HR.out.step hb)
                    replace HI := Lib.hid (HI.out.stays hb)
                    replace HRG := Lib.hid (HRG.out.step hb)
                    replace HIG := Lib.hid (HIG.out.stays hb)
                    replace HI1 := Lib.hid (HI1.out.stays hb)
                    clear hb hX
                    have C := rWrite_any ⟨fs, off, fuse⟩ (.slice a z cap) n x s X7 HI.out HF.out (Nat.le_trans HLd3.out (by decide))
                    rw [← HR1.out] at C
                    unfold dskV at C
                    refine C.mono ?_
                    clear C
                    rintro e w8 hr
                    obtain ⟨a2, z2, c2, rfl, h1, hb⟩ := hr.open
                    have HI2 := Lib.hid h1
                    clear hr h1
                    replace HB := Lib.hid (below_step HB.out hb)
                    replace HR := Lib.hid (HR.out.step hb)
                    replace HI := Lib.hid (HI.out.stays hb)
                    replace HRG := Lib.hid (HRG.out.step hb)
                    replace HIG := Lib.hid (HIG.out.stays hb)
                    replace HI1 := Lib.hid (HI1.out.stays hb)
                    replace HC1 := Lib.hid (HC1.out.step hb)
                    clear hb
                    dsimp only at HI2 ⊢
                    have HRl := HR.out.lt
                    obtain ⟨⟨HR0, HR1, HR2⟩, HRz⟩ := HR.out.three
                    go_wp2_with fail
                    clear HR0 HR1 HR2 HRz HRl
                    obtain ⟨X8, hX⟩ : ∃ X, X = w8.alloc (.cells #[.slice a2 z2 c2, .bool o1, .int .i64 u1] 24) := ⟨_, rfl⟩
                    have hb : Below w8.heap.size w8 X8 := by rw [hX]; exact (Below.refl _ _).alloc (Nat.le_refl _) _
                    have HC2 : Hid (Row X8 w8.heap.size #[.slice a2 z2 c2, .bool o1, .int .i64 u1] 24) := by rw [hX]; exact Lib.hid (Row.made _ _ _)
                    rw [← hX]
                    replace HB := Lib.hid (below_step HB.out hb)
                    replace HR := Lib.hid (HR.out.step hb)
                    replace HI := Lib.hid (HI.out.stays hb)
                    replace HRG := Lib.hid (HRG.out.step hb)
                    replace HIG := Lib.hid (HIG.out.stays hb)
                    replace HI1 := Lib.hid (HI1.out.stays hb)
                    replace HC1 := Lib.hid (HC1.out.step hb)
                    replace HI2 := Lib.hid (HI2.out.stays hb)
                    clear hb hX
                    have C := pSync_any ⟨fs, off, fuse⟩ (.slice a z cap) n X8 HI.out HF.out
                    rw [← HR2.out] at C
                    unfold dskV at C
                    refine C.mono ?_
                    clear C
                    rintro e w9 hr
                    obtain ⟨a3, z3, c3, rfl, h1, hb⟩ := hr.open
                    have HI3 := Lib.hid h1
                    clear hr h1
                    replace HB := Lib.hid (below_step HB.out hb)
                    replace HR := Lib.hid (HR.out.step hb)
                    replace HI := Lib.hid (HI.out.stays hb)
                    replace HRG := Lib.hid (HRG.out.step hb)
                    replace HIG := Lib.hid (HIG.out.stays hb)
                    replace HI1 := Lib.hid (HI1.out.stays hb)
                    replace HC1 := Lib.hid (HC1.out.step hb)
                    replace HI2 := Lib.hid (HI2.out.stays hb)
                    replace HC2 := Lib.hid (HC2.out.step hb)
                    clear hb
                    dsimp only at HI3 ⊢
                    have HRl := HR.out.lt
                    obtain ⟨⟨HR0, HR1, HR2⟩, HRz⟩ := HR.out.three
                    go_wp2_with fail
                    clear HR0 HR1 HR2 HRz HRl
                    obtain ⟨X9, hX⟩ : ∃ X, X = w9.alloc (.cells #[.slice a3 z3 c3, .bool o2, .int .i64 u2] 24) := ⟨_, rfl⟩
                    have hb : Below w9.heap.size w9 X9 := by rw [hX]; exact (Below.refl _ _).alloc (Nat.le_refl _) _
                    have HC3 : Hid (Row X9 w9.heap.size #[.slice a3 z3 c3, .bool o2, .int .i64 u2] 24) := by rw [hX]; exact Lib.hid (Row.made _ _ _)
                    rw [← hX]
                    replace HB := Lib.hid (below_step HB.out hb)
                    replace HR := Lib.hid (HR.out.step hb)
                    replace HI := Lib.hid (HI.out.stays hb)
                    replace HRG := Lib.hid (HRG.out.step hb)
                    replace HIG := Lib.hid (HIG.out.stays hb)
                    replace HI1 := Lib.hid (HI1.out.stays hb)
                    replace HC1 := Lib.hid (HC1.out.step hb)
                    replace HI2 := Lib.hid (HI2.out.stays hb)
                    replace HC2 := Lib.hid (HC2.out.step hb)
                    replace HI3 := Lib.hid (HI3.out.stays hb)
                    clear hb hX
                    have C := rSync_any ⟨fs, off, fuse⟩ (.slice a z cap) n X9 HI.out HF.out
                    rw [← HR2.out] at C
                    unfold dskV at C
                    refine C.mono ?_
                    clear C
                    rintro e w10 hr
                    obtain ⟨a4, z4, c4, rfl, h1, hb⟩ := hr.open
                    have HI4 := Lib.hid h1
                    clear hr h1
                    replace HB := Lib.hid (below_step HB.out hb)
                    replace HR := Lib.hid (HR.out.step hb)
                    replace HI := Lib.hid (HI.out.stays hb)
                    replace HRG := Lib.hid (HRG.out.step hb)
                    replace HIG := Lib.hid (HIG.out.stays hb)
                    replace HI1 := Lib.hid (HI1.out.stays hb)
                    replace HC1 := Lib.hid (HC1.out.step hb)
                    replace HI2 := Lib.hid (HI2.out.stays hb)
                    replace HC2 := Lib.hid (HC2.out.step hb)
                    replace HI3 := Lib.hid (HI3.out.stays hb)
                    replace HC3 := Lib.hid (HC3.out.step hb)
                    clear hb
                    dsimp only at HI4 ⊢
                    have HRl := HR.out.lt
                    obtain ⟨⟨HR0, HR1, HR2⟩, HRz⟩ := HR.out.three
                    go_wp2_with fail
                    clear HR0 HR1 HR2 HRz HRl
                    obtain ⟨X10, hX⟩ : ∃ X, X = w10.alloc (.cells #[.slice a4 z4 c4, .bool o2, .int .i64 u2] 24) := ⟨_, rfl⟩
                    have hb : Below w10.heap.size w10 X10 := by rw [hX]; exact (Below.refl _ _).alloc (Nat.le_refl _) _
                    have HC4 : Hid (Row X10 w10.heap.size #[.slice a4 z4 c4, .bool o2, .int .i64 u2] 24) := by rw [hX]; exact Lib.hid (Row.made _ _ _)
                    rw [← hX]
                    replace HB := Lib.hid (below_step HB.out hb)
                    replace HR := Lib.hid (HR.out.step hb)
                    replace HI := Lib.hid (HI.out.stays hb)
                    replace HRG := Lib.hid (HRG.out.step hb)
                    replace HIG := Lib.hid (HIG.out.stays hb)
                    replace HI1 := Lib.hid (HI1.out.stays hb)
                    replace HC1 := Lib.hid (HC1.out.step hb)
                    replace HI2 := Lib.hid (HI2.out.stays hb)
                    replace HC2 := Lib.hid (HC2.out.step hb)
                    replace HI3 := Lib.hid (HI3.out.stays hb)
                    replace HC3 := Lib.hid (HC3.out.step hb)
                    replace HI4 := Lib.hid (HI4.out.stays hb)
                    clear hb hX
                    have C := pRename_any ⟨fs, off, fuse⟩ (.slice a z cap) n m X10 HI.out HF.out (Nat.le_trans HLd2.out (by decide))
                    rw [← HR3.out] at C
                    unfold dskV at C
                    refine C.mono ?_
                    clear C
                    rintro e w11 hr
                    obtain ⟨a5, z5, c5, rfl, h1, hb⟩ := hr.open
                    have HI5 := Lib.hid h1
                    clear hr h1
                    replace HB := Lib.hid (below_step HB.out hb)
                    replace HR := Lib.hid (HR.out.step hb)
                    replace HI := Lib.hid (HI.out.stays hb)
                    replace HRG := Lib.hid (HRG.out.step hb)
                    replace HIG := Lib.hid (HIG.out.stays hb)
                    replace HI1 := Lib.hid (HI1.out.stays hb)
                    replace HC1 := Lib.hid (HC1.out.step hb)
                    replace HI2 := Lib.hid (HI2.out.stays hb)
                    replace HC2 := Lib.hid (HC2.out.step hb)
                    replace HI3 := Lib.hid (HI3.out.stays hb)
                    replace HC3 := Lib.hid (HC3.out.step hb)
                    replace HI4 := Lib.hid (HI4.out.stays hb)
                    replace HC4 := Lib.hid (HC4.out.step hb)
                    clear hb
                    dsimp only at HI5 ⊢
                    have HRl := HR.out.lt
                    obtain ⟨⟨HR0, HR1, HR2⟩, HRz⟩ := HR.out.three
                    go_wp2_with fail
                    clear HR0 HR1 HR2 HRz HRl
                    obtain ⟨X11, hX⟩ : ∃ X, X = w11.alloc (.cells #[.slice a5 z5 c5, .bool o3, .int .i64 u3] 24) := ⟨_, rfl⟩
                    have hb : Below w11.heap.size w11 X11 := by rw [hX]; exact (Below.refl _ _).alloc (Nat.le_refl _) _
                    have HC5 : Hid (Row X11 w11.heap.size #[.slice a5 z5 c5, .bool o3, .int .i64 u3] 24) := by rw [hX]; exact Lib.hid (Row.made _ _ _)
                    rw [← hX]
                    replace HB := Lib.hid (below_step HB.out hb)
                    replace HR := Lib.hid (HR.out.step hb)
                    replace HI := Lib.hid (HI.out.stays hb)
                    replace HRG := Lib.hid (HRG.out.step hb)
                    replace HIG := Lib.hid (HIG.out.stays hb)
                    replace HI1 := Lib.hid (HI1.out.stays hb)
                    replace HC1 := Lib.hid (HC1.out.step hb)
                    replace HI2 := Lib.hid (HI2.out.stays hb)
                    replace HC2 := Lib.hid (HC2.out.step hb)
                    replace HI3 := Lib.hid (HI3.out.stays hb)
                    replace HC3 := Lib.hid (HC3.out.step hb)
                    replace HI4 := Lib.hid (HI4.out.stays hb)
                    replace HC4 := Lib.hid (HC4.out.step hb)
                    replace HI5 := Lib.hid (HI5.out.stays hb)
                    clear hb hX
                    have C := rRename_any ⟨fs, off, fuse⟩ (.slice a z cap) n m X11 HI.out HF.out
                    rw [← HR3.out] at C
                    unfold dskV at C
                    refine C.mono ?_
                    clear C
                    rintro e w12 hr
                    obtain ⟨a6, z6, c6, rfl, h1, hb⟩ := hr.open
                    have HI6 := Lib.hid h1
                    clear hr h1
                    replace HB := Lib.hid (below_step HB.out hb)
                    replace HR := Lib.hid (HR.out.step hb)
                    replace HI := Lib.hid (HI.out.stays hb)
                    replace HRG := Lib.hid (HRG.out.step hb)
                    replace HIG := Lib.hid (HIG.out.stays hb)
                    replace HI1 := Lib.hid (HI1.out.stays hb)
                    replace HC1 := Lib.hid (HC1.out.step hb)
                    replace HI2 := Lib.hid (HI2.out.stays hb)
                    replace HC2 := Lib.hid (HC2.out.step hb)
                    replace HI3 := Lib.hid (HI3.out.stays hb)
                    replace HC3 := Lib.hid (HC3.out.step hb)
                    replace HI4 := Lib.hid (HI4.out.stays hb)
                    replace HC4 := Lib.hid (HC4.out.step hb)
                    replace HI5 := Lib.hid (HI5.out.stays hb)
                    replace HC5 := Lib.hid (HC5.out.step hb)
                    clear hb
                    dsimp only at HI6 ⊢
                    have HRl := HR.out.lt
                    obtain ⟨⟨HR0, HR1, HR2⟩, HRz⟩ := HR.out.three
                    go_wp2_with fail
                    clear HR0 HR1 HR2 HRz HRl
                    obtain ⟨X12, hX⟩ : ∃ X, X = w12.alloc (.cells #[.slice a6 z6 c6, .bool o3, .int .i64 u3] 24) := ⟨_, rfl⟩
                    have hb : Below w12.heap.size w12 X12 := by rw [hX]; exact (Below.refl _ _).alloc (Nat.le_refl _) _
                    have HC6 : Hid (Row X12 w12.heap.size #[.slice a6 z6 c6, .bool o3, .int .i64 u3] 24) := by rw [hX]; exact Lib.hid (Row.made _ _ _)
                    rw [← hX]
                    replace HB := Lib.hid (below_step HB.out hb)
                    replace HR := Lib.hid (HR.out.step hb)
                    replace HI := Lib.hid (HI.out.stays hb)
                    replace HRG := Lib.hid (HRG.out.step hb)
                    replace HIG := Lib.hid (HIG.out.stays hb)
                    replace HI1 := Lib.hid (HI1.out.stays hb)
                    replace HC1 := Lib.hid (HC1.out.step hb)
                    replace HI2 := Lib.hid (HI2.out.stays hb)
                    replace HC2 := Lib.hid (HC2.out.step hb)
                    replace HI3 := Lib.hid (HI3.out.stays hb)
                    replace HC3 := Lib.hid (HC3.out.step hb)
                    replace HI4 := Lib.hid (HI4.out.stays hb)
                    replace HC4 := Lib.hid (HC4.out.step hb)
                    replace HI5 := Lib.hid (HI5.out.stays hb)
                    replace HC5 := Lib.hid (HC5.out.step hb)
                    replace HI6 := Lib.hid (HI6.out.stays hb)
                    clear hb hX
                    have C := pRemove_any ⟨fs, off, fuse⟩ (.slice a z cap) n X12 HI.out HF.out
                    rw [← HR4.out] at C
                    unfold dskV at C
                    refine C.mono ?_
                    clear C
                    rintro e w13 hr
                    obtain ⟨a7, z7, c7, rfl, h1, hb⟩ := hr.open
                    have HI7 := Lib.hid h1
                    clear hr h1
                    replace HB := Lib.hid (below_step HB.out hb)
                    replace HR := Lib.hid (HR.out.step hb)
                    replace HI := Lib.hid (HI.out.stays hb)
                    replace HRG := Lib.hid (HRG.out.step hb)
                    replace HIG := Lib.hid (HIG.out.stays hb)
                    replace HI1 := Lib.hid (HI1.out.stays hb)
                    replace HC1 := Lib.hid (HC1.out.step hb)
                    replace HI2 := Lib.hid (HI2.out.stays hb)
                    replace HC2 := Lib.hid (HC2.out.step hb)
                    replace HI3 := Lib.hid (HI3.out.stays hb)
                    replace HC3 := Lib.hid (HC3.out.step hb)
                    replace HI4 := Lib.hid (HI4.out.stays hb)
                    replace HC4 := Lib.hid (HC4.out.step hb)
                    replace HI5 := Lib.hid (HI5.out.stays hb)
                    replace HC5 := Lib.hid (HC5.out.step hb)
                    replace HI6 := Lib.hid (HI6.out.stays hb)
                    replace HC6 := Lib.hid (HC6.out.step hb)
                    clear hb
                    dsimp only at HI7 ⊢
                    have HRl := HR.out.lt
                    obtain ⟨⟨HR0, HR1, HR2⟩, HRz⟩ := HR.out.three
                    go_wp2_with fail
                    clear HR0 HR1 HR2 HRz HRl
                    obtain ⟨X13, hX⟩ : ∃ X, X = w13.alloc (.cells #[.slice a7 z7 c7, .bool o4, .int .i64 u4] 24) := ⟨_, rfl⟩
                    have hb : Below w13.heap.size w13 X13 := by rw [hX]; exact (Below.refl _ _).alloc (Nat.le_refl _) _
                    have HC7 : Hid (Row X13 w13.heap.size #[.slice a7 z7 c7, .bool o4, .int .i64 u4] 24) := by rw [hX]; exact Lib.hid (Row.made _ _ _)
                    rw [← hX]
                    replace HB := Lib.hid (below_step HB.out hb)
                    replace HR := Lib.hid (HR.out.step hb)
                    replace HI := Lib.hid (HI.out.stays hb)
                    replace HRG := Lib.hid (HRG.out.step hb)
                    replace HIG := Lib.hid (HIG.out.stays hb)
                    replace HI1 := Lib.hid (HI1.out.stays hb)
                    replace HC1 := Lib.hid (HC1.out.step hb)
                    replace HI2 := Lib.hid (HI2.out.stays hb)
                    replace HC2 := Lib.hid (HC2.out.step hb)
                    replace HI3 := Lib.hid (HI3.out.stays hb)
                    replace HC3 := Lib.hid (HC3.out.step hb)
                    replace HI4 := Lib.hid (HI4.out.stays hb)
                    replace HC4 := Lib.hid (HC4.out.step hb)
                    replace HI5 := Lib.hid (HI5.out.stays hb)
                    replace HC5 := Lib.hid (HC5.out.step hb)
                    replace HI6 := Lib.hid (HI6.out.stays hb)
                    replace HC6 := Lib.hid (HC6.out.step hb)
                    replace HI7 := Lib.hid (HI7.out.stays hb)
                    clear hb hX
                    have C := rRemove_any ⟨fs, off, fuse⟩ (.slice a z cap) n X13 HI.out HF.out
                    rw [← HR4.out] at C
                    unfold dskV at C
                    refine C.mono ?_
                    clear C
                    rintro e w14 hr
                    obtain ⟨a8, z8, c8, rfl, h1, hb⟩ := hr.open
                    have HI8 := Lib.hid h1
                    clear hr h1
                    replace HB := Lib.hid (below_step HB.out hb)
                    replace HR := Lib.hid (HR.out.step hb)
                    replace HI := Lib.hid (HI.out.stays hb)
                    replace HRG := Lib.hid (HRG.out.step hb)
                    replace HIG := Lib.hid (HIG.out.stays hb)
                    replace HI1 := Lib.hid (HI1.out.stays hb)
                    replace HC1 := Lib.hid (HC1.out.step hb)
                    replace HI2 := Lib.hid (HI2.out.stays hb)
                    replace HC2 := Lib.hid (HC2.out.step hb)
                    replace HI3 := Lib.hid (HI3.out.stays hb)
                    replace HC3 := Lib.hid (HC3.out.step hb)
                    replace HI4 := Lib.hid (HI4.out.stays hb)
                    replace HC4 := Lib.hid (HC4.out.step hb)
                    replace HI5 := Lib.hid (HI5.out.stays hb)
                    replace HC5 := Lib.hid (HC5.out.step hb)
                    replace HI6 := Lib.hid (HI6.out.stays hb)
                    replace HC6 := Lib.hid (HC6.out.step hb)
                    replace HI7 := Lib.hid (HI7.out.stays hb)
                    replace HC7 := Lib.hid (HC7.out.step hb)
                    clear hb
                    dsimp only at HI8 ⊢
                    have HC1l := HC1.out.lt
                    obtain ⟨⟨HC10, HC11, HC12⟩, HC1z⟩ := HC1.out.three
                    go_wp2_with fail
                    clear HC10 HC11 HC12 HC1z HC1l
                    obtain ⟨X14, hX⟩ : ∃ X, X = w14.alloc (.cells #[.slice a8 z8 c8, .bool o4, .int .i64 u4] 24) := ⟨_, rfl⟩
                    have hb : Below w14.heap.size w14 X14 := by rw [hX]; exact (Below.refl _ _).alloc (Nat.le_refl _) _
                    have HC8 : Hid (Row X14 w14.heap.size #[.slice a8 z8 c8, .bool o4, .int .i64 u4] 24) := by rw [hX]; exact Lib.hid (Row.made _ _ _)
                    rw [← hX]
                    replace HB := Lib.hid (below_step HB.out hb)
                    replace HR := Lib.hid (HR.out.step hb)
                    replace HI := Lib.hid (HI.out.stays hb)
                    replace HRG := Lib.hid (HRG.out.step hb)
                    replace HIG := Lib.hid (HIG.out.stays hb)
                    replace HI1 := Lib.hid (HI1.out.stays hb)
                    replace HC1 := Lib.hid (HC1.out.step hb)
                    replace HI2 := Lib.hid (HI2.out.stays hb)
                    replace HC2 := Lib.hid (HC2.out.step hb)
                    replace HI3 := Lib.hid (HI3.out.stays hb)
                    replace HC3 := Lib.hid (HC3.out.step hb)
                    replace HI4 := Lib.hid (HI4.out.stays hb)
                    replace HC4 := Lib.hid (HC4.out.step hb)
                    replace HI5 := Lib.hid (HI5.out.stays hb)
                    replace HC5 := Lib.hid (HC5.out.step hb)
                    replace HI6 := Lib.hid (HI6.out.stays hb)
                    replace HC6 := Lib.hid (HC6.out.step hb)
                    replace HI7 := Lib.hid (HI7.out.stays hb)
                    replace HC7 := Lib.hid (HC7.out.step hb)
                    replace HI8 := Lib.hid (HI8.out.stays hb)
                    clear hb hX
                    have C := rFitD_any ⟨fs1, o1, u1⟩ (.slice a1 z1 c1) X14 HI1.out
                    rw [fitDB_yes HF1.out] at C
                    unfold dskV at C
                    dsimp only at C
                    refine C.mono ?_
                    clear C
                    rintro e w15 ⟨rfl, hb⟩
                    replace HB := Lib.hid (below_step HB.out hb)
                    replace HR := Lib.hid (HR.out.step hb)
                    replace HI := Lib.hid (HI.out.stays hb)
                    replace HRG := Lib.hid (HRG.out.step hb)
                    replace HIG := Lib.hid (HIG.out.stays hb)
                    replace HI1 := Lib.hid (HI1.out.stays hb)
                    replace HC1 := Lib.hid (HC1.out.step hb)
                    replace HI2 := Lib.hid (HI2.out.stays hb)
                    replace HC2 := Lib.hid (HC2.out.step hb)
                    replace HI3 := Lib.hid (HI3.out.stays hb)
                    replace HC3 := Lib.hid (HC3.out.step hb)
                    replace HI4 := Lib.hid (HI4.out.stays hb)
                    replace HC4 := Lib.hid (HC4.out.step hb)
                    replace HI5 := Lib.hid (HI5.out.stays hb)
                    replace HC5 := Lib.hid (HC5.out.step hb)
                    replace HI6 := Lib.hid (HI6.out.stays hb)
                    replace HC6 := Lib.hid (HC6.out.step hb)
                    replace HI7 := Lib.hid (HI7.out.stays hb)
                    replace HC7 := Lib.hid (HC7.out.step hb)
                    replace HI8 := Lib.hid (HI8.out.stays hb)
                    replace HC8 := Lib.hid (HC8.out.step hb)
                    clear hb
                    have HC3l := HC3.out.lt
                    obtain ⟨⟨HC30, HC31, HC32⟩, HC3z⟩ := HC3.out.three
                    go_wp2_with fail
                    clear HC30 HC31 HC32 HC3z HC3l
                    have C := rFitD_any ⟨fs2, o2, u2⟩ (.slice a3 z3 c3) w15 HI3.out
                    rw [fitDB_yes HF2.out] at C
                    unfold dskV at C
                    dsimp only at C
                    refine C.mono ?_
                    clear C
                    rintro e w16 ⟨rfl, hb⟩
                    replace HB := Lib.hid (below_step HB.out hb)
                    replace HR := Lib.hid (HR.out.step hb)
                    replace HI := Lib.hid (HI.out.stays hb)
                    replace HRG := Lib.hid (HRG.out.step hb)
                    replace HIG := Lib.hid (HIG.out.stays hb)
                    replace HI1 := Lib.hid (HI1.out.stays hb)
                    replace HC1 := Lib.hid (HC1.out.step hb)
                    replace HI2 := Lib.hid (HI2.out.stays hb)
                    replace HC2 := Lib.hid (HC2.out.step hb)
                    replace HI3 := Lib.hid (HI3.out.stays hb)
                    replace HC3 := Lib.hid (HC3.out.step hb)
                    replace HI4 := Lib.hid (HI4.out.stays hb)
                    replace HC4 := Lib.hid (HC4.out.step hb)
                    replace HI5 := Lib.hid (HI5.out.stays hb)
                    replace HC5 := Lib.hid (HC5.out.step hb)
                    replace HI6 := Lib.hid (HI6.out.stays hb)
                    replace HC6 := Lib.hid (HC6.out.step hb)
                    replace HI7 := Lib.hid (HI7.out.stays hb)
                    replace HC7 := Lib.hid (HC7.out.step hb)
                    replace HI8 := Lib.hid (HI8.out.stays hb)
                    replace HC8 := Lib.hid (HC8.out.step hb)
                    clear hb
                    have HC5l := HC5.out.lt
                    obtain ⟨⟨HC50, HC51, HC52⟩, HC5z⟩ := HC5.out.three
                    go_wp2_with fail
                    clear HC50 HC51 HC52 HC5z HC5l
                    have C := rFitD_any ⟨fs3, o3, u3⟩ (.slice a5 z5 c5) w16 HI5.out
                    rw [fitDB_yes HF3.out] at C
                    unfold dskV at C
                    dsimp only at C
                    refine C.mono ?_
                    clear C
                    rintro e w17 ⟨rfl, hb⟩
                    replace HB := Lib.hid (below_step HB.out hb)
                    replace HR := Lib.hid (HR.out.step hb)
                    replace HI := Lib.hid (HI.out.stays hb)
                    replace HRG := Lib.hid (HRG.out.step hb)
                    replace HIG := Lib.hid (HIG.out.stays hb)
                    replace HI1 := Lib.hid (HI1.out.stays hb)
                    replace HC1 := Lib.hid (HC1.out.step hb)
                    replace HI2 := Lib.hid (HI2.out.stays hb)
                    replace HC2 := Lib.hid (HC2.out.step hb)
                    replace HI3 := Lib.hid (HI3.out.stays hb)
                    replace HC3 := Lib.hid (HC3.out.step hb)
                    replace HI4 := Lib.hid (HI4.out.stays hb)
                    replace HC4 := Lib.hid (HC4.out.step hb)
                    replace HI5 := Lib.hid (HI5.out.stays hb)
                    replace HC5 := Lib.hid (HC5.out.step hb)
                    replace HI6 := Lib.hid (HI6.out.stays hb)
                    replace HC6 := Lib.hid (HC6.out.step hb)
                    replace HI7 := Lib.hid (HI7.out.stays hb)
                    replace HC7 := Lib.hid (HC7.out.step hb)
                    replace HI8 := Lib.hid (HI8.out.stays hb)
                    replace HC8 := Lib.hid (HC8.out.step hb)
                    clear hb
                    have HC7l := HC7.out.lt
                    obtain ⟨⟨HC70, HC71, HC72⟩, HC7z⟩ := HC7.out.three
                    go_wp2_with fail
                    clear HC70 HC71 HC72 HC7z HC7l
                    have C := rFitD_any ⟨fs4, o4, u4⟩ (.slice a7 z7 c7) w17 HI7.out
                    rw [fitDB_yes HF4.out] at C
                    unfold dskV at C
                    dsimp only at C
                    refine C.mono ?_
                    clear C
                    rintro e w18 ⟨rfl, hb⟩
                    replace HB := Lib.hid (below_step HB.out hb)
                    replace HR := Lib.hid (HR.out.step hb)
                    replace HI := Lib.hid (HI.out.stays hb)
                    replace HRG := Lib.hid (HRG.out.step hb)
                    replace HIG := Lib.hid (HIG.out.stays hb)
                    replace HI1 := Lib.hid (HI1.out.stays hb)
                    replace HC1 := Lib.hid (HC1.out.step hb)
                    replace HI2 := Lib.hid (HI2.out.stays hb)
                    replace HC2 := Lib.hid (HC2.out.step hb)
                    replace HI3 := Lib.hid (HI3.out.stays hb)
                    replace HC3 := Lib.hid (HC3.out.step hb)
                    replace HI4 := Lib.hid (HI4.out.stays hb)
                    replace HC4 := Lib.hid (HC4.out.step hb)
                    replace HI5 := Lib.hid (HI5.out.stays hb)
                    replace HC5 := Lib.hid (HC5.out.step hb)
                    replace HI6 := Lib.hid (HI6.out.stays hb)
                    replace HC6 := Lib.hid (HC6.out.step hb)
                    replace HI7 := Lib.hid (HI7.out.stays hb)
                    replace HC7 := Lib.hid (HC7.out.step hb)
                    replace HI8 := Lib.hid (HI8.out.stays hb)
                    replace HC8 := Lib.hid (HC8.out.step hb)
                    clear hb
                    have HC1l := HC1.out.lt
                    obtain ⟨⟨HC10, HC11, HC12⟩, HC1z⟩ := HC1.out.three
                    have HC2l := HC2.out.lt
                    obtain ⟨⟨HC20, HC21, HC22⟩, HC2z⟩ := HC2.out.three
                    go_wp2_with fail
                    clear HC10 HC11 HC12 HC1z HC1l HC20 HC21 HC22 HC2z HC2l
                    have C := rSameD_any ⟨fs1, o1, u1⟩ ⟨fs1, o1, u1⟩ (.slice a1 z1 c1) (.slice a2 z2 c2) w18 HI1.out HI2.out
                    rw [sameD_yes rfl] at C
                    unfold dskV at C
                    dsimp only at C
                    refine C.mono ?_
                    clear C
                    rintro e w19 ⟨rfl, hb⟩
                    replace HB := Lib.hid (below_step HB.out hb)
                    replace HR := Lib.hid (HR.out.step hb)
                    replace HI := Lib.hid (HI.out.stays hb)
                    replace HRG := Lib.hid (HRG.out.step hb)
                    replace HIG := Lib.hid (HIG.out.stays hb)
                    replace HI1 := Lib.hid (HI1.out.stays hb)
                    replace HC1 := Lib.hid (HC1.out.step hb)
                    replace HI2 := Lib.hid (HI2.out.stays hb)
                    replace HC2 := Lib.hid (HC2.out.step hb)
                    replace HI3 := Lib.hid (HI3.out.stays hb)
                    replace HC3 := Lib.hid (HC3.out.step hb)
                    replace HI4 := Lib.hid (HI4.out.stays hb)
                    replace HC4 := Lib.hid (HC4.out.step hb)
                    replace HI5 := Lib.hid (HI5.out.stays hb)
                    replace HC5 := Lib.hid (HC5.out.step hb)
                    replace HI6 := Lib.hid (HI6.out.stays hb)
                    replace HC6 := Lib.hid (HC6.out.step hb)
                    replace HI7 := Lib.hid (HI7.out.stays hb)
                    replace HC7 := Lib.hid (HC7.out.step hb)
                    replace HI8 := Lib.hid (HI8.out.stays hb)
                    replace HC8 := Lib.hid (HC8.out.step hb)
                    clear hb
                    have HC3l := HC3.out.lt
                    obtain ⟨⟨HC30, HC31, HC32⟩, HC3z⟩ := HC3.out.three
                    have HC4l := HC4.out.lt
                    obtain ⟨⟨HC40, HC41, HC42⟩, HC4z⟩ := HC4.out.three
                    go_wp2_with fail
                    clear HC30 HC31 HC32 HC3z HC3l HC40 HC41 HC42 HC4z HC4l
                    have C := rSameD_any ⟨fs2, o2, u2⟩ ⟨fs2, o2, u2⟩ (.slice a3 z3 c3) (.slice a4 z4 c4) w19 HI3.out HI4.out
                    rw [sameD_yes rfl] at C
                    unfold dskV at C
                    dsimp only at C
                    refine C.mono ?_
                    clear C
                    rintro e w20 ⟨rfl, hb⟩
                    replace HB := Lib.hid (below_step HB.out hb)
                    replace HR := Lib.hid (HR.out.step hb)
                    replace HI := Lib.hid (HI.out.stays hb)
                    replace HRG := Lib.hid (HRG.out.step hb)
                    replace HIG := Lib.hid (HIG.out.stays hb)
                    replace HI1 := Lib.hid (HI1.out.stays hb)
                    replace HC1 := Lib.hid (HC1.out.step hb)
                    replace HI2 := Lib.hid (HI2.out.stays hb)
                    replace HC2 := Lib.hid (HC2.out.step hb)
                    replace HI3 := Lib.hid (HI3.out.stays hb)
                    replace HC3 := Lib.hid (HC3.out.step hb)
                    replace HI4 := Lib.hid (HI4.out.stays hb)
                    replace HC4 := Lib.hid (HC4.out.step hb)
                    replace HI5 := Lib.hid (HI5.out.stays hb)
                    replace HC5 := Lib.hid (HC5.out.step hb)
                    replace HI6 := Lib.hid (HI6.out.stays hb)
                    replace HC6 := Lib.hid (HC6.out.step hb)
                    replace HI7 := Lib.hid (HI7.out.stays hb)
                    replace HC7 := Lib.hid (HC7.out.step hb)
                    replace HI8 := Lib.hid (HI8.out.stays hb)
                    replace HC8 := Lib.hid (HC8.out.step hb)
                    clear hb
                    have HC5l := HC5.out.lt
                    obtain ⟨⟨HC50, HC51, HC52⟩, HC5z⟩ := HC5.out.three
                    have HC6l := HC6.out.lt
                    obtain ⟨⟨HC60, HC61, HC62⟩, HC6z⟩ := HC6.out.three
                    go_wp2_with fail
                    clear HC50 HC51 HC52 HC5z HC5l HC60 HC61 HC62 HC6z HC6l
                    have C := rSameD_any ⟨fs3, o3, u3⟩ ⟨fs3, o3, u3⟩ (.slice a5 z5 c5) (.slice a6 z6 c6) w20 HI5.out HI6.out
                    rw [sameD_yes rfl] at C
                    unfold dskV at C
                    dsimp only at C
                    refine C.mono ?_
                    clear C
                    rintro e w21 ⟨rfl, hb⟩
                    replace HB := Lib.hid (below_step HB.out hb)
                    replace HR := Lib.hid (HR.out.step hb)
                    replace HI := Lib.hid (HI.out.stays hb)
                    replace HRG := Lib.hid (HRG.out.step hb)
                    replace HIG := Lib.hid (HIG.out.stays hb)
                    replace HI1 := Lib.hid (HI1.out.stays hb)
                    replace HC1 := Lib.hid (HC1.out.step hb)
                    replace HI2 := Lib.hid (HI2.out.stays hb)
                    replace HC2 := Lib.hid (HC2.out.step hb)
                    replace HI3 := Lib.hid (HI3.out.stays hb)
                    replace HC3 := Lib.hid (HC3.out.step hb)
                    replace HI4 := Lib.hid (HI4.out.stays hb)
                    replace HC4 := Lib.hid (HC4.out.step hb)
                    replace HI5 := Lib.hid (HI5.out.stays hb)
                    replace HC5 := Lib.hid (HC5.out.step hb)
                    replace HI6 := Lib.hid (HI6.out.stays hb)
                    replace HC6 := Lib.hid (HC6.out.step hb)
                    replace HI7 := Lib.hid (HI7.out.stays hb)
                    replace HC7 := Lib.hid (HC7.out.step hb)
                    replace HI8 := Lib.hid (HI8.out.stays hb)
                    replace HC8 := Lib.hid (HC8.out.step hb)
                    clear hb
                    have HC7l := HC7.out.lt
                    obtain ⟨⟨HC70, HC71, HC72⟩, HC7z⟩ := HC7.out.three
                    have HC8l := HC8.out.lt
                    obtain ⟨⟨HC80, HC81, HC82⟩, HC8z⟩ := HC8.out.three
                    go_wp2_with fail
                    clear HC70 HC71 HC72 HC7z HC7l HC80 HC81 HC82 HC8z HC8l
                    have C := rSameD_any ⟨fs4, o4, u4⟩ ⟨fs4, o4, u4⟩ (.slice a7 z7 c7) (.slice a8 z8 c8) w21 HI7.out HI8.out
                    rw [sameD_yes rfl] at C
                    unfold dskV at C
                    dsimp only at C
                    refine C.mono ?_
                    clear C
                    rintro e w22 ⟨rfl, hb⟩
                    replace HB := Lib.hid (below_step HB.out hb)
                    replace HR := Lib.hid (HR.out.step hb)
                    replace HI := Lib.hid (HI.out.stays hb)
                    replace HRG := Lib.hid (HRG.out.step hb)
                    replace HIG := Lib.hid (HIG.out.stays hb)
                    replace HI1 := Lib.hid (HI1.out.stays hb)
                    replace HC1 := Lib.hid (HC1.out.step hb)
                    replace HI2 := Lib.hid (HI2.out.stays hb)
                    replace HC2 := Lib.hid (HC2.out.step hb)
                    replace HI3 := Lib.hid (HI3.out.stays hb)
                    replace HC3 := Lib.hid (HC3.out.step hb)
                    replace HI4 := Lib.hid (HI4.out.stays hb)
                    replace HC4 := Lib.hid (HC4.out.step hb)
                    replace HI5 := Lib.hid (HI5.out.stays hb)
                    replace HC5 := Lib.hid (HC5.out.step hb)
                    replace HI6 := Lib.hid (HI6.out.stays hb)
                    replace HC6 := Lib.hid (HC6.out.step hb)
                    replace HI7 := Lib.hid (HI7.out.stays hb)
                    replace HC7 := Lib.hid (HC7.out.step hb)
                    replace HI8 := Lib.hid (HI8.out.stays hb)
                    replace HC8 := Lib.hid (HC8.out.step hb)
                    clear hb
                    go_wp2_with fail
                    refine (CA.out _).mono ?_
                    rintro e w9 ⟨rfl, hb⟩
                    replace HB := Lib.hid (below_step HB.out hb)
                    clear hb
                    go_wp2_with fail
                    go_ret
                    exact ⟨rfl, HB.out⟩
            · have d4 : decide ((20000 : Int) < x) = false := decide_eq_false hc1
              clear hc1
              obtain ⟨fb, hfb⟩ : ∃ b, b = fitDB ⟨fs, off, fuse⟩ := ⟨_, rfl⟩
              obtain ⟨sb, hsb⟩ : ∃ b, b = sameD ⟨fs, off, fuse⟩ ⟨gs, goff, gfuse⟩ := ⟨_, rfl⟩
              have HFB := Lib.hid hfb; have HSB := Lib.hid hsb
              clear hfb hsb
              have HSM := Lib.hid (FewD.small HFW.out HAT.out)
              go_wp2_with fail
              refine wp_region_wordsG (by kernel_rfl) (by kernel_rfl) allT (fun _ => True) dldE (dldU w0 w3 a ga z cap gz gcap off goff fb sb fuse gfuse) 21 dldN [19, 20] (by kernel_rfl) (by kernel_rfl) (by kernel_rfl)
                dldB (by kernel_rfl) (fun ix kx v e w w' hi hk hne hb hU hT => dld_T _ _ _ _ _ _ _ _ _ _ _ _ _ _  ix kx v e w w' hk hne hb hU hT) (by decide) trivial (fun kx hk hge => ?hv0)
                [65, 66, 67, 68, 69, 70, 71, 72, 73, 74, 75, 76, 77, 78, 79, 80, 81, 82, 83, 84] (by kernel_rfl) (forall_ops ?steps) ?behind
              case hv0 =>
                have hge' : 20 ≤ kx := hge
                rcases (show kx = 20 by omega) with rfl
                · exact (Below.refl _ _).drew
              case steps =>
                refine ⟨?_, ?_, ?_, ?_, ?_, ?_, ?_, ?_, ?_, ?_, ?_, ?_, ?_, ?_, ?_, ?_, ?_, ?_, ?_, ?_, trivial⟩
                · refine stepG_of rfl ?_
                  exact stepR_value (t := 65) (.agg #[.slice a z cap, .bool off, .int .i64 fuse]) rfl (fun _ => Below.refl _ _) (fun ac w hG hN hO => by
                    have e6 : slot ac 6 = .pointer (some ⟨w0.heap.size, 0, none⟩) := hO 6 (by kernel_rfl)
                    have hx9 : Below w3.heap.size w3 w := hN 20 (by decide)
                    obtain ⟨⟨p0, p1, p2⟩, _⟩ := (HR.out.step hx9).three
                    obtain ⟨⟨r0, r1, r2⟩, _⟩ := (HRG.out.step hx9).three
                    have f6 := slot_at e6
                    unfold execOp; go_simp) (fun ac w hG hN => rfl)
                · refine stepG_of rfl ?_
                  intro ac wx hG hN hO
                  have e65 : slot ac 65 = .agg #[.slice a z cap, .bool off, .int .i64 fuse] := hN 0 (by decide)
                  have hx9 : Below w3.heap.size w3 wx := hN 20 (by decide)
                  have C := pFitD_any ⟨fs, off, fuse⟩ (.slice a z cap) wx (HI.out.stays hx9) HSM.out
                  rw [← HFB.out] at C
                  refine wp_callx 11 _ _ rfl (enters_of Try.func11 (by kernel_rfl) rfl) #[.agg #[.slice a z cap, .bool off, .int .i64 fuse]] (by simp [eval_slot, e65]) (R := fun v wz => v = .bool fb ∧ Below wx.heap.size wx wz) (C.mono fun e wz hz => ⟨_, hz.1, rfl, hz.2⟩) ?_
                  rintro v wz ⟨hv, hb⟩
                  exact ⟨v, rfl, hb, trivial, hv⟩
                · refine stepG_of rfl ?_
                  exact stepR_value (t := 67) (.agg #[.slice a z cap, .bool off, .int .i64 fuse]) rfl (fun _ => Below.refl _ _) (fun ac w hG hN hO => by
                    have e6 : slot ac 6 = .pointer (some ⟨w0.heap.size, 0, none⟩) := hO 6 (by kernel_rfl)
                    have hx9 : Below w3.heap.size w3 w := hN 20 (by decide)
                    obtain ⟨⟨p0, p1, p2⟩, _⟩ := (HR.out.step hx9).three
                    obtain ⟨⟨r0, r1, r2⟩, _⟩ := (HRG.out.step hx9).three
                    have f6 := slot_at e6
                    unfold execOp; go_simp) (fun ac w hG hN => rfl)
                · refine stepG_of rfl ?_
                  intro ac wx hG hN hO
                  have e67 : slot ac 67 = .agg #[.slice a z cap, .bool off, .int .i64 fuse] := hN 2 (by decide)
                  have hx9 : Below w3.heap.size w3 wx := hN 20 (by decide)
                  have C := rFitD_any ⟨fs, off, fuse⟩ (.slice a z cap) wx (HI.out.stays hx9)
                  rw [← HFB.out] at C
                  refine wp_callx 12 _ _ rfl (enters_of Try.func12 (by kernel_rfl) rfl) #[.agg #[.slice a z cap, .bool off, .int .i64 fuse]] (by simp [eval_slot, e67]) (R := fun v wz => v = .bool fb ∧ Below wx.heap.size wx wz) (C.mono fun e wz hz => ⟨_, hz.1, rfl, hz.2⟩) ?_
                  rintro v wz ⟨hv, hb⟩
                  exact ⟨v, rfl, hb, trivial, hv⟩
                · refine stepG_of rfl ?_
                  exact stepR_value (t := 69) (.bool false) rfl (fun _ => Below.refl _ _) (fun ac w hG hN hO => by
                    have e66 : slot ac 66 = .bool fb := hN 1 (by decide)
                    have e68 : slot ac 68 = .bool fb := hN 3 (by decide)
                    have f66 := slot_at e66
                    have f68 := slot_at e68
                    unfold execOp; go_simp) (fun ac w hG hN => rfl)
                · refine stepG_of rfl ?_
                  exact stepR_value (t := 70) (.bool false) rfl (fun _ => Below.refl _ _) (fun ac w hG hN hO => by
                    have e69 : slot ac 69 = .bool false := hN 4 (by decide)
                    exact run_move_slot (.inl rfl) e69) (fun ac w hG hN => rfl)
                · refine stepG_on (j := 5) (b := false) rfl (by decide) (fun v e w h => h) ?_
                  exact stepR_value (t := 71) (.agg #[.slice a z cap, .bool off, .int .i64 fuse]) rfl (fun _ => Below.refl _ _) (fun ac w hG hN hO => by
                    have e6 : slot ac 6 = .pointer (some ⟨w0.heap.size, 0, none⟩) := hO 6 (by kernel_rfl)
                    have hx9 : Below w3.heap.size w3 w := hN 20 (by decide)
                    obtain ⟨⟨p0, p1, p2⟩, _⟩ := (HR.out.step hx9).three
                    obtain ⟨⟨r0, r1, r2⟩, _⟩ := (HRG.out.step hx9).three
                    have f6 := slot_at e6
                    unfold execOp; go_simp) (fun ac w hG hN => rfl)
                · refine stepG_on (j := 5) (b := false) rfl (by decide) (fun v e w h => h) ?_
                  exact stepR_value (t := 72) (.agg #[.slice ga gz gcap, .bool goff, .int .i64 gfuse]) rfl (fun _ => Below.refl _ _) (fun ac w hG hN hO => by
                    have e7 : slot ac 7 = .pointer (some ⟨w0.heap.size + 1, 0, none⟩) := hO 7 (by kernel_rfl)
                    have hx9 : Below w3.heap.size w3 w := hN 20 (by decide)
                    obtain ⟨⟨p0, p1, p2⟩, _⟩ := (HR.out.step hx9).three
                    obtain ⟨⟨r0, r1, r2⟩, _⟩ := (HRG.out.step hx9).three
                    have f7 := slot_at e7
                    unfold execOp; go_simp) (fun ac w hG hN => rfl)
                · refine stepG_on (j := 5) (b := false) rfl (by decide) (fun v e w h => h) ?_
                  intro ac wx hG hN hO
                  have e71 : slot ac 71 = .agg #[.slice a z cap, .bool off, .int .i64 fuse] := hN 6 (by decide)
                  have e72 : slot ac 72 = .agg #[.slice ga gz gcap, .bool goff, .int .i64 gfuse] := hN 7 (by decide)
                  have hx9 : Below w3.heap.size w3 wx := hN 20 (by decide)
                  have C := pSame_any_Dly ⟨fs, off, fuse⟩ ⟨gs, goff, gfuse⟩ (.slice a z cap) (.slice ga gz gcap) wx (HI.out.stays hx9) (HIG.out.stays hx9)
                  rw [← HSB.out] at C
                  refine wp_callx 13 _ _ rfl (enters_of Try.func13 (by kernel_rfl) rfl) #[.agg #[.slice a z cap, .bool off, .int .i64 fuse], .agg #[.slice ga gz gcap, .bool goff, .int .i64 gfuse]] (by simp [eval_slot, e71, e72]) (R := fun v wz => v = .bool sb ∧ Below wx.heap.size wx wz) (C.mono fun e wz hz => ⟨_, hz.1, rfl, hz.2⟩) ?_
                  rintro v wz ⟨hv, hb⟩
                  exact ⟨v, rfl, hb, trivial, hv⟩
                · refine stepG_on (j := 5) (b := false) rfl (by decide) (fun v e w h => h) ?_
                  exact stepR_value (t := 74) (.agg #[.slice a z cap, .bool off, .int .i64 fuse]) rfl (fun _ => Below.refl _ _) (fun ac w hG hN hO => by
                    have e6 : slot ac 6 = .pointer (some ⟨w0.heap.size, 0, none⟩) := hO 6 (by kernel_rfl)
                    have hx9 : Below w3.heap.size w3 w := hN 20 (by decide)
                    obtain ⟨⟨p0, p1, p2⟩, _⟩ := (HR.out.step hx9).three
                    obtain ⟨⟨r0, r1, r2⟩, _⟩ := (HRG.out.step hx9).three
                    have f6 := slot_at e6
                    unfold execOp; go_simp) (fun ac w hG hN => rfl)
                · refine stepG_on (j := 5) (b := false) rfl (by decide) (fun v e w h => h) ?_
                  exact stepR_value (t := 75) (.agg #[.slice ga gz gcap, .bool goff, .int .i64 gfuse]) rfl (fun _ => Below.refl _ _) (fun ac w hG hN hO => by
                    have e7 : slot ac 7 = .pointer (some ⟨w0.heap.size + 1, 0, none⟩) := hO 7 (by kernel_rfl)
                    have hx9 : Below w3.heap.size w3 w := hN 20 (by decide)
                    obtain ⟨⟨p0, p1, p2⟩, _⟩ := (HR.out.step hx9).three
                    obtain ⟨⟨r0, r1, r2⟩, _⟩ := (HRG.out.step hx9).three
                    have f7 := slot_at e7
                    unfold execOp; go_simp) (fun ac w hG hN => rfl)
                · refine stepG_on (j := 5) (b := false) rfl (by decide) (fun v e w h => h) ?_
                  intro ac wx hG hN hO
                  have e74 : slot ac 74 = .agg #[.slice a z cap, .bool off, .int .i64 fuse] := hN 9 (by decide)
                  have e75 : slot ac 75 = .agg #[.slice ga gz gcap, .bool goff, .int .i64 gfuse] := hN 10 (by decide)
                  have hx9 : Below w3.heap.size w3 wx := hN 20 (by decide)
                  have C := rSameD_any ⟨fs, off, fuse⟩ ⟨gs, goff, gfuse⟩ (.slice a z cap) (.slice ga gz gcap) wx (HI.out.stays hx9) (HIG.out.stays hx9)
                  rw [← HSB.out] at C
                  refine wp_callx 14 _ _ rfl (enters_of Try.func14 (by kernel_rfl) rfl) #[.agg #[.slice a z cap, .bool off, .int .i64 fuse], .agg #[.slice ga gz gcap, .bool goff, .int .i64 gfuse]] (by simp [eval_slot, e74, e75]) (R := fun v wz => v = .bool sb ∧ Below wx.heap.size wx wz) (C.mono fun e wz hz => ⟨_, hz.1, rfl, hz.2⟩) ?_
                  rintro v wz ⟨hv, hb⟩
                  exact ⟨v, rfl, hb, trivial, hv⟩
                · refine stepG_on (j := 5) (b := false) rfl (by decide) (fun v e w h => h) ?_
                  exact stepR_value (t := 77) (.bool false) rfl (fun _ => Below.refl _ _) (fun ac w hG hN hO => by
                    have e73 : slot ac 73 = .bool sb := hN 8 (by decide)
                    have e76 : slot ac 76 = .bool sb := hN 11 (by decide)
                    have f73 := slot_at e73
                    have f76 := slot_at e76
                    unfold execOp; go_simp) (fun ac w hG hN => rfl)
                · refine stepG_of rfl ?_
                  exact stepR_value (t := 78) (.bool false) rfl (fun _ => Below.refl _ _) (fun ac w hG hN hO => by
                    have e70 : slot ac 70 = .bool false := hN 5 (by decide)
                    have e77 : slot ac 77 = .bool false := hN 12 (by decide)
                    have f70 := slot_at e70
                    have f77 := slot_at e77
                    unfold execOp; go_simp) (fun ac w hG hN => rfl)
                · refine stepG_of rfl ?_
                  exact stepR_value (t := 79) (.bool false) rfl (fun _ => Below.refl _ _) (fun ac w hG hN hO => by
                    have e78 : slot ac 78 = .bool false := hN 13 (by decide)
                    exact run_move_slot (.inl rfl) e78) (fun ac w hG hN => rfl)
                · refine stepG_on (j := 14) (b := false) rfl (by decide) (fun v e w h => h) ?_
                  exact stepR_value (t := 80) (.agg #[.slice a z cap, .bool off, .int .i64 fuse]) rfl (fun _ => Below.refl _ _) (fun ac w hG hN hO => by
                    have e6 : slot ac 6 = .pointer (some ⟨w0.heap.size, 0, none⟩) := hO 6 (by kernel_rfl)
                    have hx9 : Below w3.heap.size w3 w := hN 20 (by decide)
                    obtain ⟨⟨p0, p1, p2⟩, _⟩ := (HR.out.step hx9).three
                    obtain ⟨⟨r0, r1, r2⟩, _⟩ := (HRG.out.step hx9).three
                    have f6 := slot_at e6
                    unfold execOp; go_simp) (fun ac w hG hN => rfl)
                · refine stepG_on (j := 14) (b := false) rfl (by decide) (fun v e w h => h) ?_
                  exact stepR_value (t := 81) (.agg #[.slice a z cap, .bool off, .int .i64 fuse]) rfl (fun _ => Below.refl _ _) (fun ac w hG hN hO => by
                    have e6 : slot ac 6 = .pointer (some ⟨w0.heap.size, 0, none⟩) := hO 6 (by kernel_rfl)
                    have hx9 : Below w3.heap.size w3 w := hN 20 (by decide)
                    obtain ⟨⟨p0, p1, p2⟩, _⟩ := (HR.out.step hx9).three
                    obtain ⟨⟨r0, r1, r2⟩, _⟩ := (HRG.out.step hx9).three
                    have f6 := slot_at e6
                    unfold execOp; go_simp) (fun ac w hG hN => rfl)
                · refine stepG_on (j := 14) (b := false) rfl (by decide) (fun v e w h => h) ?_
                  intro ac wx hG hN hO
                  have e80 : slot ac 80 = .agg #[.slice a z cap, .bool off, .int .i64 fuse] := hN 15 (by decide)
                  have e81 : slot ac 81 = .agg #[.slice a z cap, .bool off, .int .i64 fuse] := hN 16 (by decide)
                  have hx9 : Below w3.heap.size w3 wx := hN 20 (by decide)
                  have C := pSame_any_Dly ⟨fs, off, fuse⟩ ⟨fs, off, fuse⟩ (.slice a z cap) (.slice a z cap) wx (HI.out.stays hx9) (HI.out.stays hx9)
                  rw [sameD_yes rfl] at C
                  refine wp_callx 13 _ _ rfl (enters_of Try.func13 (by kernel_rfl) rfl) #[.agg #[.slice a z cap, .bool off, .int .i64 fuse], .agg #[.slice a z cap, .bool off, .int .i64 fuse]] (by simp [eval_slot, e80, e81]) (R := fun v wz => v = .bool true ∧ Below wx.heap.size wx wz) (C.mono fun e wz hz => ⟨_, hz.1, rfl, hz.2⟩) ?_
                  rintro v wz ⟨hv, hb⟩
                  exact ⟨v, rfl, hb, trivial, hv⟩
                · refine stepG_on (j := 14) (b := false) rfl (by decide) (fun v e w h => h) ?_
                  exact stepR_value (t := 83) (.bool false) rfl (fun _ => Below.refl _ _) (fun ac w hG hN hO => by
                    have e82 : slot ac 82 = .bool true := hN 17 (by decide)
                    have f82 := slot_at e82
                    unfold execOp; go_simp) (fun ac w hG hN => rfl)
                · refine stepG_of rfl ?_
                  exact stepR_value (t := 84) (.bool false) rfl (fun _ => Below.refl _ _) (fun ac w hG hN hO => by
                    have e79 : slot ac 79 = .bool false := hN 14 (by decide)
                    have e83 : slot ac 83 = .bool false := hN 18 (by decide)
                    have f79 := slot_at e79
                    have f83 := slot_at e83
                    unfold execOp; go_simp) (fun ac w hG hN => rfl)
              case behind =>
                intro ac w5 hG hV hS ha
                have h19 : slot ac 84 = .bool false := hV 19 (by decide) (by decide)
                have h20 : Below w3.heap.size w3 w5 := hV 20 (by decide) (by decide)
                generalize slot ac = sl at ha h19
                subst ha
                simp only [patchL, List.contains_cons, List.contains_nil, Nat.reduceBEq, Bool.or_false, Bool.or_true, if_true, Bool.false_eq_true, if_false, Nat.reduceAdd]
                generalize sl 65 = s65
                generalize sl 66 = s66
                generalize sl 67 = s67
                generalize sl 68 = s68
                generalize sl 69 = s69
                generalize sl 70 = s70
                generalize sl 71 = s71
                generalize sl 72 = s72
                generalize sl 73 = s73
                generalize sl 74 = s74
                generalize sl 75 = s75
                generalize sl 76 = s76
                generalize sl 77 = s77
                generalize sl 78 = s78
                generalize sl 79 = s79
                generalize sl 80 = s80
                generalize sl 81 = s81
                generalize sl 82 = s82
                generalize sl 83 = s83
                generalize sl 84 = s84 at h19 ⊢
                subst h19
                clear hV hS
                have hb := h20
                clear hG h20
                replace HB := Lib.hid (below_step HB.out hb)
                replace HR := Lib.hid (HR.out.step hb)
                replace HI := Lib.hid (HI.out.stays hb)
                replace HRG := Lib.hid (HRG.out.step hb)
                replace HIG := Lib.hid (HIG.out.stays hb)
                clear hb
                have HRl := HR.out.lt
                obtain ⟨⟨HR0, HR1, HR2⟩, HRz⟩ := HR.out.three
                go_wp2_with fail
                clear HR0 HR1 HR2 HRz HRl
                have C := rFitD_any ⟨fs, off, fuse⟩ (.slice a z cap) w5 HI.out
                unfold dskV at C
                dsimp only at C
                rw [← HFB.out] at C
                refine C.mono ?_
                clear C
                rintro e w4 ⟨rfl, hb⟩
                replace HB := Lib.hid (below_step HB.out hb)
                replace HR := Lib.hid (HR.out.step hb)
                replace HI := Lib.hid (HI.out.stays hb)
                replace HRG := Lib.hid (HRG.out.step hb)
                replace HIG := Lib.hid (HIG.out.stays hb)
                clear hb
                cases fb with
                | false =>
                  go_wp2_with fail
                  refine (CA.out _).mono ?_
                  rintro e w9 ⟨rfl, hb⟩
                  replace HB := Lib.hid (below_step HB.out hb)
                  clear hb
                  go_wp2_with fail
                  go_ret
                  exact ⟨rfl, HB.out⟩
                | true =>
                  have HF := Lib.hid (fitDB_iff.1 HFB.out.symm)
                  obtain ⟨⟨t0, was⟩, hA0⟩ : ∃ r, r = readL fs n.data.toList := ⟨_, rfl⟩
                  have HA0 := Lib.hid hA0.symm
                  obtain ⟨S, hS⟩ : ∃ S, S = strT t0 := ⟨_, rfl⟩
                  have HS := Lib.hid hS
                  have t1 : (S.toList == S.toList) = true := beq_str rfl
                  have t2 : (was == was) = true := by cases was <;> rfl
                  clear hA0 hS
                  obtain ⟨⟨⟨fs1, o1, u1⟩, e1⟩, hr⟩ : ∃ r, r = writeD nameB ⟨fs, off, fuse⟩ n x s := ⟨_, rfl⟩
                  have HF1 : Hid (FitD nameB ⟨fs1, o1, u1⟩) := Lib.hid (by have h9 := writeD_fit HF.out n x s; rwa [← hr] at h9)
                  have HR1 := Lib.hid hr
                  clear hr
                  have g1 : ((e1 : Int) == e1) = true := by simp
                  obtain ⟨⟨⟨fs2, o2, u2⟩, e2⟩, hr⟩ : ∃ r, r = syncD ⟨fs, off, fuse⟩ n := ⟨_, rfl⟩
                  have HF2 : Hid (FitD nameB ⟨fs2, o2, u2⟩) := Lib.hid (by have h9 := syncD_fit HF.out n; rwa [← hr] at h9)
                  have HR2 := Lib.hid hr
                  clear hr
                  have g2 : ((e2 : Int) == e2) = true := by simp
                  obtain ⟨⟨⟨fs3, o3, u3⟩, e3⟩, hr⟩ : ∃ r, r = renameD nameB ⟨fs, off, fuse⟩ n m := ⟨_, rfl⟩
                  have HF3 : Hid (FitD nameB ⟨fs3, o3, u3⟩) := Lib.hid (by have h9 := renameD_fit HF.out n m; rwa [← hr] at h9)
                  have HR3 := Lib.hid hr
                  clear hr
                  have g3 : ((e3 : Int) == e3) = true := by simp
                  obtain ⟨⟨⟨fs4, o4, u4⟩, e4⟩, hr⟩ : ∃ r, r = removeD ⟨fs, off, fuse⟩ n := ⟨_, rfl⟩
                  have HF4 : Hid (FitD nameB ⟨fs4, o4, u4⟩) := Lib.hid (by have h9 := removeD_fit HF.out n; rwa [← hr] at h9)
                  have HR4 := Lib.hid hr
                  clear hr
                  have g4 : ((e4 : Int) == e4) = true := by simp
                  have HRl := HR.out.lt
                  obtain ⟨⟨HR0, HR1, HR2⟩, HRz⟩ := HR.out.three
                  go_wp2_with fail
                  clear HR0 HR1 HR2 HRz HRl
                  have C := pRead_as ⟨fs, off, fuse⟩ (.slice a z cap) n w4 HI.out HF.out HA0.out
                  unfold dskV at C
                  dsimp only at C
                  rw [← HS.out] at C
                  refine C.mono ?_
                  clear C
                  rintro e w5 ⟨rfl, hb⟩
                  replace HB := Lib.hid (below_step HB.out hb)
                  replace HR := Lib.hid (HR.out.step hb)
                  replace HI := Lib.hid (HI.out.stays hb)
                  replace HRG := Lib.hid (HRG.out.step hb)
                  replace HIG := Lib.hid (HIG.out.stays hb)
                  clear hb
                  have HRl := HR.out.lt
                  obtain ⟨⟨HR0, HR1, HR2⟩, HRz⟩ := HR.out.three
                  go_wp2_with fail
                  clear HR0 HR1 HR2 HRz HRl
                  have C := rRead_as ⟨fs, off, fuse⟩ (.slice a z cap) n w5 HI.out HF.out HA0.out
                  unfold dskV at C
                  dsimp only at C
                  rw [← HS.out] at C
                  refine C.mono ?_
                  clear C
                  rintro e w6 ⟨rfl, hb⟩
                  replace HB := Lib.hid (below_step HB.out hb)
                  replace HR := Lib.hid (HR.out.step hb)
                  replace HI := Lib.hid (HI.out.stays hb)
                  replace HRG := Lib.hid (HRG.out.step hb)
                  replace HIG := Lib.hid (HIG.out.stays hb)
                  clear hb
                  have HRl := HR.out.lt
                  obtain ⟨⟨HR0, HR1, HR2⟩, HRz⟩ := HR.out.three
                  go_wp2_with fail
                  clear HR0 HR1 HR2 HRz HRl
                  have C := pWrite_any ⟨fs, off, fuse⟩ (.slice a z cap) n x s w6 HI.out HF.out (Nat.le_trans HLd1.out (by decide)) HX.out (Nat.le_trans HLd3.out (by decide))
                  rw [← HR1.out] at C
                  unfold dskV at C
                  refine C.mono ?_
                  clear C
                  rintro e w7 hr
                  obtain ⟨a1, z1, c1, rfl, h1, hb⟩ := hr.open
                  have HI1 := Lib.hid h1
                  clear hr h1
                  replace HB := Lib.hid (below_step HB.out hb)
                  replace HR := Lib.hid (HR.out.step hb)
                  replace HI := Lib.hid (HI.out.stays hb)
                  replace HRG := Lib.hid (HRG.out.step hb)
                  replace HIG := Lib.hid (HIG.out.stays hb)
                  clear hb
                  dsimp only at HI1 ⊢
                  have HRl := HR.out.lt
                  obtain ⟨⟨HR0, HR1, HR2⟩, HRz⟩ := HR.out.three
                  go_wp2_with fail
                  clear HR0 HR1 HR2 HRz HRl
                  obtain ⟨X7, hX⟩ : ∃ X, X = w7.alloc (.cells #[.slice a1 z1 c1, .bool o1, .int .i64 u1] 24) := ⟨_, rfl⟩
                  have hb : Below w7.heap.size w7 X7 := by rw [hX]; exact (Below.refl _ _).alloc (Nat.le_refl _) _
                  have HC1 : Hid (Row X7 w7.heap.size #[.slice a1 z1 c1, .bool o1, .int .i64 u1] 24) := by rw [hX]; exact Lib.hid (Row.made _ _ _)
                  rw [← hX]
                  replace HB := Lib.hid (below_step HB.out hb)
                  replace HR := Lib.hid (HR.out.step hb)
                  replace HI := Lib.hid (HI.out.stays hb)
                  replace HRG := Lib.hid (HRG.out.step hb)
                  replace HIG := Lib.hid (HIG.out.stays hb)
                  replace HI1 := Lib.hid (HI1.out.stays hb)
                  clear hb hX
                  have C := rWrite_any ⟨fs, off, fuse⟩ (.slice a z cap) n x s X7 HI.out HF.out (Nat.le_trans HLd3.out (by decide))
                  rw [← HR1.out] at C
                  unfold dskV at C
                  refine C.mono ?_
                  clear C
                  rintro e w8 hr
                  obtain ⟨a2, z2, c2, rfl, h1, hb⟩ := hr.open
                  have HI2 := Lib.hid h1
                  clear hr h1
                  replace HB := Lib.hid (below_step HB.out hb)
                  replace HR := Lib.hid (HR.out.step hb)
                  replace HI := Lib.hid (HI.out.stays hb)
                  replace HRG := Lib.hid (HRG.out.step hb)
                  replace HIG := Lib.hid (HIG.out.stays hb)
                  replace HI1 := Lib.hid (HI1.out.stays hb)
                  replace HC1 := Lib.hid (HC1.out.step hb)
                  clear hb
                  dsimp only at HI2 ⊢
                  have HRl := HR.out.lt
                  obtain ⟨⟨HR0, HR1, HR2⟩, HRz⟩ := HR.out.three
                  go_wp2_with fail
                  clear HR0 HR1 HR2 HRz HRl
                  obtain ⟨X8, hX⟩ : ∃ X, X = w8.alloc (.cells #[.slice a2 z2 c2, .bool o1, .int .i64 u1] 24) := ⟨_, rfl⟩
                  have hb : Below w8.heap.size w8 X8 := by rw [hX]; exact (Below.refl _ _).alloc (Nat.le_refl _) _
                  have HC2 : Hid (Row X8 w8.heap.size #[.slice a2 z2 c2, .bool o1, .int .i64 u1] 24) := by rw [hX]; exact Lib.hid (Row.made _ _ _)
                  rw [← hX]
                  replace HB := Lib.hid (below_step HB.out hb)
                  replace HR := Lib.hid (HR.out.step hb)
                  replace HI := Lib.hid (HI.out.stays hb)
                  replace HRG := Lib.hid (HRG.out.step hb)
                  replace HIG := Lib.hid (HIG.out.stays hb)
                  replace HI1 := Lib.hid (HI1.out.stays hb)
                  replace HC1 := Lib.hid (HC1.out.step hb)
                  replace HI2 := Lib.hid (HI2.out.stays hb)
                  clear hb hX
                  have C := pSync_any ⟨fs, off, fuse⟩ (.slice a z cap) n X8 HI.out HF.out
                  rw [← HR2.out] at C
                  unfold dskV at C
                  refine C.mono ?_
                  clear C
                  rintro e w9 hr
                  obtain ⟨a3, z3, c3, rfl, h1, hb⟩ := hr.open
                  have HI3 := Lib.hid h1
                  clear hr h1
                  replace HB := Lib.hid (below_step HB.out hb)
                  replace HR := Lib.hid (HR.out.step hb)
                  replace HI := Lib.hid (HI.out.stays hb)
                  replace HRG := Lib.hid (HRG.out.step hb)
                  replace HIG := Lib.hid (HIG.out.stays hb)
                  replace HI1 := Lib.hid (HI1.out.stays hb)
                  replace HC1 := Lib.hid (HC1.out.step hb)
                  replace HI2 := Lib.hid (HI2.out.stays hb)
                  replace HC2 := Lib.hid (HC2.out.step hb)
                  clear hb
                  dsimp only at HI3 ⊢
                  have HRl := HR.out.lt
                  obtain ⟨⟨HR0, HR1, HR2⟩, HRz⟩ := HR.out.three
                  go_wp2_with fail
                  clear HR0 HR1 HR2 HRz HRl
                  obtain ⟨X9, hX⟩ : ∃ X, X = w9.alloc (.cells #[.slice a3 z3 c3, .bool o2, .int .i64 u2] 24) := ⟨_, rfl⟩
                  have hb : Below w9.heap.size w9 X9 := by rw [hX]; exact (Below.refl _ _).alloc (Nat.le_refl _) _
                  have HC3 : Hid (Row X9 w9.heap.size #[.slice a3 z3 c3, .bool o2, .int .i64 u2] 24) := by rw [hX]; exact Lib.hid (Row.made _ _ _)
                  rw [← hX]
                  replace HB := Lib.hid (below_step HB.out hb)
                  replace HR := Lib.hid (HR.out.step hb)
                  replace HI := Lib.hid (HI.out.stays hb)
                  replace HRG := Lib.hid (HRG.out.step hb)
                  replace HIG := Lib.hid (HIG.out.stays hb)
                  replace HI1 := Lib.hid (HI1.out.stays hb)
                  replace HC1 := Lib.hid (HC1.out.step hb)
                  replace HI2 := Lib.hid (HI2.out.stays hb)
                  replace HC2 := Lib.hid (HC2.out.step hb)
                  replace HI3 := Lib.hid (HI3.out.stays hb)
                  clear hb hX
                  have C := rSync_any ⟨fs, off, fuse⟩ (.slice a z cap) n X9 HI.out HF.out
                  rw [← HR2.out] at C
                  unfold dskV at C
                  refine C.mono ?_
                  clear C
                  rintro e w10 hr
                  obtain ⟨a4, z4, c4, rfl, h1, hb⟩ := hr.open
                  have HI4 := Lib.hid h1
                  clear hr h1
                  replace HB := Lib.hid (below_step HB.out hb)
                  replace HR := Lib.hid (HR.out.step hb)
                  replace HI := Lib.hid (HI.out.stays hb)
                  replace HRG := Lib.hid (HRG.out.step hb)
                  replace HIG := Lib.hid (HIG.out.stays hb)
                  replace HI1 := Lib.hid (HI1.out.stays hb)
                  replace HC1 := Lib.hid (HC1.out.step hb)
                  replace HI2 := Lib.hid (HI2.out.stays hb)
                  replace HC2 := Lib.hid (HC2.out.step hb)
                  replace HI3 := Lib.hid (HI3.out.stays hb)
                  replace HC3 := Lib.hid (HC3.out.step hb)
                  clear hb
                  dsimp only at HI4 ⊢
                  have HRl := HR.out.lt
                  obtain ⟨⟨HR0, HR1, HR2⟩, HRz⟩ := HR.out.three
                  go_wp2_with fail
                  clear HR0 HR1 HR2 HRz HRl
                  obtain ⟨X10, hX⟩ : ∃ X, X = w10.alloc (.cells #[.slice a4 z4 c4, .bool o2, .int .i64 u2] 24) := ⟨_, rfl⟩
                  have hb : Below w10.heap.size w10 X10 := by rw [hX]; exact (Below.refl _ _).alloc (Nat.le_refl _) _
                  have HC4 : Hid (Row X10 w10.heap.size #[.slice a4 z4 c4, .bool o2, .int .i64 u2] 24) := by rw [hX]; exact Lib.hid (Row.made _ _ _)
                  rw [← hX]
                  replace HB := Lib.hid (below_step HB.out hb)
                  replace HR := Lib.hid (HR.out.step hb)
                  replace HI := Lib.hid (HI.out.stays hb)
                  replace HRG := Lib.hid (HRG.out.step hb)
                  replace HIG := Lib.hid (HIG.out.stays hb)
                  replace HI1 := Lib.hid (HI1.out.stays hb)
                  replace HC1 := Lib.hid (HC1.out.step hb)
                  replace HI2 := Lib.hid (HI2.out.stays hb)
                  replace HC2 := Lib.hid (HC2.out.step hb)
                  replace HI3 := Lib.hid (HI3.out.stays hb)
                  replace HC3 := Lib.hid (HC3.out.step hb)
                  replace HI4 := Lib.hid (HI4.out.stays hb)
                  clear hb hX
                  have C := pRename_any ⟨fs, off, fuse⟩ (.slice a z cap) n m X10 HI.out HF.out (Nat.le_trans HLd2.out (by decide))
                  rw [← HR3.out] at C
                  unfold dskV at C
                  refine C.mono ?_
                  clear C
                  rintro e w11 hr
                  obtain ⟨a5, z5, c5, rfl, h1, hb⟩ := hr.open
                  have HI5 := Lib.hid h1
                  clear hr h1
                  replace HB := Lib.hid (below_step HB.out hb)
                  replace HR := Lib.hid (HR.out.step hb)
                  replace HI := Lib.hid (HI.out.stays hb)
                  replace HRG := Lib.hid (HRG.out.step hb)
                  replace HIG := Lib.hid (HIG.out.stays hb)
                  replace HI1 := Lib.hid (HI1.out.stays hb)
                  replace HC1 := Lib.hid (HC1.out.step hb)
                  replace HI2 := Lib.hid (HI2.out.stays hb)
                  replace HC2 := Lib.hid (HC2.out.step hb)
                  replace HI3 := Lib.hid (HI3.out.stays hb)
                  replace HC3 := Lib.hid (HC3.out.step hb)
                  replace HI4 := Lib.hid (HI4.out.stays hb)
                  replace HC4 := Lib.hid (HC4.out.step hb)
                  clear hb
                  dsimp only at HI5 ⊢
                  have HRl := HR.out.lt
                  obtain ⟨⟨HR0, HR1, HR2⟩, HRz⟩ := HR.out.three
                  go_wp2_with fail
                  clear HR0 HR1 HR2 HRz HRl
                  obtain ⟨X11, hX⟩ : ∃ X, X = w11.alloc (.cells #[.slice a5 z5 c5, .bool o3, .int .i64 u3] 24) := ⟨_, rfl⟩
                  have hb : Below w11.heap.size w11 X11 := by rw [hX]; exact (Below.refl _ _).alloc (Nat.le_refl _) _
                  have HC5 : Hid (Row X11 w11.heap.size #[.slice a5 z5 c5, .bool o3, .int .i64 u3] 24) := by rw [hX]; exact Lib.hid (Row.made _ _ _)
                  rw [← hX]
                  replace HB := Lib.hid (below_step HB.out hb)
                  replace HR := Lib.hid (HR.out.step hb)
                  replace HI := Lib.hid (HI.out.stays hb)
                  replace HRG := Lib.hid (HRG.out.step hb)
                  replace HIG := Lib.hid (HIG.out.stays hb)
                  replace HI1 := Lib.hid (HI1.out.stays hb)
                  replace HC1 := Lib.hid (HC1.out.step hb)
                  replace HI2 := Lib.hid (HI2.out.stays hb)
                  replace HC2 := Lib.hid (HC2.out.step hb)
                  replace HI3 := Lib.hid (HI3.out.stays hb)
                  replace HC3 := Lib.hid (HC3.out.step hb)
                  replace HI4 := Lib.hid (HI4.out.stays hb)
                  replace HC4 := Lib.hid (HC4.out.step hb)
                  replace HI5 := Lib.hid (HI5.out.stays hb)
                  clear hb hX
                  have C := rRename_any ⟨fs, off, fuse⟩ (.slice a z cap) n m X11 HI.out HF.out
                  rw [← HR3.out] at C
                  unfold dskV at C
                  refine C.mono ?_
                  clear C
                  rintro e w12 hr
                  obtain ⟨a6, z6, c6, rfl, h1, hb⟩ := hr.open
                  have HI6 := Lib.hid h1
                  clear hr h1
                  replace HB := Lib.hid (below_step HB.out hb)
                  replace HR := Lib.hid (HR.out.step hb)
                  replace HI := Lib.hid (HI.out.stays hb)
                  replace HRG := Lib.hid (HRG.out.step hb)
                  replace HIG := Lib.hid (HIG.out.stays hb)
                  replace HI1 := Lib.hid (HI1.out.stays hb)
                  replace HC1 := Lib.hid (HC1.out.step hb)
                  replace HI2 := Lib.hid (HI2.out.stays hb)
                  replace HC2 := Lib.hid (HC2.out.step hb)
                  replace HI3 := Lib.hid (HI3.out.stays hb)
                  replace HC3 := Lib.hid (HC3.out.step hb)
                  replace HI4 := Lib.hid (HI4.out.stays hb)
                  replace HC4 := Lib.hid (HC4.out.step hb)
                  replace HI5 := Lib.hid (HI5.out.stays hb)
                  replace HC5 := Lib.hid (HC5.out.step hb)
                  clear hb
                  dsimp only at HI6 ⊢
                  have HRl := HR.out.lt
                  obtain ⟨⟨HR0, HR1, HR2⟩, HRz⟩ := HR.out.three
                  go_wp2_with fail
                  clear HR0 HR1 HR2 HRz HRl
                  obtain ⟨X12, hX⟩ : ∃ X, X = w12.alloc (.cells #[.slice a6 z6 c6, .bool o3, .int .i64 u3] 24) := ⟨_, rfl⟩
                  have hb : Below w12.heap.size w12 X12 := by rw [hX]; exact (Below.refl _ _).alloc (Nat.le_refl _) _
                  have HC6 : Hid (Row X12 w12.heap.size #[.slice a6 z6 c6, .bool o3, .int .i64 u3] 24) := by rw [hX]; exact Lib.hid (Row.made _ _ _)
                  rw [← hX]
                  replace HB := Lib.hid (below_step HB.out hb)
                  replace HR := Lib.hid (HR.out.step hb)
                  replace HI := Lib.hid (HI.out.stays hb)
                  replace HRG := Lib.hid (HRG.out.step hb)
                  replace HIG := Lib.hid (HIG.out.stays hb)
                  replace HI1 := Lib.hid (HI1.out.stays hb)
                  replace HC1 := Lib.hid (HC1.out.step hb)
                  replace HI2 := Lib.hid (HI2.out.stays hb)
                  replace HC2 := Lib.hid (HC2.out.step hb)
                  replace HI3 := Lib.hid (HI3.out.stays hb)
                  replace HC3 := Lib.hid (HC3.out.step hb)
                  replace HI4 := Lib.hid (HI4.out.stays hb)
                  replace HC4 := Lib.hid (HC4.out.step hb)
                  replace HI5 := Lib.hid (HI5.out.stays hb)
                  replace HC5 := Lib.hid (HC5.out.step hb)
                  replace HI6 := Lib.hid (HI6.out.stays hb)
                  clear hb hX
                  have C := pRemove_any ⟨fs, off, fuse⟩ (.slice a z cap) n X12 HI.out HF.out
                  rw [← HR4.out] at C
                  unfold dskV at C
                  refine C.mono ?_
                  clear C
                  rintro e w13 hr
                  obtain ⟨a7, z7, c7, rfl, h1, hb⟩ := hr.open
                  have HI7 := Lib.hid h1
                  clear hr h1
                  replace HB := Lib.hid (below_step HB.out hb)
                  replace HR := Lib.hid (HR.out.step hb)
                  replace HI := Lib.hid (HI.out.stays hb)
                  replace HRG := Lib.hid (HRG.out.step hb)
                  replace HIG := Lib.hid (HIG.out.stays hb)
                  replace HI1 := Lib.hid (HI1.out.stays hb)
                  replace HC1 := Lib.hid (HC1.out.step hb)
                  replace HI2 := Lib.hid (HI2.out.stays hb)
                  replace HC2 := Lib.hid (HC2.out.step hb)
                  replace HI3 := Lib.hid (HI3.out.stays hb)
                  replace HC3 := Lib.hid (HC3.out.step hb)
                  replace HI4 := Lib.hid (HI4.out.stays hb)
                  replace HC4 := Lib.hid (HC4.out.step hb)
                  replace HI5 := Lib.hid (HI5.out.stays hb)
                  replace HC5 := Lib.hid (HC5.out.step hb)
                  replace HI6 := Lib.hid (HI6.out.stays hb)
                  replace HC6 := Lib.hid (HC6.out.step hb)
                  clear hb
                  dsimp only at HI7 ⊢
                  have HRl := HR.out.lt
                  obtain ⟨⟨HR0, HR1, HR2⟩, HRz⟩ := HR.out.three
                  go_wp2_with fail
                  clear HR0 HR1 HR2 HRz HRl
                  obtain ⟨X13, hX⟩ : ∃ X, X = w13.alloc (.cells #[.slice a7 z7 c7, .bool o4, .int .i64 u4] 24) := ⟨_, rfl⟩
                  have hb : Below w13.heap.size w13 X13 := by rw [hX]; exact (Below.refl _ _).alloc (Nat.le_refl _) _
                  have HC7 : Hid (Row X13 w13.heap.size #[.slice a7 z7 c7, .bool o4, .int .i64 u4] 24) := by rw [hX]; exact Lib.hid (Row.made _ _ _)
                  rw [← hX]
                  replace HB := Lib.hid (below_step HB.out hb)
                  replace HR := Lib.hid (HR.out.step hb)
                  replace HI := Lib.hid (HI.out.stays hb)
                  replace HRG := Lib.hid (HRG.out.step hb)
                  replace HIG := Lib.hid (HIG.out.stays hb)
                  replace HI1 := Lib.hid (HI1.out.stays hb)
                  replace HC1 := Lib.hid (HC1.out.step hb)
                  replace HI2 := Lib.hid (HI2.out.stays hb)
                  replace HC2 := Lib.hid (HC2.out.step hb)
                  replace HI3 := Lib.hid (HI3.out.stays hb)
                  replace HC3 := Lib.hid (HC3.out.step hb)
                  replace HI4 := Lib.hid (HI4.out.stays hb)
                  replace HC4 := Lib.hid (HC4.out.step hb)
                  replace HI5 := Lib.hid (HI5.out.stays hb)
                  replace HC5 := Lib.hid (HC5.out.step hb)
                  replace HI6 := Lib.hid (HI6.out.stays hb)
                  replace HC6 := Lib.hid (HC6.out.step hb)
                  replace HI7 := Lib.hid (HI7.out.stays hb)
                  clear hb hX
                  have C := rRemove_any ⟨fs, off, fuse⟩ (.slice a z cap) n X13 HI.out HF.out
                  rw [← HR4.out] at C
                  unfold dskV at C
                  refine C.mono ?_
                  clear C
                  rintro e w14 hr
                  obtain ⟨a8, z8, c8, rfl, h1, hb⟩ := hr.open
                  have HI8 := Lib.hid h1
                  clear hr h1
                  replace HB := Lib.hid (below_step HB.out hb)
                  replace HR := Lib.hid (HR.out.step hb)
                  replace HI := Lib.hid (HI.out.stays hb)
                  replace HRG := Lib.hid (HRG.out.step hb)
                  replace HIG := Lib.hid (HIG.out.stays hb)
                  replace HI1 := Lib.hid (HI1.out.stays hb)
                  replace HC1 := Lib.hid (HC1.out.step hb)
                  replace HI2 := Lib.hid (HI2.out.stays hb)
                  replace HC2 := Lib.hid (HC2.out.step hb)
                  replace HI3 := Lib.hid (HI3.out.stays hb)
                  replace HC3 := Lib.hid (HC3.out.step hb)
                  replace HI4 := Lib.hid (HI4.out.stays hb)
                  replace HC4 := Lib.hid (HC4.out.step hb)
                  replace HI5 := Lib.hid (HI5.out.stays hb)
                  replace HC5 := Lib.hid (HC5.out.step hb)
                  replace HI6 := Lib.hid (HI6.out.stays hb)
                  replace HC6 := Lib.hid (HC6.out.step hb)
                  replace HI7 := Lib.hid (HI7.out.stays hb)
                  replace HC7 := Lib.hid (HC7.out.step hb)
                  clear hb
                  dsimp only at HI8 ⊢
                  have HC1l := HC1.out.lt
                  obtain ⟨⟨HC10, HC11, HC12⟩, HC1z⟩ := HC1.out.three
                  go_wp2_with fail
                  clear HC10 HC11 HC12 HC1z HC1l
                  obtain ⟨X14, hX⟩ : ∃ X, X = w14.alloc (.cells #[.slice a8 z8 c8, .bool o4, .int .i64 u4] 24) := ⟨_, rfl⟩
                  have hb : Below w14.heap.size w14 X14 := by rw [hX]; exact (Below.refl _ _).alloc (Nat.le_refl _) _
                  have HC8 : Hid (Row X14 w14.heap.size #[.slice a8 z8 c8, .bool o4, .int .i64 u4] 24) := by rw [hX]; exact Lib.hid (Row.made _ _ _)
                  rw [← hX]
                  replace HB := Lib.hid (below_step HB.out hb)
                  replace HR := Lib.hid (HR.out.step hb)
                  replace HI := Lib.hid (HI.out.stays hb)
                  replace HRG := Lib.hid (HRG.out.step hb)
                  replace HIG := Lib.hid (HIG.out.stays hb)
                  replace HI1 := Lib.hid (HI1.out.stays hb)
                  replace HC1 := Lib.hid (HC1.out.step hb)
                  replace HI2 := Lib.hid (HI2.out.stays hb)
                  replace HC2 := Lib.hid (HC2.out.step hb)
                  replace HI3 := Lib.hid (HI3.out.stays hb)
                  replace HC3 := Lib.hid (HC3.out.step hb)
                  replace HI4 := Lib.hid (HI4.out.stays hb)
                  replace HC4 := Lib.hid (HC4.out.step hb)
                  replace HI5 := Lib.hid (HI5.out.stays hb)
                  replace HC5 := Lib.hid (HC5.out.step hb)
                  replace HI6 := Lib.hid (HI6.out.stays hb)
                  replace HC6 := Lib.hid (HC6.out.step hb)
                  replace HI7 := Lib.hid (HI7.out.stays hb)
                  replace HC7 := Lib.hid (HC7.out.step hb)
                  replace HI8 := Lib.hid (HI8.out.stays hb)
                  clear hb hX
                  have C := rFitD_any ⟨fs1, o1, u1⟩ (.slice a1 z1 c1) X14 HI1.out
                  rw [fitDB_yes HF1.out] at C
                  unfold dskV at C
                  dsimp only at C
                  refine C.mono ?_
                  clear C
                  rintro e w15 ⟨rfl, hb⟩
                  replace HB := Lib.hid (below_step HB.out hb)
                  replace HR := Lib.hid (HR.out.step hb)
                  replace HI := Lib.hid (HI.out.stays hb)
                  replace HRG := Lib.hid (HRG.out.step hb)
                  replace HIG := Lib.hid (HIG.out.stays hb)
                  replace HI1 := Lib.hid (HI1.out.stays hb)
                  replace HC1 := Lib.hid (HC1.out.step hb)
                  replace HI2 := Lib.hid (HI2.out.stays hb)
                  replace HC2 := Lib.hid (HC2.out.step hb)
                  replace HI3 := Lib.hid (HI3.out.stays hb)
                  replace HC3 := Lib.hid (HC3.out.step hb)
                  replace HI4 := Lib.hid (HI4.out.stays hb)
                  replace HC4 := Lib.hid (HC4.out.step hb)
                  replace HI5 := Lib.hid (HI5.out.stays hb)
                  replace HC5 := Lib.hid (HC5.out.step hb)
                  replace HI6 := Lib.hid (HI6.out.stays hb)
                  replace HC6 := Lib.hid (HC6.out.step hb)
                  replace HI7 := Lib.hid (HI7.out.stays hb)
                  replace HC7 := Lib.hid (HC7.out.step hb)
                  replace HI8 := Lib.hid (HI8.out.stays hb)
                  replace HC8 := Lib.hid (HC8.out.step hb)
                  clear hb
                  have HC3l := HC3.out.lt
                  obtain ⟨⟨HC30, HC31, HC32⟩, HC3z⟩ := HC3.out.three
                  go_wp2_with fail
                  clear HC30 HC31 HC32 HC3z HC3l
                  have C := rFitD_any ⟨fs2, o2, u2⟩ (.slice a3 z3 c3) w15 HI3.out
                  rw [fitDB_yes HF2.out] at C
                  unfold dskV at C
                  dsimp only at C
                  refine C.mono ?_
                  clear C
                  rintro e w16 ⟨rfl, hb⟩
                  replace HB := Lib.hid (below_step HB.out hb)
                  replace HR := Lib.hid (HR.out.step hb)
                  replace HI := Lib.hid (HI.out.stays hb)
                  replace HRG := Lib.hid (HRG.out.step hb)
                  replace HIG := Lib.hid (HIG.out.stays hb)
                  replace HI1 := Lib.hid (HI1.out.stays hb)
                  replace HC1 := Lib.hid (HC1.out.step hb)
                  replace HI2 := Lib.hid (HI2.out.stays hb)
                  replace HC2 := Lib.hid (HC2.out.step hb)
                  replace HI3 := Lib.hid (HI3.out.stays hb)
                  replace HC3 := Lib.hid (HC3.out.step hb)
                  replace HI4 := Lib.hid (HI4.out.stays hb)
                  replace HC4 := Lib.hid (HC4.out.step hb)
                  replace HI5 := Lib.hid (HI5.out.stays hb)
                  replace HC5 := Lib.hid (HC5.out.step hb)
                  replace HI6 := Lib.hid (HI6.out.stays hb)
                  replace HC6 := Lib.hid (HC6.out.step hb)
                  replace HI7 := Lib.hid (HI7.out.stays hb)
                  replace HC7 := Lib.hid (HC7.out.step hb)
                  replace HI8 := Lib.hid (HI8.out.stays hb)
                  replace HC8 := Lib.hid (HC8.out.step hb)
                  clear hb
                  have HC5l := HC5.out.lt
                  obtain ⟨⟨HC50, HC51, HC52⟩, HC5z⟩ := HC5.out.three
                  go_wp2_with fail
                  clear HC50 HC51 HC52 HC5z HC5l
                  have C := rFitD_any ⟨fs3, o3, u3⟩ (.slice a5 z5 c5) w16 HI5.out
                  rw [fitDB_yes HF3.out] at C
                  unfold dskV at C
                  dsimp only at C
                  refine C.mono ?_
                  clear C
                  rintro e w17 ⟨rfl, hb⟩
                  replace HB := Lib.hid (below_step HB.out hb)
                  replace HR := Lib.hid (HR.out.step hb)
                  replace HI := Lib.hid (HI.out.stays hb)
                  replace HRG := Lib.hid (HRG.out.step hb)
                  replace HIG := Lib.hid (HIG.out.stays hb)
                  replace HI1 := Lib.hid (HI1.out.stays hb)
                  replace HC1 := Lib.hid (HC1.out.step hb)
                  replace HI2 := Lib.hid (HI2.out.stays hb)
                  replace HC2 := Lib.hid (HC2.out.step hb)
                  replace HI3 := Lib.hid (HI3.out.stays hb)
                  replace HC3 := Lib.hid (HC3.out.step hb)
                  replace HI4 := Lib.hid (HI4.out.stays hb)
                  replace HC4 := Lib.hid (HC4.out.step hb)
                  replace HI5 := Lib.hid (HI5.out.stays hb)
                  replace HC5 := Lib.hid (HC5.out.step hb)
                  replace HI6 := Lib.hid (HI6.out.stays hb)
                  replace HC6 := Lib.hid (HC6.out.step hb)
                  replace HI7 := Lib.hid (HI7.out.stays hb)
                  replace HC7 := Lib.hid (HC7.out.step hb)
                  replace HI8 := Lib.hid (HI8.out.stays hb)
                  replace HC8 := Lib.hid (HC8.out.step hb)
                  clear hb
                  have HC7l := HC7.out.lt
                  obtain ⟨⟨HC70, HC71, HC72⟩, HC7z⟩ := HC7.out.three
                  go_wp2_with fail
                  clear HC70 HC71 HC72 HC7z HC7l
                  have C := rFitD_any ⟨fs4, o4, u4⟩ (.slice a7 z7 c7) w17 HI7.out
                  rw [fitDB_yes HF4.out] at C
                  unfold dskV at C
                  dsimp only at C
                  refine C.mono ?_
                  clear C
                  rintro e w18 ⟨rfl, hb⟩
                  replace HB := Lib.hid (below_step HB.out hb)
                  replace HR := Lib.hid (HR.out.step hb)
                  replace HI := Lib.hid (HI.out.stays hb)
                  replace HRG := Lib.hid (HRG.out.step hb)
                  replace HIG := Lib.hid (HIG.out.stays hb)
                  replace HI1 := Lib.hid (HI1.out.stays hb)
                  replace HC1 := Lib.hid (HC1.out.step hb)
                  replace HI2 := Lib.hid (HI2.out.stays hb)
                  replace HC2 := Lib.hid (HC2.out.step hb)
                  replace HI3 := Lib.hid (HI3.out.stays hb)
                  replace HC3 := Lib.hid (HC3.out.step hb)
                  replace HI4 := Lib.hid (HI4.out.stays hb)
                  replace HC4 := Lib.hid (HC4.out.step hb)
                  replace HI5 := Lib.hid (HI5.out.stays hb)
                  replace HC5 := Lib.hid (HC5.out.step hb)
                  replace HI6 := Lib.hid (HI6.out.stays hb)
                  replace HC6 := Lib.hid (HC6.out.step hb)
                  replace HI7 := Lib.hid (HI7.out.stays hb)
                  replace HC7 := Lib.hid (HC7.out.step hb)
                  replace HI8 := Lib.hid (HI8.out.stays hb)
                  replace HC8 := Lib.hid (HC8.out.step hb)
                  clear hb
                  have HC1l := HC1.out.lt
                  obtain ⟨⟨HC10, HC11, HC12⟩, HC1z⟩ := HC1.out.three
                  have HC2l := HC2.out.lt
                  obtain ⟨⟨HC20, HC21, HC22⟩, HC2z⟩ := HC2.out.three
                  go_wp2_with fail
                  clear HC10 HC11 HC12 HC1z HC1l HC20 HC21 HC22 HC2z HC2l
                  have C := rSameD_any ⟨fs1, o1, u1⟩ ⟨fs1, o1, u1⟩ (.slice a1 z1 c1) (.slice a2 z2 c2) w18 HI1.out HI2.out
                  rw [sameD_yes rfl] at C
                  unfold dskV at C
                  dsimp only at C
                  refine C.mono ?_
                  clear C
                  rintro e w19 ⟨rfl, hb⟩
                  replace HB := Lib.hid (below_step HB.out hb)
                  replace HR := Lib.hid (HR.out.step hb)
                  replace HI := Lib.hid (HI.out.stays hb)
                  replace HRG := Lib.hid (HRG.out.step hb)
                  replace HIG := Lib.hid (HIG.out.stays hb)
                  replace HI1 := Lib.hid (HI1.out.stays hb)
                  replace HC1 := Lib.hid (HC1.out.step hb)
                  replace HI2 := Lib.hid (HI2.out.stays hb)
                  replace HC2 := Lib.hid (HC2.out.step hb)
                  replace HI3 := Lib.hid (HI3.out.stays hb)
                  replace HC3 := Lib.hid (HC3.out.step hb)
                  replace HI4 := Lib.hid (HI4.out.stays hb)
                  replace HC4 := Lib.hid (HC4.out.step hb)
                  replace HI5 := Lib.hid (HI5.out.stays hb)
                  replace HC5 := Lib.hid (HC5.out.step hb)
                  replace HI6 := Lib.hid (HI6.out.stays hb)
                  replace HC6 := Lib.hid (HC6.out.step hb)
                  replace HI7 := Lib.hid (HI7.out.stays hb)
                  replace HC7 := Lib.hid (HC7.out.step hb)
                  replace HI8 := Lib.hid (HI8.out.stays hb)
                  replace HC8 := Lib.hid (HC8.out.step hb)
                  clear hb
                  have HC3l := HC3.out.lt
                  obtain ⟨⟨HC30, HC31, HC32⟩, HC3z⟩ := HC3.out.three
                  have HC4l := HC4.out.lt
                  obtain ⟨⟨HC40, HC41, HC42⟩, HC4z⟩ := HC4.out.three
                  go_wp2_with fail
                  clear HC30 HC31 HC32 HC3z HC3l HC40 HC41 HC42 HC4z HC4l
                  have C := rSameD_any ⟨fs2, o2, u2⟩ ⟨fs2, o2, u2⟩ (.slice a3 z3 c3) (.slice a4 z4 c4) w19 HI3.out HI4.out
                  rw [sameD_yes rfl] at C
                  unfold dskV at C
                  dsimp only at C
                  refine C.mono ?_
                  clear C
                  rintro e w20 ⟨rfl, hb⟩
                  replace HB := Lib.hid (below_step HB.out hb)
                  replace HR := Lib.hid (HR.out.step hb)
                  replace HI := Lib.hid (HI.out.stays hb)
                  replace HRG := Lib.hid (HRG.out.step hb)
                  replace HIG := Lib.hid (HIG.out.stays hb)
                  replace HI1 := Lib.hid (HI1.out.stays hb)
                  replace HC1 := Lib.hid (HC1.out.step hb)
                  replace HI2 := Lib.hid (HI2.out.stays hb)
                  replace HC2 := Lib.hid (HC2.out.step hb)
                  replace HI3 := Lib.hid (HI3.out.stays hb)
                  replace HC3 := Lib.hid (HC3.out.step hb)
                  replace HI4 := Lib.hid (HI4.out.stays hb)
                  replace HC4 := Lib.hid (HC4.out.step hb)
                  replace HI5 := Lib.hid (HI5.out.stays hb)
                  replace HC5 := Lib.hid (HC5.out.step hb)
                  replace HI6 := Lib.hid (HI6.out.stays hb)
                  replace HC6 := Lib.hid (HC6.out.step hb)
                  replace HI7 := Lib.hid (HI7.out.stays hb)
                  replace HC7 := Lib.hid (HC7.out.step hb)
                  replace HI8 := Lib.hid (HI8.out.stays hb)
                  replace HC8 := Lib.hid (HC8.out.step hb)
                  clear hb
                  have HC5l := HC5.out.lt
                  obtain ⟨⟨HC50, HC51, HC52⟩, HC5z⟩ := HC5.out.three
                  have HC6l := HC6.out.lt
                  obtain ⟨⟨HC60, HC61, HC62⟩, HC6z⟩ := HC6.out.three
                  go_wp2_with fail
                  clear HC50 HC51 HC52 HC5z HC5l HC60 HC61 HC62 HC6z HC6l
                  have C := rSameD_any ⟨fs3, o3, u3⟩ ⟨fs3, o3, u3⟩ (.slice a5 z5 c5) (.slice a6 z6 c6) w20 HI5.out HI6.out
                  rw [sameD_yes rfl] at C
                  unfold dskV at C
                  dsimp only at C
                  refine C.mono ?_
                  clear C
                  rintro e w21 ⟨rfl, hb⟩
                  replace HB := Lib.hid (below_step HB.out hb)
                  replace HR := Lib.hid (HR.out.step hb)
                  replace HI := Lib.hid (HI.out.stays hb)
                  replace HRG := Lib.hid (HRG.out.step hb)
                  replace HIG := Lib.hid (HIG.out.stays hb)
                  replace HI1 := Lib.hid (HI1.out.stays hb)
                  replace HC1 := Lib.hid (HC1.out.step hb)
                  replace HI2 := Lib.hid (HI2.out.stays hb)
                  replace HC2 := Lib.hid (HC2.out.step hb)
                  replace HI3 := Lib.hid (HI3.out.stays hb)
                  replace HC3 := Lib.hid (HC3.out.step hb)
                  replace HI4 := Lib.hid (HI4.out.stays hb)
                  replace HC4 := Lib.hid (HC4.out.step hb)
                  replace HI5 := Lib.hid (HI5.out.stays hb)
                  replace HC5 := Lib.hid (HC5.out.step hb)
                  replace HI6 := Lib.hid (HI6.out.stays hb)
                  replace HC6 := Lib.hid (HC6.out.step hb)
                  replace HI7 := Lib.hid (HI7.out.stays hb)
                  replace HC7 := Lib.hid (HC7.out.step hb)
                  replace HI8 := Lib.hid (HI8.out.stays hb)
                  replace HC8 := Lib.hid (HC8.out.step hb)
                  clear hb
                  have HC7l := HC7.out.lt
                  obtain ⟨⟨HC70, HC71, HC72⟩, HC7z⟩ := HC7.out.three
                  have HC8l := HC8.out.lt
                  obtain ⟨⟨HC80, HC81, HC82⟩, HC8z⟩ := HC8.out.three
                  go_wp2_with fail
                  clear HC70 HC71 HC72 HC7z HC7l HC80 HC81 HC82 HC8z HC8l
                  have C := rSameD_any ⟨fs4, o4, u4⟩ ⟨fs4, o4, u4⟩ (.slice a7 z7 c7) (.slice a8 z8 c8) w21 HI7.out HI8.out
                  rw [sameD_yes rfl] at C
                  unfold dskV at C
                  dsimp only at C
                  refine C.mono ?_
                  clear C
                  rintro e w22 ⟨rfl, hb⟩
                  replace HB := Lib.hid (below_step HB.out hb)
                  replace HR := Lib.hid (HR.out.step hb)
                  replace HI := Lib.hid (HI.out.stays hb)
                  replace HRG := Lib.hid (HRG.out.step hb)
                  replace HIG := Lib.hid (HIG.out.stays hb)
                  replace HI1 := Lib.hid (HI1.out.stays hb)
                  replace HC1 := Lib.hid (HC1.out.step hb)
                  replace HI2 := Lib.hid (HI2.out.stays hb)
                  replace HC2 := Lib.hid (HC2.out.step hb)
                  replace HI3 := Lib.hid (HI3.out.stays hb)
                  replace HC3 := Lib.hid (HC3.out.step hb)
                  replace HI4 := Lib.hid (HI4.out.stays hb)
                  replace HC4 := Lib.hid (HC4.out.step hb)
                  replace HI5 := Lib.hid (HI5.out.stays hb)
                  replace HC5 := Lib.hid (HC5.out.step hb)
                  replace HI6 := Lib.hid (HI6.out.stays hb)
                  replace HC6 := Lib.hid (HC6.out.step hb)
                  replace HI7 := Lib.hid (HI7.out.stays hb)
                  replace HC7 := Lib.hid (HC7.out.step hb)
                  replace HI8 := Lib.hid (HI8.out.stays hb)
                  replace HC8 := Lib.hid (HC8.out.step hb)
                  clear hb
                  go_wp2_with fail
                  refine (CA.out _).mono ?_
                  rintro e w9 ⟨rfl, hb⟩
                  replace HB := Lib.hid (below_step HB.out hb)
                  clear hb
                  go_wp2_with fail
                  go_ret
                  exact ⟨rfl, HB.out⟩
end Go.Proofs.Ytninfmlemdnjbaa

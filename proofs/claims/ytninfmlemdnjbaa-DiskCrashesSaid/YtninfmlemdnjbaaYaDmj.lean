/-
  DiskCrashes as a walk over this translation. Written by wip/tools/gen_disk_laws.py.
-/
import Derived.Test.YtninfmlemdnjbaaQa4
import Derived.Test.YtninfmlemdnjbaaQa1
set_option linter.unusedVariables false
namespace Go.Proofs.Ytninfmlemdnjbaa
open Go.RowKit
attribute [local go_sem] Oper.semAt_some
def dlcU (w0 w3 X : World) (a a3 ka : Option Addr) (z cap z3 c3 kz kcap : Nat) (off : Bool) (fuse : Int) (L : List Dfl) : Nat → Value → Value → World → Prop
  | 0 => fun v _ _ => v = .agg #[.slice a3 z3 c3, .bool false, .int .i64 (-1)]
  | 1 => fun v _ _ => v = .agg #[.slice a z cap, .bool off, .int .i64 fuse]
  | 2 => fun v _ _ => v = .slice ka kz kcap
  | 3 => fun v _ wz => ∃ (a4 : Option Addr) (z4 c4 : Nat), v = .agg #[.slice a4 z4 c4, .bool false, .int .i64 (-1)] ∧ IsDfs wz (.slice a4 z4 c4) L
  | 4 => fun v _ _ => v = .bool true
  | 5 => fun v _ _ => v = .bool true
  | 6 => fun v _ _ => v = .agg #[.slice a3 z3 c3, .bool false, .int .i64 (-1)]
  | 7 => fun v _ _ => v = .bool true
  | 8 => fun v _ _ => v = .bool true
  | 9 => fun v _ _ => v = .bool true
  | 10 => fun v _ _ => v = .bool true
  | 11 => fun v _ _ => v = .bool true
  | 12 => fun v _ _ => v = .bool true
  | 13 => fun _ _ wz => Below X.heap.size X wz
  | _ => fun _ _ _ => True
def dlcN : List (List Nat) := [[13], [13], [], [1, 2, 13], [0, 3, 13], [4], [5, 13], [6, 5, 13], [5, 7], [8], [9, 13], [9, 10], [11]]
def dlcE : Nat → Option Tmp
  | _ => none
def dlcB : List (Nat × Nat) := []
theorem dlc_T (w0 w3 X : World) (a a3 ka : Option Addr) (z cap z3 c3 kz kcap : Nat) (off : Bool) (fuse : Int) (L : List Dfl) (ix kx : Nat) (v e : Value) (w w' : World) (hk : kx < 14) (hne : kx ≠ ix) (hbd : (ix, kx) ∉ dlcB) (hU : (dlcU w0 w3 X a a3 ka z cap z3 c3 kz kcap off fuse L) kx v e w) (hT : allT ix w w') : (dlcU w0 w3 X a a3 ka z cap z3 c3 kz kcap off fuse L) kx v e w' := by
  have hb : Below w.heap.size w w' := hT
  rcases (show kx = 0 ∨ kx = 1 ∨ kx = 2 ∨ kx = 3 ∨ kx = 4 ∨ kx = 5 ∨ kx = 6 ∨ kx = 7 ∨ kx = 8 ∨ kx = 9 ∨ kx = 10 ∨ kx = 11 ∨ kx = 12 ∨ kx = 13 by omega) with rfl | rfl | rfl | rfl | rfl | rfl | rfl | rfl | rfl | rfl | rfl | rfl | rfl | rfl
  iterate 3 exact hU
  · exact (by obtain ⟨a4, z4, c4, h1, h2⟩ := hU; exact ⟨a4, z4, c4, h1, h2.stays hb⟩)
  iterate 9 exact hU
  · exact below_step hU hb
set_option maxRecDepth 100000 in
set_option maxHeartbeats 16000000 in
theorem diskCrashes_w (d : Dsk) (fv kv : Value) (keep : List Bool) (w0 : World) (h : IsDfs w0 fv d.fs) (hk : IsBls w0 kv keep) :
    Calls Try.prog 4 #[dskV fv d, kv] w0 fun e w' => e = .returned (.bool true) ∧ Below w0.heap.size w0 w' := by
  have CA := Lib.hid awake15_any
  obtain ⟨_, a, cap, hu, _, _⟩ := id h
  obtain ⟨z, hz⟩ : ∃ z, z = d.fs.length := ⟨_, rfl⟩
  rw [← hz] at hu
  subst hu
  obtain ⟨fs, off, fuse⟩ := d
  obtain ⟨V, hV⟩ : ∃ V, V = w0.alloc (.cells #[.slice a z cap, .bool off, .int .i64 fuse] 24) := ⟨_, rfl⟩
  have hbV : Below w0.heap.size w0 V := by rw [hV]; exact (Below.refl _ _).alloc (Nat.le_refl _) _
  have hR : Row V w0.heap.size #[.slice a z cap, .bool off, .int .i64 fuse] 24 := by rw [hV]; exact Row.made _ _ _
  have HV := Lib.hid hV; have HB0 := Lib.hid hbV; have HR := Lib.hid hR; have HI := Lib.hid (h.stays hbV)
  obtain ⟨_, ka, kcap, hku, _, _⟩ := id hk
  obtain ⟨kz, hkz⟩ : ∃ z, z = keep.length := ⟨_, rfl⟩
  rw [← hkz] at hku
  subst hku
  have HK := Lib.hid (hk.stays hbV)
  have CF := Lib.hid (few15_any ⟨fs, off, fuse⟩ (.slice a z cap) V HI.out)
  unfold dskV at CF ⊢
  dsimp only at CF HI ⊢
  obtain ⟨⟨p0, p1, p2⟩, fz⟩ := hR.three
  clear h hk hz hkz hV hbV hR
  go_enter Try.func4, Try.ntmps4
  go_wp2_with fail
  rw [← HV.out]
  go_wp2_with fail
  refine CF.out.mono ?_
  rintro e w1 ⟨rfl, hb1⟩
  have HB1 := Lib.hid (below_step HB0.out hb1); have HR1 := Lib.hid (HR.out.step hb1); have HI1 := Lib.hid (HI.out.stays hb1); have HK1 := Lib.hid (HK.out.stays hb1)
  clear hb1 p0 p1 p2 fz
  obtain ⟨⟨p0, p1, p2⟩, fz⟩ := HR1.out.three
  cases hfw : fewDB ⟨fs, off, fuse⟩ with
  | false =>
    clear hfw
    go_wp2_with fail
    refine (CA.out _).mono ?_
    rintro e w9 ⟨rfl, hb9⟩
    have HB9 := Lib.hid (below_step HB1.out hb9)
    clear hb9
    go_wp2_with fail
    go_ret
    exact ⟨rfl, HB9.out⟩
  | true =>
    clear hfw
    by_cases hk2 : kz ≤ 2000
    · have d1 : decide ((2000 : Int) < (kz : Int)) = false := decide_eq_false (by omega)
      have C2 := Lib.hid (rFitD_any ⟨fs, off, fuse⟩ (.slice a z cap) w1 HI1.out)
      unfold dskV at C2
      dsimp only at C2
      go_wp2_with fail
      refine C2.out.mono ?_
      rintro e w2 ⟨rfl, hb2⟩
      have HB2 := Lib.hid (below_step HB1.out hb2); have HR2 := Lib.hid (HR1.out.step hb2); have HI2 := Lib.hid (HI1.out.stays hb2); have HK2 := Lib.hid (HK1.out.stays hb2)
      clear hb2 p0 p1 p2 fz
      obtain ⟨⟨p0, p1, p2⟩, fz⟩ := HR2.out.three
      cases hft : fitDB ⟨fs, off, fuse⟩ with
      | false =>
        clear hft
        go_wp2_with fail
        refine (CA.out _).mono ?_
        rintro e w9 ⟨rfl, hb9⟩
        have HB9 := Lib.hid (below_step HB2.out hb9)
        clear hb9
        go_wp2_with fail
        go_ret
        exact ⟨rfl, HB9.out⟩
      | true =>
        have HF := Lib.hid (fitDB_iff.1 hft)
        clear hft
        have HFC := Lib.hid (crashD_fit HF.out keep)
        have C3 := Lib.hid (pCrash_any ⟨fs, off, fuse⟩ (.slice a z cap) (.slice ka kz kcap) keep w2 HI2.out HK2.out HF.out)
        unfold dskV at C3
        dsimp only [crashD] at C3 HFC
        obtain ⟨L, hL⟩ : ∃ L, L = crashL keep 0 fs := ⟨_, rfl⟩
        rw [← hL] at C3 HFC
        have HL := Lib.hid hL
        clear hL
        go_wp2_with fail
        refine C3.out.mono ?_
        rintro e w3 ⟨v3, rfl, h3, hb3⟩
        obtain ⟨a3, c3, hv3⟩ := h3.len
        obtain ⟨z3, hz3⟩ : ∃ z, z = L.length := ⟨_, rfl⟩
        rw [← hz3] at hv3
        subst hv3
        obtain ⟨X, hX⟩ : ∃ X, X = w3.alloc (.cells #[.slice a3 z3 c3, .bool false, .int .i64 (-1)] 24) := ⟨_, rfl⟩
        have hbX : Below w3.heap.size w3 X := by rw [hX]; exact (Below.refl _ _).alloc (Nat.le_refl _) _
        have HRX : Hid (Row X w3.heap.size #[.slice a3 z3 c3, .bool false, .int .i64 (-1)] 24) := by rw [hX]; exact Lib.hid (Row.made _ _ _)
        have hb23 := below_step hb3 hbX
        have HBX := Lib.hid (below_step HB2.out hb23); have HRD := Lib.hid (HR2.out.step hb23); have HID := Lib.hid (HI2.out.stays hb23); have HKD := Lib.hid (HK2.out.stays hb23); have HIX := Lib.hid (h3.stays hbX)
        have HX := Lib.hid hX
        clear h3 hb3 hz3 hX hbX hb23 p0 p1 p2 fz
        go_wp2_with fail
        rw [← HX.out]
        refine wp_region_wordsG (by kernel_rfl) (by kernel_rfl) allT (fun _ => True) dlcE (dlcU w0 w3 X a a3 ka z cap z3 c3 kz kcap off fuse L) 14 dlcN [12, 13] (by kernel_rfl) (by kernel_rfl) (by kernel_rfl)
          dlcB (by kernel_rfl) (fun ix kx v e w w' hi hk hne hb hU hT => dlc_T _ _ _ _ _ _ _ _ _ _ _ _ _ _ _  ix kx v e w w' hk hne hb hU hT) (by decide) trivial (fun kx hk hge => ?hv0)
          [23, 24, 25, 26, 27, 28, 29, 30, 31, 32, 33, 34, 4] (by kernel_rfl) (forall_ops ?steps) ?behind
        case hv0 =>
          have hge' : 13 ≤ kx := hge
          rcases (show kx = 13 by omega) with rfl
          · exact (Below.refl _ _).drew
        case steps =>
          refine ⟨?_, ?_, ?_, ?_, ?_, ?_, ?_, ?_, ?_, ?_, ?_, ?_, ?_, trivial⟩
          · refine stepG_of rfl ?_
            exact stepR_value (t := 23) (.agg #[.slice a3 z3 c3, .bool false, .int .i64 (-1)]) rfl (fun _ => Below.refl _ _) (fun ac w hG hN hO => by
              have e5 : slot ac 5 = .pointer (some ⟨w3.heap.size, 0, none⟩) := hO 5 (by kernel_rfl)
              have hx : Below X.heap.size X w := hN 13 (by decide)
              obtain ⟨⟨p0, p1, p2⟩, _⟩ := (HRD.out.step hx).three
              obtain ⟨⟨r0, r1, r2⟩, _⟩ := (HRX.out.step hx).three
              have f5 := slot_at e5
              unfold execOp; go_simp) (fun ac w hG hN => rfl)
          · refine stepG_of rfl ?_
            exact stepR_value (t := 24) (.agg #[.slice a z cap, .bool off, .int .i64 fuse]) rfl (fun _ => Below.refl _ _) (fun ac w hG hN hO => by
              have e2 : slot ac 2 = .pointer (some ⟨w0.heap.size, 0, none⟩) := hO 2 (by kernel_rfl)
              have hx : Below X.heap.size X w := hN 13 (by decide)
              obtain ⟨⟨p0, p1, p2⟩, _⟩ := (HRD.out.step hx).three
              obtain ⟨⟨r0, r1, r2⟩, _⟩ := (HRX.out.step hx).three
              have f2 := slot_at e2
              unfold execOp; go_simp) (fun ac w hG hN => rfl)
          · refine stepG_of rfl ?_
            exact stepR_value (t := 25) (.slice ka kz kcap) rfl (fun _ => Below.refl _ _) (fun ac w hG hN hO => by
              have e1 : slot ac 1 = .slice ka kz kcap := hO 1 (by kernel_rfl)
              exact run_move_slot (.inl rfl) e1) (fun ac w hG hN => rfl)
          · refine stepG_of rfl ?_
            intro ac wx hG hN hO
            have e24 : slot ac 24 = .agg #[.slice a z cap, .bool off, .int .i64 fuse] := hN 1 (by decide)
            have e25 : slot ac 25 = .slice ka kz kcap := hN 2 (by decide)
            have hx : Below X.heap.size X wx := hN 13 (by decide)
            have C4 := rCrash_any ⟨fs, off, fuse⟩ (.slice a z cap) (.slice ka kz kcap) keep wx (HID.out.stays hx) (HKD.out.stays hx) HF.out
            refine wp_callx 26 _ _ rfl (enters_of Try.func26 (by kernel_rfl) rfl) #[.agg #[.slice a z cap, .bool off, .int .i64 fuse], .slice ka kz kcap] (by simp [eval_slot, e24, e25]) (R := fun v wz => ∃ (a4 : Option Addr) (z4 c4 : Nat), v = .agg #[.slice a4 z4 c4, .bool false, .int .i64 (-1)] ∧ IsDfs wz (.slice a4 z4 c4) L ∧ Below wx.heap.size wx wz) (C4.mono fun e wz hz => ?_) ?_
            · obtain ⟨v4, h1, h2, h3⟩ := hz
              obtain ⟨a4, c4, rfl⟩ := h2.len
              exact ⟨_, h1, a4, _, c4, rfl, by rw [HL.out]; exact h2, h3⟩
            rintro v wz ⟨a4, z4, c4, h1, h2, hb⟩
            exact ⟨v, rfl, hb, trivial, a4, z4, c4, h1, h2⟩
          · refine stepG_of rfl ?_
            intro ac wx hG hN hO
            have e23 : slot ac 23 = .agg #[.slice a3 z3 c3, .bool false, .int .i64 (-1)] := hN 0 (by decide)
            have h3 : ∃ (a4 : Option Addr) (z4 c4 : Nat), slot ac 26 = .agg #[.slice a4 z4 c4, .bool false, .int .i64 (-1)] ∧ IsDfs wx (.slice a4 z4 c4) L := hN 3 (by decide)
            have hx : Below X.heap.size X wx := hN 13 (by decide)
            obtain ⟨a4, z4, c4, e26, h4⟩ := h3
            have C5 := rSameD_any ⟨L, false, -1⟩ ⟨L, false, -1⟩ (.slice a3 z3 c3) (.slice a4 z4 c4) wx (HIX.out.stays hx) h4
            rw [sameD_yes rfl] at C5
            refine wp_callx 14 _ _ rfl (enters_of Try.func14 (by kernel_rfl) rfl) #[.agg #[.slice a3 z3 c3, .bool false, .int .i64 (-1)], .agg #[.slice a4 z4 c4, .bool false, .int .i64 (-1)]] (by simp [eval_slot, e23, e26]) (R := fun v wz => v = .bool true ∧ Below wx.heap.size wx wz) (C5.mono fun e wz hz => ⟨_, hz.1, rfl, hz.2⟩) ?_
            rintro v wz ⟨hv, hb⟩
            exact ⟨v, rfl, hb, trivial, hv⟩
          · refine stepG_of rfl ?_
            exact stepR_value (t := 28) (.bool true) rfl (fun _ => Below.refl _ _) (fun ac w hG hN hO => by
              have e27 : slot ac 27 = .bool true := hN 4 (by decide)
              exact run_move_slot (.inl rfl) e27) (fun ac w hG hN => rfl)
          · refine stepG_on (j := 5) (b := true) rfl (by decide) (fun v e w h => h) ?_
            exact stepR_value (t := 29) (.agg #[.slice a3 z3 c3, .bool false, .int .i64 (-1)]) rfl (fun _ => Below.refl _ _) (fun ac w hG hN hO => by
              have e5 : slot ac 5 = .pointer (some ⟨w3.heap.size, 0, none⟩) := hO 5 (by kernel_rfl)
              have hx : Below X.heap.size X w := hN 13 (by decide)
              obtain ⟨⟨p0, p1, p2⟩, _⟩ := (HRD.out.step hx).three
              obtain ⟨⟨r0, r1, r2⟩, _⟩ := (HRX.out.step hx).three
              have f5 := slot_at e5
              unfold execOp; go_simp) (fun ac w hG hN => rfl)
          · refine stepG_on (j := 5) (b := true) rfl (by decide) (fun v e w h => h) ?_
            intro ac wx hG hN hO
            have e29 : slot ac 29 = .agg #[.slice a3 z3 c3, .bool false, .int .i64 (-1)] := hN 6 (by decide)
            have hx : Below X.heap.size X wx := hN 13 (by decide)
            have C6 := rFitD_any ⟨L, false, -1⟩ (.slice a3 z3 c3) wx (HIX.out.stays hx)
            rw [fitDB_yes HFC.out] at C6
            refine wp_callx 12 _ _ rfl (enters_of Try.func12 (by kernel_rfl) rfl) #[.agg #[.slice a3 z3 c3, .bool false, .int .i64 (-1)]] (by simp [eval_slot, e29]) (R := fun v wz => v = .bool true ∧ Below wx.heap.size wx wz) (C6.mono fun e wz hz => ⟨_, hz.1, rfl, hz.2⟩) ?_
            rintro v wz ⟨hv, hb⟩
            exact ⟨v, rfl, hb, trivial, hv⟩
          · refine stepG_of rfl ?_
            exact stepR_value (t := 31) (.bool true) rfl (fun _ => Below.refl _ _) (fun ac w hG hN hO => by
              have e28 : slot ac 28 = .bool true := hN 5 (by decide)
              have e30 : slot ac 30 = .bool true := hN 7 (by decide)
              have f28 := slot_at e28
              have f30 := slot_at e30
              unfold execOp; go_simp) (fun ac w hG hN => rfl)
          · refine stepG_of rfl ?_
            exact stepR_value (t := 32) (.bool true) rfl (fun _ => Below.refl _ _) (fun ac w hG hN hO => by
              have e31 : slot ac 31 = .bool true := hN 8 (by decide)
              exact run_move_slot (.inl rfl) e31) (fun ac w hG hN => rfl)
          · refine stepG_on (j := 9) (b := true) rfl (by decide) (fun v e w h => h) ?_
            intro ac wx hG hN hO
            refine wp_callx 10 _ _ rfl (enters_of Try.func10 (by kernel_rfl) rfl) #[] (by simp) (R := fun v wz => v = .bool true ∧ Below wx.heap.size wx wz) ((CA.out wx).mono fun e wz hz => ⟨_, hz.1, rfl, hz.2⟩) ?_
            rintro v wz ⟨hv, hb⟩
            exact ⟨v, rfl, hb, trivial, hv⟩
          · refine stepG_of rfl ?_
            exact stepR_value (t := 34) (.bool true) rfl (fun _ => Below.refl _ _) (fun ac w hG hN hO => by
              have e32 : slot ac 32 = .bool true := hN 9 (by decide)
              have e33 : slot ac 33 = .bool true := hN 10 (by decide)
              have f32 := slot_at e32
              have f33 := slot_at e33
              unfold execOp; go_simp) (fun ac w hG hN => rfl)
          · refine stepG_of rfl ?_
            exact stepR_value (t := 4) (.bool true) rfl (fun _ => Below.refl _ _) (fun ac w hG hN hO => by
              have e34 : slot ac 34 = .bool true := hN 11 (by decide)
              exact run_move_slot (.inr rfl) e34) (fun ac w hG hN => rfl)
        case behind =>
          intro ac w5 hG hV hS ha
          have h12 : slot ac 4 = .bool true := hV 12 (by decide) (by decide)
          have h13 : Below X.heap.size X w5 := hV 13 (by decide) (by decide)
          generalize slot ac = sl at ha h12
          subst ha
          simp only [patchL, List.contains_cons, List.contains_nil, Nat.reduceBEq, Bool.or_false, Bool.or_true, if_true, Bool.false_eq_true, if_false, Nat.reduceAdd]
          generalize sl 23 = s23
          generalize sl 24 = s24
          generalize sl 25 = s25
          generalize sl 26 = s26
          generalize sl 27 = s27
          generalize sl 28 = s28
          generalize sl 29 = s29
          generalize sl 30 = s30
          generalize sl 31 = s31
          generalize sl 32 = s32
          generalize sl 33 = s33
          generalize sl 34 = s34
          generalize sl 4 = s4 at h12 ⊢
          subst h12
          clear hV hS
          have HB5 := Lib.hid (below_step HBX.out h13)
          clear hG h13
          go_wp2
          go_ret
          exact ⟨rfl, HB5.out⟩
    · have d1 : decide ((2000 : Int) < (kz : Int)) = true := decide_eq_true (by omega)
      go_wp2_with fail
      refine (CA.out _).mono ?_
      rintro e w9 ⟨rfl, hb9⟩
      have HB9 := Lib.hid (below_step HB1.out hb9)
      clear hb9
      go_wp2_with fail
      go_ret
      exact ⟨rfl, HB9.out⟩
end Go.Proofs.Ytninfmlemdnjbaa

/-
  Texts put together: contracts and laws that this seat's proofs share.
-/
import Derived.Test.YtalknbadakfppaaGreatYaDlp
import Derived.Test.YtalknbadakfppaaGreatQa1
import Derived.Test.YtalknbadakfppaaGreatQa3
import Derived.Test.YtalknbadakfppaaGreatYaWlf
import Derived.Test.YtalknbadakfppaaGreatYaWlg
import Derived.Test.YtalknbadakfppaaGreatYaWlh
set_option linter.unusedVariables false
namespace Go.Proofs.YtalknbadakfppaaGreat
open Go.RowKit Go.Shelf
attribute [local go_sem] Oper.semAt_some
def dkwriU (w0 w1 V U : World) (kb : Nat) (res : Dsk × Int) (d : Dsk) (n : ByteArray) (x : Int) (s : ByteArray) : Nat → Value → Value → World → Prop
  | 0 => fun v _ _ => v = .pointer (some ⟨kb, 0, none⟩)
  | 1 => fun v _ _ => v = .pointer (some ⟨kb, 0, none⟩)
  | 2 => fun v _ _ => v = .string n
  | 3 => fun v _ _ => v = .int .i64 x
  | 4 => fun v _ _ => v = .string s
  | 5 => fun v _ _ => v = .int .i64 (wrongW d n x s)
  | 6 => fun v _ _ => v = .func (.func 66) #[] #[.pointer (some ⟨w1.heap.size, 0, none⟩), .pointer (some ⟨w0.heap.size + 1, 0, none⟩), .pointer (some ⟨w0.heap.size + 2, 0, none⟩), .pointer (some ⟨w0.heap.size + 3, 0, none⟩)]
  | 7 => fun v _ wz => v = .int .i64 res.2 ∧ ActP res V kb w1.heap.size (w0.heap.size + 4) wz
  | 8 => fun v _ wz => v = .int .i64 res.2 ∧ ActP res V kb w1.heap.size (w0.heap.size + 4) wz
  | 9 => fun _ _ wz => Below U.heap.size U wz
  | _ => fun _ _ _ => True
def dkwriN : List (List Nat) := [[9], [9], [9], [9], [9], [1, 2, 3, 4, 9], [], [0, 5, 6, 9], [7]]
def dkwriE : Nat → Option Tmp
  | _ => none
def dkwriB : List (Nat × Nat) := [(7, 8), (7, 9)]
theorem dkwri_T (w0 w1 V U : World) (kb : Nat) (res : Dsk × Int) (d : Dsk) (n : ByteArray) (x : Int) (s : ByteArray) (ix kx : Nat) (v e : Value) (w w' : World) (hk : kx < 10) (hne : kx ≠ ix) (hbd : (ix, kx) ∉ dkwriB) (hU : (dkwriU w0 w1 V U kb res d n x s) kx v e w) (hT : (appT 7 (fun _ _ => True)) ix w w') : (dkwriU w0 w1 V U kb res d n x s) kx v e w' := by
  by_cases hi7 : ix = 7
  · subst hi7
    have hR := appT_in hT
    rcases (show kx = 0 ∨ kx = 1 ∨ kx = 2 ∨ kx = 3 ∨ kx = 4 ∨ kx = 5 ∨ kx = 6 ∨ kx = 7 ∨ kx = 8 ∨ kx = 9 by omega) with rfl | rfl | rfl | rfl | rfl | rfl | rfl | rfl | rfl | rfl
    iterate 7 exact hU
    · exact absurd rfl hne
    · exact absurd (by decide) hbd
    · exact absurd (by decide) hbd
  have hb : Below w.heap.size w w' := appT_out hi7 hT
  rcases (show kx = 0 ∨ kx = 1 ∨ kx = 2 ∨ kx = 3 ∨ kx = 4 ∨ kx = 5 ∨ kx = 6 ∨ kx = 7 ∨ kx = 8 ∨ kx = 9 by omega) with rfl | rfl | rfl | rfl | rfl | rfl | rfl | rfl | rfl | rfl
  iterate 7 exact hU
  · exact ⟨hU.1, ActP.stays hU.2 hb⟩
  · exact ⟨hU.1, ActP.stays hU.2 hb⟩
  · exact below_step hU hb
set_option maxRecDepth 100000 in
set_option maxHeartbeats 8000000 in
theorem pWrite_any (d : Dsk) (v0 : Value) (n : ByteArray) (x : Int) (s : ByteArray) (w0 : World) (h : IsDfs w0 v0 d.fs) (hf : FitD nameB d) (hns : n.size ≤ 1000000) (hx : x ≤ 9223372036854775807) (hss : s.size ≤ 1000000) :
    Calls Tryz.prog 46 #[dskV v0 d, .string n, .int .i64 x, .string s] w0 (RetD (writeD nameB d n x s) w0) := by
  have hr := hf.rise; have hl8 := hf.many
  have ho : ∀ f ∈ d.fs, f.ops.length ≤ 1000 := fun f hm => Nat.le_trans (hf.files f hm).many (by decide)
  obtain ⟨_, a, cap, hu, _, _⟩ := id h
  obtain ⟨z, hz⟩ : ∃ z, z = d.fs.length := ⟨_, rfl⟩
  rw [← hz] at hu
  subst hu
  obtain ⟨V, hV⟩ : ∃ V, V = (((((w0.alloc (.cells #[.slice a z cap, .bool d.off, .int .i64 d.fuse] 28)).alloc (.cells #[.string n] 9)).alloc (.cells #[.int .i64 x] 3)).alloc (.cells #[.string s] 9)).alloc (.cells #[.slice none 0 0, .bool false, .int .i64 0] 28)) := ⟨_, rfl⟩
  have hbV : Below w0.heap.size w0 V := by rw [hV]; exact (((((Below.refl _ _).alloc (by simp) _).alloc (by simp) _).alloc (by simp; try omega) _).alloc (by simp; try omega) _).alloc (by simp; try omega) _
  have hB0 : Row V (w0.heap.size) #[.slice a z cap, .bool d.off, .int .i64 d.fuse] 28 := by
    have h0 := Row.made w0 #[.slice a z cap, .bool d.off, .int .i64 d.fuse] 28
    have hs : w0.heap.size = w0.heap.size := by simp
    rw [hs] at h0
    rw [hV]; exact ((((h0).alloc _).alloc _).alloc _).alloc _
  have hB1 : Row V (w0.heap.size + 1) #[.string n] 9 := by
    have h0 := Row.made (w0.alloc (.cells #[.slice a z cap, .bool d.off, .int .i64 d.fuse] 28)) #[.string n] 9
    have hs : (w0.alloc (.cells #[.slice a z cap, .bool d.off, .int .i64 d.fuse] 28)).heap.size = w0.heap.size + 1 := by simp
    rw [hs] at h0
    rw [hV]; exact (((h0).alloc _).alloc _).alloc _
  have hB2 : Row V (w0.heap.size + 2) #[.int .i64 x] 3 := by
    have h0 := Row.made ((w0.alloc (.cells #[.slice a z cap, .bool d.off, .int .i64 d.fuse] 28)).alloc (.cells #[.string n] 9)) #[.int .i64 x] 3
    have hs : ((w0.alloc (.cells #[.slice a z cap, .bool d.off, .int .i64 d.fuse] 28)).alloc (.cells #[.string n] 9)).heap.size = w0.heap.size + 2 := by simp
    rw [hs] at h0
    rw [hV]; exact ((h0).alloc _).alloc _
  have hB3 : Row V (w0.heap.size + 3) #[.string s] 9 := by
    have h0 := Row.made (((w0.alloc (.cells #[.slice a z cap, .bool d.off, .int .i64 d.fuse] 28)).alloc (.cells #[.string n] 9)).alloc (.cells #[.int .i64 x] 3)) #[.string s] 9
    have hs : (((w0.alloc (.cells #[.slice a z cap, .bool d.off, .int .i64 d.fuse] 28)).alloc (.cells #[.string n] 9)).alloc (.cells #[.int .i64 x] 3)).heap.size = w0.heap.size + 3 := by simp
    rw [hs] at h0
    rw [hV]; exact (h0).alloc _
  have hB4 : Row V (w0.heap.size + 4) #[.slice none 0 0, .bool false, .int .i64 0] 28 := by
    have h0 := Row.made ((((w0.alloc (.cells #[.slice a z cap, .bool d.off, .int .i64 d.fuse] 28)).alloc (.cells #[.string n] 9)).alloc (.cells #[.int .i64 x] 3)).alloc (.cells #[.string s] 9)) #[.slice none 0 0, .bool false, .int .i64 0] 28
    have hs : ((((w0.alloc (.cells #[.slice a z cap, .bool d.off, .int .i64 d.fuse] 28)).alloc (.cells #[.string n] 9)).alloc (.cells #[.int .i64 x] 3)).alloc (.cells #[.string s] 9)).heap.size = w0.heap.size + 4 := by simp
    rw [hs] at h0
    rw [hV]; exact h0
  have CM := Lib.hid (newMachine_any d (.slice a z cap) V (h.stays hbV) (by omega) ho)
  have HV := Lib.hid hV; have HBV := Lib.hid hbV; have HF := Lib.hid hf
  have HB0 := Lib.hid hB0
  have HB1 := Lib.hid hB1
  have HB2 := Lib.hid hB2
  have HB3 := Lib.hid hB3
  have HB4 := Lib.hid hB4
  have HDO := Lib.hid ho
  obtain ⟨c0, c1, c2⟩ : V.cell? ⟨w0.heap.size, 0, none⟩ = some (.slice a z cap) ∧ V.cell? ⟨w0.heap.size, 1, none⟩ = some (.bool d.off) ∧ V.cell? ⟨w0.heap.size, 2, none⟩ = some (.int .i64 d.fuse) := by
    have p0 := hB0.cell 0; have p1 := hB0.cell 1; have p2 := hB0.cell 2
    simp only [List.getElem?_toArray, List.getElem?_cons_zero, List.getElem?_cons_succ] at p0 p1 p2
    exact ⟨p0, p1, p2⟩
  have HSP := Lib.hid (writeD_act d n x s)
  clear hV hbV h hz ho hf hB0 hB1 hB2 hB3 hB4
  unfold dskV
  go_enter Tryz.func46, Tryz.ntmps46
  go_wp2_with fail
  rw [← HV.out]
  go_wp2_with fail
  refine CM.out.mono ?_
  rintro e w1 ⟨kb, v, R, rfl, hM, hb1⟩
  obtain ⟨U, hU⟩ : ∃ U, U = w1.alloc (.cells #[.pointer (some ⟨kb, 0, none⟩)] 99) := ⟨_, rfl⟩
  have hbU : Below w1.heap.size w1 U := by rw [hU]; exact (Below.refl _ _).alloc (Nat.le_refl _) _
  have hPB : Row U w1.heap.size #[.pointer (some ⟨kb, 0, none⟩)] 99 := by rw [hU]; exact Row.made _ _ _
  have hbVU := below_step hb1 hbU
  have HM := Lib.hid (hM.stays hbU); have HPB := Lib.hid hPB; have HU := Lib.hid hU; have HBU := Lib.hid hbVU
  have HU1 := Lib.hid (HB1.out.step hbVU)
  have HU2 := Lib.hid (HB2.out.step hbVU)
  have HU3 := Lib.hid (HB3.out.step hbVU)
  have HU4 := Lib.hid (HB4.out.step hbVU)
  have hVU : V.heap.size ≤ U.heap.size := hbVU.size
  obtain ⟨u1, _⟩ := row_one HU1.out
  obtain ⟨u2, _⟩ := row_one HU2.out
  obtain ⟨u3, _⟩ := row_one HU3.out
  obtain ⟨q0, _⟩ := row_one hPB
  have CW : Hid (∀ W, Below U.heap.size U W → Calls Tryz.prog 65 #[.pointer (some ⟨kb, 0, none⟩), .string n, .int .i64 x, .string s] W fun e w' => e = .returned (.int .i64 (wrongW d n x s)) ∧ Below W.heap.size W w') := Lib.hid fun W hW => by
    refine (wrongWrite_any n x s W (HM.out.stays hW) hr (by omega) hx (by omega)).mono ?_
    rintro e w' ⟨rfl, hb⟩
    exact ⟨rfl, hb⟩
  have CA : Hid (∀ W, Below U.heap.size U W → Calls Tryz.prog 64 #[.pointer (some ⟨kb, 0, none⟩), .int .i64 (wrongW d n x s), .func (.func 66) #[] #[.pointer (some ⟨w1.heap.size, 0, none⟩), .pointer (some ⟨w0.heap.size + 1, 0, none⟩), .pointer (some ⟨w0.heap.size + 2, 0, none⟩), .pointer (some ⟨w0.heap.size + 3, 0, none⟩)]] W fun e w' => ∃ v2 R2, e = .returned (.int .i64 (actD d (wrongW d n x s) (withF d.fs (wroteF d n x s))).2) ∧ Mch V.heap.size kb w' v2 R2 (actD d (wrongW d n x s) (withF d.fs (wroteF d n x s))).1 ∧ Below V.heap.size V w' ∧ Row w' w1.heap.size #[.pointer (some ⟨kb, 0, none⟩)] 99 ∧ Row w' (w0.heap.size + 4) #[.slice none 0 0, .bool false, .int .i64 0] 28) := Lib.hid fun W hW => by
    have hVW : V.heap.size ≤ W.heap.size := Nat.le_trans hVU hW.size
    refine (act_any V.heap.size kb v R d (wrongW d n x s) 66 _ (withF d.fs (wroteF d n x s)) (enters_of Tryz.func66 (by kernel_rfl) rfl) W (HM.out.stays hW) hVW HF.out.lo HF.out.hi ?_).mono ?_
    · intro hw hoff W2 f2 hk hB2 hM2
      have hkk := fun {b : Nat} {xs : Array Value} {Ty : TypeId} (g1 : Ty ≠ 105) (g2 : Ty ≠ 56) (g3 : Ty ≠ 59) (g : Row U b xs Ty) => hk b xs Ty g1 g2 g3 (g.step hW)
      exact write1_any (d := ⟨d.fs, false, f2⟩) W2 (hkk (by decide) (by decide) (by decide) HPB.out) (hkk (by decide) (by decide) (by decide) HU1.out) (hkk (by decide) (by decide) (by decide) HU2.out) (hkk (by decide) (by decide) (by decide) HU3.out) hM2 hB2 hr (by show d.fs.length ≤ 1000; omega) (by omega) (by omega) HDO.out (wroteF_t HF.out n x s)
    · rintro e w' ⟨v2, R2, rfl, g1, g2, g3⟩
      exact ⟨v2, R2, rfl, g1, HBU.out.trans ((hW.mono hVU).trans g2), g3 _ _ _ (by decide) (by decide) (by decide) (HPB.out.step hW), g3 _ _ _ (by decide) (by decide) (by decide) (HU4.out.step hW)⟩
  rw [← HSP.out] at CA
  obtain ⟨res, hres⟩ : ∃ r, r = writeD nameB d n x s := ⟨_, rfl⟩
  rw [← hres] at CA
  have HRES := Lib.hid hres
  clear c0 c1 c2 hM hb1 hbU hPB hU hbVU hres HSP
  go_wp2_with fail
  rw [← HU.out]
  go_wp2_with fail
  clear q0 u1 u2 u3
  refine wp_region_wordsG (by kernel_rfl) (by kernel_rfl) (appT 7 (fun _ _ => True)) (fun _ => True) dkwriE (dkwriU w0 w1 V U kb res d n x s) 10 dkwriN [8] (by kernel_rfl) (by kernel_rfl) (by kernel_rfl)
    dkwriB (by kernel_rfl) (fun ix kx v e w w' hi hk hne hb hU hT => dkwri_T _ _ _ _ _ _ _ _ _ _  ix kx v e w w' hk hne hb hU hT) (by decide) trivial (fun kx hk hge => ?hv0)
    [14, 15, 16, 17, 18, 19, 20, 21, 11] (by kernel_rfl) (forall_ops ?steps) ?behind
  case hv0 =>
    have hge' : 9 ≤ kx := hge
    rcases (show kx = 9 by omega) with rfl
    · exact (Below.refl _ _).drew
  case steps =>
    refine ⟨?_, ?_, ?_, ?_, ?_, ?_, ?_, ?_, ?_, trivial⟩
    · refine stepG_of rfl ?_
      exact stepR_value (t := 14) (.pointer (some ⟨kb, 0, none⟩)) rfl (fun _ => appT_other (by decide) (Below.refl _ _)) (fun ac w hG hN hO => by
        have e10 : slot ac 10 = .pointer (some ⟨w1.heap.size, 0, none⟩) := hO 10 (by kernel_rfl)
        have hx : Below U.heap.size U w := hN 9 (by decide)
        obtain ⟨q0, _⟩ := row_one (HPB.out.step hx)
        obtain ⟨u1, _⟩ := row_one (HU1.out.step hx)
        obtain ⟨u2, _⟩ := row_one (HU2.out.step hx)
        obtain ⟨u3, _⟩ := row_one (HU3.out.step hx)
        have f10 := slot_at e10
        unfold execOp; go_simp) (fun ac w hG hN => rfl)
    · refine stepG_of rfl ?_
      exact stepR_value (t := 15) (.pointer (some ⟨kb, 0, none⟩)) rfl (fun _ => appT_other (by decide) (Below.refl _ _)) (fun ac w hG hN hO => by
        have e10 : slot ac 10 = .pointer (some ⟨w1.heap.size, 0, none⟩) := hO 10 (by kernel_rfl)
        have hx : Below U.heap.size U w := hN 9 (by decide)
        obtain ⟨q0, _⟩ := row_one (HPB.out.step hx)
        obtain ⟨u1, _⟩ := row_one (HU1.out.step hx)
        obtain ⟨u2, _⟩ := row_one (HU2.out.step hx)
        obtain ⟨u3, _⟩ := row_one (HU3.out.step hx)
        have f10 := slot_at e10
        unfold execOp; go_simp) (fun ac w hG hN => rfl)
    · refine stepG_of rfl ?_
      exact stepR_value (t := 16) (.string n) rfl (fun _ => appT_other (by decide) (Below.refl _ _)) (fun ac w hG hN hO => by
        have e5 : slot ac 5 = .pointer (some ⟨w0.heap.size + 1, 0, none⟩) := hO 5 (by kernel_rfl)
        have hx : Below U.heap.size U w := hN 9 (by decide)
        obtain ⟨q0, _⟩ := row_one (HPB.out.step hx)
        obtain ⟨u1, _⟩ := row_one (HU1.out.step hx)
        obtain ⟨u2, _⟩ := row_one (HU2.out.step hx)
        obtain ⟨u3, _⟩ := row_one (HU3.out.step hx)
        have f5 := slot_at e5
        unfold execOp; go_simp) (fun ac w hG hN => rfl)
    · refine stepG_of rfl ?_
      exact stepR_value (t := 17) (.int .i64 x) rfl (fun _ => appT_other (by decide) (Below.refl _ _)) (fun ac w hG hN hO => by
        have e6 : slot ac 6 = .pointer (some ⟨w0.heap.size + 2, 0, none⟩) := hO 6 (by kernel_rfl)
        have hx : Below U.heap.size U w := hN 9 (by decide)
        obtain ⟨q0, _⟩ := row_one (HPB.out.step hx)
        obtain ⟨u1, _⟩ := row_one (HU1.out.step hx)
        obtain ⟨u2, _⟩ := row_one (HU2.out.step hx)
        obtain ⟨u3, _⟩ := row_one (HU3.out.step hx)
        have f6 := slot_at e6
        unfold execOp; go_simp) (fun ac w hG hN => rfl)
    · refine stepG_of rfl ?_
      exact stepR_value (t := 18) (.string s) rfl (fun _ => appT_other (by decide) (Below.refl _ _)) (fun ac w hG hN hO => by
        have e7 : slot ac 7 = .pointer (some ⟨w0.heap.size + 3, 0, none⟩) := hO 7 (by kernel_rfl)
        have hx : Below U.heap.size U w := hN 9 (by decide)
        obtain ⟨q0, _⟩ := row_one (HPB.out.step hx)
        obtain ⟨u1, _⟩ := row_one (HU1.out.step hx)
        obtain ⟨u2, _⟩ := row_one (HU2.out.step hx)
        obtain ⟨u3, _⟩ := row_one (HU3.out.step hx)
        have f7 := slot_at e7
        unfold execOp; go_simp) (fun ac w hG hN => rfl)
    · refine stepG_of rfl ?_
      intro ac wx hG hN hO
      have e15 : slot ac 15 = .pointer (some ⟨kb, 0, none⟩) := hN 1 (by decide)
      have e16 : slot ac 16 = .string n := hN 2 (by decide)
      have e17 : slot ac 17 = .int .i64 x := hN 3 (by decide)
      have e18 : slot ac 18 = .string s := hN 4 (by decide)
      have hx : Below U.heap.size U wx := hN 9 (by decide)
      refine wp_callx 65 _ _ rfl (enters_of Tryz.func65 (by kernel_rfl) rfl) #[.pointer (some ⟨kb, 0, none⟩), .string n, .int .i64 x, .string s] (by simp [eval_slot, e15, e16, e17, e18]) (R := fun v wz => v = .int .i64 (wrongW d n x s) ∧ Below wx.heap.size wx wz) ((CW.out wx hx).mono fun e wz hz => ⟨_, hz.1, rfl, hz.2⟩) ?_
      rintro v wz ⟨hv, hb⟩
      exact ⟨v, rfl, appT_other (by decide) hb, trivial, hv⟩
    · refine stepG_of rfl ?_
      exact stepR_value (t := 20) (.func (.func 66) #[] #[.pointer (some ⟨w1.heap.size, 0, none⟩), .pointer (some ⟨w0.heap.size + 1, 0, none⟩), .pointer (some ⟨w0.heap.size + 2, 0, none⟩), .pointer (some ⟨w0.heap.size + 3, 0, none⟩)]) rfl (fun _ => appT_other (by decide) (Below.refl _ _)) (fun ac w hG hN hO => by
        have e10 : slot ac 10 = .pointer (some ⟨w1.heap.size, 0, none⟩) := hO 10 (by kernel_rfl)
        have e5 : slot ac 5 = .pointer (some ⟨w0.heap.size + 1, 0, none⟩) := hO 5 (by kernel_rfl)
        have e6 : slot ac 6 = .pointer (some ⟨w0.heap.size + 2, 0, none⟩) := hO 6 (by kernel_rfl)
        have e7 : slot ac 7 = .pointer (some ⟨w0.heap.size + 3, 0, none⟩) := hO 7 (by kernel_rfl)
        have f10 := slot_at e10
        have f5 := slot_at e5
        have f6 := slot_at e6
        have f7 := slot_at e7
        unfold execOp; go_simp) (fun ac w hG hN => rfl)
    · refine stepG_of rfl ?_
      intro ac wx hG hN hO
      have e14 : slot ac 14 = .pointer (some ⟨kb, 0, none⟩) := hN 0 (by decide)
      have e19 : slot ac 19 = .int .i64 (wrongW d n x s) := hN 5 (by decide)
      have e20 : slot ac 20 = .func (.func 66) #[] #[.pointer (some ⟨w1.heap.size, 0, none⟩), .pointer (some ⟨w0.heap.size + 1, 0, none⟩), .pointer (some ⟨w0.heap.size + 2, 0, none⟩), .pointer (some ⟨w0.heap.size + 3, 0, none⟩)] := hN 6 (by decide)
      have hx : Below U.heap.size U wx := hN 9 (by decide)
      refine wp_callx 64 _ _ rfl (enters_of Tryz.func64 (by kernel_rfl) rfl) #[.pointer (some ⟨kb, 0, none⟩), .int .i64 (wrongW d n x s), .func (.func 66) #[] #[.pointer (some ⟨w1.heap.size, 0, none⟩), .pointer (some ⟨w0.heap.size + 1, 0, none⟩), .pointer (some ⟨w0.heap.size + 2, 0, none⟩), .pointer (some ⟨w0.heap.size + 3, 0, none⟩)]] (by simp [eval_slot, e14, e19, e20]) (R := fun v wz => v = .int .i64 res.2 ∧ ActP res V kb w1.heap.size (w0.heap.size + 4) wz) ((CA.out wx hx).mono fun e wz hz => ?_) ?_
      · obtain ⟨v2, R2, h1, h2, h3, h4, h5⟩ := hz
        exact ⟨_, h1, rfl, v2, R2, h2, h3, h4, h5⟩
      rintro v wz ⟨hv, hb⟩
      exact ⟨v, rfl, appT_at trivial, trivial, hv, hb⟩
    · refine stepG_of rfl ?_
      intro ac w hG hN hO
      have e21 : slot ac 21 = .int .i64 res.2 ∧ ActP res V kb w1.heap.size (w0.heap.size + 4) w := hN 7 (by decide)
      exact wp_value (run_move_slot (v := slot ac 21) (.inr rfl) rfl) ⟨_, rfl, (fun _ => appT_other (by decide) (Below.refl _ _)) w, hG, e21⟩
  case behind =>
    intro ac w5 hG hV hS ha
    have h8 : slot ac 11 = .int .i64 res.2 ∧ ActP res V kb w1.heap.size (w0.heap.size + 4) w5 := hV 8 (by decide) (by decide)
    generalize slot ac = sl at ha h8
    subst ha
    simp only [patchL, List.contains_cons, List.contains_nil, Nat.reduceBEq, Bool.or_false, Bool.or_true, if_true, Bool.false_eq_true, if_false, Nat.reduceAdd]
    generalize sl 14 = s14
    generalize sl 15 = s15
    generalize sl 16 = s16
    generalize sl 17 = s17
    generalize sl 18 = s18
    generalize sl 19 = s19
    generalize sl 20 = s20
    generalize sl 21 = s21
    generalize sl 11 = s11 at h8 ⊢
    clear hV hS
    obtain ⟨hv9, v3, R3, hM3, hb3, g1, g2⟩ := h8
    subst hv9
    obtain ⟨q0, _⟩ := row_one g1
    have HM3 := Lib.hid hM3; have HBE := Lib.hid hb3; have HR3 := Lib.hid g2
    clear hG hM3 hb3 g1 g2
    
    obtain ⟨m0, m1, m2, fm⟩ := HM3.out.cell
    obtain ⟨a3, n3, e3, hv3⟩ := HM3.out.own.len
    subst hv3
    have hrow := HR3.out
    obtain ⟨r0, r1, r2, fr⟩ : w5.cell? ⟨w0.heap.size + 4, 0, none⟩ = some (.slice none 0 0) ∧ w5.cell? ⟨w0.heap.size + 4, 1, none⟩ = some (.bool false) ∧ w5.cell? ⟨w0.heap.size + 4, 2, none⟩ = some (.int .i64 0) ∧ ∀ i, w5.frozen? ⟨w0.heap.size + 4, i, none⟩ = false := by
      have p0 := hrow.cell 0; have p1 := hrow.cell 1; have p2 := hrow.cell 2
      simp only [List.getElem?_toArray, List.getElem?_cons_zero, List.getElem?_cons_succ] at p0 p1 p2
      exact ⟨p0, p1, p2, fun i => hrow.free i⟩
    have HW4 : Hid (Row (((w5.setCell ⟨w0.heap.size + 4, 0, none⟩ (.slice a3 n3 e3)).setCell ⟨w0.heap.size + 4, 1, none⟩ (.bool res.1.off)).setCell ⟨w0.heap.size + 4, 2, none⟩ (.int .i64 res.1.fuse)) (w0.heap.size + 4) #[.slice a3 n3 e3, .bool res.1.off, .int .i64 res.1.fuse] 28) := Lib.hid (by have := ((hrow.set 0 (.slice a3 n3 e3)).set 1 (.bool res.1.off)).set 2 (.int .i64 res.1.fuse); exact this)
    have HD4 : Hid (IsDfs (((w5.setCell ⟨w0.heap.size + 4, 0, none⟩ (.slice a3 n3 e3)).setCell ⟨w0.heap.size + 4, 1, none⟩ (.bool res.1.off)).setCell ⟨w0.heap.size + 4, 2, none⟩ (.int .i64 res.1.fuse)) (.slice a3 n3 e3) res.1.fs ∧ Below w0.heap.size w0 (((w5.setCell ⟨w0.heap.size + 4, 0, none⟩ (.slice a3 n3 e3)).setCell ⟨w0.heap.size + 4, 1, none⟩ (.bool res.1.off)).setCell ⟨w0.heap.size + 4, 2, none⟩ (.int .i64 res.1.fuse))) := Lib.hid (by
      have hlo : w0.heap.size + 4 < V.heap.size := HB4.out.lt
      have t1 := ownD_set (i := 2) (u := .int .i64 res.1.fuse) (ownD_set (i := 1) (u := .bool res.1.off) (ownD_set (i := 0) (u := .slice a3 n3 e3) HM3.out.own hlo) hlo) hlo
      have hop : ∀ (i : Nat) (u : Value) (W : World) (y : Dfr) (x : Dfl), RowP V.heap.size W y x → RowP V.heap.size (W.setCell ⟨w0.heap.size + 4, i, none⟩ u) y x := fun i u W y x hx => ⟨hx.1, hx.2.1, hx.2.2.turned (grownBy_set_Dlh W _ i u) hlo⟩
      refine ⟨t1.is (HM3.out.rows.imp fun y x hx => (hop 2 _ _ _ _ (hop 1 _ _ _ _ (hop 0 _ _ _ _ hx))).f) (fun y x h => h), ?_⟩
      exact (((below_step HBV.out HBE.out).setCell (p := ⟨w0.heap.size + 4, 0, none⟩) (by simp) _).setCell (p := ⟨w0.heap.size + 4, 1, none⟩) (by simp) _).setCell (p := ⟨w0.heap.size + 4, 2, none⟩) (by simp) _)
    clear hrow
    have hks : kb ≠ w0.heap.size + 4 := fun e => by
      have g1 := HM3.out.from_; have g2 := HB4.out.lt
      omega
    go_wp2
    have r0' := HW4.out.cell 0; have r1' := HW4.out.cell 1; have r2' := HW4.out.cell 2
    simp only [List.getElem?_toArray, List.getElem?_cons_zero, List.getElem?_cons_succ] at r0' r1' r2'
    exact bodyPost_ret (v := .tuple #[dskV (.slice a3 n3 e3) res.1, .int .i64 res.2]) (by unfold dskV; simp [results, Tryz.results46, go_sem, r0', r1', r2']) rfl ⟨.slice a3 n3 e3, by rw [← HRES.out], by rw [← HRES.out]; exact HD4.out.1, HD4.out.2⟩
def dksynU (w0 w1 V U : World) (kb : Nat) (res : Dsk × Int) (d : Dsk) (n : ByteArray) : Nat → Value → Value → World → Prop
  | 0 => fun v _ _ => v = .pointer (some ⟨kb, 0, none⟩)
  | 1 => fun v _ _ => v = .pointer (some ⟨kb, 0, none⟩)
  | 2 => fun v _ _ => v = .string n
  | 3 => fun v _ _ => v = .int .i64 (missD d n)
  | 4 => fun v _ _ => v = .func (.func 69) #[] #[.pointer (some ⟨w1.heap.size, 0, none⟩), .pointer (some ⟨w0.heap.size + 1, 0, none⟩)]
  | 5 => fun v _ wz => v = .int .i64 res.2 ∧ ActP res V kb w1.heap.size (w0.heap.size + 2) wz
  | 6 => fun v _ wz => v = .int .i64 res.2 ∧ ActP res V kb w1.heap.size (w0.heap.size + 2) wz
  | 7 => fun _ _ wz => Below U.heap.size U wz
  | _ => fun _ _ _ => True
def dksynN : List (List Nat) := [[7], [7], [7], [1, 2, 7], [], [0, 3, 4, 7], [5]]
def dksynE : Nat → Option Tmp
  | _ => none
def dksynB : List (Nat × Nat) := [(5, 6), (5, 7)]
theorem dksyn_T (w0 w1 V U : World) (kb : Nat) (res : Dsk × Int) (d : Dsk) (n : ByteArray) (ix kx : Nat) (v e : Value) (w w' : World) (hk : kx < 8) (hne : kx ≠ ix) (hbd : (ix, kx) ∉ dksynB) (hU : (dksynU w0 w1 V U kb res d n) kx v e w) (hT : (appT 5 (fun _ _ => True)) ix w w') : (dksynU w0 w1 V U kb res d n) kx v e w' := by
  by_cases hi5 : ix = 5
  · subst hi5
    have hR := appT_in hT
    rcases (show kx = 0 ∨ kx = 1 ∨ kx = 2 ∨ kx = 3 ∨ kx = 4 ∨ kx = 5 ∨ kx = 6 ∨ kx = 7 by omega) with rfl | rfl | rfl | rfl | rfl | rfl | rfl | rfl
    iterate 5 exact hU
    · exact absurd rfl hne
    · exact absurd (by decide) hbd
    · exact absurd (by decide) hbd
  have hb : Below w.heap.size w w' := appT_out hi5 hT
  rcases (show kx = 0 ∨ kx = 1 ∨ kx = 2 ∨ kx = 3 ∨ kx = 4 ∨ kx = 5 ∨ kx = 6 ∨ kx = 7 by omega) with rfl | rfl | rfl | rfl | rfl | rfl | rfl | rfl
  iterate 5 exact hU
  · exact ⟨hU.1, ActP.stays hU.2 hb⟩
  · exact ⟨hU.1, ActP.stays hU.2 hb⟩
  · exact below_step hU hb
set_option maxRecDepth 100000 in
set_option maxHeartbeats 8000000 in
theorem pSync_any (d : Dsk) (v0 : Value) (n : ByteArray) (w0 : World) (h : IsDfs w0 v0 d.fs) (hf : FitD nameB d) :
    Calls Tryz.prog 48 #[dskV v0 d, .string n] w0 (RetD (syncD d n) w0) := by
  have hr := hf.rise; have hl8 := hf.many
  have ho : ∀ f ∈ d.fs, f.ops.length ≤ 1000 := fun f hm => Nat.le_trans (hf.files f hm).many (by decide)
  obtain ⟨_, a, cap, hu, _, _⟩ := id h
  obtain ⟨z, hz⟩ : ∃ z, z = d.fs.length := ⟨_, rfl⟩
  rw [← hz] at hu
  subst hu
  obtain ⟨V, hV⟩ : ∃ V, V = (((w0.alloc (.cells #[.slice a z cap, .bool d.off, .int .i64 d.fuse] 28)).alloc (.cells #[.string n] 9)).alloc (.cells #[.slice none 0 0, .bool false, .int .i64 0] 28)) := ⟨_, rfl⟩
  have hbV : Below w0.heap.size w0 V := by rw [hV]; exact (((Below.refl _ _).alloc (by simp) _).alloc (by simp) _).alloc (by simp; try omega) _
  have hB0 : Row V (w0.heap.size) #[.slice a z cap, .bool d.off, .int .i64 d.fuse] 28 := by
    have h0 := Row.made w0 #[.slice a z cap, .bool d.off, .int .i64 d.fuse] 28
    have hs : w0.heap.size = w0.heap.size := by simp
    rw [hs] at h0
    rw [hV]; exact ((h0).alloc _).alloc _
  have hB1 : Row V (w0.heap.size + 1) #[.string n] 9 := by
    have h0 := Row.made (w0.alloc (.cells #[.slice a z cap, .bool d.off, .int .i64 d.fuse] 28)) #[.string n] 9
    have hs : (w0.alloc (.cells #[.slice a z cap, .bool d.off, .int .i64 d.fuse] 28)).heap.size = w0.heap.size + 1 := by simp
    rw [hs] at h0
    rw [hV]; exact (h0).alloc _
  have hB2 : Row V (w0.heap.size + 2) #[.slice none 0 0, .bool false, .int .i64 0] 28 := by
    have h0 := Row.made ((w0.alloc (.cells #[.slice a z cap, .bool d.off, .int .i64 d.fuse] 28)).alloc (.cells #[.string n] 9)) #[.slice none 0 0, .bool false, .int .i64 0] 28
    have hs : ((w0.alloc (.cells #[.slice a z cap, .bool d.off, .int .i64 d.fuse] 28)).alloc (.cells #[.string n] 9)).heap.size = w0.heap.size + 2 := by simp
    rw [hs] at h0
    rw [hV]; exact h0
  have CM := Lib.hid (newMachine_any d (.slice a z cap) V (h.stays hbV) (by omega) ho)
  have HV := Lib.hid hV; have HBV := Lib.hid hbV; have HF := Lib.hid hf
  have HB0 := Lib.hid hB0
  have HB1 := Lib.hid hB1
  have HB2 := Lib.hid hB2
  have HDO := Lib.hid ho
  obtain ⟨c0, c1, c2⟩ : V.cell? ⟨w0.heap.size, 0, none⟩ = some (.slice a z cap) ∧ V.cell? ⟨w0.heap.size, 1, none⟩ = some (.bool d.off) ∧ V.cell? ⟨w0.heap.size, 2, none⟩ = some (.int .i64 d.fuse) := by
    have p0 := hB0.cell 0; have p1 := hB0.cell 1; have p2 := hB0.cell 2
    simp only [List.getElem?_toArray, List.getElem?_cons_zero, List.getElem?_cons_succ] at p0 p1 p2
    exact ⟨p0, p1, p2⟩
  have HSP := Lib.hid (syncD_act d n)
  clear hV hbV h hz ho hf hB0 hB1 hB2
  unfold dskV
  go_enter Tryz.func48, Tryz.ntmps48
  go_wp2_with fail
  rw [← HV.out]
  go_wp2_with fail
  refine CM.out.mono ?_
  rintro e w1 ⟨kb, v, R, rfl, hM, hb1⟩
  obtain ⟨U, hU⟩ : ∃ U, U = w1.alloc (.cells #[.pointer (some ⟨kb, 0, none⟩)] 99) := ⟨_, rfl⟩
  have hbU : Below w1.heap.size w1 U := by rw [hU]; exact (Below.refl _ _).alloc (Nat.le_refl _) _
  have hPB : Row U w1.heap.size #[.pointer (some ⟨kb, 0, none⟩)] 99 := by rw [hU]; exact Row.made _ _ _
  have hbVU := below_step hb1 hbU
  have HM := Lib.hid (hM.stays hbU); have HPB := Lib.hid hPB; have HU := Lib.hid hU; have HBU := Lib.hid hbVU
  have HU1 := Lib.hid (HB1.out.step hbVU)
  have HU2 := Lib.hid (HB2.out.step hbVU)
  have hVU : V.heap.size ≤ U.heap.size := hbVU.size
  obtain ⟨u1, _⟩ := row_one HU1.out
  obtain ⟨q0, _⟩ := row_one hPB
  have CW : Hid (∀ W, Below U.heap.size U W → Calls Tryz.prog 68 #[.pointer (some ⟨kb, 0, none⟩), .string n] W fun e w' => e = .returned (.int .i64 (missD d n)) ∧ Below W.heap.size W w') := Lib.hid fun W hW => by
    refine (missing_any n W (HM.out.stays hW) hr (by omega)).mono ?_
    rintro e w' ⟨rfl, hb⟩
    exact ⟨rfl, hb⟩
  have CA : Hid (∀ W, Below U.heap.size U W → Calls Tryz.prog 64 #[.pointer (some ⟨kb, 0, none⟩), .int .i64 (missD d n), .func (.func 69) #[] #[.pointer (some ⟨w1.heap.size, 0, none⟩), .pointer (some ⟨w0.heap.size + 1, 0, none⟩)]] W fun e w' => ∃ v2 R2, e = .returned (.int .i64 (actD d (missD d n) (withF d.fs ⟨n, strT (seenF (gotF d n)), []⟩)).2) ∧ Mch V.heap.size kb w' v2 R2 (actD d (missD d n) (withF d.fs ⟨n, strT (seenF (gotF d n)), []⟩)).1 ∧ Below V.heap.size V w' ∧ Row w' w1.heap.size #[.pointer (some ⟨kb, 0, none⟩)] 99 ∧ Row w' (w0.heap.size + 2) #[.slice none 0 0, .bool false, .int .i64 0] 28) := Lib.hid fun W hW => by
    have hVW : V.heap.size ≤ W.heap.size := Nat.le_trans hVU hW.size
    refine (act_any V.heap.size kb v R d (missD d n) 69 _ (withF d.fs ⟨n, strT (seenF (gotF d n)), []⟩) (enters_of Tryz.func69 (by kernel_rfl) rfl) W (HM.out.stays hW) hVW HF.out.lo HF.out.hi ?_).mono ?_
    · intro hw hoff W2 f2 hk hB2 hM2
      have hkk := fun {b : Nat} {xs : Array Value} {Ty : TypeId} (g1 : Ty ≠ 105) (g2 : Ty ≠ 56) (g3 : Ty ≠ 59) (g : Row U b xs Ty) => hk b xs Ty g1 g2 g3 (g.step hW)
      exact sync1_any (d := ⟨d.fs, false, f2⟩) W2 (hkk (by decide) (by decide) (by decide) HPB.out) (hkk (by decide) (by decide) (by decide) HU1.out) hM2 hB2 hr (by show d.fs.length ≤ 1000; omega) (gotF_some hw) (HF.out.files _ ((getF_some hr).1 (gotF_some hw)).1).bytes (HF.out.files _ ((getF_some hr).1 (gotF_some hw)).1).ops
    · rintro e w' ⟨v2, R2, rfl, g1, g2, g3⟩
      exact ⟨v2, R2, rfl, g1, HBU.out.trans ((hW.mono hVU).trans g2), g3 _ _ _ (by decide) (by decide) (by decide) (HPB.out.step hW), g3 _ _ _ (by decide) (by decide) (by decide) (HU2.out.step hW)⟩
  rw [← HSP.out] at CA
  obtain ⟨res, hres⟩ : ∃ r, r = syncD d n := ⟨_, rfl⟩
  rw [← hres] at CA
  have HRES := Lib.hid hres
  clear c0 c1 c2 hM hb1 hbU hPB hU hbVU hres HSP
  go_wp2_with fail
  rw [← HU.out]
  go_wp2_with fail
  clear q0 u1
  refine wp_region_wordsG (by kernel_rfl) (by kernel_rfl) (appT 5 (fun _ _ => True)) (fun _ => True) dksynE (dksynU w0 w1 V U kb res d n) 8 dksynN [6] (by kernel_rfl) (by kernel_rfl) (by kernel_rfl)
    dksynB (by kernel_rfl) (fun ix kx v e w w' hi hk hne hb hU hT => dksyn_T _ _ _ _ _ _ _ _  ix kx v e w w' hk hne hb hU hT) (by decide) trivial (fun kx hk hge => ?hv0)
    [10, 11, 12, 13, 14, 15, 7] (by kernel_rfl) (forall_ops ?steps) ?behind
  case hv0 =>
    have hge' : 7 ≤ kx := hge
    rcases (show kx = 7 by omega) with rfl
    · exact (Below.refl _ _).drew
  case steps =>
    refine ⟨?_, ?_, ?_, ?_, ?_, ?_, ?_, trivial⟩
    · refine stepG_of rfl ?_
      exact stepR_value (t := 10) (.pointer (some ⟨kb, 0, none⟩)) rfl (fun _ => appT_other (by decide) (Below.refl _ _)) (fun ac w hG hN hO => by
        have e6 : slot ac 6 = .pointer (some ⟨w1.heap.size, 0, none⟩) := hO 6 (by kernel_rfl)
        have hx : Below U.heap.size U w := hN 7 (by decide)
        obtain ⟨q0, _⟩ := row_one (HPB.out.step hx)
        obtain ⟨u1, _⟩ := row_one (HU1.out.step hx)
        have f6 := slot_at e6
        unfold execOp; go_simp) (fun ac w hG hN => rfl)
    · refine stepG_of rfl ?_
      exact stepR_value (t := 11) (.pointer (some ⟨kb, 0, none⟩)) rfl (fun _ => appT_other (by decide) (Below.refl _ _)) (fun ac w hG hN hO => by
        have e6 : slot ac 6 = .pointer (some ⟨w1.heap.size, 0, none⟩) := hO 6 (by kernel_rfl)
        have hx : Below U.heap.size U w := hN 7 (by decide)
        obtain ⟨q0, _⟩ := row_one (HPB.out.step hx)
        obtain ⟨u1, _⟩ := row_one (HU1.out.step hx)
        have f6 := slot_at e6
        unfold execOp; go_simp) (fun ac w hG hN => rfl)
    · refine stepG_of rfl ?_
      exact stepR_value (t := 12) (.string n) rfl (fun _ => appT_other (by decide) (Below.refl _ _)) (fun ac w hG hN hO => by
        have e3 : slot ac 3 = .pointer (some ⟨w0.heap.size + 1, 0, none⟩) := hO 3 (by kernel_rfl)
        have hx : Below U.heap.size U w := hN 7 (by decide)
        obtain ⟨q0, _⟩ := row_one (HPB.out.step hx)
        obtain ⟨u1, _⟩ := row_one (HU1.out.step hx)
        have f3 := slot_at e3
        unfold execOp; go_simp) (fun ac w hG hN => rfl)
    · refine stepG_of rfl ?_
      intro ac wx hG hN hO
      have e11 : slot ac 11 = .pointer (some ⟨kb, 0, none⟩) := hN 1 (by decide)
      have e12 : slot ac 12 = .string n := hN 2 (by decide)
      have hx : Below U.heap.size U wx := hN 7 (by decide)
      refine wp_callx 68 _ _ rfl (enters_of Tryz.func68 (by kernel_rfl) rfl) #[.pointer (some ⟨kb, 0, none⟩), .string n] (by simp [eval_slot, e11, e12]) (R := fun v wz => v = .int .i64 (missD d n) ∧ Below wx.heap.size wx wz) ((CW.out wx hx).mono fun e wz hz => ⟨_, hz.1, rfl, hz.2⟩) ?_
      rintro v wz ⟨hv, hb⟩
      exact ⟨v, rfl, appT_other (by decide) hb, trivial, hv⟩
    · refine stepG_of rfl ?_
      exact stepR_value (t := 14) (.func (.func 69) #[] #[.pointer (some ⟨w1.heap.size, 0, none⟩), .pointer (some ⟨w0.heap.size + 1, 0, none⟩)]) rfl (fun _ => appT_other (by decide) (Below.refl _ _)) (fun ac w hG hN hO => by
        have e6 : slot ac 6 = .pointer (some ⟨w1.heap.size, 0, none⟩) := hO 6 (by kernel_rfl)
        have e3 : slot ac 3 = .pointer (some ⟨w0.heap.size + 1, 0, none⟩) := hO 3 (by kernel_rfl)
        have f6 := slot_at e6
        have f3 := slot_at e3
        unfold execOp; go_simp) (fun ac w hG hN => rfl)
    · refine stepG_of rfl ?_
      intro ac wx hG hN hO
      have e10 : slot ac 10 = .pointer (some ⟨kb, 0, none⟩) := hN 0 (by decide)
      have e13 : slot ac 13 = .int .i64 (missD d n) := hN 3 (by decide)
      have e14 : slot ac 14 = .func (.func 69) #[] #[.pointer (some ⟨w1.heap.size, 0, none⟩), .pointer (some ⟨w0.heap.size + 1, 0, none⟩)] := hN 4 (by decide)
      have hx : Below U.heap.size U wx := hN 7 (by decide)
      refine wp_callx 64 _ _ rfl (enters_of Tryz.func64 (by kernel_rfl) rfl) #[.pointer (some ⟨kb, 0, none⟩), .int .i64 (missD d n), .func (.func 69) #[] #[.pointer (some ⟨w1.heap.size, 0, none⟩), .pointer (some ⟨w0.heap.size + 1, 0, none⟩)]] (by simp [eval_slot, e10, e13, e14]) (R := fun v wz => v = .int .i64 res.2 ∧ ActP res V kb w1.heap.size (w0.heap.size + 2) wz) ((CA.out wx hx).mono fun e wz hz => ?_) ?_
      · obtain ⟨v2, R2, h1, h2, h3, h4, h5⟩ := hz
        exact ⟨_, h1, rfl, v2, R2, h2, h3, h4, h5⟩
      rintro v wz ⟨hv, hb⟩
      exact ⟨v, rfl, appT_at trivial, trivial, hv, hb⟩
    · refine stepG_of rfl ?_
      intro ac w hG hN hO
      have e15 : slot ac 15 = .int .i64 res.2 ∧ ActP res V kb w1.heap.size (w0.heap.size + 2) w := hN 5 (by decide)
      exact wp_value (run_move_slot (v := slot ac 15) (.inr rfl) rfl) ⟨_, rfl, (fun _ => appT_other (by decide) (Below.refl _ _)) w, hG, e15⟩
  case behind =>
    intro ac w5 hG hV hS ha
    have h6 : slot ac 7 = .int .i64 res.2 ∧ ActP res V kb w1.heap.size (w0.heap.size + 2) w5 := hV 6 (by decide) (by decide)
    generalize slot ac = sl at ha h6
    subst ha
    simp only [patchL, List.contains_cons, List.contains_nil, Nat.reduceBEq, Bool.or_false, Bool.or_true, if_true, Bool.false_eq_true, if_false, Nat.reduceAdd]
    generalize sl 10 = s10
    generalize sl 11 = s11
    generalize sl 12 = s12
    generalize sl 13 = s13
    generalize sl 14 = s14
    generalize sl 15 = s15
    generalize sl 7 = s7 at h6 ⊢
    clear hV hS
    obtain ⟨hv9, v3, R3, hM3, hb3, g1, g2⟩ := h6
    subst hv9
    obtain ⟨q0, _⟩ := row_one g1
    have HM3 := Lib.hid hM3; have HBE := Lib.hid hb3; have HR3 := Lib.hid g2
    clear hG hM3 hb3 g1 g2
    
    obtain ⟨m0, m1, m2, fm⟩ := HM3.out.cell
    obtain ⟨a3, n3, e3, hv3⟩ := HM3.out.own.len
    subst hv3
    have hrow := HR3.out
    obtain ⟨r0, r1, r2, fr⟩ : w5.cell? ⟨w0.heap.size + 2, 0, none⟩ = some (.slice none 0 0) ∧ w5.cell? ⟨w0.heap.size + 2, 1, none⟩ = some (.bool false) ∧ w5.cell? ⟨w0.heap.size + 2, 2, none⟩ = some (.int .i64 0) ∧ ∀ i, w5.frozen? ⟨w0.heap.size + 2, i, none⟩ = false := by
      have p0 := hrow.cell 0; have p1 := hrow.cell 1; have p2 := hrow.cell 2
      simp only [List.getElem?_toArray, List.getElem?_cons_zero, List.getElem?_cons_succ] at p0 p1 p2
      exact ⟨p0, p1, p2, fun i => hrow.free i⟩
    have HW4 : Hid (Row (((w5.setCell ⟨w0.heap.size + 2, 0, none⟩ (.slice a3 n3 e3)).setCell ⟨w0.heap.size + 2, 1, none⟩ (.bool res.1.off)).setCell ⟨w0.heap.size + 2, 2, none⟩ (.int .i64 res.1.fuse)) (w0.heap.size + 2) #[.slice a3 n3 e3, .bool res.1.off, .int .i64 res.1.fuse] 28) := Lib.hid (by have := ((hrow.set 0 (.slice a3 n3 e3)).set 1 (.bool res.1.off)).set 2 (.int .i64 res.1.fuse); exact this)
    have HD4 : Hid (IsDfs (((w5.setCell ⟨w0.heap.size + 2, 0, none⟩ (.slice a3 n3 e3)).setCell ⟨w0.heap.size + 2, 1, none⟩ (.bool res.1.off)).setCell ⟨w0.heap.size + 2, 2, none⟩ (.int .i64 res.1.fuse)) (.slice a3 n3 e3) res.1.fs ∧ Below w0.heap.size w0 (((w5.setCell ⟨w0.heap.size + 2, 0, none⟩ (.slice a3 n3 e3)).setCell ⟨w0.heap.size + 2, 1, none⟩ (.bool res.1.off)).setCell ⟨w0.heap.size + 2, 2, none⟩ (.int .i64 res.1.fuse))) := Lib.hid (by
      have hlo : w0.heap.size + 2 < V.heap.size := HB2.out.lt
      have t1 := ownD_set (i := 2) (u := .int .i64 res.1.fuse) (ownD_set (i := 1) (u := .bool res.1.off) (ownD_set (i := 0) (u := .slice a3 n3 e3) HM3.out.own hlo) hlo) hlo
      have hop : ∀ (i : Nat) (u : Value) (W : World) (y : Dfr) (x : Dfl), RowP V.heap.size W y x → RowP V.heap.size (W.setCell ⟨w0.heap.size + 2, i, none⟩ u) y x := fun i u W y x hx => ⟨hx.1, hx.2.1, hx.2.2.turned (grownBy_set_Dlh W _ i u) hlo⟩
      refine ⟨t1.is (HM3.out.rows.imp fun y x hx => (hop 2 _ _ _ _ (hop 1 _ _ _ _ (hop 0 _ _ _ _ hx))).f) (fun y x h => h), ?_⟩
      exact (((below_step HBV.out HBE.out).setCell (p := ⟨w0.heap.size + 2, 0, none⟩) (by simp) _).setCell (p := ⟨w0.heap.size + 2, 1, none⟩) (by simp) _).setCell (p := ⟨w0.heap.size + 2, 2, none⟩) (by simp) _)
    clear hrow
    have hks : kb ≠ w0.heap.size + 2 := fun e => by
      have g1 := HM3.out.from_; have g2 := HB2.out.lt
      omega
    go_wp2
    have r0' := HW4.out.cell 0; have r1' := HW4.out.cell 1; have r2' := HW4.out.cell 2
    simp only [List.getElem?_toArray, List.getElem?_cons_zero, List.getElem?_cons_succ] at r0' r1' r2'
    exact bodyPost_ret (v := .tuple #[dskV (.slice a3 n3 e3) res.1, .int .i64 res.2]) (by unfold dskV; simp [results, Tryz.results48, go_sem, r0', r1', r2']) rfl ⟨.slice a3 n3 e3, by rw [← HRES.out], by rw [← HRES.out]; exact HD4.out.1, HD4.out.2⟩
def dkrenU (w0 w1 V U : World) (kb : Nat) (res : Dsk × Int) (d : Dsk) (n : ByteArray) (m : ByteArray) : Nat → Value → Value → World → Prop
  | 0 => fun v _ _ => v = .pointer (some ⟨kb, 0, none⟩)
  | 1 => fun v _ _ => v = .pointer (some ⟨kb, 0, none⟩)
  | 2 => fun v _ _ => v = .string n
  | 3 => fun v _ _ => v = .string m
  | 4 => fun v _ _ => v = .int .i64 (wrongR d n m)
  | 5 => fun v _ _ => v = .func (.func 77) #[] #[.pointer (some ⟨w1.heap.size, 0, none⟩), .pointer (some ⟨w0.heap.size + 1, 0, none⟩), .pointer (some ⟨w0.heap.size + 2, 0, none⟩)]
  | 6 => fun v _ wz => v = .int .i64 res.2 ∧ ActP res V kb w1.heap.size (w0.heap.size + 3) wz
  | 7 => fun v _ wz => v = .int .i64 res.2 ∧ ActP res V kb w1.heap.size (w0.heap.size + 3) wz
  | 8 => fun _ _ wz => Below U.heap.size U wz
  | _ => fun _ _ _ => True
def dkrenN : List (List Nat) := [[8], [8], [8], [8], [1, 2, 3, 8], [], [0, 4, 5, 8], [6]]
def dkrenE : Nat → Option Tmp
  | _ => none
def dkrenB : List (Nat × Nat) := [(6, 7), (6, 8)]
theorem dkren_T (w0 w1 V U : World) (kb : Nat) (res : Dsk × Int) (d : Dsk) (n : ByteArray) (m : ByteArray) (ix kx : Nat) (v e : Value) (w w' : World) (hk : kx < 9) (hne : kx ≠ ix) (hbd : (ix, kx) ∉ dkrenB) (hU : (dkrenU w0 w1 V U kb res d n m) kx v e w) (hT : (appT 6 (fun _ _ => True)) ix w w') : (dkrenU w0 w1 V U kb res d n m) kx v e w' := by
  by_cases hi6 : ix = 6
  · subst hi6
    have hR := appT_in hT
    rcases (show kx = 0 ∨ kx = 1 ∨ kx = 2 ∨ kx = 3 ∨ kx = 4 ∨ kx = 5 ∨ kx = 6 ∨ kx = 7 ∨ kx = 8 by omega) with rfl | rfl | rfl | rfl | rfl | rfl | rfl | rfl | rfl
    iterate 6 exact hU
    · exact absurd rfl hne
    · exact absurd (by decide) hbd
    · exact absurd (by decide) hbd
  have hb : Below w.heap.size w w' := appT_out hi6 hT
  rcases (show kx = 0 ∨ kx = 1 ∨ kx = 2 ∨ kx = 3 ∨ kx = 4 ∨ kx = 5 ∨ kx = 6 ∨ kx = 7 ∨ kx = 8 by omega) with rfl | rfl | rfl | rfl | rfl | rfl | rfl | rfl | rfl
  iterate 6 exact hU
  · exact ⟨hU.1, ActP.stays hU.2 hb⟩
  · exact ⟨hU.1, ActP.stays hU.2 hb⟩
  · exact below_step hU hb
set_option maxRecDepth 100000 in
set_option maxHeartbeats 8000000 in
theorem pRename_any (d : Dsk) (v0 : Value) (n : ByteArray) (m : ByteArray) (w0 : World) (h : IsDfs w0 v0 d.fs) (hf : FitD nameB d) (hms : m.size ≤ 1000000) :
    Calls Tryz.prog 54 #[dskV v0 d, .string n, .string m] w0 (RetD (renameD nameB d n m) w0) := by
  have hr := hf.rise; have hl8 := hf.many
  have ho : ∀ f ∈ d.fs, f.ops.length ≤ 1000 := fun f hm => Nat.le_trans (hf.files f hm).many (by decide)
  obtain ⟨_, a, cap, hu, _, _⟩ := id h
  obtain ⟨z, hz⟩ : ∃ z, z = d.fs.length := ⟨_, rfl⟩
  rw [← hz] at hu
  subst hu
  obtain ⟨V, hV⟩ : ∃ V, V = ((((w0.alloc (.cells #[.slice a z cap, .bool d.off, .int .i64 d.fuse] 28)).alloc (.cells #[.string n] 9)).alloc (.cells #[.string m] 9)).alloc (.cells #[.slice none 0 0, .bool false, .int .i64 0] 28)) := ⟨_, rfl⟩
  have hbV : Below w0.heap.size w0 V := by rw [hV]; exact ((((Below.refl _ _).alloc (by simp) _).alloc (by simp) _).alloc (by simp; try omega) _).alloc (by simp; try omega) _
  have hB0 : Row V (w0.heap.size) #[.slice a z cap, .bool d.off, .int .i64 d.fuse] 28 := by
    have h0 := Row.made w0 #[.slice a z cap, .bool d.off, .int .i64 d.fuse] 28
    have hs : w0.heap.size = w0.heap.size := by simp
    rw [hs] at h0
    rw [hV]; exact (((h0).alloc _).alloc _).alloc _
  have hB1 : Row V (w0.heap.size + 1) #[.string n] 9 := by
    have h0 := Row.made (w0.alloc (.cells #[.slice a z cap, .bool d.off, .int .i64 d.fuse] 28)) #[.string n] 9
    have hs : (w0.alloc (.cells #[.slice a z cap, .bool d.off, .int .i64 d.fuse] 28)).heap.size = w0.heap.size + 1 := by simp
    rw [hs] at h0
    rw [hV]; exact ((h0).alloc _).alloc _
  have hB2 : Row V (w0.heap.size + 2) #[.string m] 9 := by
    have h0 := Row.made ((w0.alloc (.cells #[.slice a z cap, .bool d.off, .int .i64 d.fuse] 28)).alloc (.cells #[.string n] 9)) #[.string m] 9
    have hs : ((w0.alloc (.cells #[.slice a z cap, .bool d.off, .int .i64 d.fuse] 28)).alloc (.cells #[.string n] 9)).heap.size = w0.heap.size + 2 := by simp
    rw [hs] at h0
    rw [hV]; exact (h0).alloc _
  have hB3 : Row V (w0.heap.size + 3) #[.slice none 0 0, .bool false, .int .i64 0] 28 := by
    have h0 := Row.made (((w0.alloc (.cells #[.slice a z cap, .bool d.off, .int .i64 d.fuse] 28)).alloc (.cells #[.string n] 9)).alloc (.cells #[.string m] 9)) #[.slice none 0 0, .bool false, .int .i64 0] 28
    have hs : (((w0.alloc (.cells #[.slice a z cap, .bool d.off, .int .i64 d.fuse] 28)).alloc (.cells #[.string n] 9)).alloc (.cells #[.string m] 9)).heap.size = w0.heap.size + 3 := by simp
    rw [hs] at h0
    rw [hV]; exact h0
  have CM := Lib.hid (newMachine_any d (.slice a z cap) V (h.stays hbV) (by omega) ho)
  have HV := Lib.hid hV; have HBV := Lib.hid hbV; have HF := Lib.hid hf
  have HB0 := Lib.hid hB0
  have HB1 := Lib.hid hB1
  have HB2 := Lib.hid hB2
  have HB3 := Lib.hid hB3
  have HDO := Lib.hid ho
  obtain ⟨c0, c1, c2⟩ : V.cell? ⟨w0.heap.size, 0, none⟩ = some (.slice a z cap) ∧ V.cell? ⟨w0.heap.size, 1, none⟩ = some (.bool d.off) ∧ V.cell? ⟨w0.heap.size, 2, none⟩ = some (.int .i64 d.fuse) := by
    have p0 := hB0.cell 0; have p1 := hB0.cell 1; have p2 := hB0.cell 2
    simp only [List.getElem?_toArray, List.getElem?_cons_zero, List.getElem?_cons_succ] at p0 p1 p2
    exact ⟨p0, p1, p2⟩
  have HSP := Lib.hid (renameD_act d n m)
  clear hV hbV h hz ho hf hB0 hB1 hB2 hB3
  unfold dskV
  go_enter Tryz.func54, Tryz.ntmps54
  go_wp2_with fail
  rw [← HV.out]
  go_wp2_with fail
  refine CM.out.mono ?_
  rintro e w1 ⟨kb, v, R, rfl, hM, hb1⟩
  obtain ⟨U, hU⟩ : ∃ U, U = w1.alloc (.cells #[.pointer (some ⟨kb, 0, none⟩)] 99) := ⟨_, rfl⟩
  have hbU : Below w1.heap.size w1 U := by rw [hU]; exact (Below.refl _ _).alloc (Nat.le_refl _) _
  have hPB : Row U w1.heap.size #[.pointer (some ⟨kb, 0, none⟩)] 99 := by rw [hU]; exact Row.made _ _ _
  have hbVU := below_step hb1 hbU
  have HM := Lib.hid (hM.stays hbU); have HPB := Lib.hid hPB; have HU := Lib.hid hU; have HBU := Lib.hid hbVU
  have HU1 := Lib.hid (HB1.out.step hbVU)
  have HU2 := Lib.hid (HB2.out.step hbVU)
  have HU3 := Lib.hid (HB3.out.step hbVU)
  have hVU : V.heap.size ≤ U.heap.size := hbVU.size
  obtain ⟨u1, _⟩ := row_one HU1.out
  obtain ⟨u2, _⟩ := row_one HU2.out
  obtain ⟨q0, _⟩ := row_one hPB
  have CW : Hid (∀ W, Below U.heap.size U W → Calls Tryz.prog 76 #[.pointer (some ⟨kb, 0, none⟩), .string n, .string m] W fun e w' => e = .returned (.int .i64 (wrongR d n m)) ∧ Below W.heap.size W w') := Lib.hid fun W hW => by
    refine (wrongRename_any n m W (HM.out.stays hW) hr (by omega)).mono ?_
    rintro e w' ⟨rfl, hb⟩
    exact ⟨rfl, hb⟩
  have CA : Hid (∀ W, Below U.heap.size U W → Calls Tryz.prog 64 #[.pointer (some ⟨kb, 0, none⟩), .int .i64 (wrongR d n m), .func (.func 77) #[] #[.pointer (some ⟨w1.heap.size, 0, none⟩), .pointer (some ⟨w0.heap.size + 1, 0, none⟩), .pointer (some ⟨w0.heap.size + 2, 0, none⟩)]] W fun e w' => ∃ v2 R2, e = .returned (.int .i64 (actD d (wrongR d n m) (withF (lessF d.fs n.data.toList) ⟨m, (gotF d n).d, (gotF d n).ops⟩)).2) ∧ Mch V.heap.size kb w' v2 R2 (actD d (wrongR d n m) (withF (lessF d.fs n.data.toList) ⟨m, (gotF d n).d, (gotF d n).ops⟩)).1 ∧ Below V.heap.size V w' ∧ Row w' w1.heap.size #[.pointer (some ⟨kb, 0, none⟩)] 99 ∧ Row w' (w0.heap.size + 3) #[.slice none 0 0, .bool false, .int .i64 0] 28) := Lib.hid fun W hW => by
    have hVW : V.heap.size ≤ W.heap.size := Nat.le_trans hVU hW.size
    refine (act_any V.heap.size kb v R d (wrongR d n m) 77 _ (withF (lessF d.fs n.data.toList) ⟨m, (gotF d n).d, (gotF d n).ops⟩) (enters_of Tryz.func77 (by kernel_rfl) rfl) W (HM.out.stays hW) hVW HF.out.lo HF.out.hi ?_).mono ?_
    · intro hw hoff W2 f2 hk hB2 hM2
      have hkk := fun {b : Nat} {xs : Array Value} {Ty : TypeId} (g1 : Ty ≠ 105) (g2 : Ty ≠ 56) (g3 : Ty ≠ 59) (g : Row U b xs Ty) => hk b xs Ty g1 g2 g3 (g.step hW)
      exact rename1_any (d := ⟨d.fs, false, f2⟩) W2 (hkk (by decide) (by decide) (by decide) HPB.out) (hkk (by decide) (by decide) (by decide) HU1.out) (hkk (by decide) (by decide) (by decide) HU2.out) hM2 hB2 hr (by show d.fs.length ≤ 1000; omega) (by omega) (gotF_some (d := d) (by unfold wrongR at hw; split at hw; exact absurd hw (by decide); exact hw))
    · rintro e w' ⟨v2, R2, rfl, g1, g2, g3⟩
      exact ⟨v2, R2, rfl, g1, HBU.out.trans ((hW.mono hVU).trans g2), g3 _ _ _ (by decide) (by decide) (by decide) (HPB.out.step hW), g3 _ _ _ (by decide) (by decide) (by decide) (HU3.out.step hW)⟩
  rw [← HSP.out] at CA
  obtain ⟨res, hres⟩ : ∃ r, r = renameD nameB d n m := ⟨_, rfl⟩
  rw [← hres] at CA
  have HRES := Lib.hid hres
  clear c0 c1 c2 hM hb1 hbU hPB hU hbVU hres HSP
  go_wp2_with fail
  rw [← HU.out]
  go_wp2_with fail
  clear q0 u1 u2
  refine wp_region_wordsG (by kernel_rfl) (by kernel_rfl) (appT 6 (fun _ _ => True)) (fun _ => True) dkrenE (dkrenU w0 w1 V U kb res d n m) 9 dkrenN [7] (by kernel_rfl) (by kernel_rfl) (by kernel_rfl)
    dkrenB (by kernel_rfl) (fun ix kx v e w w' hi hk hne hb hU hT => dkren_T _ _ _ _ _ _ _ _ _  ix kx v e w w' hk hne hb hU hT) (by decide) trivial (fun kx hk hge => ?hv0)
    [12, 13, 14, 15, 16, 17, 18, 9] (by kernel_rfl) (forall_ops ?steps) ?behind
  case hv0 =>
    have hge' : 8 ≤ kx := hge
    rcases (show kx = 8 by omega) with rfl
    · exact (Below.refl _ _).drew
  case steps =>
    refine ⟨?_, ?_, ?_, ?_, ?_, ?_, ?_, ?_, trivial⟩
    · refine stepG_of rfl ?_
      exact stepR_value (t := 12) (.pointer (some ⟨kb, 0, none⟩)) rfl (fun _ => appT_other (by decide) (Below.refl _ _)) (fun ac w hG hN hO => by
        have e8 : slot ac 8 = .pointer (some ⟨w1.heap.size, 0, none⟩) := hO 8 (by kernel_rfl)
        have hx : Below U.heap.size U w := hN 8 (by decide)
        obtain ⟨q0, _⟩ := row_one (HPB.out.step hx)
        obtain ⟨u1, _⟩ := row_one (HU1.out.step hx)
        obtain ⟨u2, _⟩ := row_one (HU2.out.step hx)
        have f8 := slot_at e8
        unfold execOp; go_simp) (fun ac w hG hN => rfl)
    · refine stepG_of rfl ?_
      exact stepR_value (t := 13) (.pointer (some ⟨kb, 0, none⟩)) rfl (fun _ => appT_other (by decide) (Below.refl _ _)) (fun ac w hG hN hO => by
        have e8 : slot ac 8 = .pointer (some ⟨w1.heap.size, 0, none⟩) := hO 8 (by kernel_rfl)
        have hx : Below U.heap.size U w := hN 8 (by decide)
        obtain ⟨q0, _⟩ := row_one (HPB.out.step hx)
        obtain ⟨u1, _⟩ := row_one (HU1.out.step hx)
        obtain ⟨u2, _⟩ := row_one (HU2.out.step hx)
        have f8 := slot_at e8
        unfold execOp; go_simp) (fun ac w hG hN => rfl)
    · refine stepG_of rfl ?_
      exact stepR_value (t := 14) (.string n) rfl (fun _ => appT_other (by decide) (Below.refl _ _)) (fun ac w hG hN hO => by
        have e4 : slot ac 4 = .pointer (some ⟨w0.heap.size + 1, 0, none⟩) := hO 4 (by kernel_rfl)
        have hx : Below U.heap.size U w := hN 8 (by decide)
        obtain ⟨q0, _⟩ := row_one (HPB.out.step hx)
        obtain ⟨u1, _⟩ := row_one (HU1.out.step hx)
        obtain ⟨u2, _⟩ := row_one (HU2.out.step hx)
        have f4 := slot_at e4
        unfold execOp; go_simp) (fun ac w hG hN => rfl)
    · refine stepG_of rfl ?_
      exact stepR_value (t := 15) (.string m) rfl (fun _ => appT_other (by decide) (Below.refl _ _)) (fun ac w hG hN hO => by
        have e5 : slot ac 5 = .pointer (some ⟨w0.heap.size + 2, 0, none⟩) := hO 5 (by kernel_rfl)
        have hx : Below U.heap.size U w := hN 8 (by decide)
        obtain ⟨q0, _⟩ := row_one (HPB.out.step hx)
        obtain ⟨u1, _⟩ := row_one (HU1.out.step hx)
        obtain ⟨u2, _⟩ := row_one (HU2.out.step hx)
        have f5 := slot_at e5
        unfold execOp; go_simp) (fun ac w hG hN => rfl)
    · refine stepG_of rfl ?_
      intro ac wx hG hN hO
      have e13 : slot ac 13 = .pointer (some ⟨kb, 0, none⟩) := hN 1 (by decide)
      have e14 : slot ac 14 = .string n := hN 2 (by decide)
      have e15 : slot ac 15 = .string m := hN 3 (by decide)
      have hx : Below U.heap.size U wx := hN 8 (by decide)
      refine wp_callx 76 _ _ rfl (enters_of Tryz.func76 (by kernel_rfl) rfl) #[.pointer (some ⟨kb, 0, none⟩), .string n, .string m] (by simp [eval_slot, e13, e14, e15]) (R := fun v wz => v = .int .i64 (wrongR d n m) ∧ Below wx.heap.size wx wz) ((CW.out wx hx).mono fun e wz hz => ⟨_, hz.1, rfl, hz.2⟩) ?_
      rintro v wz ⟨hv, hb⟩
      exact ⟨v, rfl, appT_other (by decide) hb, trivial, hv⟩
    · refine stepG_of rfl ?_
      exact stepR_value (t := 17) (.func (.func 77) #[] #[.pointer (some ⟨w1.heap.size, 0, none⟩), .pointer (some ⟨w0.heap.size + 1, 0, none⟩), .pointer (some ⟨w0.heap.size + 2, 0, none⟩)]) rfl (fun _ => appT_other (by decide) (Below.refl _ _)) (fun ac w hG hN hO => by
        have e8 : slot ac 8 = .pointer (some ⟨w1.heap.size, 0, none⟩) := hO 8 (by kernel_rfl)
        have e4 : slot ac 4 = .pointer (some ⟨w0.heap.size + 1, 0, none⟩) := hO 4 (by kernel_rfl)
        have e5 : slot ac 5 = .pointer (some ⟨w0.heap.size + 2, 0, none⟩) := hO 5 (by kernel_rfl)
        have f8 := slot_at e8
        have f4 := slot_at e4
        have f5 := slot_at e5
        unfold execOp; go_simp) (fun ac w hG hN => rfl)
    · refine stepG_of rfl ?_
      intro ac wx hG hN hO
      have e12 : slot ac 12 = .pointer (some ⟨kb, 0, none⟩) := hN 0 (by decide)
      have e16 : slot ac 16 = .int .i64 (wrongR d n m) := hN 4 (by decide)
      have e17 : slot ac 17 = .func (.func 77) #[] #[.pointer (some ⟨w1.heap.size, 0, none⟩), .pointer (some ⟨w0.heap.size + 1, 0, none⟩), .pointer (some ⟨w0.heap.size + 2, 0, none⟩)] := hN 5 (by decide)
      have hx : Below U.heap.size U wx := hN 8 (by decide)
      refine wp_callx 64 _ _ rfl (enters_of Tryz.func64 (by kernel_rfl) rfl) #[.pointer (some ⟨kb, 0, none⟩), .int .i64 (wrongR d n m), .func (.func 77) #[] #[.pointer (some ⟨w1.heap.size, 0, none⟩), .pointer (some ⟨w0.heap.size + 1, 0, none⟩), .pointer (some ⟨w0.heap.size + 2, 0, none⟩)]] (by simp [eval_slot, e12, e16, e17]) (R := fun v wz => v = .int .i64 res.2 ∧ ActP res V kb w1.heap.size (w0.heap.size + 3) wz) ((CA.out wx hx).mono fun e wz hz => ?_) ?_
      · obtain ⟨v2, R2, h1, h2, h3, h4, h5⟩ := hz
        exact ⟨_, h1, rfl, v2, R2, h2, h3, h4, h5⟩
      rintro v wz ⟨hv, hb⟩
      exact ⟨v, rfl, appT_at trivial, trivial, hv, hb⟩
    · refine stepG_of rfl ?_
      intro ac w hG hN hO
      have e18 : slot ac 18 = .int .i64 res.2 ∧ ActP res V kb w1.heap.size (w0.heap.size + 3) w := hN 6 (by decide)
      exact wp_value (run_move_slot (v := slot ac 18) (.inr rfl) rfl) ⟨_, rfl, (fun _ => appT_other (by decide) (Below.refl _ _)) w, hG, e18⟩
  case behind =>
    intro ac w5 hG hV hS ha
    have h7 : slot ac 9 = .int .i64 res.2 ∧ ActP res V kb w1.heap.size (w0.heap.size + 3) w5 := hV 7 (by decide) (by decide)
    generalize slot ac = sl at ha h7
    subst ha
    simp only [patchL, List.contains_cons, List.contains_nil, Nat.reduceBEq, Bool.or_false, Bool.or_true, if_true, Bool.false_eq_true, if_false, Nat.reduceAdd]
    generalize sl 12 = s12
    generalize sl 13 = s13
    generalize sl 14 = s14
    generalize sl 15 = s15
    generalize sl 16 = s16
    generalize sl 17 = s17
    generalize sl 18 = s18
    generalize sl 9 = s9 at h7 ⊢
    clear hV hS
    obtain ⟨hv9, v3, R3, hM3, hb3, g1, g2⟩ := h7
    subst hv9
    obtain ⟨q0, _⟩ := row_one g1
    have HM3 := Lib.hid hM3; have HBE := Lib.hid hb3; have HR3 := Lib.hid g2
    clear hG hM3 hb3 g1 g2
    
    obtain ⟨m0, m1, m2, fm⟩ := HM3.out.cell
    obtain ⟨a3, n3, e3, hv3⟩ := HM3.out.own.len
    subst hv3
    have hrow := HR3.out
    obtain ⟨r0, r1, r2, fr⟩ : w5.cell? ⟨w0.heap.size + 3, 0, none⟩ = some (.slice none 0 0) ∧ w5.cell? ⟨w0.heap.size + 3, 1, none⟩ = some (.bool false) ∧ w5.cell? ⟨w0.heap.size + 3, 2, none⟩ = some (.int .i64 0) ∧ ∀ i, w5.frozen? ⟨w0.heap.size + 3, i, none⟩ = false := by
      have p0 := hrow.cell 0; have p1 := hrow.cell 1; have p2 := hrow.cell 2
      simp only [List.getElem?_toArray, List.getElem?_cons_zero, List.getElem?_cons_succ] at p0 p1 p2
      exact ⟨p0, p1, p2, fun i => hrow.free i⟩
    have HW4 : Hid (Row (((w5.setCell ⟨w0.heap.size + 3, 0, none⟩ (.slice a3 n3 e3)).setCell ⟨w0.heap.size + 3, 1, none⟩ (.bool res.1.off)).setCell ⟨w0.heap.size + 3, 2, none⟩ (.int .i64 res.1.fuse)) (w0.heap.size + 3) #[.slice a3 n3 e3, .bool res.1.off, .int .i64 res.1.fuse] 28) := Lib.hid (by have := ((hrow.set 0 (.slice a3 n3 e3)).set 1 (.bool res.1.off)).set 2 (.int .i64 res.1.fuse); exact this)
    have HD4 : Hid (IsDfs (((w5.setCell ⟨w0.heap.size + 3, 0, none⟩ (.slice a3 n3 e3)).setCell ⟨w0.heap.size + 3, 1, none⟩ (.bool res.1.off)).setCell ⟨w0.heap.size + 3, 2, none⟩ (.int .i64 res.1.fuse)) (.slice a3 n3 e3) res.1.fs ∧ Below w0.heap.size w0 (((w5.setCell ⟨w0.heap.size + 3, 0, none⟩ (.slice a3 n3 e3)).setCell ⟨w0.heap.size + 3, 1, none⟩ (.bool res.1.off)).setCell ⟨w0.heap.size + 3, 2, none⟩ (.int .i64 res.1.fuse))) := Lib.hid (by
      have hlo : w0.heap.size + 3 < V.heap.size := HB3.out.lt
      have t1 := ownD_set (i := 2) (u := .int .i64 res.1.fuse) (ownD_set (i := 1) (u := .bool res.1.off) (ownD_set (i := 0) (u := .slice a3 n3 e3) HM3.out.own hlo) hlo) hlo
      have hop : ∀ (i : Nat) (u : Value) (W : World) (y : Dfr) (x : Dfl), RowP V.heap.size W y x → RowP V.heap.size (W.setCell ⟨w0.heap.size + 3, i, none⟩ u) y x := fun i u W y x hx => ⟨hx.1, hx.2.1, hx.2.2.turned (grownBy_set_Dlh W _ i u) hlo⟩
      refine ⟨t1.is (HM3.out.rows.imp fun y x hx => (hop 2 _ _ _ _ (hop 1 _ _ _ _ (hop 0 _ _ _ _ hx))).f) (fun y x h => h), ?_⟩
      exact (((below_step HBV.out HBE.out).setCell (p := ⟨w0.heap.size + 3, 0, none⟩) (by simp) _).setCell (p := ⟨w0.heap.size + 3, 1, none⟩) (by simp) _).setCell (p := ⟨w0.heap.size + 3, 2, none⟩) (by simp) _)
    clear hrow
    have hks : kb ≠ w0.heap.size + 3 := fun e => by
      have g1 := HM3.out.from_; have g2 := HB3.out.lt
      omega
    go_wp2
    have r0' := HW4.out.cell 0; have r1' := HW4.out.cell 1; have r2' := HW4.out.cell 2
    simp only [List.getElem?_toArray, List.getElem?_cons_zero, List.getElem?_cons_succ] at r0' r1' r2'
    exact bodyPost_ret (v := .tuple #[dskV (.slice a3 n3 e3) res.1, .int .i64 res.2]) (by unfold dskV; simp [results, Tryz.results54, go_sem, r0', r1', r2']) rfl ⟨.slice a3 n3 e3, by rw [← HRES.out], by rw [← HRES.out]; exact HD4.out.1, HD4.out.2⟩
def dkremU (w0 w1 V U : World) (kb : Nat) (res : Dsk × Int) (d : Dsk) (n : ByteArray) : Nat → Value → Value → World → Prop
  | 0 => fun v _ _ => v = .pointer (some ⟨kb, 0, none⟩)
  | 1 => fun v _ _ => v = .pointer (some ⟨kb, 0, none⟩)
  | 2 => fun v _ _ => v = .string n
  | 3 => fun v _ _ => v = .int .i64 (missD d n)
  | 4 => fun v _ _ => v = .func (.func 75) #[] #[.pointer (some ⟨w1.heap.size, 0, none⟩), .pointer (some ⟨w0.heap.size + 1, 0, none⟩)]
  | 5 => fun v _ wz => v = .int .i64 res.2 ∧ ActP res V kb w1.heap.size (w0.heap.size + 2) wz
  | 6 => fun v _ wz => v = .int .i64 res.2 ∧ ActP res V kb w1.heap.size (w0.heap.size + 2) wz
  | 7 => fun _ _ wz => Below U.heap.size U wz
  | _ => fun _ _ _ => True
def dkremN : List (List Nat) := [[7], [7], [7], [1, 2, 7], [], [0, 3, 4, 7], [5]]
def dkremE : Nat → Option Tmp
  | _ => none
def dkremB : List (Nat × Nat) := [(5, 6), (5, 7)]
theorem dkrem_T (w0 w1 V U : World) (kb : Nat) (res : Dsk × Int) (d : Dsk) (n : ByteArray) (ix kx : Nat) (v e : Value) (w w' : World) (hk : kx < 8) (hne : kx ≠ ix) (hbd : (ix, kx) ∉ dkremB) (hU : (dkremU w0 w1 V U kb res d n) kx v e w) (hT : (appT 5 (fun _ _ => True)) ix w w') : (dkremU w0 w1 V U kb res d n) kx v e w' := by
  by_cases hi5 : ix = 5
  · subst hi5
    have hR := appT_in hT
    rcases (show kx = 0 ∨ kx = 1 ∨ kx = 2 ∨ kx = 3 ∨ kx = 4 ∨ kx = 5 ∨ kx = 6 ∨ kx = 7 by omega) with rfl | rfl | rfl | rfl | rfl | rfl | rfl | rfl
    iterate 5 exact hU
    · exact absurd rfl hne
    · exact absurd (by decide) hbd
    · exact absurd (by decide) hbd
  have hb : Below w.heap.size w w' := appT_out hi5 hT
  rcases (show kx = 0 ∨ kx = 1 ∨ kx = 2 ∨ kx = 3 ∨ kx = 4 ∨ kx = 5 ∨ kx = 6 ∨ kx = 7 by omega) with rfl | rfl | rfl | rfl | rfl | rfl | rfl | rfl
  iterate 5 exact hU
  · exact ⟨hU.1, ActP.stays hU.2 hb⟩
  · exact ⟨hU.1, ActP.stays hU.2 hb⟩
  · exact below_step hU hb
set_option maxRecDepth 100000 in
set_option maxHeartbeats 8000000 in
theorem pRemove_any (d : Dsk) (v0 : Value) (n : ByteArray) (w0 : World) (h : IsDfs w0 v0 d.fs) (hf : FitD nameB d) :
    Calls Tryz.prog 52 #[dskV v0 d, .string n] w0 (RetD (removeD d n) w0) := by
  have hr := hf.rise; have hl8 := hf.many
  have ho : ∀ f ∈ d.fs, f.ops.length ≤ 1000 := fun f hm => Nat.le_trans (hf.files f hm).many (by decide)
  obtain ⟨_, a, cap, hu, _, _⟩ := id h
  obtain ⟨z, hz⟩ : ∃ z, z = d.fs.length := ⟨_, rfl⟩
  rw [← hz] at hu
  subst hu
  obtain ⟨V, hV⟩ : ∃ V, V = (((w0.alloc (.cells #[.slice a z cap, .bool d.off, .int .i64 d.fuse] 28)).alloc (.cells #[.string n] 9)).alloc (.cells #[.slice none 0 0, .bool false, .int .i64 0] 28)) := ⟨_, rfl⟩
  have hbV : Below w0.heap.size w0 V := by rw [hV]; exact (((Below.refl _ _).alloc (by simp) _).alloc (by simp) _).alloc (by simp; try omega) _
  have hB0 : Row V (w0.heap.size) #[.slice a z cap, .bool d.off, .int .i64 d.fuse] 28 := by
    have h0 := Row.made w0 #[.slice a z cap, .bool d.off, .int .i64 d.fuse] 28
    have hs : w0.heap.size = w0.heap.size := by simp
    rw [hs] at h0
    rw [hV]; exact ((h0).alloc _).alloc _
  have hB1 : Row V (w0.heap.size + 1) #[.string n] 9 := by
    have h0 := Row.made (w0.alloc (.cells #[.slice a z cap, .bool d.off, .int .i64 d.fuse] 28)) #[.string n] 9
    have hs : (w0.alloc (.cells #[.slice a z cap, .bool d.off, .int .i64 d.fuse] 28)).heap.size = w0.heap.size + 1 := by simp
    rw [hs] at h0
    rw [hV]; exact (h0).alloc _
  have hB2 : Row V (w0.heap.size + 2) #[.slice none 0 0, .bool false, .int .i64 0] 28 := by
    have h0 := Row.made ((w0.alloc (.cells #[.slice a z cap, .bool d.off, .int .i64 d.fuse] 28)).alloc (.cells #[.string n] 9)) #[.slice none 0 0, .bool false, .int .i64 0] 28
    have hs : ((w0.alloc (.cells #[.slice a z cap, .bool d.off, .int .i64 d.fuse] 28)).alloc (.cells #[.string n] 9)).heap.size = w0.heap.size + 2 := by simp
    rw [hs] at h0
    rw [hV]; exact h0
  have CM := Lib.hid (newMachine_any d (.slice a z cap) V (h.stays hbV) (by omega) ho)
  have HV := Lib.hid hV; have HBV := Lib.hid hbV; have HF := Lib.hid hf
  have HB0 := Lib.hid hB0
  have HB1 := Lib.hid hB1
  have HB2 := Lib.hid hB2
  have HDO := Lib.hid ho
  obtain ⟨c0, c1, c2⟩ : V.cell? ⟨w0.heap.size, 0, none⟩ = some (.slice a z cap) ∧ V.cell? ⟨w0.heap.size, 1, none⟩ = some (.bool d.off) ∧ V.cell? ⟨w0.heap.size, 2, none⟩ = some (.int .i64 d.fuse) := by
    have p0 := hB0.cell 0; have p1 := hB0.cell 1; have p2 := hB0.cell 2
    simp only [List.getElem?_toArray, List.getElem?_cons_zero, List.getElem?_cons_succ] at p0 p1 p2
    exact ⟨p0, p1, p2⟩
  have HSP := Lib.hid (removeD_act d n)
  clear hV hbV h hz ho hf hB0 hB1 hB2
  unfold dskV
  go_enter Tryz.func52, Tryz.ntmps52
  go_wp2_with fail
  rw [← HV.out]
  go_wp2_with fail
  refine CM.out.mono ?_
  rintro e w1 ⟨kb, v, R, rfl, hM, hb1⟩
  obtain ⟨U, hU⟩ : ∃ U, U = w1.alloc (.cells #[.pointer (some ⟨kb, 0, none⟩)] 99) := ⟨_, rfl⟩
  have hbU : Below w1.heap.size w1 U := by rw [hU]; exact (Below.refl _ _).alloc (Nat.le_refl _) _
  have hPB : Row U w1.heap.size #[.pointer (some ⟨kb, 0, none⟩)] 99 := by rw [hU]; exact Row.made _ _ _
  have hbVU := below_step hb1 hbU
  have HM := Lib.hid (hM.stays hbU); have HPB := Lib.hid hPB; have HU := Lib.hid hU; have HBU := Lib.hid hbVU
  have HU1 := Lib.hid (HB1.out.step hbVU)
  have HU2 := Lib.hid (HB2.out.step hbVU)
  have hVU : V.heap.size ≤ U.heap.size := hbVU.size
  obtain ⟨u1, _⟩ := row_one HU1.out
  obtain ⟨q0, _⟩ := row_one hPB
  have CW : Hid (∀ W, Below U.heap.size U W → Calls Tryz.prog 68 #[.pointer (some ⟨kb, 0, none⟩), .string n] W fun e w' => e = .returned (.int .i64 (missD d n)) ∧ Below W.heap.size W w') := Lib.hid fun W hW => by
    refine (missing_any n W (HM.out.stays hW) hr (by omega)).mono ?_
    rintro e w' ⟨rfl, hb⟩
    exact ⟨rfl, hb⟩
  have CA : Hid (∀ W, Below U.heap.size U W → Calls Tryz.prog 64 #[.pointer (some ⟨kb, 0, none⟩), .int .i64 (missD d n), .func (.func 75) #[] #[.pointer (some ⟨w1.heap.size, 0, none⟩), .pointer (some ⟨w0.heap.size + 1, 0, none⟩)]] W fun e w' => ∃ v2 R2, e = .returned (.int .i64 (actD d (missD d n) (lessF d.fs n.data.toList)).2) ∧ Mch V.heap.size kb w' v2 R2 (actD d (missD d n) (lessF d.fs n.data.toList)).1 ∧ Below V.heap.size V w' ∧ Row w' w1.heap.size #[.pointer (some ⟨kb, 0, none⟩)] 99 ∧ Row w' (w0.heap.size + 2) #[.slice none 0 0, .bool false, .int .i64 0] 28) := Lib.hid fun W hW => by
    have hVW : V.heap.size ≤ W.heap.size := Nat.le_trans hVU hW.size
    refine (act_any V.heap.size kb v R d (missD d n) 75 _ (lessF d.fs n.data.toList) (enters_of Tryz.func75 (by kernel_rfl) rfl) W (HM.out.stays hW) hVW HF.out.lo HF.out.hi ?_).mono ?_
    · intro hw hoff W2 f2 hk hB2 hM2
      have hkk := fun {b : Nat} {xs : Array Value} {Ty : TypeId} (g1 : Ty ≠ 105) (g2 : Ty ≠ 56) (g3 : Ty ≠ 59) (g : Row U b xs Ty) => hk b xs Ty g1 g2 g3 (g.step hW)
      exact remove1_any (d := ⟨d.fs, false, f2⟩) W2 (hkk (by decide) (by decide) (by decide) HPB.out) (hkk (by decide) (by decide) (by decide) HU1.out) hM2 hB2 hr (by show d.fs.length ≤ 1000; omega)
    · rintro e w' ⟨v2, R2, rfl, g1, g2, g3⟩
      exact ⟨v2, R2, rfl, g1, HBU.out.trans ((hW.mono hVU).trans g2), g3 _ _ _ (by decide) (by decide) (by decide) (HPB.out.step hW), g3 _ _ _ (by decide) (by decide) (by decide) (HU2.out.step hW)⟩
  rw [← HSP.out] at CA
  obtain ⟨res, hres⟩ : ∃ r, r = removeD d n := ⟨_, rfl⟩
  rw [← hres] at CA
  have HRES := Lib.hid hres
  clear c0 c1 c2 hM hb1 hbU hPB hU hbVU hres HSP
  go_wp2_with fail
  rw [← HU.out]
  go_wp2_with fail
  clear q0 u1
  refine wp_region_wordsG (by kernel_rfl) (by kernel_rfl) (appT 5 (fun _ _ => True)) (fun _ => True) dkremE (dkremU w0 w1 V U kb res d n) 8 dkremN [6] (by kernel_rfl) (by kernel_rfl) (by kernel_rfl)
    dkremB (by kernel_rfl) (fun ix kx v e w w' hi hk hne hb hU hT => dkrem_T _ _ _ _ _ _ _ _  ix kx v e w w' hk hne hb hU hT) (by decide) trivial (fun kx hk hge => ?hv0)
    [10, 11, 12, 13, 14, 15, 7] (by kernel_rfl) (forall_ops ?steps) ?behind
  case hv0 =>
    have hge' : 7 ≤ kx := hge
    rcases (show kx = 7 by omega) with rfl
    · exact (Below.refl _ _).drew
  case steps =>
    refine ⟨?_, ?_, ?_, ?_, ?_, ?_, ?_, trivial⟩
    · refine stepG_of rfl ?_
      exact stepR_value (t := 10) (.pointer (some ⟨kb, 0, none⟩)) rfl (fun _ => appT_other (by decide) (Below.refl _ _)) (fun ac w hG hN hO => by
        have e6 : slot ac 6 = .pointer (some ⟨w1.heap.size, 0, none⟩) := hO 6 (by kernel_rfl)
        have hx : Below U.heap.size U w := hN 7 (by decide)
        obtain ⟨q0, _⟩ := row_one (HPB.out.step hx)
        obtain ⟨u1, _⟩ := row_one (HU1.out.step hx)
        have f6 := slot_at e6
        unfold execOp; go_simp) (fun ac w hG hN => rfl)
    · refine stepG_of rfl ?_
      exact stepR_value (t := 11) (.pointer (some ⟨kb, 0, none⟩)) rfl (fun _ => appT_other (by decide) (Below.refl _ _)) (fun ac w hG hN hO => by
        have e6 : slot ac 6 = .pointer (some ⟨w1.heap.size, 0, none⟩) := hO 6 (by kernel_rfl)
        have hx : Below U.heap.size U w := hN 7 (by decide)
        obtain ⟨q0, _⟩ := row_one (HPB.out.step hx)
        obtain ⟨u1, _⟩ := row_one (HU1.out.step hx)
        have f6 := slot_at e6
        unfold execOp; go_simp) (fun ac w hG hN => rfl)
    · refine stepG_of rfl ?_
      exact stepR_value (t := 12) (.string n) rfl (fun _ => appT_other (by decide) (Below.refl _ _)) (fun ac w hG hN hO => by
        have e3 : slot ac 3 = .pointer (some ⟨w0.heap.size + 1, 0, none⟩) := hO 3 (by kernel_rfl)
        have hx : Below U.heap.size U w := hN 7 (by decide)
        obtain ⟨q0, _⟩ := row_one (HPB.out.step hx)
        obtain ⟨u1, _⟩ := row_one (HU1.out.step hx)
        have f3 := slot_at e3
        unfold execOp; go_simp) (fun ac w hG hN => rfl)
    · refine stepG_of rfl ?_
      intro ac wx hG hN hO
      have e11 : slot ac 11 = .pointer (some ⟨kb, 0, none⟩) := hN 1 (by decide)
      have e12 : slot ac 12 = .string n := hN 2 (by decide)
      have hx : Below U.heap.size U wx := hN 7 (by decide)
      refine wp_callx 68 _ _ rfl (enters_of Tryz.func68 (by kernel_rfl) rfl) #[.pointer (some ⟨kb, 0, none⟩), .string n] (by simp [eval_slot, e11, e12]) (R := fun v wz => v = .int .i64 (missD d n) ∧ Below wx.heap.size wx wz) ((CW.out wx hx).mono fun e wz hz => ⟨_, hz.1, rfl, hz.2⟩) ?_
      rintro v wz ⟨hv, hb⟩
      exact ⟨v, rfl, appT_other (by decide) hb, trivial, hv⟩
    · refine stepG_of rfl ?_
      exact stepR_value (t := 14) (.func (.func 75) #[] #[.pointer (some ⟨w1.heap.size, 0, none⟩), .pointer (some ⟨w0.heap.size + 1, 0, none⟩)]) rfl (fun _ => appT_other (by decide) (Below.refl _ _)) (fun ac w hG hN hO => by
        have e6 : slot ac 6 = .pointer (some ⟨w1.heap.size, 0, none⟩) := hO 6 (by kernel_rfl)
        have e3 : slot ac 3 = .pointer (some ⟨w0.heap.size + 1, 0, none⟩) := hO 3 (by kernel_rfl)
        have f6 := slot_at e6
        have f3 := slot_at e3
        unfold execOp; go_simp) (fun ac w hG hN => rfl)
    · refine stepG_of rfl ?_
      intro ac wx hG hN hO
      have e10 : slot ac 10 = .pointer (some ⟨kb, 0, none⟩) := hN 0 (by decide)
      have e13 : slot ac 13 = .int .i64 (missD d n) := hN 3 (by decide)
      have e14 : slot ac 14 = .func (.func 75) #[] #[.pointer (some ⟨w1.heap.size, 0, none⟩), .pointer (some ⟨w0.heap.size + 1, 0, none⟩)] := hN 4 (by decide)
      have hx : Below U.heap.size U wx := hN 7 (by decide)
      refine wp_callx 64 _ _ rfl (enters_of Tryz.func64 (by kernel_rfl) rfl) #[.pointer (some ⟨kb, 0, none⟩), .int .i64 (missD d n), .func (.func 75) #[] #[.pointer (some ⟨w1.heap.size, 0, none⟩), .pointer (some ⟨w0.heap.size + 1, 0, none⟩)]] (by simp [eval_slot, e10, e13, e14]) (R := fun v wz => v = .int .i64 res.2 ∧ ActP res V kb w1.heap.size (w0.heap.size + 2) wz) ((CA.out wx hx).mono fun e wz hz => ?_) ?_
      · obtain ⟨v2, R2, h1, h2, h3, h4, h5⟩ := hz
        exact ⟨_, h1, rfl, v2, R2, h2, h3, h4, h5⟩
      rintro v wz ⟨hv, hb⟩
      exact ⟨v, rfl, appT_at trivial, trivial, hv, hb⟩
    · refine stepG_of rfl ?_
      intro ac w hG hN hO
      have e15 : slot ac 15 = .int .i64 res.2 ∧ ActP res V kb w1.heap.size (w0.heap.size + 2) w := hN 5 (by decide)
      exact wp_value (run_move_slot (v := slot ac 15) (.inr rfl) rfl) ⟨_, rfl, (fun _ => appT_other (by decide) (Below.refl _ _)) w, hG, e15⟩
  case behind =>
    intro ac w5 hG hV hS ha
    have h6 : slot ac 7 = .int .i64 res.2 ∧ ActP res V kb w1.heap.size (w0.heap.size + 2) w5 := hV 6 (by decide) (by decide)
    generalize slot ac = sl at ha h6
    subst ha
    simp only [patchL, List.contains_cons, List.contains_nil, Nat.reduceBEq, Bool.or_false, Bool.or_true, if_true, Bool.false_eq_true, if_false, Nat.reduceAdd]
    generalize sl 10 = s10
    generalize sl 11 = s11
    generalize sl 12 = s12
    generalize sl 13 = s13
    generalize sl 14 = s14
    generalize sl 15 = s15
    generalize sl 7 = s7 at h6 ⊢
    clear hV hS
    obtain ⟨hv9, v3, R3, hM3, hb3, g1, g2⟩ := h6
    subst hv9
    obtain ⟨q0, _⟩ := row_one g1
    have HM3 := Lib.hid hM3; have HBE := Lib.hid hb3; have HR3 := Lib.hid g2
    clear hG hM3 hb3 g1 g2
    
    obtain ⟨m0, m1, m2, fm⟩ := HM3.out.cell
    obtain ⟨a3, n3, e3, hv3⟩ := HM3.out.own.len
    subst hv3
    have hrow := HR3.out
    obtain ⟨r0, r1, r2, fr⟩ : w5.cell? ⟨w0.heap.size + 2, 0, none⟩ = some (.slice none 0 0) ∧ w5.cell? ⟨w0.heap.size + 2, 1, none⟩ = some (.bool false) ∧ w5.cell? ⟨w0.heap.size + 2, 2, none⟩ = some (.int .i64 0) ∧ ∀ i, w5.frozen? ⟨w0.heap.size + 2, i, none⟩ = false := by
      have p0 := hrow.cell 0; have p1 := hrow.cell 1; have p2 := hrow.cell 2
      simp only [List.getElem?_toArray, List.getElem?_cons_zero, List.getElem?_cons_succ] at p0 p1 p2
      exact ⟨p0, p1, p2, fun i => hrow.free i⟩
    have HW4 : Hid (Row (((w5.setCell ⟨w0.heap.size + 2, 0, none⟩ (.slice a3 n3 e3)).setCell ⟨w0.heap.size + 2, 1, none⟩ (.bool res.1.off)).setCell ⟨w0.heap.size + 2, 2, none⟩ (.int .i64 res.1.fuse)) (w0.heap.size + 2) #[.slice a3 n3 e3, .bool res.1.off, .int .i64 res.1.fuse] 28) := Lib.hid (by have := ((hrow.set 0 (.slice a3 n3 e3)).set 1 (.bool res.1.off)).set 2 (.int .i64 res.1.fuse); exact this)
    have HD4 : Hid (IsDfs (((w5.setCell ⟨w0.heap.size + 2, 0, none⟩ (.slice a3 n3 e3)).setCell ⟨w0.heap.size + 2, 1, none⟩ (.bool res.1.off)).setCell ⟨w0.heap.size + 2, 2, none⟩ (.int .i64 res.1.fuse)) (.slice a3 n3 e3) res.1.fs ∧ Below w0.heap.size w0 (((w5.setCell ⟨w0.heap.size + 2, 0, none⟩ (.slice a3 n3 e3)).setCell ⟨w0.heap.size + 2, 1, none⟩ (.bool res.1.off)).setCell ⟨w0.heap.size + 2, 2, none⟩ (.int .i64 res.1.fuse))) := Lib.hid (by
      have hlo : w0.heap.size + 2 < V.heap.size := HB2.out.lt
      have t1 := ownD_set (i := 2) (u := .int .i64 res.1.fuse) (ownD_set (i := 1) (u := .bool res.1.off) (ownD_set (i := 0) (u := .slice a3 n3 e3) HM3.out.own hlo) hlo) hlo
      have hop : ∀ (i : Nat) (u : Value) (W : World) (y : Dfr) (x : Dfl), RowP V.heap.size W y x → RowP V.heap.size (W.setCell ⟨w0.heap.size + 2, i, none⟩ u) y x := fun i u W y x hx => ⟨hx.1, hx.2.1, hx.2.2.turned (grownBy_set_Dlh W _ i u) hlo⟩
      refine ⟨t1.is (HM3.out.rows.imp fun y x hx => (hop 2 _ _ _ _ (hop 1 _ _ _ _ (hop 0 _ _ _ _ hx))).f) (fun y x h => h), ?_⟩
      exact (((below_step HBV.out HBE.out).setCell (p := ⟨w0.heap.size + 2, 0, none⟩) (by simp) _).setCell (p := ⟨w0.heap.size + 2, 1, none⟩) (by simp) _).setCell (p := ⟨w0.heap.size + 2, 2, none⟩) (by simp) _)
    clear hrow
    have hks : kb ≠ w0.heap.size + 2 := fun e => by
      have g1 := HM3.out.from_; have g2 := HB2.out.lt
      omega
    go_wp2
    have r0' := HW4.out.cell 0; have r1' := HW4.out.cell 1; have r2' := HW4.out.cell 2
    simp only [List.getElem?_toArray, List.getElem?_cons_zero, List.getElem?_cons_succ] at r0' r1' r2'
    exact bodyPost_ret (v := .tuple #[dskV (.slice a3 n3 e3) res.1, .int .i64 res.2]) (by unfold dskV; simp [results, Tryz.results52, go_sem, r0', r1', r2']) rfl ⟨.slice a3 n3 e3, by rw [← HRES.out], by rw [← HRES.out]; exact HD4.out.1, HD4.out.2⟩
end Go.Proofs.YtalknbadakfppaaGreat
set_option linter.unusedVariables false
namespace Go.Proofs.YtalknbadakfppaaGreat
open Go.RowKit
attribute [local go_sem] Oper.semAt_some
theorem wp_callv {P : Program} {o : Oper} {a : Act} {w : World} {K : Act → World → Prop} {Q : Exit → Act → World → Prop} (t : Tmp) (args : Array Operand) (tys : Array TypeId) (ho : o.op = .call { callee := .value (.tmp t), args := args, argTypes := tys })
    (f : FuncId) (cap : Array Value) (hc : slot a t = .func (.func f) #[] cap) (hen : Enters P f) (xs : Array Value) (hxs : args.map a.eval = xs) {R : Value → World → Prop} (h : Calls P f (xs ++ cap) w fun e w' => ∃ v, e = .returned v ∧ R v w') (hk : ∀ v w', R v w' → K (a.put o.dst v) w') : o.wp P a w K Q := by
  have hc' := slot_at hc
  unfold Oper.wp execOp
  unfold Enters at hen
  simp only [ho]
  simp [hxs, hc', go_sem, hen]
  refine h.mono ?_
  rintro e w' ⟨v, rfl, hr⟩
  exact hk v w' hr
def OutD (r : Dsk × Int) (v : Value) (w : World) : Prop := ∃ (a : Option Addr) (z c : Nat), v = .tuple #[.agg #[.slice a z c, .bool r.1.off, .int .i64 r.1.fuse], .int .i64 r.2] ∧ IsDfs w (.slice a z c) r.1.fs
def OutD1 (r : Dsk × Int) (v : Value) (w : World) : Prop := ∃ (a : Option Addr) (z c : Nat), v = .agg #[.slice a z c, .bool r.1.off, .int .i64 r.1.fuse] ∧ IsDfs w (.slice a z c) r.1.fs
def OutB (r : Dsk × Int) (w0 : World) (x : Array Value) (w : World) : Prop := ∃ (a : Option Addr) (z c : Nat), TwoB w0 w x #[.slice a z c, .bool r.1.off, .int .i64 r.1.fuse] ∧ IsDfs w (.slice a z c) r.1.fs
theorem OutD.stays {r : Dsk × Int} {v : Value} {w w' : World} (h : OutD r v w) (hb : Below w.heap.size w w') : OutD r v w' := by obtain ⟨a, z, c, h1, h2⟩ := h; exact ⟨a, z, c, h1, h2.stays hb⟩
theorem OutD1.stays {r : Dsk × Int} {v : Value} {w w' : World} (h : OutD1 r v w) (hb : Below w.heap.size w w') : OutD1 r v w' := by obtain ⟨a, z, c, h1, h2⟩ := h; exact ⟨a, z, c, h1, h2.stays hb⟩
theorem OutB.stays {r : Dsk × Int} {w0 : World} {x : Array Value} {w w' : World} (h : OutB r w0 x w) (hb : Below w.heap.size w w') : OutB r w0 x w' := by obtain ⟨a, z, c, h1, h2⟩ := h; exact ⟨a, z, c, h1.step hb, h2.stays hb⟩
theorem RetD.out {r : Dsk × Int} {w : World} {e : Ending} {w' : World} (h : RetD r w e w') : ∃ v, e = .returned v ∧ OutD r v w' ∧ Below w.heap.size w w' := by
  obtain ⟨a, z, c, h1, h2, h3⟩ := RetD.open_Wlc (d := r.1) (n := r.2) h
  exact ⟨_, h1, ⟨a, z, c, rfl, h2⟩, h3⟩
theorem wp_store_disk {o : Oper} {a : Act} {K : Act → World → Prop} {Q : Exit → Act → World → Prop} {w : World} {p q : Tmp} (ho : o.op = .store 28 (.tmp p) (.tmp q)) {g : Nat} {x y z : Value} {av : Option Addr} {zv cv : Nat} {bv : Bool} {iv : Int}
    (h1 : slot a p = .pointer (some ⟨g, 0, none⟩)) (h2 : slot a q = .agg #[.slice av zv cv, .bool bv, .int .i64 iv]) (hR : Row w g #[x, y, z] 28)
    (hk : K (a.put o.dst undef) (putB w g (.slice av zv cv) (.bool bv) (.int .i64 iv))) : o.wp Tryz.prog a w K Q := by
  refine wp_skip (w' := putB w g (.slice av zv cv) (.bool bv) (.int .i64 iv)) ?_ hk
  have e1 := slot_at h1; have e2 := slot_at h2
  have p0 := hR.cell 0; have p1 := hR.cell 1; have p2 := hR.cell 2
  simp only [List.getElem?_toArray, List.getElem?_cons_zero, List.getElem?_cons_succ] at p0 p1 p2
  have fz : ∀ i, w.frozen? ⟨g, i, none⟩ = false := fun i => hR.free i
  unfold execOp putB
  rw [ho]
  clear hk
  go_simp
set_option maxRecDepth 100000 in
set_option maxHeartbeats 4000000 in
theorem writing1_any (b1 b2 b3 : Nat) (n : ByteArray) (x : Int) (s : ByteArray) (w0 : World) (h1 : Row w0 b1 #[.string n] 9) (h2 : Row w0 b2 #[.int .i64 x] 3) (h3 : Row w0 b3 #[.string s] 9) (hns : n.size ≤ 1000000) (hx : x ≤ 9223372036854775807) (hss : s.size ≤ 1000000) (d : Dsk) (v0 : Value) (h : IsDfs w0 v0 d.fs) (hf : FitD nameB d) :
    Calls Tryz.prog 45 #[dskV v0 d, .pointer (some ⟨b1, 0, none⟩), .pointer (some ⟨b2, 0, none⟩), .pointer (some ⟨b3, 0, none⟩)] w0 (RetD (writeD nameB d n x s) w0) := by
  obtain ⟨_, a, cap, hu, _, _⟩ := id h
  obtain ⟨z, hz⟩ : ∃ z, z = d.fs.length := ⟨_, rfl⟩
  rw [← hz] at hu
  subst hu
  obtain ⟨V, hV⟩ : ∃ V, V = (w0.alloc (.cells #[.slice a z cap, .bool d.off, .int .i64 d.fuse] 28)).alloc (.cells #[.slice none 0 0, .bool false, .int .i64 0] 28) := ⟨_, rfl⟩
  have hT := twoB_new w0 a z cap d.off d.fuse
  rw [← hV] at hT
  have HV := Lib.hid hV; have HT := Lib.hid hT
  have C := pWrite_any d (.slice a z cap) n x s V (h.stays hT.below) hf hns hx hss
  obtain ⟨⟨⟨fs3, o3, u3⟩, e3⟩, hr⟩ : ∃ r, r = writeD nameB d n x s := ⟨_, rfl⟩
  rw [← hr] at C ⊢
  unfold dskV at C ⊢
  have HC := Lib.hid C
  obtain ⟨⟨p0, p1, p2⟩, ⟨r0, r1, r2⟩, fz0, fz1⟩ := hT.cells
  obtain ⟨q1, _⟩ := row_one (h1.step hT.below)
  rw [HV.out] at q1
  obtain ⟨q2, _⟩ := row_one (h2.step hT.below)
  rw [HV.out] at q2
  obtain ⟨q3, _⟩ := row_one (h3.step hT.below)
  rw [HV.out] at q3
  clear hV hT h hz hf hr C h1 h2 h3
  go_enter Tryz.func45, Tryz.ntmps45
  go_wp2_with fail
  rw [← HV.out]
  refine HC.out.mono ?_
  rintro e w1 hr1
  obtain ⟨a1, z1, c1, rfl, h1, hb1⟩ := hr1.open_Wlc
  dsimp only at h1
  have hT1 := HT.out.step hb1
  have HI1 := Lib.hid (dfs_put_Wlc (x := .slice a1 z1 c1) (y := .bool o3) (z := .int .i64 u3) hT1.res h1)
  have HT1 := Lib.hid (hT1.put1 (a' := .slice a1 z1 c1) (b' := .bool o3) (c' := .int .i64 u3))
  clear p0 p1 p2 r0 r1 r2 fz0 fz1
  obtain ⟨⟨p0, p1, p2⟩, ⟨r0, r1, r2⟩, fz0, fz1⟩ := hT1.cells
  unfold putB at HI1 HT1
  clear hr1 h1 hb1 hT1
  go_wp2_with fail
  obtain ⟨_, ⟨r0', r1', r2'⟩, _, _⟩ := HT1.out.cells
  exact bodyPost_ret (v := .tuple #[.agg #[.slice a1 z1 c1, .bool o3, .int .i64 u3], .int .i64 e3]) (by simp [results, Tryz.results45, go_sem, r0', r1', r2']) rfl ⟨.slice a1 z1 c1, rfl, HI1.out, HT1.out.below⟩
set_option maxRecDepth 100000 in
set_option maxHeartbeats 2000000 in
theorem writing_any (n : ByteArray) (x : Int) (s : ByteArray) (w : World) (hns : n.size ≤ 1000000) (hx : x ≤ 9223372036854775807) (hss : s.size ≤ 1000000) :
    Calls Tryz.prog 22 #[.string n, .int .i64 x, .string s] w fun e w' => ∃ v, e = .returned v ∧ ActV w' v (fun d => writeD nameB d n x s) ∧ Below w.heap.size w w' := by
  obtain ⟨W, hW⟩ : ∃ W, W = (((w.alloc (.cells #[.string n] 9)).alloc (.cells #[.int .i64 x] 3)).alloc (.cells #[.string s] 9)) := ⟨_, rfl⟩
  have hb : Below w.heap.size w W := by rw [hW]; exact (((Below.refl _ _).alloc (by simp) _).alloc (by simp) _).alloc (by simp; try omega) _
  have g1 : Row W (w.heap.size + 0) #[.string n] 9 := by
    have h0 := Row.made w #[.string n] 9
    have hs : w.heap.size = w.heap.size + 0 := by simp
    rw [hs] at h0
    rw [hW]; exact ((h0.alloc _).alloc _)
  have g2 : Row W (w.heap.size + 1) #[.int .i64 x] 3 := by
    have h0 := Row.made (w.alloc (.cells #[.string n] 9)) #[.int .i64 x] 3
    have hs : (w.alloc (.cells #[.string n] 9)).heap.size = w.heap.size + 1 := by simp
    rw [hs] at h0
    rw [hW]; exact (h0.alloc _)
  have g3 : Row W (w.heap.size + 2) #[.string s] 9 := by
    have h0 := Row.made ((w.alloc (.cells #[.string n] 9)).alloc (.cells #[.int .i64 x] 3)) #[.string s] 9
    have hs : ((w.alloc (.cells #[.string n] 9)).alloc (.cells #[.int .i64 x] 3)).heap.size = w.heap.size + 2 := by simp
    rw [hs] at h0
    rw [hW]; exact h0
  have HB := Lib.hid hb; have HW := Lib.hid hW
  have HA : Hid (ActV W (.func (.func 45) #[] #[.pointer (some ⟨w.heap.size + 0, 0, none⟩), .pointer (some ⟨w.heap.size + 1, 0, none⟩), .pointer (some ⟨w.heap.size + 2, 0, none⟩)]) (fun d => writeD nameB d n x s)) := Lib.hid ⟨45, _, rfl, enters_of Tryz.func45 (by kernel_rfl) rfl, fun d hd => writeD_fit hd n x s, fun W' hW' d u hu hf => writing1_any _ _ _ n x s W' (g1.step hW') (g2.step hW') (g3.step hW') hns hx hss d u hu hf⟩
  clear hW hb g1 g2 g3
  go_enter Tryz.func22, Tryz.ntmps22
  go_wp2
  go_ret
  rw [← HW.out]
  exact ⟨_, rfl, HA.out, HB.out⟩
set_option maxRecDepth 100000 in
set_option maxHeartbeats 4000000 in
theorem syncing1_any (b1 : Nat) (n : ByteArray) (w0 : World) (h1 : Row w0 b1 #[.string n] 9) (d : Dsk) (v0 : Value) (h : IsDfs w0 v0 d.fs) (hf : FitD nameB d) :
    Calls Tryz.prog 47 #[dskV v0 d, .pointer (some ⟨b1, 0, none⟩)] w0 (RetD (syncD d n) w0) := by
  obtain ⟨_, a, cap, hu, _, _⟩ := id h
  obtain ⟨z, hz⟩ : ∃ z, z = d.fs.length := ⟨_, rfl⟩
  rw [← hz] at hu
  subst hu
  obtain ⟨V, hV⟩ : ∃ V, V = (w0.alloc (.cells #[.slice a z cap, .bool d.off, .int .i64 d.fuse] 28)).alloc (.cells #[.slice none 0 0, .bool false, .int .i64 0] 28) := ⟨_, rfl⟩
  have hT := twoB_new w0 a z cap d.off d.fuse
  rw [← hV] at hT
  have HV := Lib.hid hV; have HT := Lib.hid hT
  have C := pSync_any d (.slice a z cap) n V (h.stays hT.below) hf
  obtain ⟨⟨⟨fs3, o3, u3⟩, e3⟩, hr⟩ : ∃ r, r = syncD d n := ⟨_, rfl⟩
  rw [← hr] at C ⊢
  unfold dskV at C ⊢
  have HC := Lib.hid C
  obtain ⟨⟨p0, p1, p2⟩, ⟨r0, r1, r2⟩, fz0, fz1⟩ := hT.cells
  obtain ⟨q1, _⟩ := row_one (h1.step hT.below)
  rw [HV.out] at q1
  clear hV hT h hz hf hr C h1
  go_enter Tryz.func47, Tryz.ntmps47
  go_wp2_with fail
  rw [← HV.out]
  refine HC.out.mono ?_
  rintro e w1 hr1
  obtain ⟨a1, z1, c1, rfl, h1, hb1⟩ := hr1.open_Wlc
  dsimp only at h1
  have hT1 := HT.out.step hb1
  have HI1 := Lib.hid (dfs_put_Wlc (x := .slice a1 z1 c1) (y := .bool o3) (z := .int .i64 u3) hT1.res h1)
  have HT1 := Lib.hid (hT1.put1 (a' := .slice a1 z1 c1) (b' := .bool o3) (c' := .int .i64 u3))
  clear p0 p1 p2 r0 r1 r2 fz0 fz1
  obtain ⟨⟨p0, p1, p2⟩, ⟨r0, r1, r2⟩, fz0, fz1⟩ := hT1.cells
  unfold putB at HI1 HT1
  clear hr1 h1 hb1 hT1
  go_wp2_with fail
  obtain ⟨_, ⟨r0', r1', r2'⟩, _, _⟩ := HT1.out.cells
  exact bodyPost_ret (v := .tuple #[.agg #[.slice a1 z1 c1, .bool o3, .int .i64 u3], .int .i64 e3]) (by simp [results, Tryz.results47, go_sem, r0', r1', r2']) rfl ⟨.slice a1 z1 c1, rfl, HI1.out, HT1.out.below⟩
set_option maxRecDepth 100000 in
set_option maxHeartbeats 2000000 in
theorem syncing_any (n : ByteArray) (w : World) :
    Calls Tryz.prog 23 #[.string n] w fun e w' => ∃ v, e = .returned v ∧ ActV w' v (fun d => syncD d n) ∧ Below w.heap.size w w' := by
  obtain ⟨W, hW⟩ : ∃ W, W = (w.alloc (.cells #[.string n] 9)) := ⟨_, rfl⟩
  have hb : Below w.heap.size w W := by rw [hW]; exact (Below.refl _ _).alloc (by simp) _
  have g1 : Row W (w.heap.size + 0) #[.string n] 9 := by
    have h0 := Row.made w #[.string n] 9
    have hs : w.heap.size = w.heap.size + 0 := by simp
    rw [hs] at h0
    rw [hW]; exact h0
  have HB := Lib.hid hb; have HW := Lib.hid hW
  have HA : Hid (ActV W (.func (.func 47) #[] #[.pointer (some ⟨w.heap.size + 0, 0, none⟩)]) (fun d => syncD d n)) := Lib.hid ⟨47, _, rfl, enters_of Tryz.func47 (by kernel_rfl) rfl, fun d hd => syncD_fit hd n, fun W' hW' d u hu hf => syncing1_any _ n W' (g1.step hW')  d u hu hf⟩
  clear hW hb g1
  go_enter Tryz.func23, Tryz.ntmps23
  go_wp2
  go_ret
  rw [← HW.out]
  exact ⟨_, rfl, HA.out, HB.out⟩
set_option maxRecDepth 100000 in
set_option maxHeartbeats 4000000 in
theorem removing1_any (b1 : Nat) (n : ByteArray) (w0 : World) (h1 : Row w0 b1 #[.string n] 9) (d : Dsk) (v0 : Value) (h : IsDfs w0 v0 d.fs) (hf : FitD nameB d) :
    Calls Tryz.prog 51 #[dskV v0 d, .pointer (some ⟨b1, 0, none⟩)] w0 (RetD (removeD d n) w0) := by
  obtain ⟨_, a, cap, hu, _, _⟩ := id h
  obtain ⟨z, hz⟩ : ∃ z, z = d.fs.length := ⟨_, rfl⟩
  rw [← hz] at hu
  subst hu
  obtain ⟨V, hV⟩ : ∃ V, V = (w0.alloc (.cells #[.slice a z cap, .bool d.off, .int .i64 d.fuse] 28)).alloc (.cells #[.slice none 0 0, .bool false, .int .i64 0] 28) := ⟨_, rfl⟩
  have hT := twoB_new w0 a z cap d.off d.fuse
  rw [← hV] at hT
  have HV := Lib.hid hV; have HT := Lib.hid hT
  have C := pRemove_any d (.slice a z cap) n V (h.stays hT.below) hf
  obtain ⟨⟨⟨fs3, o3, u3⟩, e3⟩, hr⟩ : ∃ r, r = removeD d n := ⟨_, rfl⟩
  rw [← hr] at C ⊢
  unfold dskV at C ⊢
  have HC := Lib.hid C
  obtain ⟨⟨p0, p1, p2⟩, ⟨r0, r1, r2⟩, fz0, fz1⟩ := hT.cells
  obtain ⟨q1, _⟩ := row_one (h1.step hT.below)
  rw [HV.out] at q1
  clear hV hT h hz hf hr C h1
  go_enter Tryz.func51, Tryz.ntmps51
  go_wp2_with fail
  rw [← HV.out]
  refine HC.out.mono ?_
  rintro e w1 hr1
  obtain ⟨a1, z1, c1, rfl, h1, hb1⟩ := hr1.open_Wlc
  dsimp only at h1
  have hT1 := HT.out.step hb1
  have HI1 := Lib.hid (dfs_put_Wlc (x := .slice a1 z1 c1) (y := .bool o3) (z := .int .i64 u3) hT1.res h1)
  have HT1 := Lib.hid (hT1.put1 (a' := .slice a1 z1 c1) (b' := .bool o3) (c' := .int .i64 u3))
  clear p0 p1 p2 r0 r1 r2 fz0 fz1
  obtain ⟨⟨p0, p1, p2⟩, ⟨r0, r1, r2⟩, fz0, fz1⟩ := hT1.cells
  unfold putB at HI1 HT1
  clear hr1 h1 hb1 hT1
  go_wp2_with fail
  obtain ⟨_, ⟨r0', r1', r2'⟩, _, _⟩ := HT1.out.cells
  exact bodyPost_ret (v := .tuple #[.agg #[.slice a1 z1 c1, .bool o3, .int .i64 u3], .int .i64 e3]) (by simp [results, Tryz.results51, go_sem, r0', r1', r2']) rfl ⟨.slice a1 z1 c1, rfl, HI1.out, HT1.out.below⟩
set_option maxRecDepth 100000 in
set_option maxHeartbeats 2000000 in
theorem removing_any (n : ByteArray) (w : World) :
    Calls Tryz.prog 26 #[.string n] w fun e w' => ∃ v, e = .returned v ∧ ActV w' v (fun d => removeD d n) ∧ Below w.heap.size w w' := by
  obtain ⟨W, hW⟩ : ∃ W, W = (w.alloc (.cells #[.string n] 9)) := ⟨_, rfl⟩
  have hb : Below w.heap.size w W := by rw [hW]; exact (Below.refl _ _).alloc (by simp) _
  have g1 : Row W (w.heap.size + 0) #[.string n] 9 := by
    have h0 := Row.made w #[.string n] 9
    have hs : w.heap.size = w.heap.size + 0 := by simp
    rw [hs] at h0
    rw [hW]; exact h0
  have HB := Lib.hid hb; have HW := Lib.hid hW
  have HA : Hid (ActV W (.func (.func 51) #[] #[.pointer (some ⟨w.heap.size + 0, 0, none⟩)]) (fun d => removeD d n)) := Lib.hid ⟨51, _, rfl, enters_of Tryz.func51 (by kernel_rfl) rfl, fun d hd => removeD_fit hd n, fun W' hW' d u hu hf => removing1_any _ n W' (g1.step hW')  d u hu hf⟩
  clear hW hb g1
  go_enter Tryz.func26, Tryz.ntmps26
  go_wp2
  go_ret
  rw [← HW.out]
  exact ⟨_, rfl, HA.out, HB.out⟩
set_option maxRecDepth 100000 in
set_option maxHeartbeats 4000000 in
theorem renaming1_any (b1 b2 : Nat) (n : ByteArray) (m : ByteArray) (w0 : World) (h1 : Row w0 b1 #[.string n] 9) (h2 : Row w0 b2 #[.string m] 9) (hms : m.size ≤ 1000000) (d : Dsk) (v0 : Value) (h : IsDfs w0 v0 d.fs) (hf : FitD nameB d) :
    Calls Tryz.prog 53 #[dskV v0 d, .pointer (some ⟨b1, 0, none⟩), .pointer (some ⟨b2, 0, none⟩)] w0 (RetD (renameD nameB d n m) w0) := by
  obtain ⟨_, a, cap, hu, _, _⟩ := id h
  obtain ⟨z, hz⟩ : ∃ z, z = d.fs.length := ⟨_, rfl⟩
  rw [← hz] at hu
  subst hu
  obtain ⟨V, hV⟩ : ∃ V, V = (w0.alloc (.cells #[.slice a z cap, .bool d.off, .int .i64 d.fuse] 28)).alloc (.cells #[.slice none 0 0, .bool false, .int .i64 0] 28) := ⟨_, rfl⟩
  have hT := twoB_new w0 a z cap d.off d.fuse
  rw [← hV] at hT
  have HV := Lib.hid hV; have HT := Lib.hid hT
  have C := pRename_any d (.slice a z cap) n m V (h.stays hT.below) hf hms
  obtain ⟨⟨⟨fs3, o3, u3⟩, e3⟩, hr⟩ : ∃ r, r = renameD nameB d n m := ⟨_, rfl⟩
  rw [← hr] at C ⊢
  unfold dskV at C ⊢
  have HC := Lib.hid C
  obtain ⟨⟨p0, p1, p2⟩, ⟨r0, r1, r2⟩, fz0, fz1⟩ := hT.cells
  obtain ⟨q1, _⟩ := row_one (h1.step hT.below)
  rw [HV.out] at q1
  obtain ⟨q2, _⟩ := row_one (h2.step hT.below)
  rw [HV.out] at q2
  clear hV hT h hz hf hr C h1 h2
  go_enter Tryz.func53, Tryz.ntmps53
  go_wp2_with fail
  rw [← HV.out]
  refine HC.out.mono ?_
  rintro e w1 hr1
  obtain ⟨a1, z1, c1, rfl, h1, hb1⟩ := hr1.open_Wlc
  dsimp only at h1
  have hT1 := HT.out.step hb1
  have HI1 := Lib.hid (dfs_put_Wlc (x := .slice a1 z1 c1) (y := .bool o3) (z := .int .i64 u3) hT1.res h1)
  have HT1 := Lib.hid (hT1.put1 (a' := .slice a1 z1 c1) (b' := .bool o3) (c' := .int .i64 u3))
  clear p0 p1 p2 r0 r1 r2 fz0 fz1
  obtain ⟨⟨p0, p1, p2⟩, ⟨r0, r1, r2⟩, fz0, fz1⟩ := hT1.cells
  unfold putB at HI1 HT1
  clear hr1 h1 hb1 hT1
  go_wp2_with fail
  obtain ⟨_, ⟨r0', r1', r2'⟩, _, _⟩ := HT1.out.cells
  exact bodyPost_ret (v := .tuple #[.agg #[.slice a1 z1 c1, .bool o3, .int .i64 u3], .int .i64 e3]) (by simp [results, Tryz.results53, go_sem, r0', r1', r2']) rfl ⟨.slice a1 z1 c1, rfl, HI1.out, HT1.out.below⟩
set_option maxRecDepth 100000 in
set_option maxHeartbeats 2000000 in
theorem renaming_any (n : ByteArray) (m : ByteArray) (w : World) (hms : m.size ≤ 1000000) :
    Calls Tryz.prog 27 #[.string n, .string m] w fun e w' => ∃ v, e = .returned v ∧ ActV w' v (fun d => renameD nameB d n m) ∧ Below w.heap.size w w' := by
  obtain ⟨W, hW⟩ : ∃ W, W = ((w.alloc (.cells #[.string n] 9)).alloc (.cells #[.string m] 9)) := ⟨_, rfl⟩
  have hb : Below w.heap.size w W := by rw [hW]; exact ((Below.refl _ _).alloc (by simp) _).alloc (by simp) _
  have g1 : Row W (w.heap.size + 0) #[.string n] 9 := by
    have h0 := Row.made w #[.string n] 9
    have hs : w.heap.size = w.heap.size + 0 := by simp
    rw [hs] at h0
    rw [hW]; exact (h0.alloc _)
  have g2 : Row W (w.heap.size + 1) #[.string m] 9 := by
    have h0 := Row.made (w.alloc (.cells #[.string n] 9)) #[.string m] 9
    have hs : (w.alloc (.cells #[.string n] 9)).heap.size = w.heap.size + 1 := by simp
    rw [hs] at h0
    rw [hW]; exact h0
  have HB := Lib.hid hb; have HW := Lib.hid hW
  have HA : Hid (ActV W (.func (.func 53) #[] #[.pointer (some ⟨w.heap.size + 0, 0, none⟩), .pointer (some ⟨w.heap.size + 1, 0, none⟩)]) (fun d => renameD nameB d n m)) := Lib.hid ⟨53, _, rfl, enters_of Tryz.func53 (by kernel_rfl) rfl, fun d hd => renameD_fit hd n m, fun W' hW' d u hu hf => renaming1_any _ _ n m W' (g1.step hW') (g2.step hW') hms d u hu hf⟩
  clear hW hb g1 g2
  go_enter Tryz.func27, Tryz.ntmps27
  go_wp2
  go_ret
  rw [← HW.out]
  exact ⟨_, rfl, HA.out, HB.out⟩
end Go.Proofs.YtalknbadakfppaaGreat
set_option linter.unusedVariables false
namespace Go.Proofs.YtalknbadakfppaaGreat
open Go.RowKit Go.Shelf
attribute [local go_sem] Oper.semAt_some
theorem readF_any {d : Dsk} (hf : FitD nameB d) (v : Value) (s : ByteArray) (w : World) (h : IsDfs w v d.fs) :
    Calls Tryz.prog 50 #[dskV v d, .string s] w fun e w' => e = .returned (.tuple #[.string (strT (readD d s.data.toList).1), .bool (readD d s.data.toList).2]) ∧ Below w.heap.size w w' :=
  pRead_any d v s w h hf.rise (Nat.le_trans hf.many (by decide)) fun f hm => ⟨(hf.files f hm).bytes, (hf.files f hm).ops⟩
set_option maxRecDepth 100000 in
set_option maxHeartbeats 4000000 in
theorem seen16_any (d : Dsk) (v : Value) (w0 : World) (h : IsDfs w0 v d.fs) (hf : FitD nameB d) :
    Calls Tryz.prog 29 #[dskV v d] w0 fun e w' => e = .returned (.string (strT (logB d).1)) ∧ Below w0.heap.size w0 w' := by
  obtain ⟨V, hV⟩ : ∃ V, V = w0.alloc (.cells #[v, .bool d.off, .int .i64 d.fuse] 28) := ⟨_, rfl⟩
  have hbV : Below w0.heap.size w0 V := by rw [hV]; exact (Below.refl _ _).alloc (Nat.le_refl _) _
  have C1 := readF_any hf v nLOG V (h.stays hbV)
  obtain ⟨_, a, cap, hu, _, _⟩ := id h
  obtain ⟨z, hz⟩ : ∃ z, z = d.fs.length := ⟨_, rfl⟩
  rw [← hz] at hu
  subst hu
  rw [show readD d nLOG.data.toList = logB d from rfl] at C1
  obtain ⟨S, hS⟩ : ∃ S, S = strT (logB d).1 := ⟨_, rfl⟩
  obtain ⟨o, ho⟩ : ∃ o, o = (logB d).2 := ⟨_, rfl⟩
  rw [← hS, ← ho] at C1; rw [← hS]
  unfold dskV nLOG at C1
  unfold dskV
  have HC1 := Lib.hid C1; have HV := Lib.hid hV; have HB0 := Lib.hid hbV
  clear h hf hz hV hbV hS ho C1
  go_enter Tryz.func29, Tryz.ntmps29
  go_wp2_with fail
  rw [← HV.out]
  refine HC1.out.mono ?_
  rintro e w1 ⟨rfl, hb1⟩
  have HB1 := Lib.hid (below_step HB0.out hb1)
  clear hb1
  go_wp2
  go_ret
  exact ⟨rfl, HB1.out⟩
set_option maxRecDepth 100000 in
set_option maxHeartbeats 4000000 in
theorem pLogLoad_any (d : Dsk) (v : Value) (w0 : World) (h : IsDfs w0 v d.fs) (hf : FitD nameB d) :
    Calls Tryz.prog 12 #[dskV v d] w0 (RetL16 (textsOf (logB d).1) w0) := by
  obtain ⟨V, hV⟩ : ∃ V, V = w0.alloc (.cells #[v, .bool d.off, .int .i64 d.fuse] 28) := ⟨_, rfl⟩
  have hbV : Below w0.heap.size w0 V := by rw [hV]; exact (Below.refl _ _).alloc (Nat.le_refl _) _
  have C1 := seen16_any d v V (h.stays hbV) hf
  have HLN := Lib.hid (logB_len hf)
  obtain ⟨_, a, cap, hu, _, _⟩ := id h
  obtain ⟨z, hz⟩ : ∃ z, z = d.fs.length := ⟨_, rfl⟩
  rw [← hz] at hu
  subst hu
  obtain ⟨B, hB⟩ : ∃ B, B = (logB d).1 := ⟨_, rfl⟩
  rw [← hB] at C1 HLN ⊢
  have CS := Scan_any (strT B) (by rw [strT_size]; have := HLN.out; omega)
  unfold RetScan at CS
  simp only [strsOf_both] at CS
  rw [strT_txt] at CS
  obtain ⟨S, hS⟩ : ∃ S, S = strT B := ⟨_, rfl⟩
  rw [← hS] at C1 CS
  unfold dskV at C1 ⊢
  unfold RetL16
  have HC1 := Lib.hid C1; have HCS := Lib.hid CS; have HV := Lib.hid hV; have HB0 := Lib.hid hbV
  clear h hf hz hV hbV hS C1 CS hB
  go_enter Tryz.func12, Tryz.ntmps12
  go_wp2_with fail
  rw [← HV.out]
  refine HC1.out.mono ?_
  rintro e w1 ⟨rfl, hb1⟩
  have HB1 := Lib.hid (below_step HB0.out hb1)
  clear hb1
  go_wp2_with fail
  refine (HCS.out w1).mono ?_
  rintro e w2 ⟨v2, rfl, hs2, hb2⟩
  obtain ⟨_, a2, c2, hv2, _, _⟩ := id hs2
  obtain ⟨z2, hz2⟩ : ∃ z, z = (strsOf (textsOf B)).length := ⟨_, rfl⟩
  rw [← hz2] at hv2
  subst hv2
  have HB2 := Lib.hid (below_step HB1.out hb2); have HS2 := Lib.hid hs2
  clear hb2 hs2 hz2
  go_wp2
  go_ret
  exact ⟨a2, z2, c2, rfl, HS2.out, HB2.out⟩
set_option maxRecDepth 100000 in
set_option maxHeartbeats 4000000 in
theorem parts16_any (d : Dsk) (v : Value) (w0 : World) (h : IsDfs w0 v d.fs) (hf : FitD nameB d) :
    Calls Tryz.prog 18 #[dskV v d] w0 fun e w' => e = .returned (.tuple #[.string (strT ((logB d).1.take (scanEnd (logB d).1))), .bool (decide (scanEnd (logB d).1 ≠ (logB d).1.length))]) ∧ Below w0.heap.size w0 w' := by
  obtain ⟨V, hV⟩ : ∃ V, V = w0.alloc (.cells #[v, .bool d.off, .int .i64 d.fuse] 28) := ⟨_, rfl⟩
  have hbV : Below w0.heap.size w0 V := by rw [hV]; exact (Below.refl _ _).alloc (Nat.le_refl _) _
  have C1 := seen16_any d v V (h.stays hbV) hf
  have HLN := Lib.hid (logB_len hf)
  obtain ⟨_, a, cap, hu, _, _⟩ := id h
  obtain ⟨z, hz⟩ : ∃ z, z = d.fs.length := ⟨_, rfl⟩
  rw [← hz] at hu
  subst hu
  obtain ⟨B, hB⟩ : ∃ B, B = (logB d).1 := ⟨_, rfl⟩
  rw [← hB] at C1 HLN ⊢
  have CS := Scan_any (strT B) (by rw [strT_size]; have := HLN.out; omega)
  unfold RetScan at CS
  simp only [strsOf_both] at CS
  rw [strT_txt] at CS
  have hle := scanEnd_le B
  obtain ⟨S, hS⟩ : ∃ S, S = strT B := ⟨_, rfl⟩
  obtain ⟨q, hq⟩ : ∃ q, q = scanEnd B := ⟨_, rfl⟩
  have hSB : S.size = B.length := by rw [hS, strT_size]
  rw [← hq] at hle CS ⊢
  have hd1 := fun W => run_slice_to (P := Tryz.prog) Tryz.underlying9 S q (by rw [hSB]; exact hle) W
  obtain ⟨X, hX⟩ : ∃ X, X = strT (B.take q) := ⟨_, rfl⟩
  have hXS : S.extract 0 q = X := by rw [hX]; exact str_txt.2 (by rw [take_txt, hS, strT_txt, strT_txt])
  rw [hXS] at hd1
  rw [← hX]
  have hdb : decide (q < S.size) = decide (q ≠ B.length) := by
    rw [hSB]
    by_cases c : q = B.length
    · rw [decide_eq_false (by omega), decide_eq_false (by simpa using c)]
    · rw [decide_eq_true (by omega), decide_eq_true c]
  rw [← hS] at C1 CS
  obtain ⟨bb, hbb⟩ : ∃ b, b = decide (q ≠ B.length) := ⟨_, rfl⟩
  rw [← hbb] at hdb ⊢
  unfold dskV at C1 ⊢
  have HC1 := Lib.hid C1; have HCS := Lib.hid CS; have HV := Lib.hid hV; have HB0 := Lib.hid hbV
  clear h hf hz hV hbV hS C1 CS hB hq hX hXS hSB hle hbb
  go_enter Tryz.func18, Tryz.ntmps18
  go_wp2_with fail
  rw [← HV.out]
  refine HC1.out.mono ?_
  rintro e w1 ⟨rfl, hb1⟩
  have HB1 := Lib.hid (below_step HB0.out hb1)
  clear hb1
  go_wp2_with fail
  refine (HCS.out w1).mono ?_
  rintro e w2 ⟨v2, rfl, hs2, hb2⟩
  have HB2 := Lib.hid (below_step HB1.out hb2)
  clear hb2 hs2
  go_wp2
  go_ret2
  exact ⟨rfl, HB2.out⟩
end Go.Proofs.YtalknbadakfppaaGreat
set_option linter.unusedVariables false
namespace Go.Proofs.YtalknbadakfppaaGreat
open Go.RowKit
attribute [local go_sem] Oper.semAt_some
theorem read_then {d : Dsk} {fs : List Dfl} {t : Txt} (h : getF fs t = getF d.fs t) : readD (thenD d fs).1 t = readD d t := by
  unfold thenD
  split
  · unfold readD; rw [powD_fs]
  · unfold readD
    dsimp only
    rw [h]
theorem logB_remove {d : Dsk} (hf : FitD nameB d) : logB (removeD d nNEW).1 = logB d := by
  unfold logB removeD
  split
  · rfl
  · cases getF d.fs nNEW.data.toList with
    | none => rfl
    | some f => exact read_then (by rw [lessF_get hf.rise, if_neg (by decide)])
theorem andD_congr {r : Dsk × Int} {f g : Dsk → Dsk × Int} (h : f r.1 = g r.1) : andD r f = andD r g := by unfold andD; rw [h]
theorem eval_const (a : Act) (v : Value) : a.eval (.const v) = v := rfl
theorem eval_func (a : Act) (f : FuncId) : a.eval (.func f) = .func (.func f) #[] #[] := rfl
theorem acts_made {w : World} {vs : List Value} {F : List (Dsk → Dsk × Int)} (hl : vs.length = F.length) (hm : F.length ≤ 1000) (h : ∀ i (h1 : i < vs.length) (h2 : i < F.length), ActV w vs[i] F[i]) :
    IsActs (w.alloc (.cells vs.toArray 51)) (.slice (some ⟨w.heap.size, 0, none⟩) F.length F.length) F := by
  have hR := Row.made w vs.toArray 51
  refine ⟨hm, w.heap.size, 0, F.length, rfl, Nat.le_refl _, hR.lt, fun i hi => ⟨vs[i]'(by omega), ?_, (h i (by omega) hi).stays ((Below.refl _ _).alloc (Nat.le_refl _) _)⟩⟩
  have := hR.cell (0 + i)
  rw [this, Nat.zero_add, List.getElem?_toArray, List.getElem?_eq_getElem (by omega)]
theorem acts_one {w : World} {v1 : Value} {F1 : Dsk → Dsk × Int} (h1 : ActV w v1 F1) : IsActs (w.alloc (.cells #[v1] 51)) (.slice (some ⟨w.heap.size, 0, none⟩) 1 1) [F1] :=
  acts_made (vs := [v1]) rfl (by show 1 ≤ 1000; decide) fun i hi _ => match i, hi with | 0, _ => h1
theorem acts_two {w : World} {v1 v2 : Value} {F1 F2 : Dsk → Dsk × Int} (h1 : ActV w v1 F1) (h2 : ActV w v2 F2) : IsActs (w.alloc (.cells #[v1, v2] 51)) (.slice (some ⟨w.heap.size, 0, none⟩) 2 2) [F1, F2] :=
  acts_made (vs := [v1, v2]) rfl (by show 2 ≤ 1000; decide) fun i hi _ => match i, hi with | 0, _ => h1 | 1, _ => h2
theorem acts_four {w : World} {v1 v2 v3 v4 : Value} {F1 F2 F3 F4 : Dsk → Dsk × Int} (h1 : ActV w v1 F1) (h2 : ActV w v2 F2) (h3 : ActV w v3 F3) (h4 : ActV w v4 F4) : IsActs (w.alloc (.cells #[v1, v2, v3, v4] 51)) (.slice (some ⟨w.heap.size, 0, none⟩) 4 4) [F1, F2, F3, F4] :=
  acts_made (vs := [v1, v2, v3, v4]) rfl (by show 4 ≤ 1000; decide) fun i hi _ => match i, hi with | 0, _ => h1 | 1, _ => h2 | 2, _ => h3 | 3, _ => h4
theorem last_eq (r : Dsk × Int) : (if r.2 = 0 then (r.1, (0 : Int)) else r) = r := by
  obtain ⟨d, e⟩ := r
  by_cases h : e = 0
  · subst h; rfl
  · exact if_neg h
theorem chain_one (f : Dsk → Dsk × Int) (d : Dsk) : chainD [f] d = f d := last_eq (f d)
theorem chain_two (f g : Dsk → Dsk × Int) (d : Dsk) : chainD [f, g] d = andD (f d) g := by
  rw [chainD_cons, chain_one]; rfl
theorem chain_four (f g h k : Dsk → Dsk × Int) (d : Dsk) : chainD [f, g, h, k] d = andD (andD (andD (f d) g) h) k := by
  rw [chainD_cons, chainD_cons, chainD_cons, chain_one]
  unfold andD
  by_cases h1 : (f d).2 = 0
  · simp only [h1, if_true]
    by_cases h2 : (g (f d).1).2 = 0
    · simp only [h2, if_true]
    · simp only [h2, if_false]
  · simp only [h1, if_false]
def ifD (n : ByteArray) (f : Dsk → Dsk × Int) (d : Dsk) : Dsk × Int := if (readD d n.data.toList).2 = true then f d else (d, 0)
theorem ifD_fit {n : ByteArray} {f : Dsk → Dsk × Int} (h : ∀ d, FitD nameB d → FitD nameB (f d).1) (d : Dsk) (hd : FitD nameB d) : FitD nameB (ifD n f d).1 := by
  unfold ifD
  split
  · exact h d hd
  · exact hd
def wifU (w0 : World) (a : Option Addr) (z cap : Nat) (d : Dsk) (res : Dsk × Int) (b1 b2 : Nat) (n : ByteArray) (dk : FuncId) (f : Dsk → Dsk × Int) : Nat → Value → Value → World → Prop
  | 0 => fun v _ _ => v = .func (.func dk) #[] #[]
  | 1 => fun v _ _ => v = .string n
  | 2 => fun v _ wz => ActV wz v f
  | 3 => fun v _ _ => v = .agg #[.slice a z cap, .bool d.off, .int .i64 d.fuse]
  | 4 => fun v _ wz => OutD res v wz
  | 5 => fun v _ wz => OutD1 res v wz
  | 6 => fun v _ _ => v = .int .i64 res.2
  | 7 => fun _ _ wz => OutB res w0 #[.slice a z cap, .bool d.off, .int .i64 d.fuse] wz
  | 8 => fun v _ _ => v = .int .i64 res.2
  | 9 => fun _ _ wz => TwoB w0 wz #[.slice a z cap, .bool d.off, .int .i64 d.fuse] #[.slice none 0 0, .bool false, .int .i64 0]
  | _ => fun _ _ _ => True
def wifN : List (List Nat) := [[9], [9], [0, 1, 9], [9], [2, 3, 9], [4], [4], [5, 9], [6]]
def wifE : Nat → Option Tmp
  | _ => none
def wifB : List (Nat × Nat) := [(7, 2), (7, 4), (7, 5), (7, 9)]
theorem wif_T (w0 : World) (a : Option Addr) (z cap : Nat) (d : Dsk) (res : Dsk × Int) (b1 b2 : Nat) (n : ByteArray) (dk : FuncId) (f : Dsk → Dsk × Int) (ix kx : Nat) (v e : Value) (w w' : World) (hk : kx < 10) (hne : kx ≠ ix) (hbd : (ix, kx) ∉ wifB) (hU : (wifU w0 a z cap d res b1 b2 n dk f) kx v e w) (hT : (appT 7 (fun _ _ => True)) ix w w') : (wifU w0 a z cap d res b1 b2 n dk f) kx v e w' := by
  by_cases hi7 : ix = 7
  · subst hi7
    have hR := appT_in hT
    rcases (show kx = 0 ∨ kx = 1 ∨ kx = 2 ∨ kx = 3 ∨ kx = 4 ∨ kx = 5 ∨ kx = 6 ∨ kx = 7 ∨ kx = 8 ∨ kx = 9 by omega) with rfl | rfl | rfl | rfl | rfl | rfl | rfl | rfl | rfl | rfl
    · exact hU
    · exact hU
    · exact absurd (by decide) hbd
    · exact hU
    · exact absurd (by decide) hbd
    · exact absurd (by decide) hbd
    · exact hU
    · exact absurd rfl hne
    · exact hU
    · exact absurd (by decide) hbd
  have hb : Below w.heap.size w w' := appT_out hi7 hT
  rcases (show kx = 0 ∨ kx = 1 ∨ kx = 2 ∨ kx = 3 ∨ kx = 4 ∨ kx = 5 ∨ kx = 6 ∨ kx = 7 ∨ kx = 8 ∨ kx = 9 by omega) with rfl | rfl | rfl | rfl | rfl | rfl | rfl | rfl | rfl | rfl
  · exact hU
  · exact hU
  · exact ActV.stays hU hb
  · exact hU
  · exact OutD.stays hU hb
  · exact OutD1.stays hU hb
  · exact hU
  · exact OutB.stays hU hb
  · exact hU
  · exact TwoB.step hU hb
set_option maxRecDepth 100000 in
set_option maxHeartbeats 8000000 in
theorem ifThere1_any (b1 b2 : Nat) (n : ByteArray) (dk : FuncId) (f : Dsk → Dsk × Int) (w0 : World) (h1 : Row w0 b1 #[.string n] 9) (h2 : Row w0 b2 #[.func (.func dk) #[] #[]] 53) (hE : Enters Tryz.prog dk)
    (hD : ∀ W, Below w0.heap.size w0 W → Calls Tryz.prog dk #[.string n] W fun e w' => ∃ v, e = .returned v ∧ ActV w' v f ∧ Below W.heap.size W w') (d : Dsk) (v0 : Value) (h : IsDfs w0 v0 d.fs) (hf : FitD nameB d) :
    Calls Tryz.prog 49 #[dskV v0 d, .pointer (some ⟨b1, 0, none⟩), .pointer (some ⟨b2, 0, none⟩)] w0 (RetD (ifD n f d) w0) := by
  have HD := Lib.hid hD; have HE := Lib.hid hE; have HR1 := Lib.hid h1; have HR2 := Lib.hid h2
  obtain ⟨_, a, cap, hu, _, _⟩ := id h
  obtain ⟨z, hz⟩ : ∃ z, z = d.fs.length := ⟨_, rfl⟩
  rw [← hz] at hu
  subst hu
  obtain ⟨V, hV⟩ : ∃ V, V = (w0.alloc (.cells #[.slice a z cap, .bool d.off, .int .i64 d.fuse] 28)).alloc (.cells #[.slice none 0 0, .bool false, .int .i64 0] 28) := ⟨_, rfl⟩
  have hT := twoB_new w0 a z cap d.off d.fuse
  rw [← hV] at hT
  have HV := Lib.hid hV; have HT := Lib.hid hT; have HI := Lib.hid h; have HF := Lib.hid hf
  obtain ⟨⟨p0, p1, p2⟩, ⟨r0, r1, r2⟩, fz0, fz1⟩ := hT.cells
  obtain ⟨q1, _⟩ := row_one (h1.step hT.below)
  rw [HV.out] at q1
  have C := readF_any hf (.slice a z cap) n V (h.stays hT.below)
  obtain ⟨S, hS⟩ : ∃ S, S = strT (readD d n.data.toList).1 := ⟨_, rfl⟩
  obtain ⟨o, ho⟩ : ∃ o, o = (readD d n.data.toList).2 := ⟨_, rfl⟩
  rw [← hS, ← ho] at C
  unfold dskV at C
  have HC := Lib.hid C
  have HO : Hid (ifD n f d = if o = true then f d else (d, 0)) := Lib.hid (by unfold ifD; rw [← ho])
  clear hV hT h hz hf C hS ho h1 h2 hD hE
  unfold dskV
  go_enter Tryz.func49, Tryz.ntmps49
  go_wp2_with fail
  rw [← HV.out]
  refine HC.out.mono ?_
  rintro e w4 ⟨rfl, hb4⟩
  have HT4 := Lib.hid (HT.out.step hb4)
  clear p0 p1 p2 r0 r1 r2 fz0 fz1 q1 hb4
  obtain ⟨⟨p0, p1, p2⟩, ⟨r0, r1, r2⟩, fz0, fz1⟩ := HT4.out.cells
  cases o with
  | false =>
    have HRE : Hid (ifD n f d = (d, 0)) := Lib.hid (by rw [HO.out]; rfl)
    have HTR := Lib.hid (HT4.out.put1 (a' := .slice a z cap) (b' := .bool d.off) (c' := .int .i64 d.fuse))
    unfold putB at HTR
    go_wp2_with fail
    obtain ⟨_, ⟨r0', r1', r2'⟩, _, _⟩ := HTR.out.cells
    exact bodyPost_ret (v := .tuple #[.agg #[.slice a z cap, .bool d.off, .int .i64 d.fuse], .int .i64 0]) (by simp [results, Tryz.results49, go_sem, r0', r1', r2']) rfl ⟨.slice a z cap, by rw [HRE.out]; rfl, by rw [HRE.out]; exact HI.out.stays HTR.out.below, HTR.out.below⟩
  | true =>
    obtain ⟨res, hres⟩ : ∃ r, r = f d := ⟨_, rfl⟩
    have HRF := Lib.hid hres
    have HRES : Hid (ifD n f d = res) := Lib.hid (by rw [HO.out, hres]; rfl)
    clear hres p0 p1 p2 r0 r1 r2 fz0 fz1
    go_wp2_with fail
    refine wp_region_wordsG (by kernel_rfl) (by kernel_rfl) (appT 7 (fun _ _ => True)) (fun _ => True) wifE (wifU w0 a z cap d res b1 b2 n dk f) 10 wifN [7, 8] (by kernel_rfl) (by kernel_rfl) (by kernel_rfl)
      wifB (by kernel_rfl) (fun ix kx v e w w' hi hk hne hb hU hT => wif_T _ _ _ _ _ _ _ _ _ _ _  ix kx v e w w' hk hne hb hU hT) (by decide) trivial (fun kx hk hge => ?hv0)
      [17, 18, 19, 20, 21, 22, 23, 5] (by kernel_rfl) (forall_ops ?steps) ?behind
    case hv0 =>
      have hge' : 9 ≤ kx := hge
      rcases (show kx = 9 by omega) with rfl
      · exact HT4.out.step (Below.refl _ _).drew
    case steps =>
      refine ⟨?_, ?_, ?_, ?_, ?_, ?_, ?_, ?_, ?_, trivial⟩
      · refine stepG_of rfl ?_
        exact stepR_value (t := 17) (.func (.func dk) #[] #[]) rfl (fun _ => appT_other (by decide) (Below.refl _ _)) (fun ac w hG hN hO => by
          have e2 : slot ac 2 = .pointer (some ⟨b2, 0, none⟩) := hO 2 (by kernel_rfl)
          have hx : TwoB w0 w #[.slice a z cap, .bool d.off, .int .i64 d.fuse] #[.slice none 0 0, .bool false, .int .i64 0] := hN 9 (by decide)
          obtain ⟨⟨p0, p1, p2⟩, _, _, _⟩ := hx.cells
          obtain ⟨q1, _⟩ := row_one (HR1.out.step hx.below)
          obtain ⟨q2, _⟩ := row_one (HR2.out.step hx.below)
          have f2 := slot_at e2
          unfold execOp; go_simp) (fun ac w hG hN => rfl)
      · refine stepG_of rfl ?_
        exact stepR_value (t := 18) (.string n) rfl (fun _ => appT_other (by decide) (Below.refl _ _)) (fun ac w hG hN hO => by
          have e1 : slot ac 1 = .pointer (some ⟨b1, 0, none⟩) := hO 1 (by kernel_rfl)
          have hx : TwoB w0 w #[.slice a z cap, .bool d.off, .int .i64 d.fuse] #[.slice none 0 0, .bool false, .int .i64 0] := hN 9 (by decide)
          obtain ⟨⟨p0, p1, p2⟩, _, _, _⟩ := hx.cells
          obtain ⟨q1, _⟩ := row_one (HR1.out.step hx.below)
          obtain ⟨q2, _⟩ := row_one (HR2.out.step hx.below)
          have f1 := slot_at e1
          unfold execOp; go_simp) (fun ac w hG hN => rfl)
      · refine stepG_of rfl ?_
        intro ac wx hG hN hO
        have e17 : slot ac 17 = .func (.func dk) #[] #[] := hN 0 (by decide)
        have e18 : slot ac 18 = .string n := hN 1 (by decide)
        have hx : TwoB w0 wx #[.slice a z cap, .bool d.off, .int .i64 d.fuse] #[.slice none 0 0, .bool false, .int .i64 0] := hN 9 (by decide)
        refine wp_callv 17 _ _ rfl dk #[] e17 HE.out #[.string n] (by simp [eval_slot, e18]) (R := fun v wz => ActV wz v f ∧ Below wx.heap.size wx wz) (HD.out wx hx.below) ?_
        rintro v wz ⟨hv, hb⟩
        exact ⟨v, rfl, appT_other (by decide) hb, trivial, hv⟩
      · refine stepG_of rfl ?_
        exact stepR_value (t := 20) (.agg #[.slice a z cap, .bool d.off, .int .i64 d.fuse]) rfl (fun _ => appT_other (by decide) (Below.refl _ _)) (fun ac w hG hN hO => by
          have e3 : slot ac 3 = .pointer (some ⟨w0.heap.size, 0, none⟩) := hO 3 (by kernel_rfl)
          have hx : TwoB w0 w #[.slice a z cap, .bool d.off, .int .i64 d.fuse] #[.slice none 0 0, .bool false, .int .i64 0] := hN 9 (by decide)
          obtain ⟨⟨p0, p1, p2⟩, _, _, _⟩ := hx.cells
          obtain ⟨q1, _⟩ := row_one (HR1.out.step hx.below)
          obtain ⟨q2, _⟩ := row_one (HR2.out.step hx.below)
          have f3 := slot_at e3
          unfold execOp; go_simp) (fun ac w hG hN => rfl)
      · refine stepG_of rfl ?_
        intro ac wx hG hN hO
        have h2 : ActV wx (slot ac 19) f := hN 2 (by decide)
        have e20 : slot ac 20 = .agg #[.slice a z cap, .bool d.off, .int .i64 d.fuse] := hN 3 (by decide)
        have hx : TwoB w0 wx #[.slice a z cap, .bool d.off, .int .i64 d.fuse] #[.slice none 0 0, .bool false, .int .i64 0] := hN 9 (by decide)
        obtain ⟨fk, cp, e19, hE, _, hact⟩ := h2
        refine wp_callv 19 _ _ rfl fk cp e19 hE #[.agg #[.slice a z cap, .bool d.off, .int .i64 d.fuse]] (by simp [eval_slot, e20]) (R := fun v wz => OutD res v wz ∧ Below wx.heap.size wx wz) ((by have h9 := hact wx (Below.refl _ _) d (.slice a z cap) (HI.out.stays hx.below) HF.out; rw [← HRF.out] at h9; exact h9 : Calls Tryz.prog fk (#[.agg #[.slice a z cap, .bool d.off, .int .i64 d.fuse]] ++ cp) wx (RetD res wx)).mono fun e wz hz => hz.out) ?_
        rintro v wz ⟨hv, hb⟩
        exact ⟨v, rfl, appT_other (by decide) hb, trivial, hv⟩
      · refine stepG_of rfl ?_
        intro ac wx hG hN hO
        have h4 : OutD res (slot ac 21) wx := hN 4 (by decide)
        obtain ⟨a5, z5, c5, e21, h5⟩ := h4
        have f21 := slot_at e21
        exact wp_value (v := .agg #[.slice a5 z5 c5, .bool res.1.off, .int .i64 res.1.fuse]) (w' := wx) (by unfold execOp; go_simp) ⟨_, rfl, appT_other (by decide) (Below.refl _ _), trivial, a5, z5, c5, rfl, h5⟩
      · refine stepG_of rfl ?_
        intro ac wx hG hN hO
        have h4 : OutD res (slot ac 21) wx := hN 4 (by decide)
        obtain ⟨a5, z5, c5, e21, h5⟩ := h4
        have f21 := slot_at e21
        exact wp_value (v := .int .i64 res.2) (w' := wx) (by unfold execOp; go_simp) ⟨_, rfl, appT_other (by decide) (Below.refl _ _), trivial, rfl⟩
      · refine stepG_of rfl ?_
        intro ac wx hG hN hO
        have h5 : OutD1 res (slot ac 22) wx := hN 5 (by decide)
        have e4 : slot ac 4 = .pointer (some ⟨w0.heap.size + 1, 0, none⟩) := hO 4 (by kernel_rfl)
        have hx : TwoB w0 wx #[.slice a z cap, .bool d.off, .int .i64 d.fuse] #[.slice none 0 0, .bool false, .int .i64 0] := hN 9 (by decide)
        obtain ⟨a5, z5, c5, e22, h5⟩ := h5
        refine wp_store_disk rfl e4 e22 hx.res ?_
        exact ⟨_, rfl, appT_at trivial, trivial, a5, z5, c5, hx.put1, dfs_put_Wlc hx.res h5⟩
      · refine stepG_of rfl ?_
        exact stepR_value (t := 5) (.int .i64 res.2) rfl (fun _ => appT_other (by decide) (Below.refl _ _)) (fun ac w hG hN hO => by
          have e23 : slot ac 23 = .int .i64 res.2 := hN 6 (by decide)
          exact run_move_slot (.inr rfl) e23) (fun ac w hG hN => rfl)
    case behind =>
      intro ac w5 hG hV hS ha
      have h7 : OutB res w0 #[.slice a z cap, .bool d.off, .int .i64 d.fuse] w5 := hV 7 (by decide) (by decide)
      have h8 : slot ac 5 = .int .i64 res.2 := hV 8 (by decide) (by decide)
      generalize slot ac = sl at ha h8
      subst ha
      simp only [patchL, List.contains_cons, List.contains_nil, Nat.reduceBEq, Bool.or_false, Bool.or_true, if_true, Bool.false_eq_true, if_false, Nat.reduceAdd]
      generalize sl 17 = s17
      generalize sl 18 = s18
      generalize sl 19 = s19
      generalize sl 20 = s20
      generalize sl 21 = s21
      generalize sl 22 = s22
      generalize sl 23 = s23
      generalize sl 5 = s5 at h8 ⊢
      subst h8
      clear hV hS
      obtain ⟨a5, z5, c5, hT5, hI5⟩ := h7
      have HT5 := Lib.hid hT5; have HI5 := Lib.hid hI5
      clear hT5 hI5 hG
      go_wp2
      obtain ⟨_, ⟨r0', r1', r2'⟩, _, _⟩ := HT5.out.cells
      exact bodyPost_ret (v := .tuple #[.agg #[.slice a5 z5 c5, .bool res.1.off, .int .i64 res.1.fuse], .int .i64 res.2]) (by simp [results, Tryz.results49, go_sem, r0', r1', r2']) rfl ⟨.slice a5 z5 c5, by rw [HRES.out]; rfl, by rw [HRES.out]; exact HI5.out, HT5.out.below⟩
set_option maxRecDepth 100000 in
set_option maxHeartbeats 2000000 in
theorem ifThere_any (n : ByteArray) (dk : FuncId) (f : Dsk → Dsk × Int) (w : World) (hE : Enters Tryz.prog dk) (hfit : ∀ d, FitD nameB d → FitD nameB (f d).1)
    (hD : ∀ W, Calls Tryz.prog dk #[.string n] W fun e w' => ∃ v, e = .returned v ∧ ActV w' v f ∧ Below W.heap.size W w') :
    Calls Tryz.prog 25 #[.string n, .func (.func dk) #[] #[]] w fun e w' => ∃ v, e = .returned v ∧ ActV w' v (ifD n f) ∧ Below w.heap.size w w' := by
  obtain ⟨W, hW⟩ : ∃ W, W = (w.alloc (.cells #[.string n] 9)).alloc (.cells #[.func (.func dk) #[] #[]] 53) := ⟨_, rfl⟩
  have hb : Below w.heap.size w W := by rw [hW]; exact ((Below.refl _ _).alloc (by simp) _).alloc (by simp) _
  have g1 : Row W w.heap.size #[.string n] 9 := by rw [hW]; exact (Row.made _ _ _).alloc _
  have g2 : Row W (w.heap.size + 1) #[.func (.func dk) #[] #[]] 53 := by
    have h0 := Row.made (w.alloc (.cells #[.string n] 9)) #[.func (.func dk) #[] #[]] 53
    have hs : (w.alloc (.cells #[.string n] 9)).heap.size = w.heap.size + 1 := by simp
    rw [hs] at h0
    rw [hW]; exact h0
  have HB := Lib.hid hb; have HW := Lib.hid hW
  have HA : Hid (ActV W (.func (.func 49) #[] #[.pointer (some ⟨w.heap.size, 0, none⟩), .pointer (some ⟨w.heap.size + 1, 0, none⟩)]) (ifD n f)) := Lib.hid ⟨49, _, rfl, enters_of Tryz.func49 (by kernel_rfl) rfl, ifD_fit hfit, fun W' hW' d u hu hf => ifThere1_any _ _ n dk f W' (g1.step hW') (g2.step hW') hE (fun W'' _ => hD W'') d u hu hf⟩
  clear hW hb g1 g2 hE hD hfit
  go_enter Tryz.func25, Tryz.ntmps25
  go_wp2
  go_ret
  rw [← HW.out]
  exact ⟨_, rfl, HA.out, HB.out⟩
def wapU (w0 : World) (a : Option Addr) (z cap : Nat) (d : Dsk) (res : Dsk × Int) (X W : ByteArray) (q : Nat) (F1 F2 : Dsk → Dsk × Int) : Nat → Value → Value → World → Prop
  | 0 => fun v _ _ => v = .agg #[.slice a z cap, .bool d.off, .int .i64 d.fuse]
  | 1 => fun v _ _ => v = .string X
  | 2 => fun v _ _ => v = .int .i64 q
  | 3 => fun v _ _ => v = .string W
  | 4 => fun v _ wz => ActV wz v F1
  | 5 => fun v _ wz => ActV wz v F2
  | 6 => fun v _ wz => IsActs wz v [F1, F2]
  | 7 => fun v _ wz => OutD res v wz
  | 8 => fun v _ wz => OutD1 res v wz
  | 9 => fun v _ _ => v = .int .i64 res.2
  | 10 => fun _ _ wz => OutB res w0 #[.slice a z cap, .bool d.off, .int .i64 d.fuse] wz
  | 11 => fun v _ _ => v = .int .i64 res.2
  | 12 => fun _ _ wz => TwoB w0 wz #[.slice a z cap, .bool d.off, .int .i64 d.fuse] #[.slice none 0 0, .bool false, .int .i64 0]
  | _ => fun _ _ _ => True
def wapN : List (List Nat) := [[12], [], [1], [], [2, 3, 12], [12], [4, 5], [0, 6, 12], [7], [7], [8, 12], [9]]
def wapE : Nat → Option Tmp
  | _ => none
def wapB : List (Nat × Nat) := [(10, 4), (10, 5), (10, 6), (10, 7), (10, 8), (10, 12)]
theorem wap_T (w0 : World) (a : Option Addr) (z cap : Nat) (d : Dsk) (res : Dsk × Int) (X W : ByteArray) (q : Nat) (F1 F2 : Dsk → Dsk × Int) (ix kx : Nat) (v e : Value) (w w' : World) (hk : kx < 13) (hne : kx ≠ ix) (hbd : (ix, kx) ∉ wapB) (hU : (wapU w0 a z cap d res X W q F1 F2) kx v e w) (hT : (appT 10 (fun _ _ => True)) ix w w') : (wapU w0 a z cap d res X W q F1 F2) kx v e w' := by
  by_cases hi10 : ix = 10
  · subst hi10
    have hR := appT_in hT
    rcases (show kx = 0 ∨ kx = 1 ∨ kx = 2 ∨ kx = 3 ∨ kx = 4 ∨ kx = 5 ∨ kx = 6 ∨ kx = 7 ∨ kx = 8 ∨ kx = 9 ∨ kx = 10 ∨ kx = 11 ∨ kx = 12 by omega) with rfl | rfl | rfl | rfl | rfl | rfl | rfl | rfl | rfl | rfl | rfl | rfl | rfl
    iterate 4 exact hU
    · exact absurd (by decide) hbd
    · exact absurd (by decide) hbd
    · exact absurd (by decide) hbd
    · exact absurd (by decide) hbd
    · exact absurd (by decide) hbd
    · exact hU
    · exact absurd rfl hne
    · exact hU
    · exact absurd (by decide) hbd
  have hb : Below w.heap.size w w' := appT_out hi10 hT
  rcases (show kx = 0 ∨ kx = 1 ∨ kx = 2 ∨ kx = 3 ∨ kx = 4 ∨ kx = 5 ∨ kx = 6 ∨ kx = 7 ∨ kx = 8 ∨ kx = 9 ∨ kx = 10 ∨ kx = 11 ∨ kx = 12 by omega) with rfl | rfl | rfl | rfl | rfl | rfl | rfl | rfl | rfl | rfl | rfl | rfl | rfl
  iterate 4 exact hU
  · exact ActV.stays hU hb
  · exact ActV.stays hU hb
  · exact IsActs.stays hU hb
  · exact OutD.stays hU hb
  · exact OutD1.stays hU hb
  · exact hU
  · exact OutB.stays hU hb
  · exact hU
  · exact TwoB.step hU hb
set_option maxRecDepth 100000 in
set_option maxHeartbeats 8000000 in
theorem pLogAppend_any (d : Dsk) (v0 lv : Value) (L : List ByteArray) (w0 : World) (h : IsDfs w0 v0 d.fs) (hl : IsStrs w0 lv L) (hf : FitD nameB d) (hm : ∀ x ∈ L, x.size ≤ maxLen) :
    Calls Tryz.prog 9 #[dskV v0 d, lv] w0 (RetD (appendD d (txts L)) w0) := by
  have HL := Lib.hid hl; have HM := Lib.hid hm
  obtain ⟨_, la, lc, hlu, _, _⟩ := id hl
  obtain ⟨lz, hlz⟩ : ∃ z, z = L.length := ⟨_, rfl⟩
  rw [← hlz] at hlu
  subst hlu
  obtain ⟨_, a, cap, hu, _, _⟩ := id h
  obtain ⟨z, hz⟩ : ∃ z, z = d.fs.length := ⟨_, rfl⟩
  rw [← hz] at hu
  subst hu
  obtain ⟨V, hV⟩ : ∃ V, V = (w0.alloc (.cells #[.slice a z cap, .bool d.off, .int .i64 d.fuse] 28)).alloc (.cells #[.slice none 0 0, .bool false, .int .i64 0] 28) := ⟨_, rfl⟩
  have hT := twoB_new w0 a z cap d.off d.fuse
  rw [← hV] at hT
  have HV := Lib.hid hV; have HT := Lib.hid hT; have HI := Lib.hid h; have HF := Lib.hid hf
  obtain ⟨⟨p0, p1, p2⟩, ⟨r0, r1, r2⟩, fz0, fz1⟩ := hT.cells
  have CP := Lib.hid (fun W (hW : Below w0.heap.size w0 W) => parts16_any d (.slice a z cap) W (HI.out.stays hW) HF.out)
  obtain ⟨B, hB⟩ : ∃ B, B = (logB d).1 := ⟨_, rfl⟩
  obtain ⟨q, hq⟩ : ∃ q, q = scanEnd B := ⟨_, rfl⟩
  obtain ⟨X, hX⟩ : ∃ X, X = strT (B.take q) := ⟨_, rfl⟩
  obtain ⟨tn, htn⟩ : ∃ t, t = decide (q ≠ B.length) := ⟨_, rfl⟩
  rw [← hB, ← hq, ← hX, ← htn] at CP
  have HQB := Lib.hid hq; have HBB := Lib.hid hB; have HXX := Lib.hid hX; have HTN := Lib.hid htn
  have HBL : Hid (B.length ≤ 262144) := Lib.hid (by rw [hB]; exact logB_len hf)
  have HQL : Hid (q ≤ B.length) := Lib.hid (by rw [hq]; exact scanEnd_le B)
  have HXS : Hid (X.size = q) := Lib.hid (by rw [hX, strT_size, List.length_take]; have := HQL.out; omega)
  unfold dskV at CP
  have CW := Lib.hid (fun W (hW : Below w0.heap.size w0 W) => wrapped_any (.slice la lz lc) L W (HL.out.stays hW) HM.out)
  obtain ⟨⟨T, ok⟩, hT9⟩ : ∃ r, r = framesT (txts L) := ⟨_, rfl⟩
  rw [← hT9] at CW
  dsimp only at CW
  obtain ⟨W, hW⟩ : ∃ S, S = strT T := ⟨_, rfl⟩
  rw [← hW] at CW
  have HA2 : Hid (q ≠ B.length → appendD d (txts L) = (d, 2)) := Lib.hid (fun hh => by unfold appendD; rw [← hB]; exact if_pos (by rw [← hq]; exact hh))
  have HA4 : Hid (q = B.length → ok = false → appendD d (txts L) = (d, 4)) := Lib.hid (fun h1 h2 => by
    unfold appendD; rw [← hB, if_neg (by rw [← hq]; exact fun c => c h1)]
    refine if_pos fun c => ?_
    rw [framesT_yes c, h2] at hT9; cases (Prod.mk.inj hT9).2)
  have HOK : Hid (ok = true → FitR (txts L) ∧ T = wraps (txts L)) := Lib.hid (fun h2 => by
    by_cases c : FitR (txts L)
    · rw [framesT_yes c] at hT9; exact ⟨c, (Prod.mk.inj hT9).1⟩
    · rw [framesT_no c, h2] at hT9; cases (Prod.mk.inj hT9).2)
  have HLZ := Lib.hid hlz
  have HNL : Hid (lz = 0 → txts L = []) := Lib.hid fun e => List.length_eq_zero_iff.1 (by rw [txts_len, ← hlz]; exact e)
  have HA0 : Hid (q = B.length → ok = true → lz = 0 → appendD d (txts L) = (d, 0)) := Lib.hid (fun h1 h2 h3 => by
    obtain ⟨g1, g2⟩ := HOK.out h2
    unfold appendD; rw [← hB, if_neg (by rw [← hq]; exact fun c => c h1), if_neg (fun c => c g1)]
    exact if_pos (HNL.out h3))
  have HAW : Hid (q = B.length → ok = true → lz ≠ 0 → appendD d (txts L) = chainD [fun d => writeD nameB d nLOG (q : Nat) W, fun d => syncD d nLOG] d) := Lib.hid (fun h1 h2 h3 => by
    obtain ⟨g1, g2⟩ := HOK.out h2
    rw [chain_two]
    unfold appendD andD
    rw [← hB, if_neg (by rw [← hq]; exact fun c => c h1), if_neg (fun c => c g1), if_neg (fun c => h3 (by rw [hlz, ← txts_len, c]; rfl)), ← hq, hW, g2]
    dsimp only
    by_cases c : (writeD nameB d nLOG (q : Nat) (strT (wraps (txts L)))).2 = 0
    · rw [if_neg (fun c' => c' c), if_pos c]
    · rw [if_pos c, if_neg c])
  have HWS : Hid (W.size ≤ 65536) := Lib.hid (by
    rw [hW, strT_size]
    cases ok with
    | true => obtain ⟨g1, g2⟩ := HOK.out rfl; rw [g2]; exact g1.2
    | false =>
      by_cases c : FitR (txts L)
      · rw [framesT_yes c] at hT9; cases (Prod.mk.inj hT9).2
      · rw [framesT_no c] at hT9; rw [(Prod.mk.inj hT9).1]; exact Nat.zero_le _)
  have C1 := Lib.hid (CP.out V hT.below)
  clear h hl hf hm hz hlz hB hq hX htn hT9 hW hV hT
  unfold dskV
  go_enter Tryz.func9, Tryz.ntmps9
  go_wp2_with fail
  rw [← HV.out]
  go_wp2_with fail
  refine C1.out.mono ?_
  rintro e w2 ⟨rfl, hb2⟩
  have HT2 := Lib.hid (HT.out.step hb2)
  have C2 := Lib.hid (CW.out w2 HT2.out.below)
  clear p0 p1 p2 r0 r1 r2 fz0 fz1 hb2
  go_wp2_with fail
  refine C2.out.mono ?_
  rintro e w4 ⟨rfl, hb4⟩
  have HT4 := Lib.hid (HT2.out.step hb4)
  clear hb4
  cases tn with
  | true =>
    have HRE : Hid (appendD d (txts L) = (d, 2)) := Lib.hid (HA2.out (by have := HTN.out; exact of_decide_eq_true this.symm))
    obtain ⟨⟨p0, p1, p2⟩, ⟨r0, r1, r2⟩, fz0, fz1⟩ := HT4.out.cells
    have CK := Lib.hid (copied_any d (.slice a z cap) _ (HI.out.stays HT4.out.below) (Nat.le_trans HF.out.many (by decide)) fun f hm => Nat.le_trans (HF.out.files f hm).many (by decide))
    unfold dskV at CK
    go_wp2_with fail
    refine CK.out.mono ?_
    rintro e w8 ⟨a8, z8, c8, rfl, h8, hb8⟩
    have hT8 := HT4.out.step hb8
    have HIR := Lib.hid (dfs_put_Wlc (x := .slice a8 z8 c8) (y := .bool d.off) (z := .int .i64 d.fuse) hT8.res h8)
    have HTR := Lib.hid (hT8.put1 (a' := .slice a8 z8 c8) (b' := .bool d.off) (c' := .int .i64 d.fuse))
    unfold putB at HTR HIR
    clear p0 p1 p2 r0 r1 r2 fz0 fz1
    obtain ⟨⟨p0, p1, p2⟩, ⟨r0, r1, r2⟩, fz0, fz1⟩ := hT8.cells
    clear h8 hb8 hT8 CK
    go_wp2_with fail
    obtain ⟨_, ⟨r0', r1', r2'⟩, _, _⟩ := HTR.out.cells
    exact bodyPost_ret (v := .tuple #[.agg #[.slice a8 z8 c8, .bool d.off, .int .i64 d.fuse], .int .i64 2]) (by simp [results, Tryz.results9, go_sem, r0', r1', r2']) rfl ⟨.slice a8 z8 c8, by rw [HRE.out]; rfl, by rw [HRE.out]; exact HIR.out, HTR.out.below⟩
  | false =>
    have hqb : q = B.length := Classical.byContradiction fun c => by have h9 := HTN.out; rw [decide_eq_true c] at h9; cases h9
    cases ok with
    | false =>
      have HRE := Lib.hid (HA4.out hqb rfl)
      obtain ⟨⟨p0, p1, p2⟩, ⟨r0, r1, r2⟩, fz0, fz1⟩ := HT4.out.cells
      have CK := Lib.hid (copied_any d (.slice a z cap) _ (HI.out.stays HT4.out.below) (Nat.le_trans HF.out.many (by decide)) fun f hm => Nat.le_trans (HF.out.files f hm).many (by decide))
      unfold dskV at CK
      go_wp2_with fail
      refine CK.out.mono ?_
      rintro e w8 ⟨a8, z8, c8, rfl, h8, hb8⟩
      have hT8 := HT4.out.step hb8
      have HIR := Lib.hid (dfs_put_Wlc (x := .slice a8 z8 c8) (y := .bool d.off) (z := .int .i64 d.fuse) hT8.res h8)
      have HTR := Lib.hid (hT8.put1 (a' := .slice a8 z8 c8) (b' := .bool d.off) (c' := .int .i64 d.fuse))
      unfold putB at HTR HIR
      clear p0 p1 p2 r0 r1 r2 fz0 fz1
      obtain ⟨⟨p0, p1, p2⟩, ⟨r0, r1, r2⟩, fz0, fz1⟩ := hT8.cells
      clear h8 hb8 hT8 CK
      go_wp2_with fail
      obtain ⟨_, ⟨r0', r1', r2'⟩, _, _⟩ := HTR.out.cells
      exact bodyPost_ret (v := .tuple #[.agg #[.slice a8 z8 c8, .bool d.off, .int .i64 d.fuse], .int .i64 4]) (by simp [results, Tryz.results9, go_sem, r0', r1', r2']) rfl ⟨.slice a8 z8 c8, by rw [HRE.out]; rfl, by rw [HRE.out]; exact HIR.out, HTR.out.below⟩
    | true =>
      by_cases h0 : lz = 0
      · have HRE := Lib.hid (HA0.out hqb rfl h0)
        have hb0 : ((lz : Int) == 0) = true := by simpa using h0
        clear h0
        obtain ⟨⟨p0, p1, p2⟩, ⟨r0, r1, r2⟩, fz0, fz1⟩ := HT4.out.cells
        have CK := Lib.hid (copied_any d (.slice a z cap) _ (HI.out.stays HT4.out.below) (Nat.le_trans HF.out.many (by decide)) fun f hm => Nat.le_trans (HF.out.files f hm).many (by decide))
        unfold dskV at CK
        go_wp2_with fail
        refine CK.out.mono ?_
        rintro e w8 ⟨a8, z8, c8, rfl, h8, hb8⟩
        have hT8 := HT4.out.step hb8
        have HIR := Lib.hid (dfs_put_Wlc (x := .slice a8 z8 c8) (y := .bool d.off) (z := .int .i64 d.fuse) hT8.res h8)
        have HTR := Lib.hid (hT8.put1 (a' := .slice a8 z8 c8) (b' := .bool d.off) (c' := .int .i64 d.fuse))
        unfold putB at HTR HIR
        clear p0 p1 p2 r0 r1 r2 fz0 fz1
        obtain ⟨⟨p0, p1, p2⟩, ⟨r0, r1, r2⟩, fz0, fz1⟩ := hT8.cells
        clear h8 hb8 hT8 CK
        go_wp2_with fail
        obtain ⟨_, ⟨r0', r1', r2'⟩, _, _⟩ := HTR.out.cells
        exact bodyPost_ret (v := .tuple #[.agg #[.slice a8 z8 c8, .bool d.off, .int .i64 d.fuse], .int .i64 0]) (by simp [results, Tryz.results9, go_sem, r0', r1', r2']) rfl ⟨.slice a8 z8 c8, by rw [HRE.out]; rfl, by rw [HRE.out]; exact HIR.out, HTR.out.below⟩
      · have hb0 : ((lz : Int) == 0) = false := by simpa using h0
        obtain ⟨F1, hF1⟩ : ∃ F : Dsk → Dsk × Int, F = fun d => writeD nameB d nLOG (q : Nat) W := ⟨_, rfl⟩
        obtain ⟨F2, hF2⟩ : ∃ F : Dsk → Dsk × Int, F = fun d => syncD d nLOG := ⟨_, rfl⟩
        have h9 := HAW.out hqb rfl h0
        rw [← hF1, ← hF2] at h9
        obtain ⟨res, hres⟩ : ∃ r, r = chainD [F1, F2] d := ⟨_, rfl⟩
        rw [← hres] at h9
        have HRES := Lib.hid h9
        have CM1 : Hid (∀ W1, Calls Tryz.prog 22 #[.string ⟨#[108, 111, 103]⟩, .int .i64 q, .string W] W1 fun e w' => ∃ v, e = .returned v ∧ ActV w' v F1 ∧ Below W1.heap.size W1 w') := Lib.hid fun W1 => by
          rw [hF1]; exact writing_any nLOG q W W1 (by decide) (by have := HBL.out; omega) (by have := HWS.out; omega)
        have CM2 : Hid (∀ W1, Calls Tryz.prog 23 #[.string ⟨#[108, 111, 103]⟩] W1 fun e w' => ∃ v, e = .returned v ∧ ActV w' v F2 ∧ Below W1.heap.size W1 w') := Lib.hid fun W1 => by
          rw [hF2]; exact syncing_any nLOG W1
        have CH : Hid (∀ W1 u, Below w0.heap.size w0 W1 → IsActs W1 u [F1, F2] → Calls Tryz.prog 21 #[.agg #[.slice a z cap, .bool d.off, .int .i64 d.fuse], u] W1 (RetD res W1)) := Lib.hid fun W1 u hW1 hu => by
          rw [hres]; exact chain_any [F1, F2] u d (.slice a z cap) W1 (HI.out.stays hW1) HF.out hu
        have hxs : (X.size : Int) = q := by rw [HXS.out]
        clear h0 h9 hF1 hF2 hres hqb
        go_wp2_with fail
        refine wp_region_wordsG (by kernel_rfl) (by kernel_rfl) (appT 10 (fun _ _ => True)) (fun _ => True) wapE (wapU w0 a z cap d res X W q F1 F2) 13 wapN [10, 11] (by kernel_rfl) (by kernel_rfl) (by kernel_rfl)
          wapB (by kernel_rfl) (fun ix kx v e w w' hi hk hne hb hU hT => wap_T _ _ _ _ _ _ _ _ _ _ _  ix kx v e w w' hk hne hb hU hT) (by decide) trivial (fun kx hk hge => ?hv0)
          [35, 36, 37, 38, 39, 40, 41, 42, 43, 44, 5] (by kernel_rfl) (forall_ops ?steps) ?behind
        case hv0 =>
          have hge' : 12 ≤ kx := hge
          rcases (show kx = 12 by omega) with rfl
          · exact HT4.out.step (Below.refl _ _).drew
        case steps =>
          refine ⟨?_, ?_, ?_, ?_, ?_, ?_, ?_, ?_, ?_, ?_, ?_, ?_, trivial⟩
          · refine stepG_of rfl ?_
            exact stepR_value (t := 35) (.agg #[.slice a z cap, .bool d.off, .int .i64 d.fuse]) rfl (fun _ => appT_other (by decide) (Below.refl _ _)) (fun ac w hG hN hO => by
              have e2 : slot ac 2 = .pointer (some ⟨w0.heap.size, 0, none⟩) := hO 2 (by kernel_rfl)
              have hx : TwoB w0 w #[.slice a z cap, .bool d.off, .int .i64 d.fuse] #[.slice none 0 0, .bool false, .int .i64 0] := hN 12 (by decide)
              obtain ⟨⟨p0, p1, p2⟩, _, _, _⟩ := hx.cells
              have f2 := slot_at e2
              unfold execOp; go_simp) (fun ac w hG hN => rfl)
          · refine stepG_of rfl ?_
            exact stepR_value (t := 36) (.string X) rfl (fun _ => appT_other (by decide) (Below.refl _ _)) (fun ac w hG hN hO => by
              have e6 : slot ac 6 = .string X := hO 6 (by kernel_rfl)
              exact run_move_slot (.inl rfl) e6) (fun ac w hG hN => rfl)
          · refine stepG_of rfl ?_
            exact stepR_value (t := 37) (.int .i64 q) rfl (fun _ => appT_other (by decide) (Below.refl _ _)) (fun ac w hG hN hO => by
              have e36 : slot ac 36 = .string X := hN 1 (by decide)
              have f36 := slot_at e36
              unfold execOp; go_simp) (fun ac w hG hN => rfl)
          · refine stepG_of rfl ?_
            exact stepR_value (t := 38) (.string W) rfl (fun _ => appT_other (by decide) (Below.refl _ _)) (fun ac w hG hN hO => by
              have e8 : slot ac 8 = .string W := hO 8 (by kernel_rfl)
              exact run_move_slot (.inl rfl) e8) (fun ac w hG hN => rfl)
          · refine stepG_of rfl ?_
            intro ac wx hG hN hO
            have e37 : slot ac 37 = .int .i64 q := hN 2 (by decide)
            have e38 : slot ac 38 = .string W := hN 3 (by decide)
            have hx : TwoB w0 wx #[.slice a z cap, .bool d.off, .int .i64 d.fuse] #[.slice none 0 0, .bool false, .int .i64 0] := hN 12 (by decide)
            refine wp_callx 22 _ _ rfl (enters_of Tryz.func22 (by kernel_rfl) rfl) #[.string ⟨#[108, 111, 103]⟩, .int .i64 q, .string W] (by simp [eval_const, eval_slot, e37, e38]) (R := fun v wz => ActV wz v F1 ∧ Below wx.heap.size wx wz) (CM1.out wx) ?_
            rintro v wz ⟨hv, hb⟩
            exact ⟨v, rfl, appT_other (by decide) hb, trivial, hv⟩
          · refine stepG_of rfl ?_
            intro ac wx hG hN hO
            have hx : TwoB w0 wx #[.slice a z cap, .bool d.off, .int .i64 d.fuse] #[.slice none 0 0, .bool false, .int .i64 0] := hN 12 (by decide)
            refine wp_callx 23 _ _ rfl (enters_of Tryz.func23 (by kernel_rfl) rfl) #[.string ⟨#[108, 111, 103]⟩] (by simp [eval_const]) (R := fun v wz => ActV wz v F2 ∧ Below wx.heap.size wx wz) (CM2.out wx) ?_
            rintro v wz ⟨hv, hb⟩
            exact ⟨v, rfl, appT_other (by decide) hb, trivial, hv⟩
          · refine stepG_of rfl ?_
            intro ac wx hG hN hO
            have h4 : ActV wx (slot ac 39) F1 := hN 4 (by decide)
            obtain ⟨fk4, cp4, e39, g4⟩ := h4
            have f39 := slot_at e39
            have h5 : ActV wx (slot ac 40) F2 := hN 5 (by decide)
            obtain ⟨fk5, cp5, e40, g5⟩ := h5
            have f40 := slot_at e40
            exact wp_value (v := .slice (some ⟨wx.heap.size, 0, none⟩) 2 2) (w' := wx.alloc (.cells #[.func (.func fk4) #[] cp4, .func (.func fk5) #[] cp5] 51)) (by unfold execOp; go_simp) ⟨_, rfl, appT_other (by decide) ((Below.refl _ _).alloc (Nat.le_refl _) _), trivial, acts_two ⟨fk4, cp4, rfl, g4⟩ ⟨fk5, cp5, rfl, g5⟩⟩
          · refine stepG_of rfl ?_
            intro ac wx hG hN hO
            have e35 : slot ac 35 = .agg #[.slice a z cap, .bool d.off, .int .i64 d.fuse] := hN 0 (by decide)
            have h6 : IsActs wx (slot ac 41) [F1, F2] := hN 6 (by decide)
            have hx : TwoB w0 wx #[.slice a z cap, .bool d.off, .int .i64 d.fuse] #[.slice none 0 0, .bool false, .int .i64 0] := hN 12 (by decide)
            refine wp_callx 21 _ _ rfl (enters_of Tryz.func21 (by kernel_rfl) rfl) #[.agg #[.slice a z cap, .bool d.off, .int .i64 d.fuse], slot ac 41] (by simp [eval_slot, e35]) (R := fun v wz => OutD res v wz ∧ Below wx.heap.size wx wz) ((CH.out wx _ hx.below h6).mono fun e wz hz => hz.out) ?_
            rintro v wz ⟨hv, hb⟩
            exact ⟨v, rfl, appT_other (by decide) hb, trivial, hv⟩
          · refine stepG_of rfl ?_
            intro ac wx hG hN hO
            have h7 : OutD res (slot ac 42) wx := hN 7 (by decide)
            obtain ⟨a5, z5, c5, e42, h5⟩ := h7
            have f42 := slot_at e42
            exact wp_value (v := .agg #[.slice a5 z5 c5, .bool res.1.off, .int .i64 res.1.fuse]) (w' := wx) (by unfold execOp; go_simp) ⟨_, rfl, appT_other (by decide) (Below.refl _ _), trivial, a5, z5, c5, rfl, h5⟩
          · refine stepG_of rfl ?_
            intro ac wx hG hN hO
            have h7 : OutD res (slot ac 42) wx := hN 7 (by decide)
            obtain ⟨a5, z5, c5, e42, h5⟩ := h7
            have f42 := slot_at e42
            exact wp_value (v := .int .i64 res.2) (w' := wx) (by unfold execOp; go_simp) ⟨_, rfl, appT_other (by decide) (Below.refl _ _), trivial, rfl⟩
          · refine stepG_of rfl ?_
            intro ac wx hG hN hO
            have h8 : OutD1 res (slot ac 43) wx := hN 8 (by decide)
            have e4 : slot ac 4 = .pointer (some ⟨w0.heap.size + 1, 0, none⟩) := hO 4 (by kernel_rfl)
            have hx : TwoB w0 wx #[.slice a z cap, .bool d.off, .int .i64 d.fuse] #[.slice none 0 0, .bool false, .int .i64 0] := hN 12 (by decide)
            obtain ⟨a5, z5, c5, e43, h5⟩ := h8
            refine wp_store_disk rfl e4 e43 hx.res ?_
            exact ⟨_, rfl, appT_at trivial, trivial, a5, z5, c5, hx.put1, dfs_put_Wlc hx.res h5⟩
          · refine stepG_of rfl ?_
            exact stepR_value (t := 5) (.int .i64 res.2) rfl (fun _ => appT_other (by decide) (Below.refl _ _)) (fun ac w hG hN hO => by
              have e44 : slot ac 44 = .int .i64 res.2 := hN 9 (by decide)
              exact run_move_slot (.inr rfl) e44) (fun ac w hG hN => rfl)
        case behind =>
          intro ac w5 hG hV hS ha
          have h10 : OutB res w0 #[.slice a z cap, .bool d.off, .int .i64 d.fuse] w5 := hV 10 (by decide) (by decide)
          have h11 : slot ac 5 = .int .i64 res.2 := hV 11 (by decide) (by decide)
          generalize slot ac = sl at ha h11
          subst ha
          simp only [patchL, List.contains_cons, List.contains_nil, Nat.reduceBEq, Bool.or_false, Bool.or_true, if_true, Bool.false_eq_true, if_false, Nat.reduceAdd]
          generalize sl 35 = s35
          generalize sl 36 = s36
          generalize sl 37 = s37
          generalize sl 38 = s38
          generalize sl 39 = s39
          generalize sl 40 = s40
          generalize sl 41 = s41
          generalize sl 42 = s42
          generalize sl 43 = s43
          generalize sl 44 = s44
          generalize sl 5 = s5 at h11 ⊢
          subst h11
          clear hV hS
          obtain ⟨a5, z5, c5, hT5, hI5⟩ := h10
          have HT5 := Lib.hid hT5; have HI5 := Lib.hid hI5
          clear hT5 hI5 hG
          go_wp2
          obtain ⟨_, ⟨r0', r1', r2'⟩, _, _⟩ := HT5.out.cells
          exact bodyPost_ret (v := .tuple #[.agg #[.slice a5 z5 c5, .bool res.1.off, .int .i64 res.1.fuse], .int .i64 res.2]) (by simp [results, Tryz.results9, go_sem, r0', r1', r2']) rfl ⟨.slice a5 z5 c5, by rw [HRES.out]; rfl, by rw [HRES.out]; exact HI5.out, HT5.out.below⟩
def wtpU (w0 : World) (a : Option Addr) (z cap : Nat) (d : Dsk) (res : Dsk × Int) (F1 : Dsk → Dsk × Int) : Nat → Value → Value → World → Prop
  | 0 => fun v _ _ => v = .agg #[.slice a z cap, .bool d.off, .int .i64 d.fuse]
  | 1 => fun v _ wz => ActV wz v F1
  | 2 => fun v _ wz => IsActs wz v [F1]
  | 3 => fun v _ wz => OutD res v wz
  | 4 => fun v _ wz => OutD1 res v wz
  | 5 => fun v _ _ => v = .int .i64 res.2
  | 6 => fun _ _ wz => OutB res w0 #[.slice a z cap, .bool d.off, .int .i64 d.fuse] wz
  | 7 => fun v _ _ => v = .int .i64 res.2
  | 8 => fun _ _ wz => TwoB w0 wz #[.slice a z cap, .bool d.off, .int .i64 d.fuse] #[.slice none 0 0, .bool false, .int .i64 0]
  | _ => fun _ _ _ => True
def wtpN : List (List Nat) := [[8], [8], [1], [0, 2, 8], [3], [3], [4, 8], [5]]
def wtpE : Nat → Option Tmp
  | _ => none
def wtpB : List (Nat × Nat) := [(6, 1), (6, 2), (6, 3), (6, 4), (6, 8)]
theorem wtp_T (w0 : World) (a : Option Addr) (z cap : Nat) (d : Dsk) (res : Dsk × Int) (F1 : Dsk → Dsk × Int) (ix kx : Nat) (v e : Value) (w w' : World) (hk : kx < 9) (hne : kx ≠ ix) (hbd : (ix, kx) ∉ wtpB) (hU : (wtpU w0 a z cap d res F1) kx v e w) (hT : (appT 6 (fun _ _ => True)) ix w w') : (wtpU w0 a z cap d res F1) kx v e w' := by
  by_cases hi6 : ix = 6
  · subst hi6
    have hR := appT_in hT
    rcases (show kx = 0 ∨ kx = 1 ∨ kx = 2 ∨ kx = 3 ∨ kx = 4 ∨ kx = 5 ∨ kx = 6 ∨ kx = 7 ∨ kx = 8 by omega) with rfl | rfl | rfl | rfl | rfl | rfl | rfl | rfl | rfl
    · exact hU
    · exact absurd (by decide) hbd
    · exact absurd (by decide) hbd
    · exact absurd (by decide) hbd
    · exact absurd (by decide) hbd
    · exact hU
    · exact absurd rfl hne
    · exact hU
    · exact absurd (by decide) hbd
  have hb : Below w.heap.size w w' := appT_out hi6 hT
  rcases (show kx = 0 ∨ kx = 1 ∨ kx = 2 ∨ kx = 3 ∨ kx = 4 ∨ kx = 5 ∨ kx = 6 ∨ kx = 7 ∨ kx = 8 by omega) with rfl | rfl | rfl | rfl | rfl | rfl | rfl | rfl | rfl
  · exact hU
  · exact ActV.stays hU hb
  · exact IsActs.stays hU hb
  · exact OutD.stays hU hb
  · exact OutD1.stays hU hb
  · exact hU
  · exact OutB.stays hU hb
  · exact hU
  · exact TwoB.step hU hb
def wtqU (w0 : World) (a : Option Addr) (z cap : Nat) (d : Dsk) (res : Dsk × Int) (X : ByteArray) (F1 F2 F3 F4 : Dsk → Dsk × Int) : Nat → Value → Value → World → Prop
  | 0 => fun v _ _ => v = .agg #[.slice a z cap, .bool d.off, .int .i64 d.fuse]
  | 1 => fun v _ wz => ActV wz v F1
  | 2 => fun v _ _ => v = .string X
  | 3 => fun v _ wz => ActV wz v F2
  | 4 => fun v _ wz => ActV wz v F3
  | 5 => fun v _ wz => ActV wz v F4
  | 6 => fun v _ wz => IsActs wz v [F1, F2, F3, F4]
  | 7 => fun v _ wz => OutD res v wz
  | 8 => fun v _ wz => OutD1 res v wz
  | 9 => fun v _ _ => v = .int .i64 res.2
  | 10 => fun _ _ wz => OutB res w0 #[.slice a z cap, .bool d.off, .int .i64 d.fuse] wz
  | 11 => fun v _ _ => v = .int .i64 res.2
  | 12 => fun _ _ wz => TwoB w0 wz #[.slice a z cap, .bool d.off, .int .i64 d.fuse] #[.slice none 0 0, .bool false, .int .i64 0]
  | _ => fun _ _ _ => True
def wtqN : List (List Nat) := [[12], [12], [], [2, 12], [12], [12], [1, 3, 4, 5], [0, 6, 12], [7], [7], [8, 12], [9]]
def wtqE : Nat → Option Tmp
  | _ => none
def wtqB : List (Nat × Nat) := [(10, 1), (10, 3), (10, 4), (10, 5), (10, 6), (10, 7), (10, 8), (10, 12)]
theorem wtq_T (w0 : World) (a : Option Addr) (z cap : Nat) (d : Dsk) (res : Dsk × Int) (X : ByteArray) (F1 F2 F3 F4 : Dsk → Dsk × Int) (ix kx : Nat) (v e : Value) (w w' : World) (hk : kx < 13) (hne : kx ≠ ix) (hbd : (ix, kx) ∉ wtqB) (hU : (wtqU w0 a z cap d res X F1 F2 F3 F4) kx v e w) (hT : (appT 10 (fun _ _ => True)) ix w w') : (wtqU w0 a z cap d res X F1 F2 F3 F4) kx v e w' := by
  by_cases hi10 : ix = 10
  · subst hi10
    have hR := appT_in hT
    rcases (show kx = 0 ∨ kx = 1 ∨ kx = 2 ∨ kx = 3 ∨ kx = 4 ∨ kx = 5 ∨ kx = 6 ∨ kx = 7 ∨ kx = 8 ∨ kx = 9 ∨ kx = 10 ∨ kx = 11 ∨ kx = 12 by omega) with rfl | rfl | rfl | rfl | rfl | rfl | rfl | rfl | rfl | rfl | rfl | rfl | rfl
    · exact hU
    · exact absurd (by decide) hbd
    · exact hU
    · exact absurd (by decide) hbd
    · exact absurd (by decide) hbd
    · exact absurd (by decide) hbd
    · exact absurd (by decide) hbd
    · exact absurd (by decide) hbd
    · exact absurd (by decide) hbd
    · exact hU
    · exact absurd rfl hne
    · exact hU
    · exact absurd (by decide) hbd
  have hb : Below w.heap.size w w' := appT_out hi10 hT
  rcases (show kx = 0 ∨ kx = 1 ∨ kx = 2 ∨ kx = 3 ∨ kx = 4 ∨ kx = 5 ∨ kx = 6 ∨ kx = 7 ∨ kx = 8 ∨ kx = 9 ∨ kx = 10 ∨ kx = 11 ∨ kx = 12 by omega) with rfl | rfl | rfl | rfl | rfl | rfl | rfl | rfl | rfl | rfl | rfl | rfl | rfl
  · exact hU
  · exact ActV.stays hU hb
  · exact hU
  · exact ActV.stays hU hb
  · exact ActV.stays hU hb
  · exact ActV.stays hU hb
  · exact IsActs.stays hU hb
  · exact OutD.stays hU hb
  · exact OutD1.stays hU hb
  · exact hU
  · exact OutB.stays hU hb
  · exact hU
  · exact TwoB.step hU hb
set_option maxRecDepth 100000 in
set_option maxHeartbeats 8000000 in
theorem pLogTrim_any (d : Dsk) (v0 : Value) (w0 : World) (h : IsDfs w0 v0 d.fs) (hf : FitD nameB d) :
    Calls Tryz.prog 11 #[dskV v0 d] w0 (RetD (trimD d) w0) := by
  obtain ⟨_, a, cap, hu, _, _⟩ := id h
  obtain ⟨z, hz⟩ : ∃ z, z = d.fs.length := ⟨_, rfl⟩
  rw [← hz] at hu
  subst hu
  obtain ⟨V, hV⟩ : ∃ V, V = (w0.alloc (.cells #[.slice a z cap, .bool d.off, .int .i64 d.fuse] 28)).alloc (.cells #[.slice none 0 0, .bool false, .int .i64 0] 28) := ⟨_, rfl⟩
  have hT := twoB_new w0 a z cap d.off d.fuse
  rw [← hV] at hT
  have HV := Lib.hid hV; have HT := Lib.hid hT; have HI := Lib.hid h; have HF := Lib.hid hf
  obtain ⟨⟨p0, p1, p2⟩, ⟨r0, r1, r2⟩, fz0, fz1⟩ := hT.cells
  have CP := Lib.hid (fun W (hW : Below w0.heap.size w0 W) => parts16_any d (.slice a z cap) W (HI.out.stays hW) HF.out)
  obtain ⟨B, hB⟩ : ∃ B, B = (logB d).1 := ⟨_, rfl⟩
  obtain ⟨q, hq⟩ : ∃ q, q = scanEnd B := ⟨_, rfl⟩
  obtain ⟨X, hX⟩ : ∃ X, X = strT (B.take q) := ⟨_, rfl⟩
  obtain ⟨tn, htn⟩ : ∃ t, t = decide (q ≠ B.length) := ⟨_, rfl⟩
  rw [← hB, ← hq, ← hX, ← htn] at CP
  have HQB := Lib.hid hq; have HBB := Lib.hid hB; have HXX := Lib.hid hX; have HTN := Lib.hid htn
  have HBL : Hid (B.length ≤ 262144) := Lib.hid (by rw [hB]; exact logB_len hf)
  have HQL : Hid (q ≤ B.length) := Lib.hid (by rw [hq]; exact scanEnd_le B)
  have HXS : Hid (X.size = q) := Lib.hid (by rw [hX, strT_size, List.length_take]; have := HQL.out; omega)
  unfold dskV at CP
  have HAS : Hid (q = B.length → trimD d = chainD [ifD nLOG fun d => syncD d nLOG] d) := Lib.hid (fun h1 => by
    rw [chain_one]
    unfold trimD ifD
    rw [← hB, if_pos (by rw [← hq]; exact h1)]; rfl)
  have HAT : Hid (q ≠ B.length → trimD d = chainD [ifD nNEW fun d => removeD d nNEW, fun d => writeD nameB d nNEW 0 X, fun d => syncD d nNEW, fun d => renameD nameB d nNEW nLOG] d) := Lib.hid (fun h1 => by
    have key : logB (ifD nNEW (fun d => removeD d nNEW) d).1 = logB d := by
      unfold ifD
      split
      · exact logB_remove hf
      · rfl
    rw [chain_four]
    unfold trimD
    rw [← hB, if_neg (by rw [← hq]; exact h1)]
    show andD (andD (andD (ifD nNEW (fun d => removeD d nNEW) d) fun d => writeD nameB d nNEW 0 (strT ((logB d).1.take (scanEnd (logB d).1)))) fun d => syncD d nNEW) (fun d => renameD nameB d nNEW nLOG) = _
    rw [andD_congr (r := ifD nNEW (fun d => removeD d nNEW) d) (f := fun d => writeD nameB d nNEW 0 (strT ((logB d).1.take (scanEnd (logB d).1)))) (g := fun d => writeD nameB d nNEW 0 X) (by rw [key, ← hB, ← hq, ← hX])])
  have C1 := Lib.hid (CP.out V hT.below)
  clear h hf hz hB hq hX htn hV hT
  unfold dskV
  go_enter Tryz.func11, Tryz.ntmps11
  go_wp2_with fail
  rw [← HV.out]
  go_wp2_with fail
  refine C1.out.mono ?_
  rintro e w4 ⟨rfl, hb4⟩
  have HT4 := Lib.hid (HT.out.step hb4)
  clear p0 p1 p2 r0 r1 r2 fz0 fz1 hb4
  cases tn with
  | false =>
    have hqb : q = B.length := Classical.byContradiction fun c => by have h9 := HTN.out; rw [decide_eq_true c] at h9; cases h9
    obtain ⟨F1, hF1⟩ : ∃ F : Dsk → Dsk × Int, F = ifD nLOG fun d => syncD d nLOG := ⟨_, rfl⟩
    have h9 := HAS.out hqb
    rw [← hF1] at h9
    obtain ⟨res, hres⟩ : ∃ r, r = chainD [F1] d := ⟨_, rfl⟩
    rw [← hres] at h9
    have HRES := Lib.hid h9
    have CM1 : Hid (∀ W1, Calls Tryz.prog 25 #[.string ⟨#[108, 111, 103]⟩, .func (.func 23) #[] #[]] W1 fun e w' => ∃ v, e = .returned v ∧ ActV w' v F1 ∧ Below W1.heap.size W1 w') := Lib.hid fun W1 => by
      rw [hF1]; exact ifThere_any nLOG 23 (fun d => syncD d nLOG) W1 (enters_of Tryz.func23 (by kernel_rfl) rfl) (fun d hd => syncD_fit hd nLOG) (fun W2 => syncing_any nLOG W2)
    have CH : Hid (∀ W1 u, Below w0.heap.size w0 W1 → IsActs W1 u [F1] → Calls Tryz.prog 21 #[.agg #[.slice a z cap, .bool d.off, .int .i64 d.fuse], u] W1 (RetD res W1)) := Lib.hid fun W1 u hW1 hu => by
      rw [hres]; exact chain_any [F1] u d (.slice a z cap) W1 (HI.out.stays hW1) HF.out hu
    clear h9 hF1 hres hqb
    go_wp2_with fail
    refine wp_region_wordsG (by kernel_rfl) (by kernel_rfl) (appT 6 (fun _ _ => True)) (fun _ => True) wtpE (wtpU w0 a z cap d res F1) 9 wtpN [6, 7] (by kernel_rfl) (by kernel_rfl) (by kernel_rfl)
      wtpB (by kernel_rfl) (fun ix kx v e w w' hi hk hne hb hU hT => wtp_T _ _ _ _ _ _ _  ix kx v e w w' hk hne hb hU hT) (by decide) trivial (fun kx hk hge => ?hv0)
      [13, 14, 15, 16, 17, 18, 3] (by kernel_rfl) (forall_ops ?steps) ?behind
    case hv0 =>
      have hge' : 8 ≤ kx := hge
      rcases (show kx = 8 by omega) with rfl
      · exact HT4.out.step (Below.refl _ _).drew
    case steps =>
      refine ⟨?_, ?_, ?_, ?_, ?_, ?_, ?_, ?_, trivial⟩
      · refine stepG_of rfl ?_
        exact stepR_value (t := 13) (.agg #[.slice a z cap, .bool d.off, .int .i64 d.fuse]) rfl (fun _ => appT_other (by decide) (Below.refl _ _)) (fun ac w hG hN hO => by
          have e1 : slot ac 1 = .pointer (some ⟨w0.heap.size, 0, none⟩) := hO 1 (by kernel_rfl)
          have hx : TwoB w0 w #[.slice a z cap, .bool d.off, .int .i64 d.fuse] #[.slice none 0 0, .bool false, .int .i64 0] := hN 8 (by decide)
          obtain ⟨⟨p0, p1, p2⟩, _, _, _⟩ := hx.cells
          have f1 := slot_at e1
          unfold execOp; go_simp) (fun ac w hG hN => rfl)
      · refine stepG_of rfl ?_
        intro ac wx hG hN hO
        have hx : TwoB w0 wx #[.slice a z cap, .bool d.off, .int .i64 d.fuse] #[.slice none 0 0, .bool false, .int .i64 0] := hN 8 (by decide)
        refine wp_callx 25 _ _ rfl (enters_of Tryz.func25 (by kernel_rfl) rfl) #[.string ⟨#[108, 111, 103]⟩, .func (.func 23) #[] #[]] (by simp [eval_const, eval_func]) (R := fun v wz => ActV wz v F1 ∧ Below wx.heap.size wx wz) (CM1.out wx) ?_
        rintro v wz ⟨hv, hb⟩
        exact ⟨v, rfl, appT_other (by decide) hb, trivial, hv⟩
      · refine stepG_of rfl ?_
        intro ac wx hG hN hO
        have h1 : ActV wx (slot ac 14) F1 := hN 1 (by decide)
        obtain ⟨fk1, cp1, e14, g1⟩ := h1
        have f14 := slot_at e14
        exact wp_value (v := .slice (some ⟨wx.heap.size, 0, none⟩) 1 1) (w' := wx.alloc (.cells #[.func (.func fk1) #[] cp1] 51)) (by unfold execOp; go_simp) ⟨_, rfl, appT_other (by decide) ((Below.refl _ _).alloc (Nat.le_refl _) _), trivial, acts_one ⟨fk1, cp1, rfl, g1⟩⟩
      · refine stepG_of rfl ?_
        intro ac wx hG hN hO
        have e13 : slot ac 13 = .agg #[.slice a z cap, .bool d.off, .int .i64 d.fuse] := hN 0 (by decide)
        have h2 : IsActs wx (slot ac 15) [F1] := hN 2 (by decide)
        have hx : TwoB w0 wx #[.slice a z cap, .bool d.off, .int .i64 d.fuse] #[.slice none 0 0, .bool false, .int .i64 0] := hN 8 (by decide)
        refine wp_callx 21 _ _ rfl (enters_of Tryz.func21 (by kernel_rfl) rfl) #[.agg #[.slice a z cap, .bool d.off, .int .i64 d.fuse], slot ac 15] (by simp [eval_slot, e13]) (R := fun v wz => OutD res v wz ∧ Below wx.heap.size wx wz) ((CH.out wx _ hx.below h2).mono fun e wz hz => hz.out) ?_
        rintro v wz ⟨hv, hb⟩
        exact ⟨v, rfl, appT_other (by decide) hb, trivial, hv⟩
      · refine stepG_of rfl ?_
        intro ac wx hG hN hO
        have h3 : OutD res (slot ac 16) wx := hN 3 (by decide)
        obtain ⟨a5, z5, c5, e16, h5⟩ := h3
        have f16 := slot_at e16
        exact wp_value (v := .agg #[.slice a5 z5 c5, .bool res.1.off, .int .i64 res.1.fuse]) (w' := wx) (by unfold execOp; go_simp) ⟨_, rfl, appT_other (by decide) (Below.refl _ _), trivial, a5, z5, c5, rfl, h5⟩
      · refine stepG_of rfl ?_
        intro ac wx hG hN hO
        have h3 : OutD res (slot ac 16) wx := hN 3 (by decide)
        obtain ⟨a5, z5, c5, e16, h5⟩ := h3
        have f16 := slot_at e16
        exact wp_value (v := .int .i64 res.2) (w' := wx) (by unfold execOp; go_simp) ⟨_, rfl, appT_other (by decide) (Below.refl _ _), trivial, rfl⟩
      · refine stepG_of rfl ?_
        intro ac wx hG hN hO
        have h4 : OutD1 res (slot ac 17) wx := hN 4 (by decide)
        have e2 : slot ac 2 = .pointer (some ⟨w0.heap.size + 1, 0, none⟩) := hO 2 (by kernel_rfl)
        have hx : TwoB w0 wx #[.slice a z cap, .bool d.off, .int .i64 d.fuse] #[.slice none 0 0, .bool false, .int .i64 0] := hN 8 (by decide)
        obtain ⟨a5, z5, c5, e17, h5⟩ := h4
        refine wp_store_disk rfl e2 e17 hx.res ?_
        exact ⟨_, rfl, appT_at trivial, trivial, a5, z5, c5, hx.put1, dfs_put_Wlc hx.res h5⟩
      · refine stepG_of rfl ?_
        exact stepR_value (t := 3) (.int .i64 res.2) rfl (fun _ => appT_other (by decide) (Below.refl _ _)) (fun ac w hG hN hO => by
          have e18 : slot ac 18 = .int .i64 res.2 := hN 5 (by decide)
          exact run_move_slot (.inr rfl) e18) (fun ac w hG hN => rfl)
    case behind =>
      intro ac w5 hG hV hS ha
      have h6 : OutB res w0 #[.slice a z cap, .bool d.off, .int .i64 d.fuse] w5 := hV 6 (by decide) (by decide)
      have h7 : slot ac 3 = .int .i64 res.2 := hV 7 (by decide) (by decide)
      generalize slot ac = sl at ha h7
      subst ha
      simp only [patchL, List.contains_cons, List.contains_nil, Nat.reduceBEq, Bool.or_false, Bool.or_true, if_true, Bool.false_eq_true, if_false, Nat.reduceAdd]
      generalize sl 13 = s13
      generalize sl 14 = s14
      generalize sl 15 = s15
      generalize sl 16 = s16
      generalize sl 17 = s17
      generalize sl 18 = s18
      generalize sl 3 = s3 at h7 ⊢
      subst h7
      clear hV hS
      obtain ⟨a5, z5, c5, hT5, hI5⟩ := h6
      have HT5 := Lib.hid hT5; have HI5 := Lib.hid hI5
      clear hT5 hI5 hG
      go_wp2
      obtain ⟨_, ⟨r0', r1', r2'⟩, _, _⟩ := HT5.out.cells
      exact bodyPost_ret (v := .tuple #[.agg #[.slice a5 z5 c5, .bool res.1.off, .int .i64 res.1.fuse], .int .i64 res.2]) (by simp [results, Tryz.results11, go_sem, r0', r1', r2']) rfl ⟨.slice a5 z5 c5, by rw [HRES.out]; rfl, by rw [HRES.out]; exact HI5.out, HT5.out.below⟩
  | true =>
    have hqb : q ≠ B.length := by have h9 := HTN.out; exact of_decide_eq_true h9.symm
    obtain ⟨F1, hF1⟩ : ∃ F : Dsk → Dsk × Int, F = ifD nNEW fun d => removeD d nNEW := ⟨_, rfl⟩
    obtain ⟨F2, hF2⟩ : ∃ F : Dsk → Dsk × Int, F = fun d => writeD nameB d nNEW 0 X := ⟨_, rfl⟩
    obtain ⟨F3, hF3⟩ : ∃ F : Dsk → Dsk × Int, F = fun d => syncD d nNEW := ⟨_, rfl⟩
    obtain ⟨F4, hF4⟩ : ∃ F : Dsk → Dsk × Int, F = fun d => renameD nameB d nNEW nLOG := ⟨_, rfl⟩
    have h9 := HAT.out hqb
    rw [← hF1, ← hF2, ← hF3, ← hF4] at h9
    obtain ⟨res, hres⟩ : ∃ r, r = chainD [F1, F2, F3, F4] d := ⟨_, rfl⟩
    rw [← hres] at h9
    have HRES := Lib.hid h9
    have CM1 : Hid (∀ W1, Calls Tryz.prog 25 #[.string ⟨#[108, 111, 103, 46, 110, 101, 119]⟩, .func (.func 26) #[] #[]] W1 fun e w' => ∃ v, e = .returned v ∧ ActV w' v F1 ∧ Below W1.heap.size W1 w') := Lib.hid fun W1 => by
      rw [hF1]; exact ifThere_any nNEW 26 (fun d => removeD d nNEW) W1 (enters_of Tryz.func26 (by kernel_rfl) rfl) (fun d hd => removeD_fit hd nNEW) (fun W2 => removing_any nNEW W2)
    have CM2 : Hid (∀ W1, Calls Tryz.prog 22 #[.string ⟨#[108, 111, 103, 46, 110, 101, 119]⟩, .int .i64 0, .string X] W1 fun e w' => ∃ v, e = .returned v ∧ ActV w' v F2 ∧ Below W1.heap.size W1 w') := Lib.hid fun W1 => by
      rw [hF2]; exact writing_any nNEW 0 X W1 (by decide) (by decide) (by have := HXS.out; have := HBL.out; have := HQL.out; omega)
    have CM3 : Hid (∀ W1, Calls Tryz.prog 23 #[.string ⟨#[108, 111, 103, 46, 110, 101, 119]⟩] W1 fun e w' => ∃ v, e = .returned v ∧ ActV w' v F3 ∧ Below W1.heap.size W1 w') := Lib.hid fun W1 => by
      rw [hF3]; exact syncing_any nNEW W1
    have CM4 : Hid (∀ W1, Calls Tryz.prog 27 #[.string ⟨#[108, 111, 103, 46, 110, 101, 119]⟩, .string ⟨#[108, 111, 103]⟩] W1 fun e w' => ∃ v, e = .returned v ∧ ActV w' v F4 ∧ Below W1.heap.size W1 w') := Lib.hid fun W1 => by
      rw [hF4]; exact renaming_any nNEW nLOG W1 (by decide)
    have CH : Hid (∀ W1 u, Below w0.heap.size w0 W1 → IsActs W1 u [F1, F2, F3, F4] → Calls Tryz.prog 21 #[.agg #[.slice a z cap, .bool d.off, .int .i64 d.fuse], u] W1 (RetD res W1)) := Lib.hid fun W1 u hW1 hu => by
      rw [hres]; exact chain_any [F1, F2, F3, F4] u d (.slice a z cap) W1 (HI.out.stays hW1) HF.out hu
    clear h9 hF1 hF2 hF3 hF4 hres hqb
    go_wp2_with fail
    refine wp_region_wordsG (by kernel_rfl) (by kernel_rfl) (appT 10 (fun _ _ => True)) (fun _ => True) wtqE (wtqU w0 a z cap d res X F1 F2 F3 F4) 13 wtqN [10, 11] (by kernel_rfl) (by kernel_rfl) (by kernel_rfl)
      wtqB (by kernel_rfl) (fun ix kx v e w w' hi hk hne hb hU hT => wtq_T _ _ _ _ _ _ _ _ _ _ _  ix kx v e w w' hk hne hb hU hT) (by decide) trivial (fun kx hk hge => ?hv0)
      [19, 20, 21, 22, 23, 24, 25, 26, 27, 28, 3] (by kernel_rfl) (forall_ops ?steps) ?behind
    case hv0 =>
      have hge' : 12 ≤ kx := hge
      rcases (show kx = 12 by omega) with rfl
      · exact HT4.out.step (Below.refl _ _).drew
    case steps =>
      refine ⟨?_, ?_, ?_, ?_, ?_, ?_, ?_, ?_, ?_, ?_, ?_, ?_, trivial⟩
      · refine stepG_of rfl ?_
        exact stepR_value (t := 19) (.agg #[.slice a z cap, .bool d.off, .int .i64 d.fuse]) rfl (fun _ => appT_other (by decide) (Below.refl _ _)) (fun ac w hG hN hO => by
          have e1 : slot ac 1 = .pointer (some ⟨w0.heap.size, 0, none⟩) := hO 1 (by kernel_rfl)
          have hx : TwoB w0 w #[.slice a z cap, .bool d.off, .int .i64 d.fuse] #[.slice none 0 0, .bool false, .int .i64 0] := hN 12 (by decide)
          obtain ⟨⟨p0, p1, p2⟩, _, _, _⟩ := hx.cells
          have f1 := slot_at e1
          unfold execOp; go_simp) (fun ac w hG hN => rfl)
      · refine stepG_of rfl ?_
        intro ac wx hG hN hO
        have hx : TwoB w0 wx #[.slice a z cap, .bool d.off, .int .i64 d.fuse] #[.slice none 0 0, .bool false, .int .i64 0] := hN 12 (by decide)
        refine wp_callx 25 _ _ rfl (enters_of Tryz.func25 (by kernel_rfl) rfl) #[.string ⟨#[108, 111, 103, 46, 110, 101, 119]⟩, .func (.func 26) #[] #[]] (by simp [eval_const, eval_func]) (R := fun v wz => ActV wz v F1 ∧ Below wx.heap.size wx wz) (CM1.out wx) ?_
        rintro v wz ⟨hv, hb⟩
        exact ⟨v, rfl, appT_other (by decide) hb, trivial, hv⟩
      · refine stepG_of rfl ?_
        exact stepR_value (t := 21) (.string X) rfl (fun _ => appT_other (by decide) (Below.refl _ _)) (fun ac w hG hN hO => by
          have e4 : slot ac 4 = .string X := hO 4 (by kernel_rfl)
          exact run_move_slot (.inl rfl) e4) (fun ac w hG hN => rfl)
      · refine stepG_of rfl ?_
        intro ac wx hG hN hO
        have e21 : slot ac 21 = .string X := hN 2 (by decide)
        have hx : TwoB w0 wx #[.slice a z cap, .bool d.off, .int .i64 d.fuse] #[.slice none 0 0, .bool false, .int .i64 0] := hN 12 (by decide)
        refine wp_callx 22 _ _ rfl (enters_of Tryz.func22 (by kernel_rfl) rfl) #[.string ⟨#[108, 111, 103, 46, 110, 101, 119]⟩, .int .i64 0, .string X] (by simp [eval_const, eval_slot, e21]) (R := fun v wz => ActV wz v F2 ∧ Below wx.heap.size wx wz) (CM2.out wx) ?_
        rintro v wz ⟨hv, hb⟩
        exact ⟨v, rfl, appT_other (by decide) hb, trivial, hv⟩
      · refine stepG_of rfl ?_
        intro ac wx hG hN hO
        have hx : TwoB w0 wx #[.slice a z cap, .bool d.off, .int .i64 d.fuse] #[.slice none 0 0, .bool false, .int .i64 0] := hN 12 (by decide)
        refine wp_callx 23 _ _ rfl (enters_of Tryz.func23 (by kernel_rfl) rfl) #[.string ⟨#[108, 111, 103, 46, 110, 101, 119]⟩] (by simp [eval_const]) (R := fun v wz => ActV wz v F3 ∧ Below wx.heap.size wx wz) (CM3.out wx) ?_
        rintro v wz ⟨hv, hb⟩
        exact ⟨v, rfl, appT_other (by decide) hb, trivial, hv⟩
      · refine stepG_of rfl ?_
        intro ac wx hG hN hO
        have hx : TwoB w0 wx #[.slice a z cap, .bool d.off, .int .i64 d.fuse] #[.slice none 0 0, .bool false, .int .i64 0] := hN 12 (by decide)
        refine wp_callx 27 _ _ rfl (enters_of Tryz.func27 (by kernel_rfl) rfl) #[.string ⟨#[108, 111, 103, 46, 110, 101, 119]⟩, .string ⟨#[108, 111, 103]⟩] (by simp [eval_const]) (R := fun v wz => ActV wz v F4 ∧ Below wx.heap.size wx wz) (CM4.out wx) ?_
        rintro v wz ⟨hv, hb⟩
        exact ⟨v, rfl, appT_other (by decide) hb, trivial, hv⟩
      · refine stepG_of rfl ?_
        intro ac wx hG hN hO
        have h1 : ActV wx (slot ac 20) F1 := hN 1 (by decide)
        obtain ⟨fk1, cp1, e20, g1⟩ := h1
        have f20 := slot_at e20
        have h3 : ActV wx (slot ac 22) F2 := hN 3 (by decide)
        obtain ⟨fk3, cp3, e22, g3⟩ := h3
        have f22 := slot_at e22
        have h4 : ActV wx (slot ac 23) F3 := hN 4 (by decide)
        obtain ⟨fk4, cp4, e23, g4⟩ := h4
        have f23 := slot_at e23
        have h5 : ActV wx (slot ac 24) F4 := hN 5 (by decide)
        obtain ⟨fk5, cp5, e24, g5⟩ := h5
        have f24 := slot_at e24
        exact wp_value (v := .slice (some ⟨wx.heap.size, 0, none⟩) 4 4) (w' := wx.alloc (.cells #[.func (.func fk1) #[] cp1, .func (.func fk3) #[] cp3, .func (.func fk4) #[] cp4, .func (.func fk5) #[] cp5] 51)) (by unfold execOp; go_simp) ⟨_, rfl, appT_other (by decide) ((Below.refl _ _).alloc (Nat.le_refl _) _), trivial, acts_four ⟨fk1, cp1, rfl, g1⟩ ⟨fk3, cp3, rfl, g3⟩ ⟨fk4, cp4, rfl, g4⟩ ⟨fk5, cp5, rfl, g5⟩⟩
      · refine stepG_of rfl ?_
        intro ac wx hG hN hO
        have e19 : slot ac 19 = .agg #[.slice a z cap, .bool d.off, .int .i64 d.fuse] := hN 0 (by decide)
        have h6 : IsActs wx (slot ac 25) [F1, F2, F3, F4] := hN 6 (by decide)
        have hx : TwoB w0 wx #[.slice a z cap, .bool d.off, .int .i64 d.fuse] #[.slice none 0 0, .bool false, .int .i64 0] := hN 12 (by decide)
        refine wp_callx 21 _ _ rfl (enters_of Tryz.func21 (by kernel_rfl) rfl) #[.agg #[.slice a z cap, .bool d.off, .int .i64 d.fuse], slot ac 25] (by simp [eval_slot, e19]) (R := fun v wz => OutD res v wz ∧ Below wx.heap.size wx wz) ((CH.out wx _ hx.below h6).mono fun e wz hz => hz.out) ?_
        rintro v wz ⟨hv, hb⟩
        exact ⟨v, rfl, appT_other (by decide) hb, trivial, hv⟩
      · refine stepG_of rfl ?_
        intro ac wx hG hN hO
        have h7 : OutD res (slot ac 26) wx := hN 7 (by decide)
        obtain ⟨a5, z5, c5, e26, h5⟩ := h7
        have f26 := slot_at e26
        exact wp_value (v := .agg #[.slice a5 z5 c5, .bool res.1.off, .int .i64 res.1.fuse]) (w' := wx) (by unfold execOp; go_simp) ⟨_, rfl, appT_other (by decide) (Below.refl _ _), trivial, a5, z5, c5, rfl, h5⟩
      · refine stepG_of rfl ?_
        intro ac wx hG hN hO
        have h7 : OutD res (slot ac 26) wx := hN 7 (by decide)
        obtain ⟨a5, z5, c5, e26, h5⟩ := h7
        have f26 := slot_at e26
        exact wp_value (v := .int .i64 res.2) (w' := wx) (by unfold execOp; go_simp) ⟨_, rfl, appT_other (by decide) (Below.refl _ _), trivial, rfl⟩
      · refine stepG_of rfl ?_
        intro ac wx hG hN hO
        have h8 : OutD1 res (slot ac 27) wx := hN 8 (by decide)
        have e2 : slot ac 2 = .pointer (some ⟨w0.heap.size + 1, 0, none⟩) := hO 2 (by kernel_rfl)
        have hx : TwoB w0 wx #[.slice a z cap, .bool d.off, .int .i64 d.fuse] #[.slice none 0 0, .bool false, .int .i64 0] := hN 12 (by decide)
        obtain ⟨a5, z5, c5, e27, h5⟩ := h8
        refine wp_store_disk rfl e2 e27 hx.res ?_
        exact ⟨_, rfl, appT_at trivial, trivial, a5, z5, c5, hx.put1, dfs_put_Wlc hx.res h5⟩
      · refine stepG_of rfl ?_
        exact stepR_value (t := 3) (.int .i64 res.2) rfl (fun _ => appT_other (by decide) (Below.refl _ _)) (fun ac w hG hN hO => by
          have e28 : slot ac 28 = .int .i64 res.2 := hN 9 (by decide)
          exact run_move_slot (.inr rfl) e28) (fun ac w hG hN => rfl)
    case behind =>
      intro ac w5 hG hV hS ha
      have h10 : OutB res w0 #[.slice a z cap, .bool d.off, .int .i64 d.fuse] w5 := hV 10 (by decide) (by decide)
      have h11 : slot ac 3 = .int .i64 res.2 := hV 11 (by decide) (by decide)
      generalize slot ac = sl at ha h11
      subst ha
      simp only [patchL, List.contains_cons, List.contains_nil, Nat.reduceBEq, Bool.or_false, Bool.or_true, if_true, Bool.false_eq_true, if_false, Nat.reduceAdd]
      generalize sl 19 = s19
      generalize sl 20 = s20
      generalize sl 21 = s21
      generalize sl 22 = s22
      generalize sl 23 = s23
      generalize sl 24 = s24
      generalize sl 25 = s25
      generalize sl 26 = s26
      generalize sl 27 = s27
      generalize sl 28 = s28
      generalize sl 3 = s3 at h11 ⊢
      subst h11
      clear hV hS
      obtain ⟨a5, z5, c5, hT5, hI5⟩ := h10
      have HT5 := Lib.hid hT5; have HI5 := Lib.hid hI5
      clear hT5 hI5 hG
      go_wp2
      obtain ⟨_, ⟨r0', r1', r2'⟩, _, _⟩ := HT5.out.cells
      exact bodyPost_ret (v := .tuple #[.agg #[.slice a5 z5 c5, .bool res.1.off, .int .i64 res.1.fuse], .int .i64 res.2]) (by simp [results, Tryz.results11, go_sem, r0', r1', r2']) rfl ⟨.slice a5 z5 c5, by rw [HRES.out]; rfl, by rw [HRES.out]; exact HI5.out, HT5.out.below⟩
end Go.Proofs.YtalknbadakfppaaGreat
set_option linter.unusedVariables false
namespace Go.Proofs.YtalknbadakfppaaGreat
open Go.RowKit
theorem walAppend_ok (w0 : World) : WalAppend16 w0 := fun W _ d v lv L h hl hf _ h300 => pLogAppend_any d v lv L W h hl hf fun x hx => Nat.le_trans (h300 x hx) (by decide)
theorem walTrim_ok (w0 : World) : WalTrim16 w0 := fun W _ d v h hf => pLogTrim_any d v W h hf
theorem walLoad_ok (w0 : World) : WalLoad16 w0 := fun W _ d v h hf => pLogLoad_any d v W h hf
theorem walWhole_f (av : Value) (A : List ByteArray) (bv : Value) (B : List ByteArray) (x : Nat) (kv : Value) (keep : List Bool) (y : Nat) (_ : x < 256) (_ : y < 256) (w0 : World) (ha : IsStrs w0 av A) (_ : ∀ x ∈ A, x.size ≤ maxLen) (hb : IsStrs w0 bv B) (_ : ∀ x ∈ B, x.size ≤ maxLen) (hk : IsBls w0 kv keep) :
    Calls Tryz.prog 3 #[av, bv, .int .u8 x, kv, .int .u8 y] w0 fun e w' => e = .returned (.bool true) ∧ Below w0.heap.size w0 w' :=
  walWhole_w av bv kv A B keep x y w0 ha hb hk (walAppend_ok w0) (walTrim_ok w0) (walLoad_ok w0)
theorem walTrims_f (av : Value) (A : List ByteArray) (s : ByteArray) (bv : Value) (B : List ByteArray) (w0 : World) (ha : IsStrs w0 av A) (_ : ∀ x ∈ A, x.size ≤ maxLen) (hb : IsStrs w0 bv B) (_ : ∀ x ∈ B, x.size ≤ maxLen) :
    Calls Tryz.prog 4 #[av, .string s, bv] w0 fun e w' => e = .returned (.bool true) ∧ Below w0.heap.size w0 w' :=
  walTrims_w av bv A B s w0 ha hb (walAppend_ok w0) (walTrim_ok w0) (walLoad_ok w0)
theorem walParts_f (av : Value) (A : List ByteArray) (bv : Value) (B : List ByteArray) (kv : Value) (keep : List Bool) (w0 : World) (ha : IsStrs w0 av A) (_ : ∀ x ∈ A, x.size ≤ maxLen) (hb : IsStrs w0 bv B) (_ : ∀ x ∈ B, x.size ≤ maxLen) (hk : IsBls w0 kv keep) :
    Calls Tryz.prog 5 #[av, bv, kv] w0 fun e w' => e = .returned (.bool true) ∧ Below w0.heap.size w0 w' :=
  walParts_w av bv kv A B keep w0 ha hb hk (walAppend_ok w0) (walTrim_ok w0) (walLoad_ok w0)
end Go.Proofs.YtalknbadakfppaaGreat

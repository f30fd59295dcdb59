/-
  DiskMoves as a walk over this translation. Written by wip/tools/gen_disk_laws.py.
-/
import Derived.Test.YtninfmlemdnjbaaQa4
import Derived.Test.YtninfmlemdnjbaaYaDmq
set_option linter.unusedVariables false
namespace Go.Proofs.Ytninfmlemdnjbaa
open Go.RowKit
attribute [local go_sem] Oper.semAt_some
set_option maxRecDepth 100000 in
set_option maxHeartbeats 32000000 in
theorem diskMoves_w (d : Dsk) (fv : Value) (n m : ByteArray) (w0 : World) (h : IsDfs w0 fv d.fs) :
    Calls Try.prog 7 #[dskV fv d, .string n, .string m] w0 fun e w' => e = .returned (.bool true) ∧ Below w0.heap.size w0 w' := by
  have CA := Lib.hid awake15_any
  obtain ⟨_, a, cap, hu, _, _⟩ := id h
  obtain ⟨z, hz⟩ : ∃ z, z = d.fs.length := ⟨_, rfl⟩
  rw [← hz] at hu
  subst hu
  obtain ⟨fs, off, fuse⟩ := d
  obtain ⟨V, hV⟩ : ∃ V, V = w0.alloc (.cells #[.slice a z cap, .bool off, .int .i64 fuse] 24) := ⟨_, rfl⟩
  have hbV : Below w0.heap.size w0 V := by rw [hV]; exact (Below.refl _ _).alloc (Nat.le_refl _) _
  have hR : Row V w0.heap.size #[.slice a z cap, .bool off, .int .i64 fuse] 24 := by rw [hV]; exact Row.made _ _ _
  have HV := Lib.hid hV; have HB0 := Lib.hid hbV; have HR := Lib.hid hR; have HI := Lib.hid (h.stays hbV)
  have HB := HB0
  unfold dskV
  dsimp only at HI ⊢
  clear h hz hV hbV hR
  go_enter Try.func7, Try.ntmps7
  go_wp2_with fail
  rw [← HV.out]
  have HRl := HR.out.lt
  obtain ⟨⟨HR0, HR1, HR2⟩, HRz⟩ := HR.out.three
  go_wp2_with fail
  clear HR0 HR1 HR2 HRz HRl
  have C := few15_any ⟨fs, off, fuse⟩ (.slice a z cap) V HI.out
  unfold dskV at C
  dsimp only at C
  refine C.mono ?_
  clear C
  rintro e w2 ⟨rfl, hb⟩
  replace HB := Lib.hid (below_step HB.out hb)
  replace HR := Lib.hid (HR.out.step hb)
  replace HI := Lib.hid (HI.out.stays hb)
  clear hb
  cases hfw : fewDB ⟨fs, off, fuse⟩ with
  | false =>
    clear hfw
    go_wp2_with fail
    refine (CA.out _).mono ?_
    rintro e w9 ⟨rfl, hb⟩
    replace HB := Lib.hid (below_step HB.out hb)
    clear hb
    go_wp2_with fail
    go_ret
    exact ⟨rfl, HB.out⟩
  | true =>
    have HFW := Lib.hid (fewDB_iff.1 hfw)
    clear hfw
    by_cases hcc : 100 < n.size
    · have d1 : decide ((100 : Int) < (n.size : Int)) = true := decide_eq_true (by omega)
      clear hcc
      have HRl := HR.out.lt
      obtain ⟨⟨HR0, HR1, HR2⟩, HRz⟩ := HR.out.three
      go_wp2_with fail
      clear HR0 HR1 HR2 HRz HRl
      refine (CA.out _).mono ?_
      rintro e w9 ⟨rfl, hb⟩
      replace HB := Lib.hid (below_step HB.out hb)
      clear hb
      go_wp2_with fail
      go_ret
      exact ⟨rfl, HB.out⟩
    · have d1 : decide ((100 : Int) < (n.size : Int)) = false := decide_eq_false (by omega)
      have HLd1 : Hid (n.size ≤ 100) := Lib.hid (by omega)
      clear hcc
      by_cases hcc : 100 < m.size
      · have d2 : decide ((100 : Int) < (m.size : Int)) = true := decide_eq_true (by omega)
        clear hcc
        have HRl := HR.out.lt
        obtain ⟨⟨HR0, HR1, HR2⟩, HRz⟩ := HR.out.three
        go_wp2_with fail
        clear HR0 HR1 HR2 HRz HRl
        refine (CA.out _).mono ?_
        rintro e w9 ⟨rfl, hb⟩
        replace HB := Lib.hid (below_step HB.out hb)
        clear hb
        go_wp2_with fail
        go_ret
        exact ⟨rfl, HB.out⟩
      · have d2 : decide ((100 : Int) < (m.size : Int)) = false := decide_eq_false (by omega)
        have HLd2 : Hid (m.size ≤ 100) := Lib.hid (by omega)
        clear hcc
        have HRl := HR.out.lt
        obtain ⟨⟨HR0, HR1, HR2⟩, HRz⟩ := HR.out.three
        go_wp2_with fail
        clear HR0 HR1 HR2 HRz HRl
        have C := rFitD_any ⟨fs, off, fuse⟩ (.slice a z cap) w2 HI.out
        unfold dskV at C
        dsimp only at C
        refine C.mono ?_
        clear C
        rintro e w3 ⟨rfl, hb⟩
        replace HB := Lib.hid (below_step HB.out hb)
        replace HR := Lib.hid (HR.out.step hb)
        replace HI := Lib.hid (HI.out.stays hb)
        clear hb
        cases hft : fitDB ⟨fs, off, fuse⟩ with
        | false =>
          clear hft
          go_wp2_with fail
          refine (CA.out _).mono ?_
          rintro e w9 ⟨rfl, hb⟩
          replace HB := Lib.hid (below_step HB.out hb)
          clear hb
          go_wp2_with fail
          go_ret
          exact ⟨rfl, HB.out⟩
        | true =>
          have HF := Lib.hid (fitDB_iff.1 hft)
          clear hft
          obtain ⟨⟨⟨fs1, o1, u1⟩, e1⟩, hr1⟩ : ∃ r, r = renameD nameB ⟨fs, off, fuse⟩ n m := ⟨_, rfl⟩
          obtain ⟨⟨⟨fs2, o2, u2⟩, e2⟩, hr2⟩ : ∃ r, r = removeD ⟨fs, off, fuse⟩ n := ⟨_, rfl⟩
          have HF1 : Hid (FitD nameB ⟨fs1, o1, u1⟩) := Lib.hid (by have h9 := renameD_fit HF.out n m; rwa [← hr1] at h9)
          have HF2 : Hid (FitD nameB ⟨fs2, o2, u2⟩) := Lib.hid (by have h9 := removeD_fit HF.out n; rwa [← hr2] at h9)
          have HR1 := Lib.hid hr1; have HR2 := Lib.hid hr2
          clear hr1 hr2
          have HRl := HR.out.lt
          obtain ⟨⟨HR0, HR1, HR2⟩, HRz⟩ := HR.out.three
          go_wp2_with fail
          clear HR0 HR1 HR2 HRz HRl
          have C := pRename_any ⟨fs, off, fuse⟩ (.slice a z cap) n m w3 HI.out HF.out (Nat.le_trans HLd2.out (by decide))
          rw [← HR1.out] at C
          unfold dskV at C
          refine C.mono ?_
          clear C
          rintro e w4 hr
          obtain ⟨a1, z1, c1, rfl, h1, hb⟩ := hr.open
          have HI1 := Lib.hid h1
          clear hr h1
          replace HB := Lib.hid (below_step HB.out hb)
          replace HR := Lib.hid (HR.out.step hb)
          replace HI := Lib.hid (HI.out.stays hb)
          clear hb
          dsimp only at HI1 ⊢
          have HRl := HR.out.lt
          obtain ⟨⟨HR0, HR1, HR2⟩, HRz⟩ := HR.out.three
          go_wp2_with fail
          clear HR0 HR1 HR2 HRz HRl
          obtain ⟨X4, hX⟩ : ∃ X, X = w4.alloc (.cells #[.slice a1 z1 c1, .bool o1, .int .i64 u1] 24) := ⟨_, rfl⟩
          have hb : Below w4.heap.size w4 X4 := by rw [hX]; exact (Below.refl _ _).alloc (Nat.le_refl _) _
          have HC1 : Hid (Row X4 w4.heap.size #[.slice a1 z1 c1, .bool o1, .int .i64 u1] 24) := by rw [hX]; exact Lib.hid (Row.made _ _ _)
          rw [← hX]
          replace HB := Lib.hid (below_step HB.out hb)
          replace HR := Lib.hid (HR.out.step hb)
          replace HI := Lib.hid (HI.out.stays hb)
          replace HI1 := Lib.hid (HI1.out.stays hb)
          clear hb hX
          have C := pRemove_any ⟨fs, off, fuse⟩ (.slice a z cap) n X4 HI.out HF.out
          rw [← HR2.out] at C
          unfold dskV at C
          refine C.mono ?_
          clear C
          rintro e w5 hr
          obtain ⟨a2, z2, c2, rfl, h1, hb⟩ := hr.open
          have HI2 := Lib.hid h1
          clear hr h1
          replace HB := Lib.hid (below_step HB.out hb)
          replace HR := Lib.hid (HR.out.step hb)
          replace HI := Lib.hid (HI.out.stays hb)
          replace HI1 := Lib.hid (HI1.out.stays hb)
          replace HC1 := Lib.hid (HC1.out.step hb)
          clear hb
          dsimp only at HI2 ⊢
          by_cases he : e1 = 0
          · subst he
            by_cases he : e2 = 0
            · subst he
              obtain ⟨f, hg, hfs⟩ := rename_okD (d := ⟨fs, off, fuse⟩) (n := n) (m := m) (by rw [← HR1.out])
              obtain ⟨f', hg', hfs2⟩ := remove_okD (d := ⟨fs, off, fuse⟩) (n := n) (by rw [← HR2.out])
              rw [← HR1.out] at hfs; rw [← HR2.out] at hfs2
              have hgg := fun t => renamed_get HF.out.rise n m f.d f.ops t
              have hgl := fun t => lessF_get HF.out.rise t n.data.toList
              dsimp only at hfs hfs2 hgg hgl hg
              rw [← hfs] at hgg; rw [← hfs2] at hgl
              have HG := Lib.hid hg; have HGG := Lib.hid hgg; have HGL := Lib.hid hgl
              clear hg hg' hfs hfs2 hgg hgl HR1 HR2
              obtain ⟨t0, ht0⟩ : ∃ t, t = seenF f := ⟨_, rfl⟩
              have HA1 : Hid (readL fs n.data.toList = (t0, true)) := Lib.hid (by rw [readL_some HG.out, ht0])
              have HA2 : Hid (readL fs1 m.data.toList = (t0, true)) := Lib.hid (by rw [readL_some (f := ⟨m, f.d, f.ops⟩) (by rw [HGG.out, if_pos rfl]), ht0]; rfl)
              have HA4 : Hid (readL fs2 n.data.toList = ([], false)) := Lib.hid (readL_none (by rw [HGL.out, if_pos rfl]))
              clear ht0
              have HRl := HR.out.lt
              obtain ⟨⟨HR0, HR1, HR2⟩, HRz⟩ := HR.out.three
              go_wp2_with fail
              clear HR0 HR1 HR2 HRz HRl
              obtain ⟨X5, hX⟩ : ∃ X, X = w5.alloc (.cells #[.slice a2 z2 c2, .bool o2, .int .i64 u2] 24) := ⟨_, rfl⟩
              have hb : Below w5.heap.size w5 X5 := by rw [hX]; exact (Below.refl _ _).alloc (Nat.le_refl _) _
              have HC2 : Hid (Row X5 w5.heap.size #[.slice a2 z2 c2, .bool o2, .int .i64 u2] 24) := by rw [hX]; exact Lib.hid (Row.made _ _ _)
              rw [← hX]
              replace HB := Lib.hid (below_step HB.out hb)
              replace HR := Lib.hid (HR.out.step hb)
              replace HI := Lib.hid (HI.out.stays hb)
              replace HI1 := Lib.hid (HI1.out.stays hb)
              replace HC1 := Lib.hid (HC1.out.step hb)
              replace HI2 := Lib.hid (HI2.out.stays hb)
              clear hb hX
              obtain ⟨S0, hS0⟩ : ∃ S, S = strT t0 := ⟨_, rfl⟩
              have HS0 := Lib.hid hS0
              clear hS0
              have C := pRead_as ⟨fs, off, fuse⟩ (.slice a z cap) n X5 HI.out HF.out HA1.out
              unfold dskV at C
              dsimp only at C
              rw [← HS0.out] at C
              refine C.mono ?_
              clear C
              rintro e w6 ⟨rfl, hb⟩
              replace HB := Lib.hid (below_step HB.out hb)
              replace HR := Lib.hid (HR.out.step hb)
              replace HI := Lib.hid (HI.out.stays hb)
              replace HI1 := Lib.hid (HI1.out.stays hb)
              replace HC1 := Lib.hid (HC1.out.step hb)
              replace HI2 := Lib.hid (HI2.out.stays hb)
              replace HC2 := Lib.hid (HC2.out.step hb)
              clear hb
              have HC1l := HC1.out.lt
              obtain ⟨⟨HC10, HC11, HC12⟩, HC1z⟩ := HC1.out.three
              go_wp2_with fail
              clear HC10 HC11 HC12 HC1z HC1l
              have C := pRead_as ⟨fs1, o1, u1⟩ (.slice a1 z1 c1) m w6 HI1.out HF1.out HA2.out
              unfold dskV at C
              dsimp only at C
              rw [← HS0.out] at C
              refine C.mono ?_
              clear C
              rintro e w7 ⟨rfl, hb⟩
              replace HB := Lib.hid (below_step HB.out hb)
              replace HR := Lib.hid (HR.out.step hb)
              replace HI := Lib.hid (HI.out.stays hb)
              replace HI1 := Lib.hid (HI1.out.stays hb)
              replace HC1 := Lib.hid (HC1.out.step hb)
              replace HI2 := Lib.hid (HI2.out.stays hb)
              replace HC2 := Lib.hid (HC2.out.step hb)
              clear hb
              by_cases hnm : n = m
              · subst hnm
                have HA3 := HA2
                have hst : (n.toList == n.toList) = true := beq_str rfl
                obtain ⟨S3, hS3⟩ : ∃ S, S = strT t0 := ⟨_, rfl⟩
                have HS3 := Lib.hid hS3
                clear hS3
                have HC1l := HC1.out.lt
                obtain ⟨⟨HC10, HC11, HC12⟩, HC1z⟩ := HC1.out.three
                go_wp2_with fail
                clear HC10 HC11 HC12 HC1z HC1l
                have C := pRead_as ⟨fs1, o1, u1⟩ (.slice a1 z1 c1) n w7 HI1.out HF1.out HA3.out
                unfold dskV at C
                dsimp only at C
                rw [← HS3.out] at C
                refine C.mono ?_
                clear C
                rintro e w8 ⟨rfl, hb⟩
                replace HB := Lib.hid (below_step HB.out hb)
                replace HR := Lib.hid (HR.out.step hb)
                replace HI := Lib.hid (HI.out.stays hb)
                replace HI1 := Lib.hid (HI1.out.stays hb)
                replace HC1 := Lib.hid (HC1.out.step hb)
                replace HI2 := Lib.hid (HI2.out.stays hb)
                replace HC2 := Lib.hid (HC2.out.step hb)
                clear hb
                have HC2l := HC2.out.lt
                obtain ⟨⟨HC20, HC21, HC22⟩, HC2z⟩ := HC2.out.three
                go_wp2_with fail
                clear HC20 HC21 HC22 HC2z HC2l
                have C := pRead_as ⟨fs2, o2, u2⟩ (.slice a2 z2 c2) n w8 HI2.out HF2.out HA4.out
                unfold dskV at C
                dsimp only at C
                refine C.mono ?_
                clear C
                rintro e w9 ⟨rfl, hb⟩
                replace HB := Lib.hid (below_step HB.out hb)
                replace HR := Lib.hid (HR.out.step hb)
                replace HI := Lib.hid (HI.out.stays hb)
                replace HI1 := Lib.hid (HI1.out.stays hb)
                replace HC1 := Lib.hid (HC1.out.step hb)
                replace HI2 := Lib.hid (HI2.out.stays hb)
                replace HC2 := Lib.hid (HC2.out.step hb)
                clear hb
                obtain ⟨S4, hS4⟩ : ∃ S, S = strT [] := ⟨_, rfl⟩
                rw [← hS4]
                clear hS4
                have hmz : z ≤ 8 := by have h8 := HF.out.many; obtain ⟨_, _, _, hev, _⟩ := HI.out; cases hev; exact h8
                have HZ : Hid (z = fs.length) := Lib.hid (by obtain ⟨_, _, _, hev, _⟩ := HI.out; cases hev; rfl)
                have HRl := HR.out.lt
                obtain ⟨⟨HR0, HR1, HR2⟩, HRz⟩ := HR.out.three
                go_wp2_with fail
                clear HR0 HR1 HR2 HRz HRl
                go_loopw [93] (fun i wr => ∃ k : Nat, k ≤ z ∧ i = .int .i64 k ∧ Below w9.heap.size w9 wr) (fun i _ => z - (intOf i).toNat)
                case atStart => exact ⟨0, Nat.zero_le _, rfl, Below.refl _ _⟩
                case round =>
                  obtain ⟨k, hk, rfl, hb⟩ := hrel
                  replace HB := Lib.hid (below_step HB.out hb)
                  replace HR := Lib.hid (HR.out.step hb)
                  replace HI := Lib.hid (HI.out.stays hb)
                  replace HI1 := Lib.hid (HI1.out.stays hb)
                  replace HC1 := Lib.hid (HC1.out.step hb)
                  replace HI2 := Lib.hid (HI2.out.stays hb)
                  replace HC2 := Lib.hid (HC2.out.step hb)
                  have HBW := Lib.hid hb
                  clear hb
                  by_cases hlt : k < z
                  · have hko : k < fs.length := by have := HZ.out; omega
                    obtain ⟨_, _, _, hev, _, hc⟩ := HI.out
                    rw [← HZ.out] at hev
                    cases hev
                    obtain ⟨b1, off1, rfl, hbl, g1⟩ := hc (by omega)
                    obtain ⟨uv, q0, q1, q2, hu⟩ := g1 k hko
                    obtain ⟨uu, uc, rfl⟩ := hu.len
                    obtain ⟨x, hx⟩ : ∃ x, x = fs[k]'hko := ⟨_, rfl⟩
                    rw [← hx] at q0 q1 q2
                    have hbk : decide ((k : Int) < (z : Int)) = true := by simpa using (show (k : Int) < z by omega)
                    obtain ⟨⟨ts, bs⟩, hts⟩ : ∃ r, r = readL fs x.n.data.toList := ⟨_, rfl⟩
                    obtain ⟨⟨tt, bt⟩, htt⟩ : ∃ r, r = readL fs1 x.n.data.toList := ⟨_, rfl⟩
                    obtain ⟨⟨tu, bu⟩, htu⟩ : ∃ r, r = readL fs2 x.n.data.toList := ⟨_, rfl⟩
                    have HTS := Lib.hid hts.symm; have HTT := Lib.hid htt.symm; have HTU := Lib.hid htu.symm
                    have HPT : Hid (x.n ≠ n → x.n ≠ n → tt = ts) := Lib.hid (fun h1 h2 => by
                      have := readL_same (l := fs1) (l' := fs) (t := x.n.data.toList) (t' := x.n.data.toList) (by rw [HGG.out, if_neg fun e => h2 (str_txt.2 e), if_neg fun e => h1 (str_txt.2 e)])
                      rw [← hts, ← htt] at this; exact (Prod.mk.inj this).1)
                    have HPU : Hid (x.n ≠ n → tu = ts) := Lib.hid (fun h1 => by
                      have := readL_same (l := fs2) (l' := fs) (t := x.n.data.toList) (t' := x.n.data.toList) (by rw [HGL.out, if_neg fun e => h1 (str_txt.2 e)])
                      rw [← hts, ← htu] at this; exact (Prod.mk.inj this).1)
                    obtain ⟨uz, huz⟩ : ∃ uz, uz = x.ops.length := ⟨_, rfl⟩
                    rw [← huz] at q2
                    clear hc g1 hu hx huz hts htt htu hko
                    have HRl := HR.out.lt
                    obtain ⟨⟨HR0, HR1, HR2⟩, HRz⟩ := HR.out.three
                    go_wp2_with fail
                    clear HR0 HR1 HR2 HRz HRl
                    obtain ⟨X, hX⟩ : ∃ X, X = wr.alloc (.cells #[.string x.n, .string x.d, .slice uu uz uc] 47) := ⟨_, rfl⟩
                    have hb : Below wr.heap.size wr X := by rw [hX]; exact (Below.refl _ _).alloc (Nat.le_refl _) _
                    have HE : Hid (Row X wr.heap.size #[.string x.n, .string x.d, .slice uu uz uc] 47) := by rw [hX]; exact Lib.hid (Row.made _ _ _)
                    rw [← hX]
                    replace HB := Lib.hid (below_step HB.out hb)
                    replace HR := Lib.hid (HR.out.step hb)
                    replace HI := Lib.hid (HI.out.stays hb)
                    replace HI1 := Lib.hid (HI1.out.stays hb)
                    replace HC1 := Lib.hid (HC1.out.step hb)
                    replace HI2 := Lib.hid (HI2.out.stays hb)
                    replace HC2 := Lib.hid (HC2.out.step hb)
                    replace HBW := Lib.hid (below_step HBW.out hb)
                    clear hb hX q0 q1 q2
                    have C := pRead_as ⟨fs, off, fuse⟩ (.slice (some ⟨b1, off1, none⟩) z cap) x.n X HI.out HF.out HTS.out
                    unfold dskV at C
                    dsimp only at C
                    refine C.mono ?_
                    clear C
                    rintro e w10 ⟨rfl, hb⟩
                    replace HB := Lib.hid (below_step HB.out hb)
                    replace HR := Lib.hid (HR.out.step hb)
                    replace HI := Lib.hid (HI.out.stays hb)
                    replace HI1 := Lib.hid (HI1.out.stays hb)
                    replace HC1 := Lib.hid (HC1.out.step hb)
                    replace HI2 := Lib.hid (HI2.out.stays hb)
                    replace HC2 := Lib.hid (HC2.out.step hb)
                    replace HBW := Lib.hid (below_step HBW.out hb)
                    replace HE := Lib.hid (HE.out.step hb)
                    clear hb
                    have HC1l := HC1.out.lt
                    obtain ⟨⟨HC10, HC11, HC12⟩, HC1z⟩ := HC1.out.three
                    have HEl := HE.out.lt
                    obtain ⟨⟨HE0, HE1, HE2⟩, HEz⟩ := HE.out.three
                    go_wp2_with fail
                    clear HC10 HC11 HC12 HC1z HC1l HE0 HE1 HE2 HEz HEl
                    have C := pRead_as ⟨fs1, o1, u1⟩ (.slice a1 z1 c1) x.n w10 HI1.out HF1.out HTT.out
                    unfold dskV at C
                    dsimp only at C
                    refine C.mono ?_
                    clear C
                    rintro e w11 ⟨rfl, hb⟩
                    replace HB := Lib.hid (below_step HB.out hb)
                    replace HR := Lib.hid (HR.out.step hb)
                    replace HI := Lib.hid (HI.out.stays hb)
                    replace HI1 := Lib.hid (HI1.out.stays hb)
                    replace HC1 := Lib.hid (HC1.out.step hb)
                    replace HI2 := Lib.hid (HI2.out.stays hb)
                    replace HC2 := Lib.hid (HC2.out.step hb)
                    replace HBW := Lib.hid (below_step HBW.out hb)
                    replace HE := Lib.hid (HE.out.step hb)
                    clear hb
                    have HC2l := HC2.out.lt
                    obtain ⟨⟨HC20, HC21, HC22⟩, HC2z⟩ := HC2.out.three
                    have HEl := HE.out.lt
                    obtain ⟨⟨HE0, HE1, HE2⟩, HEz⟩ := HE.out.three
                    go_wp2_with fail
                    clear HC20 HC21 HC22 HC2z HC2l HE0 HE1 HE2 HEz HEl
                    have C := pRead_as ⟨fs2, o2, u2⟩ (.slice a2 z2 c2) x.n w11 HI2.out HF2.out HTU.out
                    unfold dskV at C
                    dsimp only at C
                    refine C.mono ?_
                    clear C
                    rintro e w12 ⟨rfl, hb⟩
                    replace HB := Lib.hid (below_step HB.out hb)
                    replace HR := Lib.hid (HR.out.step hb)
                    replace HI := Lib.hid (HI.out.stays hb)
                    replace HI1 := Lib.hid (HI1.out.stays hb)
                    replace HC1 := Lib.hid (HC1.out.step hb)
                    replace HI2 := Lib.hid (HI2.out.stays hb)
                    replace HC2 := Lib.hid (HC2.out.step hb)
                    replace HBW := Lib.hid (below_step HBW.out hb)
                    replace HE := Lib.hid (HE.out.step hb)
                    clear hb
                    by_cases hxn : x.n = n
                    · have y0 : (x.n.toList == n.toList) = true := beq_str hxn
                      have y1 : (x.n.toList != n.toList) = false := by simp [bne, y0]
                      clear hxn
                      have HEl := HE.out.lt
                      obtain ⟨⟨HE0, HE1, HE2⟩, HEz⟩ := HE.out.three
                      go_wp2_with fail
                      go_roundw
                      case rel => exact ⟨k + 1, by omega, by go_num, HBW.out⟩
                      case measure => simp [intOf]; omega
                    · have y0 : (x.n.toList == n.toList) = false := bne_str hxn
                      have y1 : (x.n.toList != n.toList) = true := by simp [bne, y0]
                      obtain rfl := HPU.out hxn
                      obtain rfl := HPT.out hxn hxn
                      clear hxn
                      have y9 : True := trivial
                      have HEl := HE.out.lt
                      obtain ⟨⟨HE0, HE1, HE2⟩, HEz⟩ := HE.out.three
                      go_wp2_with fail
                      go_roundw
                      case rel => exact ⟨k + 1, by omega, by go_num, HBW.out⟩
                      case measure => simp [intOf]; omega
                  · obtain rfl : k = z := by omega
                    have hbk : decide ((k : Int) < (k : Int)) = false := by simp
                    have t1 : (S0.toList == S0.toList) = true := beq_str rfl
                    go_wp2_with fail
                    refine (CA.out _).mono ?_
                    rintro e w9 ⟨rfl, hb⟩
                    replace HB := Lib.hid (below_step HB.out hb)
                    clear hb
                    go_wp2_with fail
                    go_ret
                    exact ⟨rfl, HB.out⟩
              · have HNM := Lib.hid hnm
                have HA3 : Hid (readL fs1 n.data.toList = ([], false)) := Lib.hid (readL_none (by rw [HGG.out, if_neg fun e => hnm (str_txt.2 e), if_pos rfl]))
                have hst : (n.toList == m.toList) = false := bne_str hnm
                clear hnm
                obtain ⟨S3, hS3⟩ : ∃ S, S = strT [] := ⟨_, rfl⟩
                have HS3 := Lib.hid hS3
                clear hS3
                have HC1l := HC1.out.lt
                obtain ⟨⟨HC10, HC11, HC12⟩, HC1z⟩ := HC1.out.three
                go_wp2_with fail
                clear HC10 HC11 HC12 HC1z HC1l
                have C := pRead_as ⟨fs1, o1, u1⟩ (.slice a1 z1 c1) n w7 HI1.out HF1.out HA3.out
                unfold dskV at C
                dsimp only at C
                rw [← HS3.out] at C
                refine C.mono ?_
                clear C
                rintro e w8 ⟨rfl, hb⟩
                replace HB := Lib.hid (below_step HB.out hb)
                replace HR := Lib.hid (HR.out.step hb)
                replace HI := Lib.hid (HI.out.stays hb)
                replace HI1 := Lib.hid (HI1.out.stays hb)
                replace HC1 := Lib.hid (HC1.out.step hb)
                replace HI2 := Lib.hid (HI2.out.stays hb)
                replace HC2 := Lib.hid (HC2.out.step hb)
                clear hb
                have HC2l := HC2.out.lt
                obtain ⟨⟨HC20, HC21, HC22⟩, HC2z⟩ := HC2.out.three
                go_wp2_with fail
                clear HC20 HC21 HC22 HC2z HC2l
                have C := pRead_as ⟨fs2, o2, u2⟩ (.slice a2 z2 c2) n w8 HI2.out HF2.out HA4.out
                unfold dskV at C
                dsimp only at C
                refine C.mono ?_
                clear C
                rintro e w9 ⟨rfl, hb⟩
                replace HB := Lib.hid (below_step HB.out hb)
                replace HR := Lib.hid (HR.out.step hb)
                replace HI := Lib.hid (HI.out.stays hb)
                replace HI1 := Lib.hid (HI1.out.stays hb)
                replace HC1 := Lib.hid (HC1.out.step hb)
                replace HI2 := Lib.hid (HI2.out.stays hb)
                replace HC2 := Lib.hid (HC2.out.step hb)
                clear hb
                obtain ⟨S4, hS4⟩ : ∃ S, S = strT [] := ⟨_, rfl⟩
                rw [← hS4]
                clear hS4
                have hmz : z ≤ 8 := by have h8 := HF.out.many; obtain ⟨_, _, _, hev, _⟩ := HI.out; cases hev; exact h8
                have HZ : Hid (z = fs.length) := Lib.hid (by obtain ⟨_, _, _, hev, _⟩ := HI.out; cases hev; rfl)
                have HRl := HR.out.lt
                obtain ⟨⟨HR0, HR1, HR2⟩, HRz⟩ := HR.out.three
                go_wp2_with fail
                clear HR0 HR1 HR2 HRz HRl
                go_loopw [93] (fun i wr => ∃ k : Nat, k ≤ z ∧ i = .int .i64 k ∧ Below w9.heap.size w9 wr) (fun i _ => z - (intOf i).toNat)
                case atStart => exact ⟨0, Nat.zero_le _, rfl, Below.refl _ _⟩
                case round =>
                  obtain ⟨k, hk, rfl, hb⟩ := hrel
                  replace HB := Lib.hid (below_step HB.out hb)
                  replace HR := Lib.hid (HR.out.step hb)
                  replace HI := Lib.hid (HI.out.stays hb)
                  replace HI1 := Lib.hid (HI1.out.stays hb)
                  replace HC1 := Lib.hid (HC1.out.step hb)
                  replace HI2 := Lib.hid (HI2.out.stays hb)
                  replace HC2 := Lib.hid (HC2.out.step hb)
                  have HBW := Lib.hid hb
                  clear hb
                  by_cases hlt : k < z
                  · have hko : k < fs.length := by have := HZ.out; omega
                    obtain ⟨_, _, _, hev, _, hc⟩ := HI.out
                    rw [← HZ.out] at hev
                    cases hev
                    obtain ⟨b1, off1, rfl, hbl, g1⟩ := hc (by omega)
                    obtain ⟨uv, q0, q1, q2, hu⟩ := g1 k hko
                    obtain ⟨uu, uc, rfl⟩ := hu.len
                    obtain ⟨x, hx⟩ : ∃ x, x = fs[k]'hko := ⟨_, rfl⟩
                    rw [← hx] at q0 q1 q2
                    have hbk : decide ((k : Int) < (z : Int)) = true := by simpa using (show (k : Int) < z by omega)
                    obtain ⟨⟨ts, bs⟩, hts⟩ : ∃ r, r = readL fs x.n.data.toList := ⟨_, rfl⟩
                    obtain ⟨⟨tt, bt⟩, htt⟩ : ∃ r, r = readL fs1 x.n.data.toList := ⟨_, rfl⟩
                    obtain ⟨⟨tu, bu⟩, htu⟩ : ∃ r, r = readL fs2 x.n.data.toList := ⟨_, rfl⟩
                    have HTS := Lib.hid hts.symm; have HTT := Lib.hid htt.symm; have HTU := Lib.hid htu.symm
                    have HPT : Hid (x.n ≠ n → x.n ≠ m → tt = ts) := Lib.hid (fun h1 h2 => by
                      have := readL_same (l := fs1) (l' := fs) (t := x.n.data.toList) (t' := x.n.data.toList) (by rw [HGG.out, if_neg fun e => h2 (str_txt.2 e), if_neg fun e => h1 (str_txt.2 e)])
                      rw [← hts, ← htt] at this; exact (Prod.mk.inj this).1)
                    have HPU : Hid (x.n ≠ n → tu = ts) := Lib.hid (fun h1 => by
                      have := readL_same (l := fs2) (l' := fs) (t := x.n.data.toList) (t' := x.n.data.toList) (by rw [HGL.out, if_neg fun e => h1 (str_txt.2 e)])
                      rw [← hts, ← htu] at this; exact (Prod.mk.inj this).1)
                    obtain ⟨uz, huz⟩ : ∃ uz, uz = x.ops.length := ⟨_, rfl⟩
                    rw [← huz] at q2
                    clear hc g1 hu hx huz hts htt htu hko
                    have HRl := HR.out.lt
                    obtain ⟨⟨HR0, HR1, HR2⟩, HRz⟩ := HR.out.three
                    go_wp2_with fail
                    clear HR0 HR1 HR2 HRz HRl
                    obtain ⟨X, hX⟩ : ∃ X, X = wr.alloc (.cells #[.string x.n, .string x.d, .slice uu uz uc] 47) := ⟨_, rfl⟩
                    have hb : Below wr.heap.size wr X := by rw [hX]; exact (Below.refl _ _).alloc (Nat.le_refl _) _
                    have HE : Hid (Row X wr.heap.size #[.string x.n, .string x.d, .slice uu uz uc] 47) := by rw [hX]; exact Lib.hid (Row.made _ _ _)
                    rw [← hX]
                    replace HB := Lib.hid (below_step HB.out hb)
                    replace HR := Lib.hid (HR.out.step hb)
                    replace HI := Lib.hid (HI.out.stays hb)
                    replace HI1 := Lib.hid (HI1.out.stays hb)
                    replace HC1 := Lib.hid (HC1.out.step hb)
                    replace HI2 := Lib.hid (HI2.out.stays hb)
                    replace HC2 := Lib.hid (HC2.out.step hb)
                    replace HBW := Lib.hid (below_step HBW.out hb)
                    clear hb hX q0 q1 q2
                    have C := pRead_as ⟨fs, off, fuse⟩ (.slice (some ⟨b1, off1, none⟩) z cap) x.n X HI.out HF.out HTS.out
                    unfold dskV at C
                    dsimp only at C
                    refine C.mono ?_
                    clear C
                    rintro e w10 ⟨rfl, hb⟩
                    replace HB := Lib.hid (below_step HB.out hb)
                    replace HR := Lib.hid (HR.out.step hb)
                    replace HI := Lib.hid (HI.out.stays hb)
                    replace HI1 := Lib.hid (HI1.out.stays hb)
                    replace HC1 := Lib.hid (HC1.out.step hb)
                    replace HI2 := Lib.hid (HI2.out.stays hb)
                    replace HC2 := Lib.hid (HC2.out.step hb)
                    replace HBW := Lib.hid (below_step HBW.out hb)
                    replace HE := Lib.hid (HE.out.step hb)
                    clear hb
                    have HC1l := HC1.out.lt
                    obtain ⟨⟨HC10, HC11, HC12⟩, HC1z⟩ := HC1.out.three
                    have HEl := HE.out.lt
                    obtain ⟨⟨HE0, HE1, HE2⟩, HEz⟩ := HE.out.three
                    go_wp2_with fail
                    clear HC10 HC11 HC12 HC1z HC1l HE0 HE1 HE2 HEz HEl
                    have C := pRead_as ⟨fs1, o1, u1⟩ (.slice a1 z1 c1) x.n w10 HI1.out HF1.out HTT.out
                    unfold dskV at C
                    dsimp only at C
                    refine C.mono ?_
                    clear C
                    rintro e w11 ⟨rfl, hb⟩
                    replace HB := Lib.hid (below_step HB.out hb)
                    replace HR := Lib.hid (HR.out.step hb)
                    replace HI := Lib.hid (HI.out.stays hb)
                    replace HI1 := Lib.hid (HI1.out.stays hb)
                    replace HC1 := Lib.hid (HC1.out.step hb)
                    replace HI2 := Lib.hid (HI2.out.stays hb)
                    replace HC2 := Lib.hid (HC2.out.step hb)
                    replace HBW := Lib.hid (below_step HBW.out hb)
                    replace HE := Lib.hid (HE.out.step hb)
                    clear hb
                    have HC2l := HC2.out.lt
                    obtain ⟨⟨HC20, HC21, HC22⟩, HC2z⟩ := HC2.out.three
                    have HEl := HE.out.lt
                    obtain ⟨⟨HE0, HE1, HE2⟩, HEz⟩ := HE.out.three
                    go_wp2_with fail
                    clear HC20 HC21 HC22 HC2z HC2l HE0 HE1 HE2 HEz HEl
                    have C := pRead_as ⟨fs2, o2, u2⟩ (.slice a2 z2 c2) x.n w11 HI2.out HF2.out HTU.out
                    unfold dskV at C
                    dsimp only at C
                    refine C.mono ?_
                    clear C
                    rintro e w12 ⟨rfl, hb⟩
                    replace HB := Lib.hid (below_step HB.out hb)
                    replace HR := Lib.hid (HR.out.step hb)
                    replace HI := Lib.hid (HI.out.stays hb)
                    replace HI1 := Lib.hid (HI1.out.stays hb)
                    replace HC1 := Lib.hid (HC1.out.step hb)
                    replace HI2 := Lib.hid (HI2.out.stays hb)
                    replace HC2 := Lib.hid (HC2.out.step hb)
                    replace HBW := Lib.hid (below_step HBW.out hb)
                    replace HE := Lib.hid (HE.out.step hb)
                    clear hb
                    by_cases hxn : x.n = n
                    · have y0 : (x.n.toList == n.toList) = true := beq_str hxn
                      have y1 : (x.n.toList != n.toList) = false := by simp [bne, y0]
                      clear hxn
                      have HEl := HE.out.lt
                      obtain ⟨⟨HE0, HE1, HE2⟩, HEz⟩ := HE.out.three
                      go_wp2_with fail
                      go_roundw
                      case rel => exact ⟨k + 1, by omega, by go_num, HBW.out⟩
                      case measure => simp [intOf]; omega
                    · by_cases hxm : x.n = m
                      · have y0 : (x.n.toList == n.toList) = false := bne_str hxn
                        have y1 : (x.n.toList != n.toList) = true := by simp [bne, y0]
                        obtain rfl := HPU.out hxn
                        have y2 : (x.n.toList == m.toList) = true := beq_str hxm
                        have y3 : (x.n.toList != m.toList) = false := by simp [bne, y2]
                        clear hxn hxm
                        have HEl := HE.out.lt
                        obtain ⟨⟨HE0, HE1, HE2⟩, HEz⟩ := HE.out.three
                        go_wp2_with fail
                        go_roundw
                        case rel => exact ⟨k + 1, by omega, by go_num, HBW.out⟩
                        case measure => simp [intOf]; omega
                      · have y0 : (x.n.toList == n.toList) = false := bne_str hxn
                        have y1 : (x.n.toList != n.toList) = true := by simp [bne, y0]
                        obtain rfl := HPU.out hxn
                        have y2 : (x.n.toList == m.toList) = false := bne_str hxm
                        have y3 : (x.n.toList != m.toList) = true := by simp [bne, y2]
                        obtain rfl := HPT.out hxn hxm
                        clear hxn hxm
                        have HEl := HE.out.lt
                        obtain ⟨⟨HE0, HE1, HE2⟩, HEz⟩ := HE.out.three
                        go_wp2_with fail
                        go_roundw
                        case rel => exact ⟨k + 1, by omega, by go_num, HBW.out⟩
                        case measure => simp [intOf]; omega
                  · obtain rfl : k = z := by omega
                    have hbk : decide ((k : Int) < (k : Int)) = false := by simp
                    have t1 : (S0.toList == S0.toList) = true := beq_str rfl
                    go_wp2_with fail
                    refine (CA.out _).mono ?_
                    rintro e w9 ⟨rfl, hb⟩
                    replace HB := Lib.hid (below_step HB.out hb)
                    clear hb
                    go_wp2_with fail
                    go_ret
                    exact ⟨rfl, HB.out⟩
            · have g2 : (e2 == 0) = false := by simpa using he
              clear he
              go_wp2_with fail
              obtain ⟨X5, hX⟩ : ∃ X, X = w5.alloc (.cells #[.slice a2 z2 c2, .bool o2, .int .i64 u2] 24) := ⟨_, rfl⟩
              have hb : Below w5.heap.size w5 X5 := by rw [hX]; exact (Below.refl _ _).alloc (Nat.le_refl _) _
              have HC2 : Hid (Row X5 w5.heap.size #[.slice a2 z2 c2, .bool o2, .int .i64 u2] 24) := by rw [hX]; exact Lib.hid (Row.made _ _ _)
              rw [← hX]
              replace HB := Lib.hid (below_step HB.out hb)
              replace HR := Lib.hid (HR.out.step hb)
              replace HI := Lib.hid (HI.out.stays hb)
              replace HI1 := Lib.hid (HI1.out.stays hb)
              replace HC1 := Lib.hid (HC1.out.step hb)
              replace HI2 := Lib.hid (HI2.out.stays hb)
              clear hb hX
              refine (CA.out _).mono ?_
              rintro e w9 ⟨rfl, hb⟩
              replace HB := Lib.hid (below_step HB.out hb)
              clear hb
              go_wp2_with fail
              go_ret
              exact ⟨rfl, HB.out⟩
          · have g1 : (e1 == 0) = false := by simpa using he
            clear he
            go_wp2_with fail
            obtain ⟨X5, hX⟩ : ∃ X, X = w5.alloc (.cells #[.slice a2 z2 c2, .bool o2, .int .i64 u2] 24) := ⟨_, rfl⟩
            have hb : Below w5.heap.size w5 X5 := by rw [hX]; exact (Below.refl _ _).alloc (Nat.le_refl _) _
            have HC2 : Hid (Row X5 w5.heap.size #[.slice a2 z2 c2, .bool o2, .int .i64 u2] 24) := by rw [hX]; exact Lib.hid (Row.made _ _ _)
            rw [← hX]
            replace HB := Lib.hid (below_step HB.out hb)
            replace HR := Lib.hid (HR.out.step hb)
            replace HI := Lib.hid (HI.out.stays hb)
            replace HI1 := Lib.hid (HI1.out.stays hb)
            replace HC1 := Lib.hid (HC1.out.step hb)
            replace HI2 := Lib.hid (HI2.out.stays hb)
            clear hb hX
            refine (CA.out _).mono ?_
            rintro e w9 ⟨rfl, hb⟩
            replace HB := Lib.hid (below_step HB.out hb)
            clear hb
            go_wp2_with fail
            go_ret
            exact ⟨rfl, HB.out⟩
end Go.Proofs.Ytninfmlemdnjbaa

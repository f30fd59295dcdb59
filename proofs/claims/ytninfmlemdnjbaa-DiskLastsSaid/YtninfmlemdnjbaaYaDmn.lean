/-
  DiskLasts as a walk over this translation. Written by wip/tools/gen_disk_laws.py.
-/
import Derived.Test.YtninfmlemdnjbaaQa4
import Derived.Test.YtninfmlemdnjbaaYaDmr
set_option linter.unusedVariables false
namespace Go.Proofs.Ytninfmlemdnjbaa
open Go.RowKit
attribute [local go_sem] Oper.semAt_some
set_option maxRecDepth 100000 in
set_option maxHeartbeats 32000000 in
theorem diskLasts_w (d : Dsk) (fv : Value) (n : ByteArray) (kv : Value) (keep : List Bool) (w0 : World) (h : IsDfs w0 fv d.fs) (hk : IsBls w0 kv keep) :
    Calls Try.prog 6 #[dskV fv d, .string n, kv] w0 fun e w' => e = .returned (.bool true) ∧ Below w0.heap.size w0 w' := by
  have CA := Lib.hid awake15_any
  obtain ⟨_, a, cap, hu, _, _⟩ := id h
  obtain ⟨z, hz⟩ : ∃ z, z = d.fs.length := ⟨_, rfl⟩
  rw [← hz] at hu
  subst hu
  obtain ⟨fs, off, fuse⟩ := d
  obtain ⟨V, hV⟩ : ∃ V, V = w0.alloc (.cells #[.slice a z cap, .bool off, .int .i64 fuse] 24) := ⟨_, rfl⟩
  have hbV : Below w0.heap.size w0 V := by rw [hV]; exact (Below.refl _ _).alloc (Nat.le_refl _) _
  have hR : Row V w0.heap.size #[.slice a z cap, .bool off, .int .i64 fuse] 24 := by rw [hV]; exact Row.made _ _ _
  have HV := Lib.hid hV; have HB0 := Lib.hid hbV; have HR := Lib.hid hR; have HI := Lib.hid (h.stays hbV)
  have HB := HB0
  obtain ⟨_, ka, kcap, hku, _, _⟩ := id hk
  obtain ⟨kz, hkz⟩ : ∃ z, z = keep.length := ⟨_, rfl⟩
  rw [← hkz] at hku
  subst hku
  have HK := Lib.hid (hk.stays hbV)
  clear hk hkz
  unfold dskV
  dsimp only at HI ⊢
  clear h hz hV hbV hR
  go_enter Try.func6, Try.ntmps6
  go_wp2_with fail
  rw [← HV.out]
  have HRl := HR.out.lt
  obtain ⟨⟨HR0, HR1, HR2⟩, HRz⟩ := HR.out.three
  go_wp2_with fail
  clear HR0 HR1 HR2 HRz HRl
  have C := few15_any ⟨fs, off, fuse⟩ (.slice a z cap) V HI.out
  unfold dskV at C
  dsimp only at C
  refine C.mono ?_
  clear C
  rintro e w2 ⟨rfl, hb⟩
  replace HB := Lib.hid (below_step HB.out hb)
  replace HR := Lib.hid (HR.out.step hb)
  replace HI := Lib.hid (HI.out.stays hb)
  replace HK := Lib.hid (HK.out.stays hb)
  clear hb
  cases hfw : fewDB ⟨fs, off, fuse⟩ with
  | false =>
    clear hfw
    go_wp2_with fail
    refine (CA.out _).mono ?_
    rintro e w9 ⟨rfl, hb⟩
    replace HB := Lib.hid (below_step HB.out hb)
    clear hb
    go_wp2_with fail
    go_ret
    exact ⟨rfl, HB.out⟩
  | true =>
    have HFW := Lib.hid (fewDB_iff.1 hfw)
    clear hfw
    by_cases hcc : 100 < n.size
    · have d1 : decide ((100 : Int) < (n.size : Int)) = true := decide_eq_true (by omega)
      clear hcc
      have HRl := HR.out.lt
      obtain ⟨⟨HR0, HR1, HR2⟩, HRz⟩ := HR.out.three
      go_wp2_with fail
      clear HR0 HR1 HR2 HRz HRl
      refine (CA.out _).mono ?_
      rintro e w9 ⟨rfl, hb⟩
      replace HB := Lib.hid (below_step HB.out hb)
      clear hb
      go_wp2_with fail
      go_ret
      exact ⟨rfl, HB.out⟩
    · have d1 : decide ((100 : Int) < (n.size : Int)) = false := decide_eq_false (by omega)
      have HLd1 : Hid (n.size ≤ 100) := Lib.hid (by omega)
      clear hcc
      by_cases hcc : 2000 < kz
      · have d2 : decide ((2000 : Int) < (kz : Int)) = true := decide_eq_true (by omega)
        clear hcc
        have HRl := HR.out.lt
        obtain ⟨⟨HR0, HR1, HR2⟩, HRz⟩ := HR.out.three
        go_wp2_with fail
        clear HR0 HR1 HR2 HRz HRl
        refine (CA.out _).mono ?_
        rintro e w9 ⟨rfl, hb⟩
        replace HB := Lib.hid (below_step HB.out hb)
        clear hb
        go_wp2_with fail
        go_ret
        exact ⟨rfl, HB.out⟩
      · have d2 : decide ((2000 : Int) < (kz : Int)) = false := decide_eq_false (by omega)
        have HLd2 : Hid (kz ≤ 2000) := Lib.hid (by omega)
        clear hcc
        have HRl := HR.out.lt
        obtain ⟨⟨HR0, HR1, HR2⟩, HRz⟩ := HR.out.three
        go_wp2_with fail
        clear HR0 HR1 HR2 HRz HRl
        have C := rFitD_any ⟨fs, off, fuse⟩ (.slice a z cap) w2 HI.out
        unfold dskV at C
        dsimp only at C
        refine C.mono ?_
        clear C
        rintro e w3 ⟨rfl, hb⟩
        replace HB := Lib.hid (below_step HB.out hb)
        replace HR := Lib.hid (HR.out.step hb)
        replace HI := Lib.hid (HI.out.stays hb)
        replace HK := Lib.hid (HK.out.stays hb)
        clear hb
        cases hft : fitDB ⟨fs, off, fuse⟩ with
        | false =>
          clear hft
          go_wp2_with fail
          refine (CA.out _).mono ?_
          rintro e w9 ⟨rfl, hb⟩
          replace HB := Lib.hid (below_step HB.out hb)
          clear hb
          go_wp2_with fail
          go_ret
          exact ⟨rfl, HB.out⟩
        | true =>
          have HF := Lib.hid (fitDB_iff.1 hft)
          clear hft
          have HRl := HR.out.lt
          obtain ⟨⟨HR0, HR1, HR2⟩, HRz⟩ := HR.out.three
          go_wp2_with fail
          clear HR0 HR1 HR2 HRz HRl
          go_loopw [7, 40] (fun al iv wr => ∃ (k : Nat) (u : Value), k ≤ 2000 ∧ iv = .int .i64 k ∧ u = al ∧ OwnL15 w3.heap.size wr u (List.replicate k true) ∧ Below w3.heap.size w3 wr) (fun _ iv _ => 2000 - (intOf iv).toNat)
          case atStart => exact ⟨0, _, Nat.zero_le _, rfl, rfl, ownL15_nil _ _, Below.refl _ _⟩
          case round =>
            obtain ⟨k, u, hk, rfl, rfl, hO, hb⟩ := hrel
            have HO := Lib.hid hO; have HBL := Lib.hid hb
            by_cases hlt : k < 2000
            · have hbk : decide ((k : Int) < (2000 : Int)) = true := decide_eq_true (by omega)
              clear hO hb
              have HLN : Hid ((List.replicate k true).length ≤ 1000000) := Lib.hid (by rw [List.length_replicate]; omega)
              have HSZ := Lib.hid HBL.out.size
              have HRP : Hid (List.replicate k true ++ [true] = List.replicate (k + 1) true) := Lib.hid (by rw [List.replicate_succ'])
              go_wp2_with (at_builtin; refine wpList_append_bool (y := true) rfl _ _ rfl HO.out HSZ.out rfl rfl HLN.out ?_)
              intro v' w' ho2 hb2
              rw [HRP.out] at ho2
              have HO2 := Lib.hid ho2; have HB2 := Lib.hid (HBL.out.trans hb2)
              clear ho2 hb2
              go_wp2
              go_roundw
              case rel => exact ⟨k + 1, _, by omega, by go_num, rfl, HO2.out, HB2.out⟩
              case measure => simp [intOf]; omega
            · obtain rfl : k = 2000 := by omega
              have hbk : decide ((2000 : Int) < (2000 : Int)) = false := by decide
              replace HB := Lib.hid (below_step HB.out hb)
              replace HR := Lib.hid (HR.out.step hb)
              replace HI := Lib.hid (HI.out.stays hb)
              replace HK := Lib.hid (HK.out.stays hb)
              have HAL := Lib.hid hO.is
              clear hO hb HO HBL
              obtain ⟨_, aa, ca, hua, _, _⟩ := id HAL.out
              rw [List.length_replicate] at hua
              subst hua
              obtain ⟨KA, hKA⟩ : ∃ K, K = List.replicate 2000 true := ⟨_, rfl⟩
              rw [← hKA] at HAL
              have HKA := Lib.hid hKA
              clear hKA
              obtain ⟨L, hL⟩ : ∃ L, L = crashL KA 0 fs := ⟨_, rfl⟩
              have HL := Lib.hid hL
              clear hL
              have HFC : Hid (FitD nameB ⟨L, false, -1⟩) := Lib.hid (by have h9 := crashD_fit HF.out KA; unfold crashD at h9; dsimp only at h9; rwa [← HL.out] at h9)
              have HSAME : Hid (∀ t, (getF L t).map seenF = (getF fs t).map seenF) := Lib.hid (fun t => by
                rw [HL.out]
                refine crashL_all fun i _ hi => ?_
                have h8 := opsL_max HF.out
                dsimp only at h8
                rw [HKA.out, List.getD_eq_getElem?_getD, List.getElem?_replicate, if_pos (by omega)]; rfl)
              have HRl := HR.out.lt
              obtain ⟨⟨HR0, HR1, HR2⟩, HRz⟩ := HR.out.three
              go_wp2_with fail
              clear HR0 HR1 HR2 HRz HRl
              have C := pCrash_any ⟨fs, off, fuse⟩ (.slice a z cap) (.slice aa 2000 ca) KA wr HI.out HAL.out HF.out
              unfold dskV at C
              dsimp only [crashD] at C
              rw [← HL.out] at C
              refine C.mono ?_
              clear C
              rintro e w4 ⟨v3, rfl, h1, hb⟩
              obtain ⟨a3, c3, hv3⟩ := h1.len
              obtain ⟨z3, hz3⟩ : ∃ z, z = L.length := ⟨_, rfl⟩
              rw [← hz3] at hv3
              subst hv3
              have HI3 := Lib.hid h1
              clear h1 hz3
              replace HB := Lib.hid (below_step HB.out hb)
              replace HR := Lib.hid (HR.out.step hb)
              replace HI := Lib.hid (HI.out.stays hb)
              replace HK := Lib.hid (HK.out.stays hb)
              replace HAL := Lib.hid (HAL.out.stays hb)
              clear hb
              have HZ : Hid (z = fs.length) := Lib.hid (by obtain ⟨_, _, _, hev, _⟩ := HI.out; cases hev; rfl)
              have hmz : z ≤ 8 := by have h8 := HF.out.many; have h9 := HZ.out; dsimp only at h8; omega
              have HRl := HR.out.lt
              obtain ⟨⟨HR0, HR1, HR2⟩, HRz⟩ := HR.out.three
              go_wp2_with fail
              clear HR0 HR1 HR2 HRz HRl
              obtain ⟨X, hX⟩ : ∃ X, X = w4.alloc (.cells #[.slice a3 z3 c3, .bool false, .int .i64 (-1)] 24) := ⟨_, rfl⟩
              have hb : Below w4.heap.size w4 X := by rw [hX]; exact (Below.refl _ _).alloc (Nat.le_refl _) _
              have HC3 : Hid (Row X w4.heap.size #[.slice a3 z3 c3, .bool false, .int .i64 (-1)] 24) := by rw [hX]; exact Lib.hid (Row.made _ _ _)
              rw [← hX]
              replace HB := Lib.hid (below_step HB.out hb)
              replace HR := Lib.hid (HR.out.step hb)
              replace HI := Lib.hid (HI.out.stays hb)
              replace HK := Lib.hid (HK.out.stays hb)
              replace HI3 := Lib.hid (HI3.out.stays hb)
              clear hb hX
              go_loopw [52] (fun i wr => ∃ k : Nat, k ≤ z ∧ i = .int .i64 k ∧ Below X.heap.size X wr) (fun i _ => z - (intOf i).toNat)
              case atStart => exact ⟨0, Nat.zero_le _, rfl, Below.refl _ _⟩
              case round =>
                clear hbk
                obtain ⟨k, hk, rfl, hb⟩ := hrel
                replace HB := Lib.hid (below_step HB.out hb)
                replace HR := Lib.hid (HR.out.step hb)
                replace HI := Lib.hid (HI.out.stays hb)
                replace HK := Lib.hid (HK.out.stays hb)
                replace HI3 := Lib.hid (HI3.out.stays hb)
                replace HC3 := Lib.hid (HC3.out.step hb)
                have HBW := Lib.hid hb
                clear hb
                by_cases hlt : k < z
                · have hko : k < fs.length := by have := HZ.out; omega
                  obtain ⟨_, _, _, hev, _, hc⟩ := HI.out
                  rw [← HZ.out] at hev
                  cases hev
                  obtain ⟨b1, off1, rfl, hbl, g1⟩ := hc (by omega)
                  obtain ⟨uv, q0, q1, q2, hu⟩ := g1 k hko
                  obtain ⟨uu, uc, rfl⟩ := hu.len
                  have HXM := Lib.hid (List.getElem_mem hko)
                  obtain ⟨x, hx⟩ : ∃ x, x = fs[k]'hko := ⟨_, rfl⟩
                  rw [← hx] at q0 q1 q2 HXM
                  have hbk : decide ((k : Int) < (z : Int)) = true := by simpa using (show (k : Int) < z by omega)
                  have HTS : Hid (readL fs x.n.data.toList = (seenF x, true)) := Lib.hid (readL_some ((getF_some HF.out.rise).2 ⟨HXM.out, rfl⟩))
                  have HTT : Hid (readL L x.n.data.toList = (seenF x, true)) := Lib.hid (by rw [← HTS.out]; exact readL_seen (HSAME.out _))
                  obtain ⟨ts, hts⟩ : ∃ t, t = seenF x := ⟨_, rfl⟩
                  rw [← hts] at HTS HTT
                  obtain ⟨S, hS⟩ : ∃ S, S = strT ts := ⟨_, rfl⟩
                  have HS := Lib.hid hS
                  have t1 : (S.toList == S.toList) = true := beq_str rfl
                  obtain ⟨uz, huz⟩ : ∃ uz, uz = x.ops.length := ⟨_, rfl⟩
                  rw [← huz] at q2
                  clear hc g1 hu hx huz hts hS hko
                  have HRl := HR.out.lt
                  obtain ⟨⟨HR0, HR1, HR2⟩, HRz⟩ := HR.out.three
                  go_wp2_with fail
                  clear HR0 HR1 HR2 HRz HRl
                  obtain ⟨Y, hY⟩ : ∃ X, X = wr.alloc (.cells #[.string x.n, .string x.d, .slice uu uz uc] 47) := ⟨_, rfl⟩
                  have hb : Below wr.heap.size wr Y := by rw [hY]; exact (Below.refl _ _).alloc (Nat.le_refl _) _
                  have HE : Hid (Row Y wr.heap.size #[.string x.n, .string x.d, .slice uu uz uc] 47) := by rw [hY]; exact Lib.hid (Row.made _ _ _)
                  rw [← hY]
                  replace HB := Lib.hid (below_step HB.out hb)
                  replace HR := Lib.hid (HR.out.step hb)
                  replace HI := Lib.hid (HI.out.stays hb)
                  replace HK := Lib.hid (HK.out.stays hb)
                  replace HI3 := Lib.hid (HI3.out.stays hb)
                  replace HC3 := Lib.hid (HC3.out.step hb)
                  replace HBW := Lib.hid (below_step HBW.out hb)
                  clear hb hY q0 q1 q2
                  have C := pRead_as ⟨fs, off, fuse⟩ (.slice (some ⟨b1, off1, none⟩) z cap) x.n Y HI.out HF.out HTS.out
                  unfold dskV at C
                  dsimp only at C
                  rw [← HS.out] at C
                  refine C.mono ?_
                  clear C
                  rintro e w5 ⟨rfl, hb⟩
                  replace HB := Lib.hid (below_step HB.out hb)
                  replace HR := Lib.hid (HR.out.step hb)
                  replace HI := Lib.hid (HI.out.stays hb)
                  replace HK := Lib.hid (HK.out.stays hb)
                  replace HI3 := Lib.hid (HI3.out.stays hb)
                  replace HC3 := Lib.hid (HC3.out.step hb)
                  replace HBW := Lib.hid (below_step HBW.out hb)
                  replace HE := Lib.hid (HE.out.step hb)
                  clear hb
                  have HC3l := HC3.out.lt
                  obtain ⟨⟨HC30, HC31, HC32⟩, HC3z⟩ := HC3.out.three
                  have HEl := HE.out.lt
                  obtain ⟨⟨HE0, HE1, HE2⟩, HEz⟩ := HE.out.three
                  go_wp2_with fail
                  clear HC30 HC31 HC32 HC3z HC3l HE0 HE1 HE2 HEz HEl
                  have C := pRead_as ⟨L, false, -1⟩ (.slice a3 z3 c3) x.n w5 HI3.out HFC.out HTT.out
                  unfold dskV at C
                  dsimp only at C
                  rw [← HS.out] at C
                  refine C.mono ?_
                  clear C
                  rintro e w6 ⟨rfl, hb⟩
                  replace HB := Lib.hid (below_step HB.out hb)
                  replace HR := Lib.hid (HR.out.step hb)
                  replace HI := Lib.hid (HI.out.stays hb)
                  replace HK := Lib.hid (HK.out.stays hb)
                  replace HI3 := Lib.hid (HI3.out.stays hb)
                  replace HC3 := Lib.hid (HC3.out.step hb)
                  replace HBW := Lib.hid (below_step HBW.out hb)
                  replace HE := Lib.hid (HE.out.step hb)
                  clear hb
                  go_wp2_with fail
                  go_roundw
                  case rel => exact ⟨k + 1, by omega, by go_num, HBW.out⟩
                  case measure => simp [intOf]; omega
                · obtain rfl : k = z := by omega
                  have hbk : decide ((k : Int) < (k : Int)) = false := by simp
                  obtain ⟨⟨⟨fs1, o1, u1⟩, e1⟩, hr1⟩ : ∃ r, r = syncD ⟨fs, off, fuse⟩ n := ⟨_, rfl⟩
                  have HF1 : Hid (FitD nameB ⟨fs1, o1, u1⟩) := Lib.hid (by have h9 := syncD_fit HF.out n; rwa [← hr1] at h9)
                  have HR1 := Lib.hid hr1
                  clear hr1
                  have HRl := HR.out.lt
                  obtain ⟨⟨HR0, HR1, HR2⟩, HRz⟩ := HR.out.three
                  go_wp2_with fail
                  clear HR0 HR1 HR2 HRz HRl
                  have C := pSync_any ⟨fs, off, fuse⟩ (.slice a k cap) n wr HI.out HF.out
                  rw [← HR1.out] at C
                  unfold dskV at C
                  refine C.mono ?_
                  clear C
                  rintro e w5 hr
                  obtain ⟨a1, z1, c1, rfl, h1, hb⟩ := hr.open
                  have HI1 := Lib.hid h1
                  clear hr h1
                  replace HB := Lib.hid (below_step HB.out hb)
                  replace HR := Lib.hid (HR.out.step hb)
                  replace HI := Lib.hid (HI.out.stays hb)
                  replace HK := Lib.hid (HK.out.stays hb)
                  replace HI3 := Lib.hid (HI3.out.stays hb)
                  replace HC3 := Lib.hid (HC3.out.step hb)
                  replace HBW := Lib.hid (below_step HBW.out hb)
                  clear hb
                  dsimp only at HI1 ⊢
                  by_cases he : e1 = 0
                  · subst he
                    obtain ⟨f, hg, hfs⟩ := sync_okD (d := ⟨fs, off, fuse⟩) (n := n) (by rw [← HR1.out])
                    rw [← HR1.out] at hfs
                    dsimp only at hfs hg
                    have hgf : getF fs1 n.data.toList = some ⟨n, strT (seenF f), []⟩ := by rw [hfs, withF_get HF.out.rise]; exact if_pos rfl
                    obtain ⟨t0, ht0⟩ : ∃ t, t = seenF f := ⟨_, rfl⟩
                    rw [← ht0] at hgf
                    have HA1 : Hid (readL fs1 n.data.toList = (t0, true)) := Lib.hid (by rw [readL_some hgf, seenF_none])
                    obtain ⟨L1, hL1⟩ : ∃ L, L = crashL keep 0 fs1 := ⟨_, rfl⟩
                    have HL1 := Lib.hid hL1
                    have HFC1 : Hid (FitD nameB ⟨L1, false, -1⟩) := Lib.hid (by have h9 := crashD_fit HF1.out keep; unfold crashD at h9; dsimp only at h9; rwa [← HL1.out] at h9)
                    have HA2 : Hid (readL L1 n.data.toList = (t0, true)) := Lib.hid (by
                      obtain ⟨g, hg1, hg2⟩ := crashL_last (keep := keep) (n := 0) hgf rfl
                      rw [← hL1] at hg1
                      rw [readL_some hg1, hg2]
                      exact congrArg (fun t => (t, true)) (strT_txt t0))
                    obtain ⟨S0, hS0⟩ : ∃ S, S = strT t0 := ⟨_, rfl⟩
                    have HS0 := Lib.hid hS0
                    have t1 : (S0.toList == S0.toList) = true := beq_str rfl
                    clear hg hfs hgf ht0 hL1 hS0 HR1
                    go_wp2_with fail
                    obtain ⟨X5, hX⟩ : ∃ X, X = w5.alloc (.cells #[.slice a1 z1 c1, .bool o1, .int .i64 u1] 24) := ⟨_, rfl⟩
                    have hb : Below w5.heap.size w5 X5 := by rw [hX]; exact (Below.refl _ _).alloc (Nat.le_refl _) _
                    have HC1 : Hid (Row X5 w5.heap.size #[.slice a1 z1 c1, .bool o1, .int .i64 u1] 24) := by rw [hX]; exact Lib.hid (Row.made _ _ _)
                    rw [← hX]
                    replace HB := Lib.hid (below_step HB.out hb)
                    replace HR := Lib.hid (HR.out.step hb)
                    replace HI := Lib.hid (HI.out.stays hb)
                    replace HK := Lib.hid (HK.out.stays hb)
                    replace HI3 := Lib.hid (HI3.out.stays hb)
                    replace HC3 := Lib.hid (HC3.out.step hb)
                    replace HBW := Lib.hid (below_step HBW.out hb)
                    replace HI1 := Lib.hid (HI1.out.stays hb)
                    clear hb hX
                    have C := pRead_as ⟨fs1, o1, u1⟩ (.slice a1 z1 c1) n X5 HI1.out HF1.out HA1.out
                    unfold dskV at C
                    dsimp only at C
                    rw [← HS0.out] at C
                    refine C.mono ?_
                    clear C
                    rintro e w6 ⟨rfl, hb⟩
                    replace HB := Lib.hid (below_step HB.out hb)
                    replace HR := Lib.hid (HR.out.step hb)
                    replace HI := Lib.hid (HI.out.stays hb)
                    replace HK := Lib.hid (HK.out.stays hb)
                    replace HI3 := Lib.hid (HI3.out.stays hb)
                    replace HC3 := Lib.hid (HC3.out.step hb)
                    replace HBW := Lib.hid (below_step HBW.out hb)
                    replace HI1 := Lib.hid (HI1.out.stays hb)
                    replace HC1 := Lib.hid (HC1.out.step hb)
                    clear hb
                    have HC1l := HC1.out.lt
                    obtain ⟨⟨HC10, HC11, HC12⟩, HC1z⟩ := HC1.out.three
                    go_wp2_with fail
                    clear HC10 HC11 HC12 HC1z HC1l
                    have C := pCrash_any ⟨fs1, o1, u1⟩ (.slice a1 z1 c1) (.slice ka kz kcap) keep w6 HI1.out HK.out HF1.out
                    unfold dskV at C
                    dsimp only [crashD] at C
                    rw [← HL1.out] at C
                    refine C.mono ?_
                    clear C
                    rintro e w7 ⟨v4, rfl, h1, hb⟩
                    obtain ⟨a4, c4, hv4⟩ := h1.len
                    obtain ⟨z4, hz4⟩ : ∃ z, z = L1.length := ⟨_, rfl⟩
                    rw [← hz4] at hv4
                    subst hv4
                    have HI4 := Lib.hid h1
                    clear h1 hz4
                    replace HB := Lib.hid (below_step HB.out hb)
                    replace HR := Lib.hid (HR.out.step hb)
                    replace HI := Lib.hid (HI.out.stays hb)
                    replace HK := Lib.hid (HK.out.stays hb)
                    replace HI3 := Lib.hid (HI3.out.stays hb)
                    replace HC3 := Lib.hid (HC3.out.step hb)
                    replace HBW := Lib.hid (below_step HBW.out hb)
                    replace HI1 := Lib.hid (HI1.out.stays hb)
                    replace HC1 := Lib.hid (HC1.out.step hb)
                    clear hb
                    go_wp2_with fail
                    have C := pRead_as ⟨L1, false, -1⟩ (.slice a4 z4 c4) n w7 HI4.out HFC1.out HA2.out
                    unfold dskV at C
                    dsimp only at C
                    rw [← HS0.out] at C
                    refine C.mono ?_
                    clear C
                    rintro e w8 ⟨rfl, hb⟩
                    replace HB := Lib.hid (below_step HB.out hb)
                    replace HR := Lib.hid (HR.out.step hb)
                    replace HI := Lib.hid (HI.out.stays hb)
                    replace HK := Lib.hid (HK.out.stays hb)
                    replace HI3 := Lib.hid (HI3.out.stays hb)
                    replace HC3 := Lib.hid (HC3.out.step hb)
                    replace HBW := Lib.hid (below_step HBW.out hb)
                    replace HI1 := Lib.hid (HI1.out.stays hb)
                    replace HC1 := Lib.hid (HC1.out.step hb)
                    replace HI4 := Lib.hid (HI4.out.stays hb)
                    clear hb
                    go_wp2_with fail
                    refine (CA.out _).mono ?_
                    rintro e w9 ⟨rfl, hb⟩
                    replace HB := Lib.hid (below_step HB.out hb)
                    clear hb
                    go_wp2_with fail
                    go_ret
                    exact ⟨rfl, HB.out⟩
                  · have g1 : (e1 == 0) = false := by simpa using he
                    clear he
                    go_wp2_with fail
                    obtain ⟨X5, hX⟩ : ∃ X, X = w5.alloc (.cells #[.slice a1 z1 c1, .bool o1, .int .i64 u1] 24) := ⟨_, rfl⟩
                    have hb : Below w5.heap.size w5 X5 := by rw [hX]; exact (Below.refl _ _).alloc (Nat.le_refl _) _
                    have HC1 : Hid (Row X5 w5.heap.size #[.slice a1 z1 c1, .bool o1, .int .i64 u1] 24) := by rw [hX]; exact Lib.hid (Row.made _ _ _)
                    rw [← hX]
                    replace HB := Lib.hid (below_step HB.out hb)
                    replace HR := Lib.hid (HR.out.step hb)
                    replace HI := Lib.hid (HI.out.stays hb)
                    replace HK := Lib.hid (HK.out.stays hb)
                    replace HI3 := Lib.hid (HI3.out.stays hb)
                    replace HC3 := Lib.hid (HC3.out.step hb)
                    replace HBW := Lib.hid (below_step HBW.out hb)
                    replace HI1 := Lib.hid (HI1.out.stays hb)
                    clear hb hX
                    refine (CA.out _).mono ?_
                    rintro e w9 ⟨rfl, hb⟩
                    replace HB := Lib.hid (below_step HB.out hb)
                    clear hb
                    go_wp2_with fail
                    go_ret
                    exact ⟨rfl, HB.out⟩
end Go.Proofs.Ytninfmlemdnjbaa

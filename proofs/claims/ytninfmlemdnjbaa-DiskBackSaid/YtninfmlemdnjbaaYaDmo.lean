/-
  DiskBack as a walk over this translation. Written by wip/tools/gen_disk_laws.py.
-/
import Derived.Test.YtninfmlemdnjbaaQa4
import Derived.Test.YtninfmlemdnjbaaYaDmq
import Derived.Test.YtninfmlemdnjbaaQa0
set_option linter.unusedVariables false
namespace Go.Proofs.Ytninfmlemdnjbaa
open Go.RowKit
attribute [local go_sem] Oper.semAt_some
theorem strT_at {l : Txt} {k : Nat} (h : k < (strT l).size) : (strT l)[k]'h = byteT l k := by
  have h1 : k < l.length := by rwa [strT_size] at h
  unfold byteT
  rw [List.getD_eq_getElem?_getD, List.getElem?_eq_getElem h1]
  show (strT l).data[k]'_ = _
  simp [strT]
theorem byteT_out {l : Txt} {k : Nat} (h : l.length ≤ k) : byteT l k = 0 := by
  unfold byteT
  rw [List.getD_eq_getElem?_getD, List.getElem?_eq_none h]; rfl
def wrT (t0 : Txt) (x : Nat) (s : ByteArray) : Txt := if s.size = 0 then t0 else layT t0 x s.data.toList
theorem wrT_at {t0 : Txt} {x : Nat} {s : ByteArray} {k : Nat} (hk : k < x ∨ x + s.size ≤ k) : byteT (wrT t0 x s) k = byteT t0 k := by
  unfold wrT
  split
  · rfl
  · rw [layT_byte, if_neg (by rw [dsize]; omega)]
theorem wrT_old {t0 : Txt} {x : Nat} {s : ByteArray} {k : Nat} (hk : k < x ∨ x + s.size ≤ k) (h1 : k < (strT (wrT t0 x s)).size) (h2 : k < (strT t0).size) : (strT (wrT t0 x s))[k]'h1 = (strT t0)[k]'h2 := by rw [strT_at, strT_at, wrT_at hk]
theorem wrT_new {t0 : Txt} {x : Nat} {s : ByteArray} {k : Nat} (hk : k < x ∨ x + s.size ≤ k) (h1 : k < (strT (wrT t0 x s)).size) (h2 : (strT t0).size ≤ k) : (strT (wrT t0 x s))[k]'h1 = 0 := by rw [strT_at, wrT_at hk, byteT_out (by rwa [strT_size] at h2)]
theorem wrT_len {t0 : Txt} {x : Nat} {s : ByteArray} (hs : s.size ≠ 0) : (strT (wrT t0 x s)).size = max (strT t0).size (x + s.size) := by
  rw [strT_size, strT_size]; unfold wrT; rw [if_neg hs, layT_len, dsize]
theorem wrT_mid {t0 : Txt} {x : Nat} {s : ByteArray} (hs : s.size ≠ 0) : (strT (wrT t0 x s)).extract x (x + s.size) = s := by
  refine str_txt.2 ?_
  unfold wrT
  rw [if_neg hs]
  have h := layT_mid t0 x s.data.toList
  rw [dsize] at h
  rw [ByteArray.data_extract]
  simp only [strT, Array.toList_extract, List.extract_eq_take_drop]
  rw [show x + s.size - x = s.size by omega]
  exact h
theorem wrT_none (t0 : Txt) (x : Nat) {s : ByteArray} (hs : s.size = 0) : wrT t0 x s = t0 := if_pos hs
theorem write_badD {d : Dsk} {n : ByteArray} {x : Int} {s : ByteArray} (he : (writeD nameB d n x s).2 ≠ 0) : (writeD nameB d n x s).2 = 13 ∨ (writeD nameB d n x s).1 = d := by
  unfold writeD at he ⊢
  by_cases h1 : d.off = true
  · rw [if_pos h1]; exact .inr rfl
  by_cases h2 : nameB n.data.toList = false
  · rw [if_neg h1, if_pos h2]; exact .inr rfl
  by_cases h3 : x < 0 ∨ 262144 < x + s.size
  · rw [if_neg h1, if_neg h2, if_pos h3]; exact .inr rfl
  by_cases h4 : fullD d n s
  · rw [if_neg h1, if_neg h2, if_neg h3, if_pos h4]; exact .inr rfl
  rw [if_neg h1, if_neg h2, if_neg h3, if_neg h4] at he ⊢
  by_cases hp : (powD d).2 = 0
  · rw [thenD_ok hp] at he; exact absurd rfl he
  · rw [thenD_bad hp]
    unfold powD at hp ⊢
    by_cases h5 : d.fuse = 0
    · rw [if_pos h5]; exact .inl rfl
    · rw [if_neg h5] at hp
      by_cases h6 : 0 < d.fuse
      · rw [if_pos h6] at hp; exact absurd rfl hp
      · rw [if_neg h6] at hp; exact absurd rfl hp
set_option maxRecDepth 100000 in
set_option maxHeartbeats 32000000 in
theorem diskBack_w (d : Dsk) (fv : Value) (n : ByteArray) (x : Nat) (s o : ByteArray) (hx : x < 65536) (w0 : World) (h : IsDfs w0 fv d.fs) :
    Calls Try.prog 5 #[dskV fv d, .string n, .int .u16 x, .string s, .string o] w0 fun e w' => e = .returned (.bool true) ∧ Below w0.heap.size w0 w' := by
  have CA := Lib.hid awake15_any
  obtain ⟨_, a, cap, hu, _, _⟩ := id h
  obtain ⟨z, hz⟩ : ∃ z, z = d.fs.length := ⟨_, rfl⟩
  rw [← hz] at hu
  subst hu
  obtain ⟨fs, off, fuse⟩ := d
  obtain ⟨V, hV⟩ : ∃ V, V = w0.alloc (.cells #[.slice a z cap, .bool off, .int .i64 fuse] 24) := ⟨_, rfl⟩
  have hbV : Below w0.heap.size w0 V := by rw [hV]; exact (Below.refl _ _).alloc (Nat.le_refl _) _
  have hR : Row V w0.heap.size #[.slice a z cap, .bool off, .int .i64 fuse] 24 := by rw [hV]; exact Row.made _ _ _
  have HV := Lib.hid hV; have HB0 := Lib.hid hbV; have HR := Lib.hid hR; have HI := Lib.hid (h.stays hbV)
  have HB := HB0
  unfold dskV
  dsimp only at HI ⊢
  clear h hz hV hbV hR
  go_enter Try.func5, Try.ntmps5
  go_wp2_with fail
  rw [← HV.out]
  have HRl := HR.out.lt
  obtain ⟨⟨HR0, HR1, HR2⟩, HRz⟩ := HR.out.three
  go_wp2_with fail
  clear HR0 HR1 HR2 HRz HRl
  have C := few15_any ⟨fs, off, fuse⟩ (.slice a z cap) V HI.out
  unfold dskV at C
  dsimp only at C
  refine C.mono ?_
  clear C
  rintro e w2 ⟨rfl, hb⟩
  replace HB := Lib.hid (below_step HB.out hb)
  replace HR := Lib.hid (HR.out.step hb)
  replace HI := Lib.hid (HI.out.stays hb)
  clear hb
  cases hfw : fewDB ⟨fs, off, fuse⟩ with
  | false =>
    clear hfw
    go_wp2_with fail
    refine (CA.out _).mono ?_
    rintro e w9 ⟨rfl, hb⟩
    replace HB := Lib.hid (below_step HB.out hb)
    clear hb
    go_wp2_with fail
    go_ret
    exact ⟨rfl, HB.out⟩
  | true =>
    have HFW := Lib.hid (fewDB_iff.1 hfw)
    clear hfw
    by_cases hcc : 100 < n.size
    · have d1 : decide ((100 : Int) < (n.size : Int)) = true := decide_eq_true (by omega)
      clear hcc
      have HRl := HR.out.lt
      obtain ⟨⟨HR0, HR1, HR2⟩, HRz⟩ := HR.out.three
      go_wp2_with fail
      clear HR0 HR1 HR2 HRz HRl
      refine (CA.out _).mono ?_
      rintro e w9 ⟨rfl, hb⟩
      replace HB := Lib.hid (below_step HB.out hb)
      clear hb
      go_wp2_with fail
      go_ret
      exact ⟨rfl, HB.out⟩
    · have d1 : decide ((100 : Int) < (n.size : Int)) = false := decide_eq_false (by omega)
      have HLd1 : Hid (n.size ≤ 100) := Lib.hid (by omega)
      clear hcc
      by_cases hcc : 3000 < s.size
      · have d2 : decide ((3000 : Int) < (s.size : Int)) = true := decide_eq_true (by omega)
        clear hcc
        have HRl := HR.out.lt
        obtain ⟨⟨HR0, HR1, HR2⟩, HRz⟩ := HR.out.three
        go_wp2_with fail
        clear HR0 HR1 HR2 HRz HRl
        refine (CA.out _).mono ?_
        rintro e w9 ⟨rfl, hb⟩
        replace HB := Lib.hid (below_step HB.out hb)
        clear hb
        go_wp2_with fail
        go_ret
        exact ⟨rfl, HB.out⟩
      · have d2 : decide ((3000 : Int) < (s.size : Int)) = false := decide_eq_false (by omega)
        have HLd2 : Hid (s.size ≤ 3000) := Lib.hid (by omega)
        clear hcc
        have HRl := HR.out.lt
        obtain ⟨⟨HR0, HR1, HR2⟩, HRz⟩ := HR.out.three
        go_wp2_with fail
        clear HR0 HR1 HR2 HRz HRl
        have C := rFitD_any ⟨fs, off, fuse⟩ (.slice a z cap) w2 HI.out
        unfold dskV at C
        dsimp only at C
        refine C.mono ?_
        clear C
        rintro e w3 ⟨rfl, hb⟩
        replace HB := Lib.hid (below_step HB.out hb)
        replace HR := Lib.hid (HR.out.step hb)
        replace HI := Lib.hid (HI.out.stays hb)
        clear hb
        cases hft : fitDB ⟨fs, off, fuse⟩ with
        | false =>
          clear hft
          go_wp2_with fail
          refine (CA.out _).mono ?_
          rintro e w9 ⟨rfl, hb⟩
          replace HB := Lib.hid (below_step HB.out hb)
          clear hb
          go_wp2_with fail
          go_ret
          exact ⟨rfl, HB.out⟩
        | true =>
          have HF := Lib.hid (fitDB_iff.1 hft)
          clear hft
          by_cases hcc : 100 < o.size
          · have d3 : decide ((100 : Int) < (o.size : Int)) = true := decide_eq_true (by omega)
            clear hcc
            go_wp2_with fail
            refine (CA.out _).mono ?_
            rintro e w9 ⟨rfl, hb⟩
            replace HB := Lib.hid (below_step HB.out hb)
            clear hb
            go_wp2_with fail
            go_ret
            exact ⟨rfl, HB.out⟩
          · have d3 : decide ((100 : Int) < (o.size : Int)) = false := decide_eq_false (by omega)
            clear hcc
            obtain ⟨⟨t0, was⟩, hA0⟩ : ∃ r, r = readL fs n.data.toList := ⟨_, rfl⟩
            have HA0 := Lib.hid hA0.symm
            obtain ⟨⟨⟨fs1, o1, u1⟩, e1⟩, hr1⟩ : ∃ r, r = writeD nameB ⟨fs, off, fuse⟩ n x s := ⟨_, rfl⟩
            have HF1 : Hid (FitD nameB ⟨fs1, o1, u1⟩) := Lib.hid (by have h9 := writeD_fit HF.out n x s; rwa [← hr1] at h9)
            have HR1 := Lib.hid hr1
            have HX := Lib.hid hx
            have HS3 := Lib.hid HLd2.out
            clear hA0 hr1 hx
            obtain ⟨O, hO⟩ : ∃ S, S = strT t0 := ⟨_, rfl⟩
            have HO := Lib.hid hO
            clear hO
            have HRl := HR.out.lt
            obtain ⟨⟨HR0, HR1, HR2⟩, HRz⟩ := HR.out.three
            go_wp2_with fail
            clear HR0 HR1 HR2 HRz HRl
            have C := pRead_as ⟨fs, off, fuse⟩ (.slice a z cap) n w3 HI.out HF.out HA0.out
            unfold dskV at C
            dsimp only at C
            rw [← HO.out] at C
            refine C.mono ?_
            clear C
            rintro e w4 ⟨rfl, hb⟩
            replace HB := Lib.hid (below_step HB.out hb)
            replace HR := Lib.hid (HR.out.step hb)
            replace HI := Lib.hid (HI.out.stays hb)
            clear hb
            have hcv : IntKind.i64.wrap (x : Int) = (x : Int) := IntWalk.i64_in _ (by have := HX.out; omega)
            have HRl := HR.out.lt
            obtain ⟨⟨HR0, HR1, HR2⟩, HRz⟩ := HR.out.three
            go_wp2_with fail
            clear HR0 HR1 HR2 HRz HRl
            have C := pWrite_any ⟨fs, off, fuse⟩ (.slice a z cap) n x s w4 HI.out HF.out (Nat.le_trans HLd1.out (by decide)) (by have := HX.out; omega) (Nat.le_trans HS3.out (by decide))
            rw [← HR1.out] at C
            unfold dskV at C
            refine C.mono ?_
            clear C
            rintro e w5 hr
            obtain ⟨a1, z1, c1, rfl, h1, hb⟩ := hr.open
            have HI1 := Lib.hid h1
            clear hr h1
            replace HB := Lib.hid (below_step HB.out hb)
            replace HR := Lib.hid (HR.out.step hb)
            replace HI := Lib.hid (HI.out.stays hb)
            clear hb
            dsimp only at HI1 ⊢
            by_cases he : e1 = 0
            · subst he
              have hwr := writeD_read HF.out (n := n) (a := (x : Int)) (s := s) (by rw [← HR1.out])
              rw [← HR1.out] at hwr
              have HA1 : Hid (readL fs1 n.data.toList = (wrT t0 x s, true)) := Lib.hid (by
                have h9 := hwr n.data.toList
                rw [if_pos rfl, readD_L, readD_L] at h9
                dsimp only at h9
                rw [h9, HA0.out]; rfl)
              have HAO : Hid (n.data.toList ≠ o.data.toList → readL fs1 o.data.toList = readL fs o.data.toList) := Lib.hid (fun hne => by
                have h9 := hwr o.data.toList
                rw [if_neg (fun e => hne e.symm)] at h9
                exact h9)
              have HW : Hid (was = false → O = ⟨#[]⟩) := Lib.hid (fun hw => by
                have h9 := HA0.out
                rw [hw] at h9
                unfold readL at h9
                cases hg : getF fs n.data.toList with
                | none => rw [hg] at h9; rw [HO.out, ← (Prod.mk.inj h9).1]; rfl
                | some f => rw [hg] at h9; cases (Prod.mk.inj h9).2)
              clear hwr HR1
              obtain ⟨S, hS⟩ : ∃ S, S = strT (wrT t0 x s) := ⟨_, rfl⟩
              have HS := Lib.hid hS
              have HOLD : Hid (∀ k (h1 : k < S.size) (h2 : k < O.size), (k < x ∨ x + s.size ≤ k) → S[k]'h1 = O[k]'h2) := Lib.hid (fun k h1 h2 hk => by
                have e1 := HO.out; subst e1 hS; exact wrT_old hk h1 h2)
              have HNEW : Hid (∀ k (h1 : k < S.size), O.size ≤ k → (k < x ∨ x + s.size ≤ k) → S[k]'h1 = 0) := Lib.hid (fun k h1 h2 hk => by
                have e1 := HO.out; subst e1 hS; exact wrT_new hk h1 h2)
              have HLEN : Hid (s.size ≠ 0 → S.size = max O.size (x + s.size)) := Lib.hid (fun hs => by rw [hS, HO.out]; exact wrT_len hs)
              have HMID : Hid (s.size ≠ 0 → S.extract x (x + s.size) = s) := Lib.hid (fun hs => by rw [hS]; exact wrT_mid hs)
              have HNON : Hid (s.size = 0 → S = O) := Lib.hid (fun hs => by rw [hS, HO.out, wrT_none t0 x hs])
              have HSB : Hid (S.size ≤ 1000000) := Lib.hid (by
                rw [hS, strT_size]
                have h9 := HA1.out
                unfold readL at h9
                cases hg : getF fs1 n.data.toList with
                | none => rw [hg] at h9; cases (Prod.mk.inj h9).2
                | some f =>
                  rw [hg] at h9
                  rw [← (Prod.mk.inj h9).1]
                  exact Nat.le_trans (HF1.out.files _ ((getF_some HF1.out.rise).1 hg).1).seen (by decide))
              clear hS
              go_wp2_with fail
              obtain ⟨X5, hX⟩ : ∃ X, X = w5.alloc (.cells #[.slice a1 z1 c1, .bool o1, .int .i64 u1] 24) := ⟨_, rfl⟩
              have hb : Below w5.heap.size w5 X5 := by rw [hX]; exact (Below.refl _ _).alloc (Nat.le_refl _) _
              have HC1 : Hid (Row X5 w5.heap.size #[.slice a1 z1 c1, .bool o1, .int .i64 u1] 24) := by rw [hX]; exact Lib.hid (Row.made _ _ _)
              rw [← hX]
              replace HB := Lib.hid (below_step HB.out hb)
              replace HR := Lib.hid (HR.out.step hb)
              replace HI := Lib.hid (HI.out.stays hb)
              replace HI1 := Lib.hid (HI1.out.stays hb)
              clear hb hX
              have C := pRead_as ⟨fs1, o1, u1⟩ (.slice a1 z1 c1) n X5 HI1.out HF1.out HA1.out
              unfold dskV at C
              dsimp only at C
              rw [← HS.out] at C
              refine C.mono ?_
              clear C
              rintro e w6 ⟨rfl, hb⟩
              replace HB := Lib.hid (below_step HB.out hb)
              replace HR := Lib.hid (HR.out.step hb)
              replace HI := Lib.hid (HI.out.stays hb)
              replace HI1 := Lib.hid (HI1.out.stays hb)
              replace HC1 := Lib.hid (HC1.out.step hb)
              clear hb
              have hxx := HX.out; have hss := HS3.out; have hSS := HSB.out
              have hend : IntKind.i64.wrap ((x : Int) + (s.size : Int)) = (x : Int) + (s.size : Int) := IntWalk.i64_in _ (by omega)
              by_cases hse : s.size = 0
              · have hs0 := isE_yes hse
                have HSO := Lib.hid (HNON.out hse)
                have t1 : (S.toList == O.toList) = true := beq_str HSO.out
                clear hse HNON HLEN HMID
                cases was with
                | true =>
                  clear HW
                  have HRl := HR.out.lt
                  obtain ⟨⟨HR0, HR1, HR2⟩, HRz⟩ := HR.out.three
                  have HC1l := HC1.out.lt
                  obtain ⟨⟨HC10, HC11, HC12⟩, HC1z⟩ := HC1.out.three
                  go_wp2_with fail
                  clear HR0 HR1 HR2 HRz HRl HC10 HC11 HC12 HC1z HC1l
                  go_loopw [18] (fun i wr => ∃ k : Nat, k ≤ S.size ∧ i = .int .i64 k ∧ Below w6.heap.size w6 wr) (fun i _ => S.size - (intOf i).toNat)
                  case atStart => exact ⟨0, Nat.zero_le _, rfl, Below.refl _ _⟩
                  case round =>
                    obtain ⟨k, hk, rfl, hb⟩ := hrel
                    have HBK := Lib.hid hb
                    by_cases hlt : k < S.size
                    · have hbk : decide ((k : Int) < (S.size : Int)) = true := by simpa using (show (k : Int) < S.size by omega)
                      clear hb
                      by_cases ha : k < x
                      · have c1 : decide ((k : Int) < (x : Int)) = true := by simpa using (show (k : Int) < x by omega)
                        have n1 : decide (k < x) = true := decide_eq_true (by omega)
                        have hcc : k < x ∨ x + s.size ≤ k := .inl ha
                        clear ha
                        by_cases hko : k < O.size
                        · have c3 : decide ((k : Int) < (O.size : Int)) = true := by simpa using (show (k : Int) < O.size by omega)
                          have c3' : decide ((O.size : Int) ≤ (k : Int)) = false := by simpa using (show ¬ (O.size : Int) ≤ k by omega)
                          have n3 : decide (k < O.size) = true := decide_eq_true (by omega)
                          have n3' : decide (O.size ≤ k) = false := decide_eq_false (by omega)
                          have heq : S[k]'hlt = O[k]'hko := HOLD.out k hlt hko hcc
                          clear hcc
                          go_wp2_with fail
                          go_quiet (fail)
                          go_wp2
                          go_roundw
                          case rel => exact ⟨k + 1, by omega, by go_num, below_drewN HBK.out _⟩
                          case measure => simp [intOf]; omega
                        · have c3 : decide ((k : Int) < (O.size : Int)) = false := by simpa using (show ¬ (k : Int) < O.size by omega)
                          have c3' : decide ((O.size : Int) ≤ (k : Int)) = true := by simpa using (show (O.size : Int) ≤ k by omega)
                          have n3 : decide (k < O.size) = false := decide_eq_false (by omega)
                          have n3' : decide (O.size ≤ k) = true := decide_eq_true (by omega)
                          have heq : S[k]'hlt = 0 := HNEW.out k hlt (by omega) hcc
                          clear hcc
                          go_wp2_with fail
                          go_quiet (fail)
                          go_wp2
                          go_roundw
                          case rel => exact ⟨k + 1, by omega, by go_num, below_drewN HBK.out _⟩
                          case measure => simp [intOf]; omega
                      · by_cases hb2 : x + s.size ≤ k
                        · have c1 : decide ((k : Int) < (x : Int)) = false := by simpa using (show ¬ (k : Int) < x by omega)
                          have n1 : decide (k < x) = false := decide_eq_false (by omega)
                          have c2 : decide ((x : Int) + (s.size : Int) ≤ (k : Int)) = true := decide_eq_true (by omega)
                          have n2 : decide (x + s.size ≤ k) = true := decide_eq_true (by omega)
                          have hcc : k < x ∨ x + s.size ≤ k := .inr hb2
                          clear ha hb2
                          by_cases hko : k < O.size
                          · have c3 : decide ((k : Int) < (O.size : Int)) = true := by simpa using (show (k : Int) < O.size by omega)
                            have c3' : decide ((O.size : Int) ≤ (k : Int)) = false := by simpa using (show ¬ (O.size : Int) ≤ k by omega)
                            have n3 : decide (k < O.size) = true := decide_eq_true (by omega)
                            have n3' : decide (O.size ≤ k) = false := decide_eq_false (by omega)
                            have heq : S[k]'hlt = O[k]'hko := HOLD.out k hlt hko hcc
                            clear hcc
                            go_wp2_with fail
                            go_quiet (fail)
                            go_wp2
                            go_roundw
                            case rel => exact ⟨k + 1, by omega, by go_num, below_drewN HBK.out _⟩
                            case measure => simp [intOf]; omega
                          · have c3 : decide ((k : Int) < (O.size : Int)) = false := by simpa using (show ¬ (k : Int) < O.size by omega)
                            have c3' : decide ((O.size : Int) ≤ (k : Int)) = true := by simpa using (show (O.size : Int) ≤ k by omega)
                            have n3 : decide (k < O.size) = false := decide_eq_false (by omega)
                            have n3' : decide (O.size ≤ k) = true := decide_eq_true (by omega)
                            have heq : S[k]'hlt = 0 := HNEW.out k hlt (by omega) hcc
                            clear hcc
                            go_wp2_with fail
                            go_quiet (fail)
                            go_wp2
                            go_roundw
                            case rel => exact ⟨k + 1, by omega, by go_num, below_drewN HBK.out _⟩
                            case measure => simp [intOf]; omega
                        · have c1 : decide ((k : Int) < (x : Int)) = false := by simpa using (show ¬ (k : Int) < x by omega)
                          have n1 : decide (k < x) = false := decide_eq_false (by omega)
                          have c2 : decide ((x : Int) + (s.size : Int) ≤ (k : Int)) = false := decide_eq_false (by omega)
                          have n2 : decide (x + s.size ≤ k) = false := decide_eq_false (by omega)
                          clear ha hb2
                          go_wp2_with fail
                          go_quiet (fail)
                          go_wp2
                          go_roundw
                          case rel => exact ⟨k + 1, by omega, by go_num, below_drewN HBK.out _⟩
                          case measure => simp [intOf]; omega
                    · obtain rfl : k = S.size := by omega
                      have hbk : decide ((S.size : Int) < (S.size : Int)) = false := by simp
                      replace HB := Lib.hid (below_step HB.out hb)
                      replace HR := Lib.hid (HR.out.step hb)
                      replace HI := Lib.hid (HI.out.stays hb)
                      replace HI1 := Lib.hid (HI1.out.stays hb)
                      replace HC1 := Lib.hid (HC1.out.step hb)
                      clear hb
                      obtain ⟨⟨tx, bx⟩, htx⟩ : ∃ r, r = readL fs o.data.toList := ⟨_, rfl⟩
                      obtain ⟨⟨tz, bz⟩, htz⟩ : ∃ r, r = readL fs1 o.data.toList := ⟨_, rfl⟩
                      have HTX := Lib.hid htx.symm; have HTZ := Lib.hid htz.symm
                      have HXZ : Hid (n.data.toList ≠ o.data.toList → tx = tz ∧ bx = bz) := Lib.hid (fun hne => by
                        have h9 := HAO.out hne
                        rw [← htx, ← htz] at h9
                        exact ⟨(Prod.mk.inj h9).1.symm, (Prod.mk.inj h9).2.symm⟩)
                      clear htx htz
                      have HRl := HR.out.lt
                      obtain ⟨⟨HR0, HR1, HR2⟩, HRz⟩ := HR.out.three
                      have HC1l := HC1.out.lt
                      obtain ⟨⟨HC10, HC11, HC12⟩, HC1z⟩ := HC1.out.three
                      go_wp2_with fail
                      clear HR0 HR1 HR2 HRz HRl HC10 HC11 HC12 HC1z HC1l
                      have C := pRead_as ⟨fs, off, fuse⟩ (.slice a z cap) o wr HI.out HF.out HTX.out
                      unfold dskV at C
                      dsimp only at C
                      refine C.mono ?_
                      clear C
                      rintro e w7 ⟨rfl, hb⟩
                      replace HB := Lib.hid (below_step HB.out hb)
                      replace HR := Lib.hid (HR.out.step hb)
                      replace HI := Lib.hid (HI.out.stays hb)
                      replace HI1 := Lib.hid (HI1.out.stays hb)
                      replace HC1 := Lib.hid (HC1.out.step hb)
                      clear hb
                      have HC1l := HC1.out.lt
                      obtain ⟨⟨HC10, HC11, HC12⟩, HC1z⟩ := HC1.out.three
                      go_wp2_with fail
                      clear HC10 HC11 HC12 HC1z HC1l
                      have C := pRead_as ⟨fs1, o1, u1⟩ (.slice a1 z1 c1) o w7 HI1.out HF1.out HTZ.out
                      unfold dskV at C
                      dsimp only at C
                      refine C.mono ?_
                      clear C
                      rintro e w8 ⟨rfl, hb⟩
                      replace HB := Lib.hid (below_step HB.out hb)
                      replace HR := Lib.hid (HR.out.step hb)
                      replace HI := Lib.hid (HI.out.stays hb)
                      replace HI1 := Lib.hid (HI1.out.stays hb)
                      replace HC1 := Lib.hid (HC1.out.step hb)
                      clear hb
                      by_cases hon : o = n
                      · have y1 : (o.toList == n.toList) = true := beq_str hon
                        clear hon
                        go_wp2_with fail
                        refine (CA.out _).mono ?_
                        rintro e w9 ⟨rfl, hb⟩
                        replace HB := Lib.hid (below_step HB.out hb)
                        clear hb
                        go_wp2_with fail
                        go_ret
                        exact ⟨rfl, HB.out⟩
                      · have y1 : (o.toList == n.toList) = false := bne_str hon
                        obtain ⟨hh1, hh2⟩ := HXZ.out fun e => hon (str_txt.2 e.symm)
                        subst hh1 hh2
                        have y2 : ((strT tx).toList == (strT tx).toList) = true := beq_str rfl
                        clear hon
                        go_wp2_with fail
                        refine (CA.out _).mono ?_
                        rintro e w9 ⟨rfl, hb⟩
                        replace HB := Lib.hid (below_step HB.out hb)
                        clear hb
                        go_wp2_with fail
                        go_ret
                        exact ⟨rfl, HB.out⟩
                | false =>
                  have e3 : O.toList.isEmpty = true := isE_yes (by rw [HW.out rfl]; rfl)
                  clear HW
                  have HRl := HR.out.lt
                  obtain ⟨⟨HR0, HR1, HR2⟩, HRz⟩ := HR.out.three
                  have HC1l := HC1.out.lt
                  obtain ⟨⟨HC10, HC11, HC12⟩, HC1z⟩ := HC1.out.three
                  go_wp2_with fail
                  clear HR0 HR1 HR2 HRz HRl HC10 HC11 HC12 HC1z HC1l
                  go_loopw [18] (fun i wr => ∃ k : Nat, k ≤ S.size ∧ i = .int .i64 k ∧ Below w6.heap.size w6 wr) (fun i _ => S.size - (intOf i).toNat)
                  case atStart => exact ⟨0, Nat.zero_le _, rfl, Below.refl _ _⟩
                  case round =>
                    obtain ⟨k, hk, rfl, hb⟩ := hrel
                    have HBK := Lib.hid hb
                    by_cases hlt : k < S.size
                    · have hbk : decide ((k : Int) < (S.size : Int)) = true := by simpa using (show (k : Int) < S.size by omega)
                      clear hb
                      by_cases ha : k < x
                      · have c1 : decide ((k : Int) < (x : Int)) = true := by simpa using (show (k : Int) < x by omega)
                        have n1 : decide (k < x) = true := decide_eq_true (by omega)
                        have hcc : k < x ∨ x + s.size ≤ k := .inl ha
                        clear ha
                        by_cases hko : k < O.size
                        · have c3 : decide ((k : Int) < (O.size : Int)) = true := by simpa using (show (k : Int) < O.size by omega)
                          have c3' : decide ((O.size : Int) ≤ (k : Int)) = false := by simpa using (show ¬ (O.size : Int) ≤ k by omega)
                          have n3 : decide (k < O.size) = true := decide_eq_true (by omega)
                          have n3' : decide (O.size ≤ k) = false := decide_eq_false (by omega)
                          have heq : S[k]'hlt = O[k]'hko := HOLD.out k hlt hko hcc
                          clear hcc
                          go_wp2_with fail
                          go_quiet (fail)
                          go_wp2
                          go_roundw
                          case rel => exact ⟨k + 1, by omega, by go_num, below_drewN HBK.out _⟩
                          case measure => simp [intOf]; omega
                        · have c3 : decide ((k : Int) < (O.size : Int)) = false := by simpa using (show ¬ (k : Int) < O.size by omega)
                          have c3' : decide ((O.size : Int) ≤ (k : Int)) = true := by simpa using (show (O.size : Int) ≤ k by omega)
                          have n3 : decide (k < O.size) = false := decide_eq_false (by omega)
                          have n3' : decide (O.size ≤ k) = true := decide_eq_true (by omega)
                          have heq : S[k]'hlt = 0 := HNEW.out k hlt (by omega) hcc
                          clear hcc
                          go_wp2_with fail
                          go_quiet (fail)
                          go_wp2
                          go_roundw
                          case rel => exact ⟨k + 1, by omega, by go_num, below_drewN HBK.out _⟩
                          case measure => simp [intOf]; omega
                      · by_cases hb2 : x + s.size ≤ k
                        · have c1 : decide ((k : Int) < (x : Int)) = false := by simpa using (show ¬ (k : Int) < x by omega)
                          have n1 : decide (k < x) = false := decide_eq_false (by omega)
                          have c2 : decide ((x : Int) + (s.size : Int) ≤ (k : Int)) = true := decide_eq_true (by omega)
                          have n2 : decide (x + s.size ≤ k) = true := decide_eq_true (by omega)
                          have hcc : k < x ∨ x + s.size ≤ k := .inr hb2
                          clear ha hb2
                          by_cases hko : k < O.size
                          · have c3 : decide ((k : Int) < (O.size : Int)) = true := by simpa using (show (k : Int) < O.size by omega)
                            have c3' : decide ((O.size : Int) ≤ (k : Int)) = false := by simpa using (show ¬ (O.size : Int) ≤ k by omega)
                            have n3 : decide (k < O.size) = true := decide_eq_true (by omega)
                            have n3' : decide (O.size ≤ k) = false := decide_eq_false (by omega)
                            have heq : S[k]'hlt = O[k]'hko := HOLD.out k hlt hko hcc
                            clear hcc
                            go_wp2_with fail
                            go_quiet (fail)
                            go_wp2
                            go_roundw
                            case rel => exact ⟨k + 1, by omega, by go_num, below_drewN HBK.out _⟩
                            case measure => simp [intOf]; omega
                          · have c3 : decide ((k : Int) < (O.size : Int)) = false := by simpa using (show ¬ (k : Int) < O.size by omega)
                            have c3' : decide ((O.size : Int) ≤ (k : Int)) = true := by simpa using (show (O.size : Int) ≤ k by omega)
                            have n3 : decide (k < O.size) = false := decide_eq_false (by omega)
                            have n3' : decide (O.size ≤ k) = true := decide_eq_true (by omega)
                            have heq : S[k]'hlt = 0 := HNEW.out k hlt (by omega) hcc
                            clear hcc
                            go_wp2_with fail
                            go_quiet (fail)
                            go_wp2
                            go_roundw
                            case rel => exact ⟨k + 1, by omega, by go_num, below_drewN HBK.out _⟩
                            case measure => simp [intOf]; omega
                        · have c1 : decide ((k : Int) < (x : Int)) = false := by simpa using (show ¬ (k : Int) < x by omega)
                          have n1 : decide (k < x) = false := decide_eq_false (by omega)
                          have c2 : decide ((x : Int) + (s.size : Int) ≤ (k : Int)) = false := decide_eq_false (by omega)
                          have n2 : decide (x + s.size ≤ k) = false := decide_eq_false (by omega)
                          clear ha hb2
                          go_wp2_with fail
                          go_quiet (fail)
                          go_wp2
                          go_roundw
                          case rel => exact ⟨k + 1, by omega, by go_num, below_drewN HBK.out _⟩
                          case measure => simp [intOf]; omega
                    · obtain rfl : k = S.size := by omega
                      have hbk : decide ((S.size : Int) < (S.size : Int)) = false := by simp
                      replace HB := Lib.hid (below_step HB.out hb)
                      replace HR := Lib.hid (HR.out.step hb)
                      replace HI := Lib.hid (HI.out.stays hb)
                      replace HI1 := Lib.hid (HI1.out.stays hb)
                      replace HC1 := Lib.hid (HC1.out.step hb)
                      clear hb
                      obtain ⟨⟨tx, bx⟩, htx⟩ : ∃ r, r = readL fs o.data.toList := ⟨_, rfl⟩
                      obtain ⟨⟨tz, bz⟩, htz⟩ : ∃ r, r = readL fs1 o.data.toList := ⟨_, rfl⟩
                      have HTX := Lib.hid htx.symm; have HTZ := Lib.hid htz.symm
                      have HXZ : Hid (n.data.toList ≠ o.data.toList → tx = tz ∧ bx = bz) := Lib.hid (fun hne => by
                        have h9 := HAO.out hne
                        rw [← htx, ← htz] at h9
                        exact ⟨(Prod.mk.inj h9).1.symm, (Prod.mk.inj h9).2.symm⟩)
                      clear htx htz
                      have HRl := HR.out.lt
                      obtain ⟨⟨HR0, HR1, HR2⟩, HRz⟩ := HR.out.three
                      have HC1l := HC1.out.lt
                      obtain ⟨⟨HC10, HC11, HC12⟩, HC1z⟩ := HC1.out.three
                      go_wp2_with fail
                      clear HR0 HR1 HR2 HRz HRl HC10 HC11 HC12 HC1z HC1l
                      have C := pRead_as ⟨fs, off, fuse⟩ (.slice a z cap) o wr HI.out HF.out HTX.out
                      unfold dskV at C
                      dsimp only at C
                      refine C.mono ?_
                      clear C
                      rintro e w7 ⟨rfl, hb⟩
                      replace HB := Lib.hid (below_step HB.out hb)
                      replace HR := Lib.hid (HR.out.step hb)
                      replace HI := Lib.hid (HI.out.stays hb)
                      replace HI1 := Lib.hid (HI1.out.stays hb)
                      replace HC1 := Lib.hid (HC1.out.step hb)
                      clear hb
                      have HC1l := HC1.out.lt
                      obtain ⟨⟨HC10, HC11, HC12⟩, HC1z⟩ := HC1.out.three
                      go_wp2_with fail
                      clear HC10 HC11 HC12 HC1z HC1l
                      have C := pRead_as ⟨fs1, o1, u1⟩ (.slice a1 z1 c1) o w7 HI1.out HF1.out HTZ.out
                      unfold dskV at C
                      dsimp only at C
                      refine C.mono ?_
                      clear C
                      rintro e w8 ⟨rfl, hb⟩
                      replace HB := Lib.hid (below_step HB.out hb)
                      replace HR := Lib.hid (HR.out.step hb)
                      replace HI := Lib.hid (HI.out.stays hb)
                      replace HI1 := Lib.hid (HI1.out.stays hb)
                      replace HC1 := Lib.hid (HC1.out.step hb)
                      clear hb
                      by_cases hon : o = n
                      · have y1 : (o.toList == n.toList) = true := beq_str hon
                        clear hon
                        go_wp2_with fail
                        refine (CA.out _).mono ?_
                        rintro e w9 ⟨rfl, hb⟩
                        replace HB := Lib.hid (below_step HB.out hb)
                        clear hb
                        go_wp2_with fail
                        go_ret
                        exact ⟨rfl, HB.out⟩
                      · have y1 : (o.toList == n.toList) = false := bne_str hon
                        obtain ⟨hh1, hh2⟩ := HXZ.out fun e => hon (str_txt.2 e.symm)
                        subst hh1 hh2
                        have y2 : ((strT tx).toList == (strT tx).toList) = true := beq_str rfl
                        clear hon
                        go_wp2_with fail
                        refine (CA.out _).mono ?_
                        rintro e w9 ⟨rfl, hb⟩
                        replace HB := Lib.hid (below_step HB.out hb)
                        clear hb
                        go_wp2_with fail
                        go_ret
                        exact ⟨rfl, HB.out⟩
              · have hs0 := isE_no hse
                have hl9 := HLEN.out hse
                have l1 : (S.size : Int) = max (O.size : Int) ((x : Int) + (s.size : Int)) := by omega
                have l2 : ((S.size : Int) == max (O.size : Int) ((x : Int) + (s.size : Int))) = true := by rw [l1]; simp
                have hsl := fun W => run_slice_str (P := Try.prog) Try.underlying9 S (x : Int) ((x : Int) + (s.size : Int)) (by omega) (by omega) (by omega) W
                have hex : S.extract (x : Int).toNat ((x : Int) + (s.size : Int)).toNat = s := by
                  have h9 := HMID.out hse
                  rwa [show ((x : Int) + (s.size : Int)).toNat = x + s.size by omega, show (x : Int).toNat = x by omega]
                rw [hex] at hsl
                have t1 : (s.toList == s.toList) = true := beq_str rfl
                clear hse HNON HLEN HMID hl9 hex
                cases was with
                | true =>
                  clear HW
                  have HRl := HR.out.lt
                  obtain ⟨⟨HR0, HR1, HR2⟩, HRz⟩ := HR.out.three
                  have HC1l := HC1.out.lt
                  obtain ⟨⟨HC10, HC11, HC12⟩, HC1z⟩ := HC1.out.three
                  go_wp2_with fail
                  clear HR0 HR1 HR2 HRz HRl HC10 HC11 HC12 HC1z HC1l
                  go_loopw [18] (fun i wr => ∃ k : Nat, k ≤ S.size ∧ i = .int .i64 k ∧ Below w6.heap.size w6 wr) (fun i _ => S.size - (intOf i).toNat)
                  case atStart => exact ⟨0, Nat.zero_le _, rfl, Below.refl _ _⟩
                  case round =>
                    obtain ⟨k, hk, rfl, hb⟩ := hrel
                    have HBK := Lib.hid hb
                    by_cases hlt : k < S.size
                    · have hbk : decide ((k : Int) < (S.size : Int)) = true := by simpa using (show (k : Int) < S.size by omega)
                      clear hb
                      by_cases ha : k < x
                      · have c1 : decide ((k : Int) < (x : Int)) = true := by simpa using (show (k : Int) < x by omega)
                        have n1 : decide (k < x) = true := decide_eq_true (by omega)
                        have hcc : k < x ∨ x + s.size ≤ k := .inl ha
                        clear ha
                        by_cases hko : k < O.size
                        · have c3 : decide ((k : Int) < (O.size : Int)) = true := by simpa using (show (k : Int) < O.size by omega)
                          have c3' : decide ((O.size : Int) ≤ (k : Int)) = false := by simpa using (show ¬ (O.size : Int) ≤ k by omega)
                          have n3 : decide (k < O.size) = true := decide_eq_true (by omega)
                          have n3' : decide (O.size ≤ k) = false := decide_eq_false (by omega)
                          have heq : S[k]'hlt = O[k]'hko := HOLD.out k hlt hko hcc
                          clear hcc
                          go_wp2_with fail
                          go_quiet (fail)
                          go_wp2
                          go_roundw
                          case rel => exact ⟨k + 1, by omega, by go_num, below_drewN HBK.out _⟩
                          case measure => simp [intOf]; omega
                        · have c3 : decide ((k : Int) < (O.size : Int)) = false := by simpa using (show ¬ (k : Int) < O.size by omega)
                          have c3' : decide ((O.size : Int) ≤ (k : Int)) = true := by simpa using (show (O.size : Int) ≤ k by omega)
                          have n3 : decide (k < O.size) = false := decide_eq_false (by omega)
                          have n3' : decide (O.size ≤ k) = true := decide_eq_true (by omega)
                          have heq : S[k]'hlt = 0 := HNEW.out k hlt (by omega) hcc
                          clear hcc
                          go_wp2_with fail
                          go_quiet (fail)
                          go_wp2
                          go_roundw
                          case rel => exact ⟨k + 1, by omega, by go_num, below_drewN HBK.out _⟩
                          case measure => simp [intOf]; omega
                      · by_cases hb2 : x + s.size ≤ k
                        · have c1 : decide ((k : Int) < (x : Int)) = false := by simpa using (show ¬ (k : Int) < x by omega)
                          have n1 : decide (k < x) = false := decide_eq_false (by omega)
                          have c2 : decide ((x : Int) + (s.size : Int) ≤ (k : Int)) = true := decide_eq_true (by omega)
                          have n2 : decide (x + s.size ≤ k) = true := decide_eq_true (by omega)
                          have hcc : k < x ∨ x + s.size ≤ k := .inr hb2
                          clear ha hb2
                          by_cases hko : k < O.size
                          · have c3 : decide ((k : Int) < (O.size : Int)) = true := by simpa using (show (k : Int) < O.size by omega)
                            have c3' : decide ((O.size : Int) ≤ (k : Int)) = false := by simpa using (show ¬ (O.size : Int) ≤ k by omega)
                            have n3 : decide (k < O.size) = true := decide_eq_true (by omega)
                            have n3' : decide (O.size ≤ k) = false := decide_eq_false (by omega)
                            have heq : S[k]'hlt = O[k]'hko := HOLD.out k hlt hko hcc
                            clear hcc
                            go_wp2_with fail
                            go_quiet (fail)
                            go_wp2
                            go_roundw
                            case rel => exact ⟨k + 1, by omega, by go_num, below_drewN HBK.out _⟩
                            case measure => simp [intOf]; omega
                          · have c3 : decide ((k : Int) < (O.size : Int)) = false := by simpa using (show ¬ (k : Int) < O.size by omega)
                            have c3' : decide ((O.size : Int) ≤ (k : Int)) = true := by simpa using (show (O.size : Int) ≤ k by omega)
                            have n3 : decide (k < O.size) = false := decide_eq_false (by omega)
                            have n3' : decide (O.size ≤ k) = true := decide_eq_true (by omega)
                            have heq : S[k]'hlt = 0 := HNEW.out k hlt (by omega) hcc
                            clear hcc
                            go_wp2_with fail
                            go_quiet (fail)
                            go_wp2
                            go_roundw
                            case rel => exact ⟨k + 1, by omega, by go_num, below_drewN HBK.out _⟩
                            case measure => simp [intOf]; omega
                        · have c1 : decide ((k : Int) < (x : Int)) = false := by simpa using (show ¬ (k : Int) < x by omega)
                          have n1 : decide (k < x) = false := decide_eq_false (by omega)
                          have c2 : decide ((x : Int) + (s.size : Int) ≤ (k : Int)) = false := decide_eq_false (by omega)
                          have n2 : decide (x + s.size ≤ k) = false := decide_eq_false (by omega)
                          clear ha hb2
                          go_wp2_with fail
                          go_quiet (fail)
                          go_wp2
                          go_roundw
                          case rel => exact ⟨k + 1, by omega, by go_num, below_drewN HBK.out _⟩
                          case measure => simp [intOf]; omega
                    · obtain rfl : k = S.size := by omega
                      have hbk : decide ((S.size : Int) < (S.size : Int)) = false := by simp
                      replace HB := Lib.hid (below_step HB.out hb)
                      replace HR := Lib.hid (HR.out.step hb)
                      replace HI := Lib.hid (HI.out.stays hb)
                      replace HI1 := Lib.hid (HI1.out.stays hb)
                      replace HC1 := Lib.hid (HC1.out.step hb)
                      clear hb
                      obtain ⟨⟨tx, bx⟩, htx⟩ : ∃ r, r = readL fs o.data.toList := ⟨_, rfl⟩
                      obtain ⟨⟨tz, bz⟩, htz⟩ : ∃ r, r = readL fs1 o.data.toList := ⟨_, rfl⟩
                      have HTX := Lib.hid htx.symm; have HTZ := Lib.hid htz.symm
                      have HXZ : Hid (n.data.toList ≠ o.data.toList → tx = tz ∧ bx = bz) := Lib.hid (fun hne => by
                        have h9 := HAO.out hne
                        rw [← htx, ← htz] at h9
                        exact ⟨(Prod.mk.inj h9).1.symm, (Prod.mk.inj h9).2.symm⟩)
                      clear htx htz
                      have HRl := HR.out.lt
                      obtain ⟨⟨HR0, HR1, HR2⟩, HRz⟩ := HR.out.three
                      have HC1l := HC1.out.lt
                      obtain ⟨⟨HC10, HC11, HC12⟩, HC1z⟩ := HC1.out.three
                      go_wp2_with fail
                      clear HR0 HR1 HR2 HRz HRl HC10 HC11 HC12 HC1z HC1l
                      have C := pRead_as ⟨fs, off, fuse⟩ (.slice a z cap) o wr HI.out HF.out HTX.out
                      unfold dskV at C
                      dsimp only at C
                      refine C.mono ?_
                      clear C
                      rintro e w7 ⟨rfl, hb⟩
                      replace HB := Lib.hid (below_step HB.out hb)
                      replace HR := Lib.hid (HR.out.step hb)
                      replace HI := Lib.hid (HI.out.stays hb)
                      replace HI1 := Lib.hid (HI1.out.stays hb)
                      replace HC1 := Lib.hid (HC1.out.step hb)
                      clear hb
                      have HC1l := HC1.out.lt
                      obtain ⟨⟨HC10, HC11, HC12⟩, HC1z⟩ := HC1.out.three
                      go_wp2_with fail
                      clear HC10 HC11 HC12 HC1z HC1l
                      have C := pRead_as ⟨fs1, o1, u1⟩ (.slice a1 z1 c1) o w7 HI1.out HF1.out HTZ.out
                      unfold dskV at C
                      dsimp only at C
                      refine C.mono ?_
                      clear C
                      rintro e w8 ⟨rfl, hb⟩
                      replace HB := Lib.hid (below_step HB.out hb)
                      replace HR := Lib.hid (HR.out.step hb)
                      replace HI := Lib.hid (HI.out.stays hb)
                      replace HI1 := Lib.hid (HI1.out.stays hb)
                      replace HC1 := Lib.hid (HC1.out.step hb)
                      clear hb
                      by_cases hon : o = n
                      · have y1 : (o.toList == n.toList) = true := beq_str hon
                        clear hon
                        go_wp2_with fail
                        refine (CA.out _).mono ?_
                        rintro e w9 ⟨rfl, hb⟩
                        replace HB := Lib.hid (below_step HB.out hb)
                        clear hb
                        go_wp2_with fail
                        go_ret
                        exact ⟨rfl, HB.out⟩
                      · have y1 : (o.toList == n.toList) = false := bne_str hon
                        obtain ⟨hh1, hh2⟩ := HXZ.out fun e => hon (str_txt.2 e.symm)
                        subst hh1 hh2
                        have y2 : ((strT tx).toList == (strT tx).toList) = true := beq_str rfl
                        clear hon
                        go_wp2_with fail
                        refine (CA.out _).mono ?_
                        rintro e w9 ⟨rfl, hb⟩
                        replace HB := Lib.hid (below_step HB.out hb)
                        clear hb
                        go_wp2_with fail
                        go_ret
                        exact ⟨rfl, HB.out⟩
                | false =>
                  have e3 : O.toList.isEmpty = true := isE_yes (by rw [HW.out rfl]; rfl)
                  clear HW
                  have HRl := HR.out.lt
                  obtain ⟨⟨HR0, HR1, HR2⟩, HRz⟩ := HR.out.three
                  have HC1l := HC1.out.lt
                  obtain ⟨⟨HC10, HC11, HC12⟩, HC1z⟩ := HC1.out.three
                  go_wp2_with fail
                  clear HR0 HR1 HR2 HRz HRl HC10 HC11 HC12 HC1z HC1l
                  go_loopw [18] (fun i wr => ∃ k : Nat, k ≤ S.size ∧ i = .int .i64 k ∧ Below w6.heap.size w6 wr) (fun i _ => S.size - (intOf i).toNat)
                  case atStart => exact ⟨0, Nat.zero_le _, rfl, Below.refl _ _⟩
                  case round =>
                    obtain ⟨k, hk, rfl, hb⟩ := hrel
                    have HBK := Lib.hid hb
                    by_cases hlt : k < S.size
                    · have hbk : decide ((k : Int) < (S.size : Int)) = true := by simpa using (show (k : Int) < S.size by omega)
                      clear hb
                      by_cases ha : k < x
                      · have c1 : decide ((k : Int) < (x : Int)) = true := by simpa using (show (k : Int) < x by omega)
                        have n1 : decide (k < x) = true := decide_eq_true (by omega)
                        have hcc : k < x ∨ x + s.size ≤ k := .inl ha
                        clear ha
                        by_cases hko : k < O.size
                        · have c3 : decide ((k : Int) < (O.size : Int)) = true := by simpa using (show (k : Int) < O.size by omega)
                          have c3' : decide ((O.size : Int) ≤ (k : Int)) = false := by simpa using (show ¬ (O.size : Int) ≤ k by omega)
                          have n3 : decide (k < O.size) = true := decide_eq_true (by omega)
                          have n3' : decide (O.size ≤ k) = false := decide_eq_false (by omega)
                          have heq : S[k]'hlt = O[k]'hko := HOLD.out k hlt hko hcc
                          clear hcc
                          go_wp2_with fail
                          go_quiet (fail)
                          go_wp2
                          go_roundw
                          case rel => exact ⟨k + 1, by omega, by go_num, below_drewN HBK.out _⟩
                          case measure => simp [intOf]; omega
                        · have c3 : decide ((k : Int) < (O.size : Int)) = false := by simpa using (show ¬ (k : Int) < O.size by omega)
                          have c3' : decide ((O.size : Int) ≤ (k : Int)) = true := by simpa using (show (O.size : Int) ≤ k by omega)
                          have n3 : decide (k < O.size) = false := decide_eq_false (by omega)
                          have n3' : decide (O.size ≤ k) = true := decide_eq_true (by omega)
                          have heq : S[k]'hlt = 0 := HNEW.out k hlt (by omega) hcc
                          clear hcc
                          go_wp2_with fail
                          go_quiet (fail)
                          go_wp2
                          go_roundw
                          case rel => exact ⟨k + 1, by omega, by go_num, below_drewN HBK.out _⟩
                          case measure => simp [intOf]; omega
                      · by_cases hb2 : x + s.size ≤ k
                        · have c1 : decide ((k : Int) < (x : Int)) = false := by simpa using (show ¬ (k : Int) < x by omega)
                          have n1 : decide (k < x) = false := decide_eq_false (by omega)
                          have c2 : decide ((x : Int) + (s.size : Int) ≤ (k : Int)) = true := decide_eq_true (by omega)
                          have n2 : decide (x + s.size ≤ k) = true := decide_eq_true (by omega)
                          have hcc : k < x ∨ x + s.size ≤ k := .inr hb2
                          clear ha hb2
                          by_cases hko : k < O.size
                          · have c3 : decide ((k : Int) < (O.size : Int)) = true := by simpa using (show (k : Int) < O.size by omega)
                            have c3' : decide ((O.size : Int) ≤ (k : Int)) = false := by simpa using (show ¬ (O.size : Int) ≤ k by omega)
                            have n3 : decide (k < O.size) = true := decide_eq_true (by omega)
                            have n3' : decide (O.size ≤ k) = false := decide_eq_false (by omega)
                            have heq : S[k]'hlt = O[k]'hko := HOLD.out k hlt hko hcc
                            clear hcc
                            go_wp2_with fail
                            go_quiet (fail)
                            go_wp2
                            go_roundw
                            case rel => exact ⟨k + 1, by omega, by go_num, below_drewN HBK.out _⟩
                            case measure => simp [intOf]; omega
                          · have c3 : decide ((k : Int) < (O.size : Int)) = false := by simpa using (show ¬ (k : Int) < O.size by omega)
                            have c3' : decide ((O.size : Int) ≤ (k : Int)) = true := by simpa using (show (O.size : Int) ≤ k by omega)
                            have n3 : decide (k < O.size) = false := decide_eq_false (by omega)
                            have n3' : decide (O.size ≤ k) = true := decide_eq_true (by omega)
                            have heq : S[k]'hlt = 0 := HNEW.out k hlt (by omega) hcc
                            clear hcc
                            go_wp2_with fail
                            go_quiet (fail)
                            go_wp2
                            go_roundw
                            case rel => exact ⟨k + 1, by omega, by go_num, below_drewN HBK.out _⟩
                            case measure => simp [intOf]; omega
                        · have c1 : decide ((k : Int) < (x : Int)) = false := by simpa using (show ¬ (k : Int) < x by omega)
                          have n1 : decide (k < x) = false := decide_eq_false (by omega)
                          have c2 : decide ((x : Int) + (s.size : Int) ≤ (k : Int)) = false := decide_eq_false (by omega)
                          have n2 : decide (x + s.size ≤ k) = false := decide_eq_false (by omega)
                          clear ha hb2
                          go_wp2_with fail
                          go_quiet (fail)
                          go_wp2
                          go_roundw
                          case rel => exact ⟨k + 1, by omega, by go_num, below_drewN HBK.out _⟩
                          case measure => simp [intOf]; omega
                    · obtain rfl : k = S.size := by omega
                      have hbk : decide ((S.size : Int) < (S.size : Int)) = false := by simp
                      replace HB := Lib.hid (below_step HB.out hb)
                      replace HR := Lib.hid (HR.out.step hb)
                      replace HI := Lib.hid (HI.out.stays hb)
                      replace HI1 := Lib.hid (HI1.out.stays hb)
                      replace HC1 := Lib.hid (HC1.out.step hb)
                      clear hb
                      obtain ⟨⟨tx, bx⟩, htx⟩ : ∃ r, r = readL fs o.data.toList := ⟨_, rfl⟩
                      obtain ⟨⟨tz, bz⟩, htz⟩ : ∃ r, r = readL fs1 o.data.toList := ⟨_, rfl⟩
                      have HTX := Lib.hid htx.symm; have HTZ := Lib.hid htz.symm
                      have HXZ : Hid (n.data.toList ≠ o.data.toList → tx = tz ∧ bx = bz) := Lib.hid (fun hne => by
                        have h9 := HAO.out hne
                        rw [← htx, ← htz] at h9
                        exact ⟨(Prod.mk.inj h9).1.symm, (Prod.mk.inj h9).2.symm⟩)
                      clear htx htz
                      have HRl := HR.out.lt
                      obtain ⟨⟨HR0, HR1, HR2⟩, HRz⟩ := HR.out.three
                      have HC1l := HC1.out.lt
                      obtain ⟨⟨HC10, HC11, HC12⟩, HC1z⟩ := HC1.out.three
                      go_wp2_with fail
                      clear HR0 HR1 HR2 HRz HRl HC10 HC11 HC12 HC1z HC1l
                      have C := pRead_as ⟨fs, off, fuse⟩ (.slice a z cap) o wr HI.out HF.out HTX.out
                      unfold dskV at C
                      dsimp only at C
                      refine C.mono ?_
                      clear C
                      rintro e w7 ⟨rfl, hb⟩
                      replace HB := Lib.hid (below_step HB.out hb)
                      replace HR := Lib.hid (HR.out.step hb)
                      replace HI := Lib.hid (HI.out.stays hb)
                      replace HI1 := Lib.hid (HI1.out.stays hb)
                      replace HC1 := Lib.hid (HC1.out.step hb)
                      clear hb
                      have HC1l := HC1.out.lt
                      obtain ⟨⟨HC10, HC11, HC12⟩, HC1z⟩ := HC1.out.three
                      go_wp2_with fail
                      clear HC10 HC11 HC12 HC1z HC1l
                      have C := pRead_as ⟨fs1, o1, u1⟩ (.slice a1 z1 c1) o w7 HI1.out HF1.out HTZ.out
                      unfold dskV at C
                      dsimp only at C
                      refine C.mono ?_
                      clear C
                      rintro e w8 ⟨rfl, hb⟩
                      replace HB := Lib.hid (below_step HB.out hb)
                      replace HR := Lib.hid (HR.out.step hb)
                      replace HI := Lib.hid (HI.out.stays hb)
                      replace HI1 := Lib.hid (HI1.out.stays hb)
                      replace HC1 := Lib.hid (HC1.out.step hb)
                      clear hb
                      by_cases hon : o = n
                      · have y1 : (o.toList == n.toList) = true := beq_str hon
                        clear hon
                        go_wp2_with fail
                        refine (CA.out _).mono ?_
                        rintro e w9 ⟨rfl, hb⟩
                        replace HB := Lib.hid (below_step HB.out hb)
                        clear hb
                        go_wp2_with fail
                        go_ret
                        exact ⟨rfl, HB.out⟩
                      · have y1 : (o.toList == n.toList) = false := bne_str hon
                        obtain ⟨hh1, hh2⟩ := HXZ.out fun e => hon (str_txt.2 e.symm)
                        subst hh1 hh2
                        have y2 : ((strT tx).toList == (strT tx).toList) = true := beq_str rfl
                        clear hon
                        go_wp2_with fail
                        refine (CA.out _).mono ?_
                        rintro e w9 ⟨rfl, hb⟩
                        replace HB := Lib.hid (below_step HB.out hb)
                        clear hb
                        go_wp2_with fail
                        go_ret
                        exact ⟨rfl, HB.out⟩
            · have hbd := write_badD (d := ⟨fs, off, fuse⟩) (n := n) (x := (x : Int)) (s := s) (by rw [← HR1.out]; exact he)
              rw [← HR1.out] at hbd
              dsimp only at hbd
              have g1 : (e1 == 0) = false := by simpa using he
              clear he
              by_cases he : e1 = 13
              · subst he
                clear hbd
                go_wp2_with fail
                obtain ⟨X5, hX⟩ : ∃ X, X = w5.alloc (.cells #[.slice a1 z1 c1, .bool o1, .int .i64 u1] 24) := ⟨_, rfl⟩
                have hb : Below w5.heap.size w5 X5 := by rw [hX]; exact (Below.refl _ _).alloc (Nat.le_refl _) _
                have HC1 : Hid (Row X5 w5.heap.size #[.slice a1 z1 c1, .bool o1, .int .i64 u1] 24) := by rw [hX]; exact Lib.hid (Row.made _ _ _)
                rw [← hX]
                replace HB := Lib.hid (below_step HB.out hb)
                replace HR := Lib.hid (HR.out.step hb)
                replace HI := Lib.hid (HI.out.stays hb)
                replace HI1 := Lib.hid (HI1.out.stays hb)
                clear hb hX
                refine (CA.out _).mono ?_
                rintro e w9 ⟨rfl, hb⟩
                replace HB := Lib.hid (below_step HB.out hb)
                clear hb
                go_wp2_with fail
                go_ret
                exact ⟨rfl, HB.out⟩
              · have g2 : (e1 == 13) = false := by simpa using he
                have hdd : (⟨fs1, o1, u1⟩ : Dsk) = ⟨fs, off, fuse⟩ := hbd.resolve_left he
                cases hdd
                clear he hbd
                have HRl := HR.out.lt
                obtain ⟨⟨HR0, HR1, HR2⟩, HRz⟩ := HR.out.three
                go_wp2_with fail
                clear HR0 HR1 HR2 HRz HRl
                obtain ⟨X5, hX⟩ : ∃ X, X = w5.alloc (.cells #[.slice a1 z1 c1, .bool off, .int .i64 fuse] 24) := ⟨_, rfl⟩
                have hb : Below w5.heap.size w5 X5 := by rw [hX]; exact (Below.refl _ _).alloc (Nat.le_refl _) _
                have HC1 : Hid (Row X5 w5.heap.size #[.slice a1 z1 c1, .bool off, .int .i64 fuse] 24) := by rw [hX]; exact Lib.hid (Row.made _ _ _)
                rw [← hX]
                replace HB := Lib.hid (below_step HB.out hb)
                replace HR := Lib.hid (HR.out.step hb)
                replace HI := Lib.hid (HI.out.stays hb)
                replace HI1 := Lib.hid (HI1.out.stays hb)
                clear hb hX
                have C := rSameD_any ⟨fs, off, fuse⟩ ⟨fs, off, fuse⟩ (.slice a1 z1 c1) (.slice a z cap) X5 HI1.out HI.out
                rw [sameD_yes rfl] at C
                unfold dskV at C
                dsimp only at C
                refine C.mono ?_
                clear C
                rintro e w6 ⟨rfl, hb⟩
                replace HB := Lib.hid (below_step HB.out hb)
                replace HR := Lib.hid (HR.out.step hb)
                replace HI := Lib.hid (HI.out.stays hb)
                replace HI1 := Lib.hid (HI1.out.stays hb)
                replace HC1 := Lib.hid (HC1.out.step hb)
                clear hb
                go_wp2_with fail
                refine (CA.out _).mono ?_
                rintro e w9 ⟨rfl, hb⟩
                replace HB := Lib.hid (below_step HB.out hb)
                clear hb
                go_wp2_with fail
                go_ret
                exact ⟨rfl, HB.out⟩
end Go.Proofs.Ytninfmlemdnjbaa

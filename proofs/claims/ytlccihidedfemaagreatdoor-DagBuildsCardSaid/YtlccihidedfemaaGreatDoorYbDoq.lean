/-
  Contracts over this translation: the document's Ready; the laws' few and small.
-/
import Derived.Test.YtlccihidedfemaaGreatDoorQb5
import Derived.Test.YtlccihidedfemaaGreatDoorQb4
import Derived.Test.YtlccihidedfemaaGreatDoorQb1
set_option linter.unusedVariables false
namespace Go.Proofs.YtlccihidedfemaaGreatDoor
open Go.RowKit
attribute [local go_sem] Oper.semAt_some
def RdyAt (mn av mx : Int) (I : List It) : Prop := ∃ m a x b : Nat, mn = m ∧ av = a ∧ mx = x ∧ FitAt m a x b ∧ ReadyT (cutN m b x) I
noncomputable def rdyB (mn av mx : Int) (I : List It) : Bool := @decide (RdyAt mn av mx I) (Classical.propDecidable _)
theorem rdyB_yes {mn av mx : Int} {I : List It} (h : RdyAt mn av mx I) : rdyB mn av mx I = true := @decide_eq_true _ (Classical.propDecidable _) h
theorem rdyB_no {mn av mx : Int} {I : List It} (h : ¬ RdyAt mn av mx I) : rdyB mn av mx I = false := @decide_eq_false _ (Classical.propDecidable _) h
theorem rdyB_iff {mn av mx : Int} {I : List It} : rdyB mn av mx I = true ↔ RdyAt mn av mx I := ⟨fun h => @of_decide_eq_true _ (Classical.propDecidable _) h, rdyB_yes⟩
theorem pow_one {b b' : Nat} (h : (2 ^ b : Nat) = 2 ^ b') : b = b' := by
 rcases Nat.lt_trichotomy b b' with e | e | e
 ·have := Nat.pow_lt_pow_right (a := 2) (by decide) e; omega
 ·exact e
 ·have := Nat.pow_lt_pow_right (a := 2) (by decide) e; omega
theorem fitAt_one {m a x b b' : Nat} (h : FitAt m a x b) (h' : FitAt m a x b') : b = b' := by
 have h1 := h.h7; have h2 := h'.h7
 exact pow_one (by exact_mod_cast h1.symm.trans h2)
theorem cut_fit {m a x b : Nat} (h : FitAt m a x b) : ∃ mn mx, CutOk mn mx (cutN m b x) ∧ mx ≤ 4096 :=
 ⟨m, x, cutN_ok (by have := h.h1; omega) (by have := h.h2; have := h.h3; omega), by have := h.h4; omega⟩
theorem rdy_nofit {mn av mx : Int} {I : List It} (h : fitB_Cdm mn av mx = false) : rdyB mn av mx I = false := rdyB_no fun ⟨m, a, x, b, h1, h2, h3, hf, _⟩ => by
 subst h1 h2 h3; exact fitB_not h b hf
theorem rdy_notree {mn av mx : Int} {I : List It} (h : fitT I = false) : rdyB mn av mx I = false := rdyB_no fun ⟨m, a, x, b, h1, h2, h3, hf, hr⟩ => by
 rw [fitT_yes hr.fit] at h; cases h
theorem rdy_small {m a x b : Nat} {I : List It} (hf : FitAt m a x b) (ht : fitT I = true) : rdyB m a x I = smallT (cutN m b x) I := by
 cases hs : smallT (cutN m b x) I
 ·refine rdyB_no fun ⟨m', a', x', b', h1, h2, h3, hf', hr⟩ => ?_
  have e1 : m = m' := by exact_mod_cast h1
  have e2 : a = a' := by exact_mod_cast h2
  have e3 : x = x' := by exact_mod_cast h3
  subst e1 e2 e3
  obtain rfl := fitAt_one hf hf'
  have : smallT (cutN m b x) I = true := List.all_eq_true.2 fun y hy => decide_eq_true (hr.few y hy)
  rw [hs] at this; cases this
 ·exact rdyB_yes ⟨m, a, x, b, rfl, rfl, rfl, hf, fitT_iff.1 ht, cut_fit hf, fun y hy => of_decide_eq_true (List.all_eq_true.1 hs y hy)⟩
set_option maxRecDepth 100000 in
set_option maxHeartbeats 4000000 in
theorem rReady_any (mn av mx : Int) (iv : Value) (I : List It) (w : World) (hi : IsItems w iv I) (hf : fewB I = true) :
  Calls Tryz.prog 29 #[pV mn av mx, iv] w fun e w' => e = .returned (.bool (rdyB mn av mx I)) ∧ Below w.heap.size w w' := by
 obtain ⟨V, hV⟩ : ∃ V, V = w.alloc (.cells #[.int .i64 mn, .int .i64 av, .int .i64 mx] 23) := ⟨_, rfl⟩
 have hbV : Below w.heap.size w V := by rw [hV]; exact (Below.refl _ _).alloc (Nat.le_refl _) _
 have hR0 : Row V w.heap.size #[.int .i64 mn, .int .i64 av, .int .i64 mx] 23 := by rw [hV]; exact Row.made _ _ _
 have HV := Lib.hid hV; have HR0 := Lib.hid hR0; have HB0 := Lib.hid hbV
 have HI := Lib.hid (hi.stays hbV)
 have hsz : ∀ x ∈ I, x.c.size ≤ 100000 := fun x hx => by have := (few_mem hf x hx).2; omega
 have C1 := Lib.hid (refFit_any_Cdw mn av mx)
 have C2 := Lib.hid (fun W (hb : Below V.heap.size V W) => rFit_any_Tif iv I W (HI.out.stays hb) hf)
 have p0 := hR0.cell 0; have p1 := hR0.cell 1; have p2 := hR0.cell 2
 simp only [List.getElem?_toArray, List.getElem?_cons_zero, List.getElem?_cons_succ] at p0 p1 p2
 have HS := Lib.hid hsz
 obtain ⟨_, a1, cap1, rfl, _, _⟩ := hi
 clear hV hbV hR0 hf hsz
 rcases h1 : fitB_Cdm mn av mx with _ | _
 ·have HN := Lib.hid (rdy_nofit (I := I) h1)
  rw [h1] at C1
  clear h1
  go_enter Tryz.func29, Tryz.ntmps29
  go_wp2_with fail
  rw [← HV.out]
  go_wp2_with fail
  refine (C1.out _).mono ?_
  rintro e w1 ⟨rfl, hb1⟩
  go_wp2
  go_ret
  exact ⟨by rw [HN.out]; rfl, below_step HB0.out hb1⟩
 ·obtain ⟨b, hb⟩ := fitB_true_Cdm h1
  rcases h2 : fitT I with _ | _
  ·have HN := Lib.hid (rdy_notree (mn := mn) (av := av) (mx := mx) h2)
   rw [h1] at C1; rw [h2] at C2
   clear h1 h2
   go_enter Tryz.func29, Tryz.ntmps29
   go_wp2_with fail
   rw [← HV.out]
   go_wp2_with fail
   refine (C1.out _).mono ?_
   rintro e w1 ⟨rfl, hb1⟩
   clear p0 p1 p2
   go_wp2_with fail
   refine (C2.out _ hb1).mono ?_
   rintro e w2 ⟨rfl, hb2⟩
   go_wp2
   go_ret
   exact ⟨by rw [HN.out]; rfl, below_step HB0.out (below_step hb1 hb2)⟩
  ·obtain ⟨m, rfl⟩ : ∃ m : Nat, mn = m := ⟨mn.toNat, by have := hb.h1; omega⟩
   obtain ⟨a, rfl⟩ : ∃ a : Nat, av = a := ⟨av.toNat, by have := hb.h1; have := hb.h2; omega⟩
   obtain ⟨x, rfl⟩ : ∃ x : Nat, mx = x := ⟨mx.toNat, by have := hb.h1; have := hb.h2; have := hb.h3; omega⟩
   have HN := Lib.hid (rdy_small hb h2)
   have C3 := Lib.hid (fun W (hbw : Below V.heap.size V W) => rSmallT_any m a b x hb (.slice a1 I.length cap1) I W (HI.out.stays hbw) HS.out)
   rw [← HN.out] at C3
   rw [h1] at C1; rw [h2] at C2
   clear h1 h2 hb
   go_enter Tryz.func29, Tryz.ntmps29
   go_wp2_with fail
   rw [← HV.out]
   go_wp2_with fail
   refine (C1.out _).mono ?_
   rintro e w1 ⟨rfl, hb1⟩
   clear p0 p1 p2
   go_wp2_with fail
   refine (C2.out _ hb1).mono ?_
   rintro e w2 ⟨rfl, hb2⟩
   have hb3 := below_step hb1 hb2
   have hR2 := HR0.out.step hb3
   have p0 := hR2.cell 0; have p1 := hR2.cell 1; have p2 := hR2.cell 2
   simp only [List.getElem?_toArray, List.getElem?_cons_zero, List.getElem?_cons_succ] at p0 p1 p2
   clear hb1 hb2 hR2
   go_wp2_with fail
   refine (C3.out _ hb3).mono ?_
   rintro e w4 ⟨rfl, hb4⟩
   go_wp2
   go_ret
   exact ⟨rfl, below_step HB0.out (below_step hb3 hb4)⟩
def fewT (mn av mx : Int) (I : List It) : Prop := I.length ≤ 70 ∧ sizeT I ≤ 6000 ∧ (∀ x ∈ I, x.p.size ≤ 400) ∧ RdyAt mn av mx I
noncomputable def fewTB (mn av mx : Int) (I : List It) : Bool := @decide (fewT mn av mx I) (Classical.propDecidable _)
theorem fewTB_yes {mn av mx : Int} {I : List It} (h : fewT mn av mx I) : fewTB mn av mx I = true := @decide_eq_true _ (Classical.propDecidable _) h
theorem fewTB_no {mn av mx : Int} {I : List It} (h : ¬ fewT mn av mx I) : fewTB mn av mx I = false := @decide_eq_false _ (Classical.propDecidable _) h
theorem fewTB_iff {mn av mx : Int} {I : List It} : fewTB mn av mx I = true ↔ fewT mn av mx I := ⟨fun h => @of_decide_eq_true _ (Classical.propDecidable _) h, fewTB_yes⟩
set_option maxRecDepth 100000 in
set_option maxHeartbeats 8000000 in
theorem fewT_any (mn av mx : Int) (iv : Value) (I : List It) (w : World) (hi : IsItems w iv I) (hz : ∀ x ∈ I, x.c.size ≤ 281474976710656) :
  Calls Tryz.prog 9 #[pV mn av mx, iv] w fun e w' => e = .returned (.bool (fewTB mn av mx I)) ∧ Below w.heap.size w w' := by
 obtain ⟨V, hV⟩ : ∃ V, V = w.alloc (.cells #[.int .i64 mn, .int .i64 av, .int .i64 mx] 23) := ⟨_, rfl⟩
 have hbV : Below w.heap.size w V := by rw [hV]; exact (Below.refl _ _).alloc (Nat.le_refl _) _
 have hR0 : Row V w.heap.size #[.int .i64 mn, .int .i64 av, .int .i64 mx] 23 := by rw [hV]; exact Row.made _ _ _
 have HV := Lib.hid hV; have HR0 := Lib.hid hR0; have HB0 := Lib.hid hbV
 have HI := Lib.hid (hi.stays hbV)
 have CR := Lib.hid (fun W (hb : Below V.heap.size V W) (hf : fewB I = true) => rReady_any mn av mx iv I W (HI.out.stays hb) hf)
 have HZ := Lib.hid hz
 obtain ⟨hm, a1, cap1, rfl, _, _⟩ := hi
 have hmm : I.length ≤ 9223372036854775807 := by unfold maxLen at hm; omega
 clear hV hbV hR0 hm hz
 by_cases h70 : I.length ≤ 70
 ·have q70 : decide ((70 : Int) < (I.length : Int)) = false := by simp; omega
  go_enter Tryz.func9, Tryz.ntmps9
  go_wp2_with fail
  rw [← HV.out]
  go_loopw [5, 13] (fun n i wr => ∃ (k s : Nat), k ≤ I.length ∧ i = .int .i64 k ∧ n = .int .i64 s ∧ s = sizeT (I.take k) ∧ s ≤ 6000 ∧ (∀ x ∈ I.take k, x.p.size ≤ 400) ∧ Below V.heap.size V wr) (fun _ i _ => I.length - (intOf i).toNat)
  case atStart => exact ⟨0, 0, Nat.zero_le _, rfl, rfl, rfl, by omega, fun _ h => (by simp at h), Below.refl _ _⟩
  case round =>
   obtain ⟨k, s, hk, rfl, rfl, hs, hs6, hp, hB⟩ := hrel
   have HS := Lib.hid hs; have HP := Lib.hid hp
   clear hs hp
   by_cases hlt : k < I.length
   ·obtain ⟨_, _, _, e, _, hc⟩ := HI.out.stays hB
    cases e
    obtain ⟨b1, off, rfl, hbl, g⟩ := hc (by omega)
    obtain ⟨c0, c1, c2, c3⟩ := g k hlt
    clear g hc
    have hbk : decide ((k : Int) < (I.length : Int)) = true := by simpa using (show (k : Int) < I.length by omega)
    have hcut := fewer_len I k hlt
    have hsub := sizeT_take I (k + 1)
    have hmem : I[k]'hlt ∈ I := List.getElem_mem hlt
    have htk : I.take (k + 1) = I.take k ++ [I[k]'hlt] := List.take_succ_eq_append_getElem hlt
    obtain ⟨x, hx⟩ : ∃ x, I[k]'hlt = x := ⟨_, rfl⟩
    rw [hx] at c0 c1 c2 c3 hcut hmem htk
    have hba := (Below.refl wr.heap.size wr).alloc (Nat.le_refl _) (.cells #[.string x.p, .bool x.d, .bool x.e, .string x.c] 51)
    have hB2 := below_step hB hba
    have HCUT := Lib.hid hcut; have HSUB := Lib.hid hsub; have HMEM := Lib.hid hmem; have HTK := Lib.hid htk
    clear hx hcut hsub hmem htk hba
    by_cases h6 : 6000 < s + x.c.size
    ·have HN : Hid (fewTB mn av mx I = false) := Lib.hid (fewTB_no fun h => by have := h.2.1; have := HSUB.out; have := HCUT.out; have := HS.out; omega)
     have q6 : decide ((6000 : Int) < (s : Int) + (x.c.size : Int)) = true := decide_eq_true (by omega)
     have hbig := HZ.out x HMEM.out
     have hsum : IntKind.i64.wrap ((s : Int) + (x.c.size : Int)) = (s : Int) + (x.c.size : Int) := IntWalk.i64_in _ (by omega)
     go_wp2
     go_ret
     exact ⟨by rw [HN.out]; rfl, below_step HB0.out hB2⟩
    ·have q6 : decide ((6000 : Int) < (s : Int) + (x.c.size : Int)) = false := decide_eq_false (by omega)
     have hsum : IntKind.i64.wrap ((s : Int) + (x.c.size : Int)) = (s : Int) + (x.c.size : Int) := IntWalk.i64_in _ (by omega)
     by_cases h400 : x.p.size ≤ 400
     ·have q4 : decide ((400 : Int) < (x.p.size : Int)) = false := by simp; omega
      go_wp2
      go_roundw
      case rel => exact ⟨k + 1, s + x.c.size, by omega, by go_num, by go_num, by rw [HCUT.out, ← HS.out], by omega, fun u hu => by
       rw [HTK.out] at hu
       rcases List.mem_append.1 hu with h | h
       ·exact HP.out u h
       ·rw [List.mem_singleton.1 h]; exact h400, hB2⟩
      case measure => simp [intOf]; omega
     ·have q4 : decide ((400 : Int) < (x.p.size : Int)) = true := by simp; omega
      have HN : Hid (fewTB mn av mx I = false) := Lib.hid (fewTB_no fun h => h400 (h.2.2.1 x HMEM.out))
      go_wp2
      go_ret
      exact ⟨by rw [HN.out]; rfl, below_step HB0.out hB2⟩
   ·have hge : decide ((k : Int) < (I.length : Int)) = false := by simp; omega
    have htk : I.take k = I := List.take_of_length_le (by omega)
    have hs1 := HS.out
    have hp1 := HP.out
    rw [htk] at hs1 hp1
    have hfb : fewB I = true := few_mk h70 (fun x hx => ⟨hp1 x hx, by
     have : x.c.size ≤ sizeT I := sum_mem (f := fun y : It => y.c.size) hx
     omega⟩)
    have HF : Hid (rdyB mn av mx I = fewTB mn av mx I) := Lib.hid (by
     cases hr : rdyB mn av mx I
     ·exact (fewTB_no fun h => by rw [rdyB_yes h.2.2.2] at hr; cases hr).symm
     ·exact (fewTB_yes ⟨h70, by omega, hp1, rdyB_iff.1 hr⟩).symm)
    have C := Lib.hid (CR.out wr hB hfb)
    rw [HF.out] at C
    have hR2 := HR0.out.step hB
    have p0 := hR2.cell 0; have p1 := hR2.cell 1; have p2 := hR2.cell 2
    simp only [List.getElem?_toArray, List.getElem?_cons_zero, List.getElem?_cons_succ] at p0 p1 p2
    clear hs1 hp1 hfb htk hR2
    go_wp2_with fail
    refine C.out.mono ?_
    rintro e w4 ⟨rfl, hb4⟩
    go_wp2
    go_ret
    exact ⟨rfl, below_step HB0.out (below_step hB hb4)⟩
 ·have q70 : decide ((70 : Int) < (I.length : Int)) = true := by simp; omega
  have HN : Hid (fewTB mn av mx I = false) := Lib.hid (fewTB_no fun h => h70 h.1)
  go_enter Tryz.func9, Tryz.ntmps9
  go_wp2_with fail
  rw [← HV.out]
  go_wp2
  go_ret
  exact ⟨by rw [HN.out]; rfl, HB0.out⟩
end Go.Proofs.YtlccihidedfemaaGreatDoor

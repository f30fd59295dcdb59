/-
  Contracts over this translation: the document's Fit.
-/
import Derived.Test.YtlccihidedfemaaGreatDoorQb3
import Derived.Lib.QuietBelow
import Derived.IntWalk
set_option linter.unusedVariables false
namespace Go.Proofs.YtlccihidedfemaaGreatDoor
open Go.RowKit
attribute [local go_sem] Oper.semAt_some
structure OkAt (L : List It) (k : Nat) (h : k < L.length) : Prop where
 path : pathB L[k].t = true
 order : ∀ i (hi : i + 1 = k), orderS (L[i]'(by omega)).t L[k].t = -1
 form : badI L[k] = false
 data : L[k].c.size ≤ 32768
 under : underT L L[k].t = true
theorem rise_chain {L : List It} (h : ∀ i (hi : i + 1 < L.length), orderS (L[i]'(by omega)).t L[i + 1].t = -1) : Rise L := by
 refine List.pairwise_iff_getElem.2 (fun i j hi hj hij => ?_)
 obtain ⟨d, rfl⟩ : ∃ d, j = i + 1 + d := ⟨j - (i + 1), by omega⟩
 induction d with
 | zero => exact h i hj
 | succ d ih => exact order_trans (ih (by omega) (by omega)) (h (i + 1 + d) hj)
theorem tfit_of {L : List It} (h60 : L.length ≤ 60) (h : ∀ k (hk : k < L.length), OkAt L k hk) (hs : sizeT L ≤ 65536) : TFit L := by
 have hm : ∀ x ∈ L, ∃ k, ∃ hk : k < L.length, x = L[k] := fun x hx => by obtain ⟨i, hi, e⟩ := List.getElem_of_mem hx; exact ⟨i, hi, e.symm⟩
 refine ⟨h60, rise_chain fun i hi => (h (i + 1) hi).order i rfl, fun x hx => ?_, fun x hx => ?_, fun x hx => ?_, fun x hx => ?_, hs⟩
 ·obtain ⟨k, hk, rfl⟩ := hm x hx; exact (h k hk).path
 ·obtain ⟨k, hk, rfl⟩ := hm x hx; exact (h k hk).form
 ·obtain ⟨k, hk, rfl⟩ := hm x hx; exact (h k hk).data
 ·obtain ⟨k, hk, rfl⟩ := hm x hx; exact (h k hk).under
theorem tfit_at {L : List It} (h : TFit L) (k : Nat) (hk : k < L.length) : OkAt L k hk :=
 ⟨h.path _ (List.getElem_mem hk), fun i hi => List.pairwise_iff_getElem.1 h.rise i k (by omega) hk (by omega), h.form _ (List.getElem_mem hk), h.data _ (List.getElem_mem hk), h.under _ (List.getElem_mem hk)⟩
def OkTo (L : List It) (k : Nat) : Prop := ∀ j (hj : j < L.length), j < k → OkAt L j hj
theorem okTo_step {L : List It} {k : Nat} (hk : k < L.length) (h : OkTo L k) (hx : OkAt L k hk) : OkTo L (k + 1) := fun j hj hjk => by
 by_cases e : j = k
 ·subst e; exact hx
 ·exact h j hj (by omega)
set_option maxRecDepth 100000 in
set_option maxHeartbeats 40000000 in
theorem rFit_any_Tif (v : Value) (L : List It) (w : World) (h : IsItems w v L) (hf : fewB L = true) :
  Calls Tryz.prog 49 #[v] w fun e w' => e = .returned (.bool (fitT L)) ∧ Below w.heap.size w w' := by
 have HI := Lib.hid h
 have HFEW := Lib.hid (few_mem hf)
 have h70 := few_len hf
 have hsz : sizeT L ≤ 10000000 := by have := sizeT_few (fun x hx => (few_mem hf x hx).2); omega
 have FI := Lib.hid refFit_any
 have OR := Lib.hid refOrder_any
 have UN := Lib.hid rUnder_any
 obtain ⟨hm, a, cap, rfl, _, hc⟩ := h
 clear hc hf
 by_cases h60 : 60 < L.length
 ·have HF : Hid (fitT L = false) := fitT_no (fun h => by have := h.len; omega)
  have e1 : decide ((60 : Int) < (L.length : Int)) = true := decide_eq_true (by omega)
  go_enter Tryz.func49, Tryz.ntmps49
  go_wp2
  go_ret
  exact ⟨by rw [HF.out]; rfl, Below.refl _ _⟩
 ·have e1 : decide ((60 : Int) < (L.length : Int)) = false := decide_eq_false (by omega)
  go_enter Tryz.func49, Tryz.ntmps49
  go_wp2
  go_loopw [3, 4] (fun n i wr => ∃ k : Nat, k ≤ L.length ∧ i = .int .i64 k ∧ n = .int .i64 (sizeT (L.take k)) ∧ OkTo L k ∧ Below w.heap.size w wr) (fun _ i _ => L.length - (intOf i).toNat)
  case atStart => exact ⟨0, Nat.zero_le _, rfl, rfl, fun j _ h => absurd h (Nat.not_lt_zero _), Below.refl _ _⟩
  case round =>
   obtain ⟨k, hk, rfl, rfl, hok, hB⟩ := hrel
   have HOK := Lib.hid hok
   clear hok
   by_cases hlt : k < L.length
   ·have HIr := Lib.hid (HI.out.stays hB)
    obtain ⟨_, _, _, e, _, hc⟩ := HIr.out
    cases e
    obtain ⟨b, off, rfl, hbl, g⟩ := hc (by omega)
    have G := Lib.hid g
    obtain ⟨c0, c1, c2, c3⟩ := g k hlt
    have hbk : decide ((k : Int) < (L.length : Int)) = true := by simpa using (show (k : Int) < L.length by omega)
    have hbd : sizeT (L.take k) + L[k].c.size ≤ 10000000 := by have := sizeT_take L (k + 1); rw [fewer_len L k hlt] at this; omega
    have HSZ := Lib.hid (fewer_len L k hlt)
    have HSTEP := Lib.hid (fun hx => okTo_step hlt HOK.out hx)
    have HBAD := Lib.hid (fun (hn : ¬ OkAt L k hlt) => fitT_no (fun h => hn (tfit_at h k hlt)))
    have HMK := Lib.hid (fun h1 h2 h3 h4 h5 => OkAt.mk (L := L) (k := k) (h := hlt) h1 h2 h3 h4 h5)
    have HSP := Lib.hid (fun h : OkAt L k hlt => And.intro h.path (And.intro h.order (And.intro h.form (And.intro h.data h.under))))
    clear g hc
    obtain ⟨x, hx⟩ : ∃ x, x = L[k] := ⟨_, rfl⟩
    have hxs := (HFEW.out _ (List.getElem_mem hlt)).1
    rw [← hx] at c0 c1 c2 c3 hbd HSZ hxs HMK HSP
    clear hx
    go_wp2_with fail
    have HX := Lib.hid (inBox_new wr x 51)
    have HB0 := Lib.hid (below_step hB ((Below.refl wr.heap.size wr).alloc (Nat.le_refl _) (.cells #[.string x.p, .bool x.d, .bool x.e, .string x.c] 51)))
    have HI2 := Lib.hid (HIr.out.stays ((Below.refl wr.heap.size wr).alloc (Nat.le_refl _) (.cells #[.string x.p, .bool x.d, .bool x.e, .string x.c] 51)))
    have HG2 := Lib.hid (fun i (hi : i < L.length) => (G.out i hi).stays hbl ((Below.refl wr.heap.size wr).alloc (Nat.le_refl _) (.cells #[.string x.p, .bool x.d, .bool x.e, .string x.c] 51)))
    generalize wr.alloc (.cells #[.string x.p, .bool x.d, .bool x.e, .string x.c] 51) = W2 at HX HB0 HI2 HG2 ⊢
    generalize wr.heap.size = B2 at HX ⊢
    clear c0 c1 c2 c3 hbl G HIr hB
    obtain ⟨d0, d1, d2, d3⟩ := HX.out.cells
    have k0 := fun d os => cell_regrown d0 d os
    have k1 := fun d os => cell_regrown d1 d os
    have k2 := fun d os => cell_regrown d2 d os
    have k3 := fun d os => cell_regrown d3 d os
    have P1 := Lib.hid (FI.out x.p (by omega))
    have U1 := Lib.hid (fun W hW => UN.out (.slice (some ⟨b, off, none⟩) L.length cap) L x.p W hW (by omega))
    rcases Nat.eq_zero_or_pos k with hk0 | hk0
    ·have f1 : decide ((0 : Int) < (k : Int)) = false := decide_eq_false (by omega)
     have f2 : ¬ 0 < k := by omega
     have HK0 := Lib.hid hk0
     clear hk0
     rcases hpb : pathB x.t with _ | _
     ·rw [show isPath x.p.data.toList = false from hpb] at P1
      have HPB := Lib.hid hpb
      clear hpb
      have HF := Lib.hid (HBAD.out (fun h => by have h' := HSP.out h; rw [HPB.out] at h'; exact absurd h'.1 (by decide)))
      clear HBAD HSP HMK HSTEP
      refine wp_region_quiet_below (by kernel_rfl) (by kernel_rfl) ?_
      repeat (first | go_big_quiet_step ((first | (go_at_call 80; exact Calls.regrown_of (P1.out _)) | (go_at_call 82; exact Calls.regrown_of (U1.out _ (HI2.out.stays (below_regrown _ _ _)))))) | quiet_step ((first | (go_at_call 80; exact Calls.regrown_of (P1.out _)) | (go_at_call 82; exact Calls.regrown_of (U1.out _ (HI2.out.stays (below_regrown _ _ _)))))))
      refine wpQuiet_nil ?_
      intro wq hwq
      have hbq : Below W2.heap.size W2 wq := by obtain ⟨p, rfl⟩ := hwq; exact below_regrown _ _ _
      clear hwq k0 k1 k2 k3 d0 d1 d2 d3
      go_wp2
      go_ret
      exact ⟨by rw [HF.out]; rfl, below_step HB0.out hbq⟩
     ·rw [show isPath x.p.data.toList = true from hpb] at P1
      have HPB := Lib.hid hpb
      clear hpb
      rcases hdd : x.d with _ | _
      ·have HFM : Hid (badI x = false) := show _ = _ by unfold badI; rw [hdd]; rfl
       by_cases hss : x.c.size ≤ 32768
       ·have HSS := Lib.hid hss
        have gss : decide ((32768 : Int) < (x.c.size : Int)) = false := decide_eq_false (by omega)
        clear hss
        rcases huu : underT L x.t with _ | _
        ·rw [show underT L x.p.data.toList = false from huu] at U1
         have HUU := Lib.hid huu
         clear huu
         have HF := Lib.hid (HBAD.out (fun h => by have h' := HSP.out h; rw [HUU.out] at h'; exact absurd h'.2.2.2.2 (by decide)))
         clear HBAD HSP HMK HSTEP
         refine wp_region_quiet_below (by kernel_rfl) (by kernel_rfl) ?_
         repeat (first | go_big_quiet_step ((first | (go_at_call 80; exact Calls.regrown_of (P1.out _)) | (go_at_call 82; exact Calls.regrown_of (U1.out _ (HI2.out.stays (below_regrown _ _ _)))))) | quiet_step ((first | (go_at_call 80; exact Calls.regrown_of (P1.out _)) | (go_at_call 82; exact Calls.regrown_of (U1.out _ (HI2.out.stays (below_regrown _ _ _)))))))
         refine wpQuiet_nil ?_
         intro wq hwq
         have hbq : Below W2.heap.size W2 wq := by obtain ⟨p, rfl⟩ := hwq; exact below_regrown _ _ _
         clear hwq k0 k1 k2 k3 d0 d1 d2 d3
         go_wp2
         go_ret
         exact ⟨by rw [HF.out]; rfl, below_step HB0.out hbq⟩
        ·rw [show underT L x.p.data.toList = true from huu] at U1
         have HUU := Lib.hid huu
         clear huu
         have HN := Lib.hid (HSTEP.out (HMK.out HPB.out (fun i hi => absurd (HK0.out) (by omega)) HFM.out HSS.out HUU.out))
         clear HBAD HSP HMK HSTEP
         refine wp_region_quiet_below (by kernel_rfl) (by kernel_rfl) ?_
         repeat (first | go_big_quiet_step ((first | (go_at_call 80; exact Calls.regrown_of (P1.out _)) | (go_at_call 82; exact Calls.regrown_of (U1.out _ (HI2.out.stays (below_regrown _ _ _)))))) | quiet_step ((first | (go_at_call 80; exact Calls.regrown_of (P1.out _)) | (go_at_call 82; exact Calls.regrown_of (U1.out _ (HI2.out.stays (below_regrown _ _ _)))))))
         refine wpQuiet_nil ?_
         intro wq hwq
         have hbq : Below W2.heap.size W2 wq := by obtain ⟨p, rfl⟩ := hwq; exact below_regrown _ _ _
         clear hwq k0 k1 k2 k3 d0 d1 d2 d3
         obtain ⟨e0, e1, e2, e3⟩ := (HX.out.stays hbq).cells
         go_wp2_with fail
         go_roundw
         case rel => exact ⟨k + 1, by omega, by go_num, by rw [HSZ.out]; go_num, HN.out, below_step HB0.out hbq⟩
         case measure => simp [intOf]; omega
       ·have gss : decide ((32768 : Int) < (x.c.size : Int)) = true := decide_eq_true (by omega)
        have HSS := Lib.hid hss
        clear hss
        have HF := Lib.hid (HBAD.out (fun h => by have h' := HSP.out h; exact HSS.out h'.2.2.2.1))
        clear HBAD HSP HMK HSTEP
        refine wp_region_quiet_below (by kernel_rfl) (by kernel_rfl) ?_
        repeat (first | go_big_quiet_step ((first | (go_at_call 80; exact Calls.regrown_of (P1.out _)) | (go_at_call 82; exact Calls.regrown_of (U1.out _ (HI2.out.stays (below_regrown _ _ _)))))) | quiet_step ((first | (go_at_call 80; exact Calls.regrown_of (P1.out _)) | (go_at_call 82; exact Calls.regrown_of (U1.out _ (HI2.out.stays (below_regrown _ _ _)))))))
        refine wpQuiet_nil ?_
        intro wq hwq
        have hbq : Below W2.heap.size W2 wq := by obtain ⟨p, rfl⟩ := hwq; exact below_regrown _ _ _
        clear hwq k0 k1 k2 k3 d0 d1 d2 d3
        go_wp2
        go_ret
        exact ⟨by rw [HF.out]; rfl, below_step HB0.out hbq⟩
      ·rcases hcc : x.c.toList.isEmpty with _ | _
       ·have HFM : Hid (badI x = true) := show _ = _ by unfold badI; rw [hdd, c_empty] at *; rw [decide_eq_true (of_decide_eq_false hcc)]; rfl
        have HF := Lib.hid (HBAD.out (fun h => by have h' := HSP.out h; rw [HFM.out] at h'; exact absurd h'.2.2.1 (by decide)))
        clear HBAD HSP HMK HSTEP
        refine wp_region_quiet_below (by kernel_rfl) (by kernel_rfl) ?_
        repeat (first | go_big_quiet_step ((first | (go_at_call 80; exact Calls.regrown_of (P1.out _)) | (go_at_call 82; exact Calls.regrown_of (U1.out _ (HI2.out.stays (below_regrown _ _ _)))))) | quiet_step ((first | (go_at_call 80; exact Calls.regrown_of (P1.out _)) | (go_at_call 82; exact Calls.regrown_of (U1.out _ (HI2.out.stays (below_regrown _ _ _)))))))
        refine wpQuiet_nil ?_
        intro wq hwq
        have hbq : Below W2.heap.size W2 wq := by obtain ⟨p, rfl⟩ := hwq; exact below_regrown _ _ _
        clear hwq k0 k1 k2 k3 d0 d1 d2 d3
        go_wp2
        go_ret
        exact ⟨by rw [HF.out]; rfl, below_step HB0.out hbq⟩
       ·rcases hee : x.e with _ | _
        ·have HFM : Hid (badI x = false) := show _ = _ by unfold badI; rw [c_empty] at hcc; rw [hdd, hee, decide_eq_false (fun h => h (of_decide_eq_true hcc))]; rfl
         by_cases hss : x.c.size ≤ 32768
         ·have HSS := Lib.hid hss
          have gss : decide ((32768 : Int) < (x.c.size : Int)) = false := decide_eq_false (by omega)
          clear hss
          rcases huu : underT L x.t with _ | _
          ·rw [show underT L x.p.data.toList = false from huu] at U1
           have HUU := Lib.hid huu
           clear huu
           have HF := Lib.hid (HBAD.out (fun h => by have h' := HSP.out h; rw [HUU.out] at h'; exact absurd h'.2.2.2.2 (by decide)))
           clear HBAD HSP HMK HSTEP
           refine wp_region_quiet_below (by kernel_rfl) (by kernel_rfl) ?_
           repeat (first | go_big_quiet_step ((first | (go_at_call 80; exact Calls.regrown_of (P1.out _)) | (go_at_call 82; exact Calls.regrown_of (U1.out _ (HI2.out.stays (below_regrown _ _ _)))))) | quiet_step ((first | (go_at_call 80; exact Calls.regrown_of (P1.out _)) | (go_at_call 82; exact Calls.regrown_of (U1.out _ (HI2.out.stays (below_regrown _ _ _)))))))
           refine wpQuiet_nil ?_
           intro wq hwq
           have hbq : Below W2.heap.size W2 wq := by obtain ⟨p, rfl⟩ := hwq; exact below_regrown _ _ _
           clear hwq k0 k1 k2 k3 d0 d1 d2 d3
           go_wp2
           go_ret
           exact ⟨by rw [HF.out]; rfl, below_step HB0.out hbq⟩
          ·rw [show underT L x.p.data.toList = true from huu] at U1
           have HUU := Lib.hid huu
           clear huu
           have HN := Lib.hid (HSTEP.out (HMK.out HPB.out (fun i hi => absurd (HK0.out) (by omega)) HFM.out HSS.out HUU.out))
           clear HBAD HSP HMK HSTEP
           refine wp_region_quiet_below (by kernel_rfl) (by kernel_rfl) ?_
           repeat (first | go_big_quiet_step ((first | (go_at_call 80; exact Calls.regrown_of (P1.out _)) | (go_at_call 82; exact Calls.regrown_of (U1.out _ (HI2.out.stays (below_regrown _ _ _)))))) | quiet_step ((first | (go_at_call 80; exact Calls.regrown_of (P1.out _)) | (go_at_call 82; exact Calls.regrown_of (U1.out _ (HI2.out.stays (below_regrown _ _ _)))))))
           refine wpQuiet_nil ?_
           intro wq hwq
           have hbq : Below W2.heap.size W2 wq := by obtain ⟨p, rfl⟩ := hwq; exact below_regrown _ _ _
           clear hwq k0 k1 k2 k3 d0 d1 d2 d3
           obtain ⟨e0, e1, e2, e3⟩ := (HX.out.stays hbq).cells
           go_wp2_with fail
           go_roundw
           case rel => exact ⟨k + 1, by omega, by go_num, by rw [HSZ.out]; go_num, HN.out, below_step HB0.out hbq⟩
           case measure => simp [intOf]; omega
         ·have gss : decide ((32768 : Int) < (x.c.size : Int)) = true := decide_eq_true (by omega)
          have HSS := Lib.hid hss
          clear hss
          have HF := Lib.hid (HBAD.out (fun h => by have h' := HSP.out h; exact HSS.out h'.2.2.2.1))
          clear HBAD HSP HMK HSTEP
          refine wp_region_quiet_below (by kernel_rfl) (by kernel_rfl) ?_
          repeat (first | go_big_quiet_step ((first | (go_at_call 80; exact Calls.regrown_of (P1.out _)) | (go_at_call 82; exact Calls.regrown_of (U1.out _ (HI2.out.stays (below_regrown _ _ _)))))) | quiet_step ((first | (go_at_call 80; exact Calls.regrown_of (P1.out _)) | (go_at_call 82; exact Calls.regrown_of (U1.out _ (HI2.out.stays (below_regrown _ _ _)))))))
          refine wpQuiet_nil ?_
          intro wq hwq
          have hbq : Below W2.heap.size W2 wq := by obtain ⟨p, rfl⟩ := hwq; exact below_regrown _ _ _
          clear hwq k0 k1 k2 k3 d0 d1 d2 d3
          go_wp2
          go_ret
          exact ⟨by rw [HF.out]; rfl, below_step HB0.out hbq⟩
        ·have HFM : Hid (badI x = true) := show _ = _ by unfold badI; rw [hdd, hee]; simp
         have HF := Lib.hid (HBAD.out (fun h => by have h' := HSP.out h; rw [HFM.out] at h'; exact absurd h'.2.2.1 (by decide)))
         clear HBAD HSP HMK HSTEP
         refine wp_region_quiet_below (by kernel_rfl) (by kernel_rfl) ?_
         repeat (first | go_big_quiet_step ((first | (go_at_call 80; exact Calls.regrown_of (P1.out _)) | (go_at_call 82; exact Calls.regrown_of (U1.out _ (HI2.out.stays (below_regrown _ _ _)))))) | quiet_step ((first | (go_at_call 80; exact Calls.regrown_of (P1.out _)) | (go_at_call 82; exact Calls.regrown_of (U1.out _ (HI2.out.stays (below_regrown _ _ _)))))))
         refine wpQuiet_nil ?_
         intro wq hwq
         have hbq : Below W2.heap.size W2 wq := by obtain ⟨p, rfl⟩ := hwq; exact below_regrown _ _ _
         clear hwq k0 k1 k2 k3 d0 d1 d2 d3
         go_wp2
         go_ret
         exact ⟨by rw [HF.out]; rfl, below_step HB0.out hbq⟩
    ·have f1 : decide ((0 : Int) < (k : Int)) = true := decide_eq_true (by omega)
     have gy := HG2.out (k - 1) (by omega)
     obtain ⟨y, hy⟩ : ∃ y, y = L[k - 1]'(by omega) := ⟨_, rfl⟩
     have hys := (HFEW.out _ (List.getElem_mem (show k - 1 < L.length by omega))).1
     rw [← hy] at gy hys
     have HORD : Hid (∀ i (hi : i + 1 = k), (L[i]'(by omega)) = y) := show ∀ _ _, _ from fun i hi => by rw [hy]; congr 1; omega
     clear hy
     have p0 := fun d os => cell_regrown gy.1 d os
     have gy0 := gy.1
     clear gy
     have s1 : IntKind.i64.wrap ((k : Int) - 1) = (k : Int) - 1 := IntWalk.i64_in _ (by omega)
     have s2 : (0 : Int) ≤ (k : Int) - 1 := by omega
     have s3 : ((k : Int) - 1).toNat = k - 1 := by omega
     have O1 := Lib.hid (OR.out y.p x.p (by omega) (by omega))
     rcases hpb : pathB x.t with _ | _
     ·rw [show isPath x.p.data.toList = false from hpb] at P1
      have HPB := Lib.hid hpb
      clear hpb
      have HF := Lib.hid (HBAD.out (fun h => by have h' := HSP.out h; rw [HPB.out] at h'; exact absurd h'.1 (by decide)))
      clear HBAD HSP HMK HSTEP
      refine wp_region_quiet_below (by kernel_rfl) (by kernel_rfl) ?_
      repeat (first | go_big_quiet_step ((first | (go_at_call 80; exact Calls.regrown_of (P1.out _)) | (go_at_call 82; exact Calls.regrown_of (U1.out _ (HI2.out.stays (below_regrown _ _ _)))) | (go_at_call 81; exact Calls.regrown_of (O1.out _)))) | quiet_step ((first | (go_at_call 80; exact Calls.regrown_of (P1.out _)) | (go_at_call 82; exact Calls.regrown_of (U1.out _ (HI2.out.stays (below_regrown _ _ _)))) | (go_at_call 81; exact Calls.regrown_of (O1.out _)))))
      refine wpQuiet_nil ?_
      intro wq hwq
      have hbq : Below W2.heap.size W2 wq := by obtain ⟨p, rfl⟩ := hwq; exact below_regrown _ _ _
      clear hwq k0 k1 k2 k3 d0 d1 d2 d3
      go_wp2
      go_ret
      exact ⟨by rw [HF.out]; rfl, below_step HB0.out hbq⟩
     ·rw [show isPath x.p.data.toList = true from hpb] at P1
      have HPB := Lib.hid hpb
      clear hpb
      by_cases ho : orderS y.t x.t = -1
      ·rw [show orderS y.p.data.toList x.p.data.toList = -1 from ho] at O1
       have HOO : Hid (∀ i (hi : i + 1 = k), orderS (L[i]'(by omega)).t x.t = -1) := show ∀ _ _, _ from fun i hi => by rw [HORD.out i hi]; exact ho
       clear ho HORD
       rcases hdd : x.d with _ | _
       ·have HFM : Hid (badI x = false) := show _ = _ by unfold badI; rw [hdd]; rfl
        by_cases hss : x.c.size ≤ 32768
        ·have HSS := Lib.hid hss
         have gss : decide ((32768 : Int) < (x.c.size : Int)) = false := decide_eq_false (by omega)
         clear hss
         rcases huu : underT L x.t with _ | _
         ·rw [show underT L x.p.data.toList = false from huu] at U1
          have HUU := Lib.hid huu
          clear huu
          have HF := Lib.hid (HBAD.out (fun h => by have h' := HSP.out h; rw [HUU.out] at h'; exact absurd h'.2.2.2.2 (by decide)))
          clear HBAD HSP HMK HSTEP
          refine wp_region_quiet_below (by kernel_rfl) (by kernel_rfl) ?_
          repeat (first | go_big_quiet_step ((first | (go_at_call 80; exact Calls.regrown_of (P1.out _)) | (go_at_call 82; exact Calls.regrown_of (U1.out _ (HI2.out.stays (below_regrown _ _ _)))) | (go_at_call 81; exact Calls.regrown_of (O1.out _)))) | quiet_step ((first | (go_at_call 80; exact Calls.regrown_of (P1.out _)) | (go_at_call 82; exact Calls.regrown_of (U1.out _ (HI2.out.stays (below_regrown _ _ _)))) | (go_at_call 81; exact Calls.regrown_of (O1.out _)))))
          refine wpQuiet_nil ?_
          intro wq hwq
          have hbq : Below W2.heap.size W2 wq := by obtain ⟨p, rfl⟩ := hwq; exact below_regrown _ _ _
          clear hwq k0 k1 k2 k3 d0 d1 d2 d3
          go_wp2
          go_ret
          exact ⟨by rw [HF.out]; rfl, below_step HB0.out hbq⟩
         ·rw [show underT L x.p.data.toList = true from huu] at U1
          have HUU := Lib.hid huu
          clear huu
          have HN := Lib.hid (HSTEP.out (HMK.out HPB.out HOO.out HFM.out HSS.out HUU.out))
          clear HBAD HSP HMK HSTEP
          refine wp_region_quiet_below (by kernel_rfl) (by kernel_rfl) ?_
          repeat (first | go_big_quiet_step ((first | (go_at_call 80; exact Calls.regrown_of (P1.out _)) | (go_at_call 82; exact Calls.regrown_of (U1.out _ (HI2.out.stays (below_regrown _ _ _)))) | (go_at_call 81; exact Calls.regrown_of (O1.out _)))) | quiet_step ((first | (go_at_call 80; exact Calls.regrown_of (P1.out _)) | (go_at_call 82; exact Calls.regrown_of (U1.out _ (HI2.out.stays (below_regrown _ _ _)))) | (go_at_call 81; exact Calls.regrown_of (O1.out _)))))
          refine wpQuiet_nil ?_
          intro wq hwq
          have hbq : Below W2.heap.size W2 wq := by obtain ⟨p, rfl⟩ := hwq; exact below_regrown _ _ _
          clear hwq k0 k1 k2 k3 d0 d1 d2 d3
          obtain ⟨e0, e1, e2, e3⟩ := (HX.out.stays hbq).cells
          go_wp2_with fail
          go_roundw
          case rel => exact ⟨k + 1, by omega, by go_num, by rw [HSZ.out]; go_num, HN.out, below_step HB0.out hbq⟩
          case measure => simp [intOf]; omega
        ·have gss : decide ((32768 : Int) < (x.c.size : Int)) = true := decide_eq_true (by omega)
         have HSS := Lib.hid hss
         clear hss
         have HF := Lib.hid (HBAD.out (fun h => by have h' := HSP.out h; exact HSS.out h'.2.2.2.1))
         clear HBAD HSP HMK HSTEP
         refine wp_region_quiet_below (by kernel_rfl) (by kernel_rfl) ?_
         repeat (first | go_big_quiet_step ((first | (go_at_call 80; exact Calls.regrown_of (P1.out _)) | (go_at_call 82; exact Calls.regrown_of (U1.out _ (HI2.out.stays (below_regrown _ _ _)))) | (go_at_call 81; exact Calls.regrown_of (O1.out _)))) | quiet_step ((first | (go_at_call 80; exact Calls.regrown_of (P1.out _)) | (go_at_call 82; exact Calls.regrown_of (U1.out _ (HI2.out.stays (below_regrown _ _ _)))) | (go_at_call 81; exact Calls.regrown_of (O1.out _)))))
         refine wpQuiet_nil ?_
         intro wq hwq
         have hbq : Below W2.heap.size W2 wq := by obtain ⟨p, rfl⟩ := hwq; exact below_regrown _ _ _
         clear hwq k0 k1 k2 k3 d0 d1 d2 d3
         go_wp2
         go_ret
         exact ⟨by rw [HF.out]; rfl, below_step HB0.out hbq⟩
       ·rcases hcc : x.c.toList.isEmpty with _ | _
        ·have HFM : Hid (badI x = true) := show _ = _ by unfold badI; rw [hdd, c_empty] at *; rw [decide_eq_true (of_decide_eq_false hcc)]; rfl
         have HF := Lib.hid (HBAD.out (fun h => by have h' := HSP.out h; rw [HFM.out] at h'; exact absurd h'.2.2.1 (by decide)))
         clear HBAD HSP HMK HSTEP
         refine wp_region_quiet_below (by kernel_rfl) (by kernel_rfl) ?_
         repeat (first | go_big_quiet_step ((first | (go_at_call 80; exact Calls.regrown_of (P1.out _)) | (go_at_call 82; exact Calls.regrown_of (U1.out _ (HI2.out.stays (below_regrown _ _ _)))) | (go_at_call 81; exact Calls.regrown_of (O1.out _)))) | quiet_step ((first | (go_at_call 80; exact Calls.regrown_of (P1.out _)) | (go_at_call 82; exact Calls.regrown_of (U1.out _ (HI2.out.stays (below_regrown _ _ _)))) | (go_at_call 81; exact Calls.regrown_of (O1.out _)))))
         refine wpQuiet_nil ?_
         intro wq hwq
         have hbq : Below W2.heap.size W2 wq := by obtain ⟨p, rfl⟩ := hwq; exact below_regrown _ _ _
         clear hwq k0 k1 k2 k3 d0 d1 d2 d3
         go_wp2
         go_ret
         exact ⟨by rw [HF.out]; rfl, below_step HB0.out hbq⟩
        ·rcases hee : x.e with _ | _
         ·have HFM : Hid (badI x = false) := show _ = _ by unfold badI; rw [c_empty] at hcc; rw [hdd, hee, decide_eq_false (fun h => h (of_decide_eq_true hcc))]; rfl
          by_cases hss : x.c.size ≤ 32768
          ·have HSS := Lib.hid hss
           have gss : decide ((32768 : Int) < (x.c.size : Int)) = false := decide_eq_false (by omega)
           clear hss
           rcases huu : underT L x.t with _ | _
           ·rw [show underT L x.p.data.toList = false from huu] at U1
            have HUU := Lib.hid huu
            clear huu
            have HF := Lib.hid (HBAD.out (fun h => by have h' := HSP.out h; rw [HUU.out] at h'; exact absurd h'.2.2.2.2 (by decide)))
            clear HBAD HSP HMK HSTEP
            refine wp_region_quiet_below (by kernel_rfl) (by kernel_rfl) ?_
            repeat (first | go_big_quiet_step ((first | (go_at_call 80; exact Calls.regrown_of (P1.out _)) | (go_at_call 82; exact Calls.regrown_of (U1.out _ (HI2.out.stays (below_regrown _ _ _)))) | (go_at_call 81; exact Calls.regrown_of (O1.out _)))) | quiet_step ((first | (go_at_call 80; exact Calls.regrown_of (P1.out _)) | (go_at_call 82; exact Calls.regrown_of (U1.out _ (HI2.out.stays (below_regrown _ _ _)))) | (go_at_call 81; exact Calls.regrown_of (O1.out _)))))
            refine wpQuiet_nil ?_
            intro wq hwq
            have hbq : Below W2.heap.size W2 wq := by obtain ⟨p, rfl⟩ := hwq; exact below_regrown _ _ _
            clear hwq k0 k1 k2 k3 d0 d1 d2 d3
            go_wp2
            go_ret
            exact ⟨by rw [HF.out]; rfl, below_step HB0.out hbq⟩
           ·rw [show underT L x.p.data.toList = true from huu] at U1
            have HUU := Lib.hid huu
            clear huu
            have HN := Lib.hid (HSTEP.out (HMK.out HPB.out HOO.out HFM.out HSS.out HUU.out))
            clear HBAD HSP HMK HSTEP
            refine wp_region_quiet_below (by kernel_rfl) (by kernel_rfl) ?_
            repeat (first | go_big_quiet_step ((first | (go_at_call 80; exact Calls.regrown_of (P1.out _)) | (go_at_call 82; exact Calls.regrown_of (U1.out _ (HI2.out.stays (below_regrown _ _ _)))) | (go_at_call 81; exact Calls.regrown_of (O1.out _)))) | quiet_step ((first | (go_at_call 80; exact Calls.regrown_of (P1.out _)) | (go_at_call 82; exact Calls.regrown_of (U1.out _ (HI2.out.stays (below_regrown _ _ _)))) | (go_at_call 81; exact Calls.regrown_of (O1.out _)))))
            refine wpQuiet_nil ?_
            intro wq hwq
            have hbq : Below W2.heap.size W2 wq := by obtain ⟨p, rfl⟩ := hwq; exact below_regrown _ _ _
            clear hwq k0 k1 k2 k3 d0 d1 d2 d3
            obtain ⟨e0, e1, e2, e3⟩ := (HX.out.stays hbq).cells
            go_wp2_with fail
            go_roundw
            case rel => exact ⟨k + 1, by omega, by go_num, by rw [HSZ.out]; go_num, HN.out, below_step HB0.out hbq⟩
            case measure => simp [intOf]; omega
          ·have gss : decide ((32768 : Int) < (x.c.size : Int)) = true := decide_eq_true (by omega)
           have HSS := Lib.hid hss
           clear hss
           have HF := Lib.hid (HBAD.out (fun h => by have h' := HSP.out h; exact HSS.out h'.2.2.2.1))
           clear HBAD HSP HMK HSTEP
           refine wp_region_quiet_below (by kernel_rfl) (by kernel_rfl) ?_
           repeat (first | go_big_quiet_step ((first | (go_at_call 80; exact Calls.regrown_of (P1.out _)) | (go_at_call 82; exact Calls.regrown_of (U1.out _ (HI2.out.stays (below_regrown _ _ _)))) | (go_at_call 81; exact Calls.regrown_of (O1.out _)))) | quiet_step ((first | (go_at_call 80; exact Calls.regrown_of (P1.out _)) | (go_at_call 82; exact Calls.regrown_of (U1.out _ (HI2.out.stays (below_regrown _ _ _)))) | (go_at_call 81; exact Calls.regrown_of (O1.out _)))))
           refine wpQuiet_nil ?_
           intro wq hwq
           have hbq : Below W2.heap.size W2 wq := by obtain ⟨p, rfl⟩ := hwq; exact below_regrown _ _ _
           clear hwq k0 k1 k2 k3 d0 d1 d2 d3
           go_wp2
           go_ret
           exact ⟨by rw [HF.out]; rfl, below_step HB0.out hbq⟩
         ·have HFM : Hid (badI x = true) := show _ = _ by unfold badI; rw [hdd, hee]; simp
          have HF := Lib.hid (HBAD.out (fun h => by have h' := HSP.out h; rw [HFM.out] at h'; exact absurd h'.2.2.1 (by decide)))
          clear HBAD HSP HMK HSTEP
          refine wp_region_quiet_below (by kernel_rfl) (by kernel_rfl) ?_
          repeat (first | go_big_quiet_step ((first | (go_at_call 80; exact Calls.regrown_of (P1.out _)) | (go_at_call 82; exact Calls.regrown_of (U1.out _ (HI2.out.stays (below_regrown _ _ _)))) | (go_at_call 81; exact Calls.regrown_of (O1.out _)))) | quiet_step ((first | (go_at_call 80; exact Calls.regrown_of (P1.out _)) | (go_at_call 82; exact Calls.regrown_of (U1.out _ (HI2.out.stays (below_regrown _ _ _)))) | (go_at_call 81; exact Calls.regrown_of (O1.out _)))))
          refine wpQuiet_nil ?_
          intro wq hwq
          have hbq : Below W2.heap.size W2 wq := by obtain ⟨p, rfl⟩ := hwq; exact below_regrown _ _ _
          clear hwq k0 k1 k2 k3 d0 d1 d2 d3
          go_wp2
          go_ret
          exact ⟨by rw [HF.out]; rfl, below_step HB0.out hbq⟩
      ·have HOO : Hid (¬ ∀ i (hi : i + 1 = k), orderS (L[i]'(by omega)).t x.t = -1) := show ¬ _ from fun h => ho (by have := h (k - 1) (by omega); rw [HORD.out (k - 1) (by omega)] at this; exact this)
       have go : decide ((0 : Int) ≤ orderS y.t x.t) = true := decide_eq_true (by rcases order_three y.t x.t with e | e | e <;> omega)
       obtain ⟨q, hq⟩ : ∃ q, q = orderS y.t x.t := ⟨_, rfl⟩
       rw [show orderS y.p.data.toList x.p.data.toList = orderS y.t x.t from rfl, ← hq] at O1
       rw [← hq] at go
       clear ho hq HORD
       have HF := Lib.hid (HBAD.out (fun h => by have h' := HSP.out h; exact HOO.out h'.2.1))
       clear HBAD HSP HMK HSTEP
       refine wp_region_quiet_below (by kernel_rfl) (by kernel_rfl) ?_
       repeat (first | go_big_quiet_step ((first | (go_at_call 80; exact Calls.regrown_of (P1.out _)) | (go_at_call 82; exact Calls.regrown_of (U1.out _ (HI2.out.stays (below_regrown _ _ _)))) | (go_at_call 81; exact Calls.regrown_of (O1.out _)))) | quiet_step ((first | (go_at_call 80; exact Calls.regrown_of (P1.out _)) | (go_at_call 82; exact Calls.regrown_of (U1.out _ (HI2.out.stays (below_regrown _ _ _)))) | (go_at_call 81; exact Calls.regrown_of (O1.out _)))))
       refine wpQuiet_nil ?_
       intro wq hwq
       have hbq : Below W2.heap.size W2 wq := by obtain ⟨p, rfl⟩ := hwq; exact below_regrown _ _ _
       clear hwq k0 k1 k2 k3 d0 d1 d2 d3
       go_wp2
       go_ret
       exact ⟨by rw [HF.out]; rfl, below_step HB0.out hbq⟩
   ·have hkl : k = L.length := by omega
    have HALL : Hid (sizeT L ≤ 65536 → fitT L = true) := show _ → _ from fun h => fitT_yes (tfit_of (by omega) (fun j hj => HOK.out j hj (by omega)) h)
    have HNO : Hid (¬ sizeT L ≤ 65536 → fitT L = false) := show _ → _ from fun h => fitT_no (fun hh => h hh.size)
    rw [hkl, List.take_length]
    clear hkl hlt hk HOK
    by_cases h6 : sizeT L ≤ 65536
    ·have HV := Lib.hid (HALL.out h6)
     have g6 : decide ((sizeT L : Int) ≤ 65536) = true := decide_eq_true (by omega)
     clear h6
     go_wp2
     go_ret
     exact ⟨by rw [HV.out]; rfl, hB⟩
    ·have HV := Lib.hid (HNO.out h6)
     have g6 : decide ((sizeT L : Int) ≤ 65536) = false := decide_eq_false (by omega)
     clear h6
     go_wp2
     go_ret
     exact ⟨by rw [HV.out]; rfl, hB⟩
end Go.Proofs.YtlccihidedfemaaGreatDoor

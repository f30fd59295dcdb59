/-
  Contracts over this translation: cdc.Cut.
-/
import Derived.Test.YtlccihidedfemaaGreatDoorQa4
import Derived.Test.YtlccihidedfemaaGreatDoorQa0
import Derived.Test.YtlccihidedfemaaGreatDoorQa2
import Derived.WalkMore
import Derived.StillTailTactics
set_option linter.unusedVariables false
namespace Go.Proofs.YtlccihidedfemaaGreatDoor
open Go.RowKit Go.Shelf
attribute [local go_sem] Oper.semAt_some
theorem row_keep {A B : World} {row : Option Nat} {b : Nat} {xs : Array Value} {t : TypeId} (h : Row A b xs t) (hg : A.grownBy B row) (hr : ∀ r, row = some r → ∃ o : Obj, A.heap[r]? = some o ∧ o.isCells = false) : Row B b xs t := by
  refine (hg.block b h.lt fun e => ?_).trans h
  obtain ⟨o, ho, hc⟩ := hr b e.symm
  rw [show A.heap[b]? = _ from h] at ho; cases ho; cases hc
def cutI (mn av mx b c P B : Nat) (pre : List At) (W : World) : Prop :=
  (∀ y ∈ atsOf pre, stopB b y = false) ∧ Row W P #[.int .i64 mn, .int .i64 av, .int .i64 mx] 23 ∧ Boxed W B 3 (.int .i64 c) ∧ Boxed W (B + 1) 3 (.int .i64 b)
def cutX (b B : Nat) (pre : List At) (W : World) : Prop :=
  ∃ p x, pre = p ++ [x] ∧ (∀ y ∈ atsOf p, stopB b y = false) ∧ stopB b x.1 = true ∧ Boxed W B 3 (.int .i64 (x.1.1 + 1 : Nat))
theorem cutI_own (mn av mx b c P B : Nat) : Own (cutI mn av mx b c P B) := fun s X Y row hs hg hr =>
  ⟨hs.1, row_keep hs.2.1 hg hr, boxed_keep hs.2.2.1 hg hr, boxed_keep hs.2.2.2 hg hr⟩
theorem cutX_own (b B : Nat) : Own (cutX b B) := by
  rintro s X Y row ⟨p, x, h1, h2, h3, h4⟩ hg hr
  exact ⟨p, x, h1, h2, h3, boxed_keep h4 hg hr⟩
set_option maxRecDepth 100000 in
set_option maxHeartbeats 4000000 in
theorem Cut_any (mn av b mx : Nat) (hF : FitAt mn av mx b) (s : ByteArray) (hs : s.size ≤ maxLen) (w : World) (hT : Tabs w) :
    Calls Tryz.prog 119 #[pV mn av mx, .string s] w fun e w' => e = .returned (.int .i64 (cutN mn b mx s.data.toList : Nat)) ∧ Below w.heap.size w w' := by
  refine (callsIn_wide (n := 5)).1 ?_
  have hro : Fence.wide.round = none := rfl
  have fitV := Lib.hid (fitB_of hF)
  have fitT := Lib.hid (Fit_any_Cdw mn av mx)
  obtain ⟨h1, h2, h3, h4, h5, h6, h7⟩ := hF
  have h7' : av = 2 ^ b := by exact_mod_cast h7
  have hav : IntKind.u64.wrap (av : Int) = av := by have := pow_lt13 h6; rw [IntKind.wrap_u64]; omega
  have tr := Lib.hid (trail_any b h6)
  rw [← h7'] at tr
  have H7 := Lib.hid h7'
  clear h7 h7'
  refine callsIn_of_wp_marks Tryz.func119 rfl trivial ?_ hro
  simp only [Tryz.ntmps119, List.size_toArray, List.length_cons, List.length_nil, Nat.reduceAdd, Nat.reduceSub, Array.replicate_succ, Array.replicate_zero, List.push_toArray, List.append_toArray, List.nil_append, List.cons_append]
  have hR0 : Row (w.alloc (.cells #[.int .i64 mn, .int .i64 av, .int .i64 mx] 23)) w.heap.size #[.int .i64 mn, .int .i64 av, .int .i64 mx] 23 := Row.made _ _ _
  have hT0 : Tabs (w.alloc (.cells #[.int .i64 mn, .int .i64 av, .int .i64 mx] 23)) := hT.stays ((Below.refl _ w).alloc (Nat.le_refl _) _)
  have HR0 := Lib.hid hR0
  have HT0 := Lib.hid hT0
  clear hT0 hR0
  refine wpIn_wide.2 ?_
  go_wp2_with fail
  apply wp_scope_straight
  go_wp2_with fail
  refine (fitT.out _).mono ?_
  rintro e w1 ⟨rfl, hb1⟩
  rw [fitV.out]
  have hR1 := HR0.out.step hb1
  have hT1 := HT0.out.stays hb1
  have g0 := hR1.cell 0; have g1 := hR1.cell 1; have g2 := hR1.cell 2
  have r0 := hR1.free 0; have r1 := hR1.free 1; have r2 := hR1.free 2
  have hB1 : Below w.heap.size w w1 := (((Below.refl _ w).alloc (Nat.le_refl _) _).trans (hb1.mono (by simp)))
  have z1 := hR1.lt
  have HR1 := Lib.hid hR1; have HT1 := Lib.hid hT1
  clear hR1 hT1 hb1
  simp only [List.getElem?_toArray, List.getElem?_cons_zero, List.getElem?_cons_succ] at g0 g1 g2
  go_wp2_with fail
  refine (tr.out _ (HT1.out.stays ((Below.refl _ _).alloc (Nat.le_refl _) _))).mono ?_
  rintro e w2 ⟨rfl, rfl⟩
  go_wp2_with fail
  apply wp_label
  go_wp2_with fail
  obtain ⟨c, hc⟩ : ∃ c : Nat, c = min s.size mx := ⟨_, rfl⟩
  have hcI : (min (s.size : Int) (mx : Int)) = (c : Int) := by omega
  have hcs : c ≤ s.size := by omega
  rw [hcI]
  obtain ⟨W2, hW2⟩ : ∃ W2, W2 = (w1.alloc (.cells #[.int .i64 c] 3)).alloc (.cells #[.int .i64 b] 3) := ⟨_, rfl⟩
  have hR2 : Row W2 w.heap.size #[.int .i64 mn, .int .i64 av, .int .i64 mx] 23 := by rw [hW2]; exact (HR1.out.alloc _).alloc _
  have hC2 : Boxed W2 w1.heap.size 3 (.int .i64 c) := by rw [hW2]; exact (Boxed.new _ _ _).alloc _
  have hU2 : Boxed W2 (w1.heap.size + 1) 3 (.int .i64 b) := by rw [hW2]; have := Boxed.new (w1.alloc (.cells #[.int .i64 c] 3)) 3 (.int .i64 b); simpa using this
  have hB2 : Below w.heap.size w W2 := by rw [hW2]; exact (hB1.alloc (by omega) _).alloc (by simp; omega) _
  have z2 : W2.heap.size = w1.heap.size + 2 := by rw [hW2]; simp
  rw [← hW2]
  clear g0 g1 g2 r0 r1 r2 hB1 hW2 HR1 HT1
  obtain ⟨B, hBz⟩ : ∃ B, B = w1.heap.size := ⟨_, rfl⟩
  rw [← hBz] at hC2 hU2 z1 z2 ⊢
  have HBZ := Lib.hid hBz
  clear hBz
  have hd := fun W => run_slice_to (P := Tryz.prog) Tryz.underlying9 s c hcs W
  obtain ⟨t, ht⟩ : ∃ t, t = s.extract 0 c := ⟨_, rfl⟩
  rw [← ht] at hd
  have g0 := hR2.cell 0
  simp only [List.getElem?_toArray, List.getElem?_cons_zero] at g0
  have c0 := hC2.cell
  have HTt := Lib.hid ht; have HR2 := Lib.hid hR2; have HC2 := Lib.hid hC2; have HU2 := Lib.hid hU2; have HC := Lib.hid hc; have Z2 := Lib.hid z2
  clear ht hR2 hC2 hU2 hc hcI z2
  go_still_tail 5, (by kernel_rfl)
  change wpList _ _ _ _ _ W2.drew
  go_wp2_with fail
  refine (hashes_any t mn _).mono ?_
  rintro e w3 ⟨rfl, rfl⟩
  go_wp2_with fail
  rw [Z2.out]
  obtain ⟨W3, hW3⟩ : ∃ W3, W3 = ((W2.alloc (.cells #[.string t] 9)).alloc (.cells #[.int .i64 mn] 3)).drew := ⟨_, rfl⟩
  have z3 : W3.heap.size = B + 4 := by rw [hW3]; show (((W2.alloc _).alloc _).heap).size = _; simp [Z2.out]
  have hR3 : Row W3 w.heap.size #[.int .i64 mn, .int .i64 av, .int .i64 mx] 23 := by rw [hW3]; exact ((HR2.out.alloc _).alloc _)
  have hC3 : Boxed W3 B 3 (.int .i64 c) := by rw [hW3]; exact ((HC2.out.alloc _).alloc _)
  have hU3 : Boxed W3 (B + 1) 3 (.int .i64 b) := by rw [hW3]; exact ((HU2.out.alloc _).alloc _)
  have hS3 : Boxed W3 (B + 2) 9 (.string t) := by rw [hW3]; have := (Boxed.new W2 9 (.string t)).alloc (.cells #[.int .i64 mn] 3); rw [Z2.out] at this; exact this
  have hN3 : Boxed W3 (B + 3) 3 (.int .i64 mn) := by rw [hW3]; have := Boxed.new (W2.alloc (.cells #[.string t] 9)) 3 (.int .i64 mn); rw [World.size_alloc, Z2.out] at this; exact this
  have hB3 : Below w.heap.size w W3 := by rw [hW3]; exact ((hB2.alloc (by rw [Z2.out]; omega) _).alloc (by rw [World.size_alloc, Z2.out]; omega) _).drew
  rw [← hW3]
  clear hW3 hd g0 c0 HR2 HC2 HU2 hB2
  have hts : t.size ≤ maxLen := by rw [HTt.out, ByteArray.size_extract]; omega
  have hmn : mn ≤ maxLen := by unfold maxLen; omega
  have HTL : Hid (t.data.toList = s.data.toList.take mx) := by
    show _ = _
    rw [HTt.out, ext_take, HC.out, take_min]
  have HTS : Hid (t.size = c) := by
    show _ = _
    rw [HTt.out, ByteArray.size_extract]; omega
  have hI0 : cutI mn av mx b c w.heap.size B [] W3 := ⟨fun y hy => by simp [atsOf] at hy, hR3, hC3, hU3⟩
  refine (wpIn_wide (n := 5)).1 ?_
  refine wpIn_rangeFunc_ownF hro (by decide) (gf := 155) (lb := #[.pointer (some ⟨B + 2 + 1, 0, none⟩), .pointer (some ⟨B + 2, 0, none⟩)]) rfl trivial (enters_of Tryz.func155 (by kernel_rfl) rfl)
    (hashes1_stops 4 (by decide) (B + 2) (B + 3) t mn hts hmn _ hS3 hN3) (fun h k => fun x => k (h x)) (fun W l o o' hl h _ _ hb => hb.kept (grownBy_putObj' W l o') (fun e => by cases e; rw [z3] at hl; omega)) (Below.refl _ _) (fun _ => rfl)
    (fun pre W => cutI mn av mx b c w.heap.size B pre W ∧ Below w.heap.size w W)
    (fun c pre W => (c = .exit 0 ∧ cutX b B pre W) ∧ Below w.heap.size w W)
    (OwnFrom.and (Own.from (cutI_own _ _ _ _ _ _ _) _) (ownFrom_below (Nat.le_refl _) (by rw [z3]; omega)))
    (fun c => OwnFrom.and (Own.from (fun s A B row hs hg hr => ⟨hs.1, cutX_own _ _ s A B row hs.2 hg hr⟩) _) (ownFrom_below (Nat.le_refl _) (by rw [z3]; omega)))
    ⟨hI0, hB3⟩
    (fun x => { tmps := #[pV mn av mx, .string s, .pointer (some ⟨w.heap.size, 0, none⟩), undef, .int .i64 0, .pointer (some ⟨B, 0, none⟩), .pointer (some ⟨B + 1, 0, none⟩), .int .i64 (x.1.1 : Nat), .int .u64 (x.1.2 : Nat), undef, undef, .agg #[.int .i64 mn, .int .i64 av, .int .i64 mx], .bool true, .bool false, .string s, .int .i64 s.size, .pointer (some ⟨w.heap.size, 2, none⟩), .int .i64 mx, .int .i64 c, .pointer (some ⟨w.heap.size, 1, none⟩), .int .i64 av, .int .u64 av, .int .i64 b, .string s, .int .i64 c, .string t, .pointer (some ⟨w.heap.size, 0, none⟩), .int .i64 mn, .func (.func 155) #[] #[.pointer (some ⟨B + 2 + 1, 0, none⟩), .pointer (some ⟨B + 2, 0, none⟩)], .int .i64 (x.1.1 : Nat), .int .u64 (x.1.2 : Nat), undef, undef, undef, undef, undef, undef, undef, undef, undef, undef, undef, undef, undef, undef, undef, undef, undef, undef, undef, undef, undef, undef, undef, undef, undef], defers := [] }) ?assign ?body ?done ?stop
  case assign =>
    intro l x W K hK
    gi_wp2
    exact hK
  case body =>
    rintro l pre ⟨⟨p, h⟩, hp1, hp2⟩ W ⟨⟨hno, hR, hC, hU⟩, hB⟩ hlen
    have Z := Lib.hid (zeros_any h hp2)
    have ST := Lib.hid (stop_zeros (at' := p) hp2 h6 h5)
    rw [← H7.out] at ST
    obtain ⟨z, hz⟩ : ∃ z, z = zerosN h := ⟨_, rfl⟩
    rw [← hz] at Z ST
    clear hz
    have g1 := hR.cell 1
    simp only [List.getElem?_toArray, List.getElem?_cons_zero, List.getElem?_cons_succ] at g1
    have c0 := hC.cell; have f0 := hC.frozen; have u0 := hU.cell
    have HR := Lib.hid hR; have HC3 := Lib.hid hC; have HU3 := Lib.hid hU; have HNO := Lib.hid hno
    simp only [maxLen] at hp1
    clear hR hC hU hno hI0 hR3 hC3 hU3 hS3 hN3 hB3 hlen
    have STAY : Hid (stopB b (p, h) = false → ∀ a, ownPostK (KeepsBox_Cdi (B + 2) 9 (.string t)) (fun pre W => cutI mn av mx b c w.heap.size B pre W ∧ Below w.heap.size w W) (fun c pre W => (c = .exit 0 ∧ cutX b B pre W) ∧ Below w.heap.size w W) (pre ++ [⟨(p, h), hp1, hp2⟩]) W .normal a W) := fun hst a => by
      refine ⟨KeepsOthers.refl _, fun x => x, ⟨fun y hy => ?_, HR.out, HC3.out, HU3.out⟩, hB⟩
      rw [atsOf_snoc] at hy
      rcases List.mem_append.1 hy with h | h
      · exact HNO.out y h
      · obtain rfl := List.mem_singleton.1 h; exact hst
    have GO : Hid (stopB b (p, h) = true → ∀ a, ownPostK (KeepsBox_Cdi (B + 2) 9 (.string t)) (fun pre W => cutI mn av mx b c w.heap.size B pre W ∧ Below w.heap.size w W) (fun c pre W => (c = .exit 0 ∧ cutX b B pre W) ∧ Below w.heap.size w W) (pre ++ [⟨(p, h), hp1, hp2⟩]) W (.exit 0) a (W.setCell ⟨B, 0, none⟩ (.int .i64 ((p : Int) + 1)))) := fun hst a => by
      exact ⟨KeepsOthers.setCell _ _ _, ⟨rfl, pre, _, rfl, HNO.out, hst, HC3.out.set _⟩, hB.setCell (p := ⟨B, 0, none⟩) (by show w.heap.size ≤ B; omega) _⟩
    by_cases hlt : p < av
    · have e1 : decide ((p : Int) < (av : Int)) = true := by simpa using hlt
      rw [if_pos hlt] at ST
      by_cases hge : b + 1 ≤ z
      · have e2 : decide (((b : Int) + 1) ≤ (z : Int)) = true := by simp; omega
        gi_wp2_with (refine ⟨trivial, ?_⟩; gi_at_call 139; refine (CallsIn.inRound l (callsIn_wide.2 (Z.out _))).mono ?_; rintro e w' ⟨rfl, rfl⟩)
        exact GO.out (by rw [ST.out]; exact decide_eq_true hge) _
      · have e2 : decide (((b : Int) + 1) ≤ (z : Int)) = false := by simp; omega
        gi_wp2_with (refine ⟨trivial, ?_⟩; gi_at_call 139; refine (CallsIn.inRound l (callsIn_wide.2 (Z.out _))).mono ?_; rintro e w' ⟨rfl, rfl⟩)
        exact STAY.out (by rw [ST.out]; exact decide_eq_false hge) _
    · have e1 : decide ((p : Int) < (av : Int)) = false := by simp; omega
      rw [if_neg hlt] at ST
      by_cases hge : b - 1 ≤ z
      · have e2 : decide (((b : Int) - 1) ≤ (z : Int)) = true := by simp; omega
        gi_wp2_with (refine ⟨trivial, ?_⟩; gi_at_call 139; refine (CallsIn.inRound l (callsIn_wide.2 (Z.out _))).mono ?_; rintro e w' ⟨rfl, rfl⟩)
        exact GO.out (by rw [ST.out]; exact decide_eq_true hge) _
      · have e2 : decide (((b : Int) - 1) ≤ (z : Int)) = false := by simp; omega
        gi_wp2_with (refine ⟨trivial, ?_⟩; gi_at_call 139; refine (CallsIn.inRound l (callsIn_wide.2 (Z.out _))).mono ?_; rintro e w' ⟨rfl, rfl⟩)
        exact STAY.out (by rw [ST.out]; exact decide_eq_false hge) _
  case done =>
    rintro D xs W hD hxs ⟨⟨hno, hR, hC, hU⟩, hB⟩ hK
    have c0 := hC.cell
    have hcut : cutN mn b mx s.data.toList = c := by
      rw [cutN_none (by rw [← HTL.out, ← hxs]; exact hno), ← HTL.out, ← Lib.size_eq, HTS.out]
    have HCU := Lib.hid hcut
    clear hI0 hR3 hC3 hU3 hS3 hN3 hB3 hcut hxs hno
    go_wp2
    rw [Exit.noGoto_ret]
    go_wp2
    refine ⟨by simp, .inl ⟨_, _, rfl, run_takeDeferred hK, ?_⟩⟩
    refine ⟨.int .i64 c, ?_, by rw [HCU.out], hB.trans (belowK_b (w := w) (Nat.le_refl _) W D _ _ (by omega) hK rfl rfl)⟩
    simp [results, Tryz.f119, go_sem]
  case stop =>
    rintro D c0 pre W hD hpre ⟨⟨rfl, p, x, hpx, hno, hst, hC⟩, hB⟩ hK
    have c0 := hC.cell
    have hcut : cutN mn b mx s.data.toList = x.1.1 + 1 := by
      refine cutN_stop (pre := atsOf p) ?_ hno hst
      rw [← HTL.out, ← atsOf_snoc, ← hpx]; exact hpre
    have HCU := Lib.hid hcut
    clear hI0 hR3 hC3 hU3 hS3 hN3 hB3 hpre hpx hst hno hcut
    refine wpIn_exit ?_
    go_wp2
    rw [Exit.noGoto_ret]
    go_wp2
    refine ⟨by simp, .inl ⟨_, _, rfl, run_takeDeferred hK, ?_⟩⟩
    refine ⟨.int .i64 (x.1.1 + 1 : Nat), ?_, by rw [HCU.out], hB.trans (belowK_b (w := w) (Nat.le_refl _) W D _ _ (by omega) hK rfl rfl)⟩
    simp [results, Tryz.f119, go_sem]
end Go.Proofs.YtlccihidedfemaaGreatDoor

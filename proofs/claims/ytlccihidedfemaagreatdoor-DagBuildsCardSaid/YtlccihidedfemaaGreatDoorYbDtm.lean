/-
  Contracts over this translation: dag's add (a node's object is built).
-/
import Derived.Test.YtlccihidedfemaaGreatDoorQb6
import Derived.Test.YtlccihidedfemaaGreatDoorQb3
import Derived.Test.YtlccihidedfemaaGreatDoorYbTif
import Derived.Test.YtlccihidedfemaaGreatDoorQb7
import Derived.Test.YtlccihidedfemaaGreatDoorQb5
import Derived.Test.YtlccihidedfemaaGreatDoorQb0
import Derived.WalkKit
import Derived.LoopTactic
import Derived.RegionTactic
import Derived.BigRegionIn
import Derived.Sort.CutIn
import Derived.Deep.QuietTactic
import Derived.BigQuiet
import Derived.Outline
import Derived.Laws.Cover1
import Derived.Test.YtlccihidedfemaaGreatDoorYbNdf
import Derived.Test.YtlccihidedfemaaGreatDoorYbCrf
import Derived.Test.YtlccihidedfemaaGreatDoorYbNdi
set_option linter.unusedVariables false
namespace Go.Proofs.YtlccihidedfemaaGreatDoor
open Go.RowKit
attribute [local go_sem] Oper.semAt_some
structure HeldB (W0 w0 : World) (Bb : Nat) (w : World) : Prop where
 bk : Bk W0.heap.size Bb w0 w
 below : Below W0.heap.size W0 w
 fr : W0.heap.size ≤ Bb
theorem HeldB.on {W0 w0 w w' : World} {Bb : Nat} (h : HeldB W0 w0 Bb w) (hb : Below w.heap.size w w') : HeldB W0 w0 Bb w' := ⟨h.bk.step hb, below_step h.below hb, h.fr⟩
def OneOb (w : World) (v : Value) (x : Ob) : Prop := ∃ A, v = .slice (some ⟨A, 0, none⟩) 1 1 ∧ w.heap[A]? = some (.cells #[.string x.k, .string x.r] 33 (0, 0))
theorem OneOb.stays {w w' : World} {v : Value} {x : Ob} (h : OneOb w v x) (hb : Below w.heap.size w w') : OneOb w' v x := by
 obtain ⟨A, h1, h2⟩ := h
 exact ⟨A, h1, (hb.block A (Array.getElem?_eq_some_iff.1 h2).1).trans h2⟩
theorem oneOb_new (w : World) (x : Ob) : OneOb (w.alloc (.cells #[.string x.k, .string x.r] 33)) (.slice (some ⟨w.heap.size, 0, none⟩) 1 1) x := ⟨_, rfl, heap_alloc_new w _⟩
theorem wp_build_ob {o : Oper} {a : Act} {K : Act → World → Prop} {Q : Exit → Act → World → Prop} {w : World} (p : Nat) (ho : o.op = .buildSlice 27 1 #[(0, .tmp p)]) {x : Ob}
  (hx : slot a p = .agg #[.string x.k, .string x.r]) (hk : K (a.put o.dst (.slice (some ⟨w.heap.size, 0, none⟩) 1 1)) (w.alloc (.cells #[.string x.k, .string x.r] 33))) : o.wp Tryz.prog a w K Q := by
 refine wp_value (v := .slice (some ⟨w.heap.size, 0, none⟩) 1 1) (w' := w.alloc (.cells #[.string x.k, .string x.r] 33)) ?_ hk
 have f := slot_at hx
 unfold execOp
 rw [ho]
 go_simp
theorem wp_append_one_ob {o : Oper} {a : Act} {B : Nat} {w : World} {K : Act → World → Prop} {Q : Exit → Act → World → Prop} (s x : Nat)
  (ho : o.op = .call { callee := .builtin .append, args := #[.tmp s, .tmp x], argTypes := #[27, 27] })
  {v : Value} {M : List Ob} {y : Ob} (hown : OwnO B w v M) (hBs : B ≤ w.heap.size) (hs : a.eval (.tmp s) = v) (hx : OneOb w (slot a x) y) (hlen : M.length ≤ 1000000)
  (h : ∀ v' w', OwnO B w' v' (M ++ [y]) → w.grownBy w' v.ownBlock → K (a.put o.dst v') w') : o.wp Tryz.prog a w K Q := by
 obtain ⟨i0, hi, hz0, hz1, hz2⟩ := info_parts infoObject
 obtain ⟨A, hx1, hx2⟩ := hx
 have hr : Row w A #[.string y.k, .string y.r] 33 := hx2
 refine wp_append_own w (.tmp s) (.tmp x) 27 ho B 33 i0 (obV zeroOb) 2 32 Tryz.underlying27 hi hz0 hz1 hz2 rfl (by decide) v M.length (obCells M) hs hown ⟨A, 0, none⟩ 1 1 (obC y) (slotE hx1) rfl ?_ ?_ ?_ ?_ hBs ?_
 ·intro j u hj
  have := hr.cell j
  rw [add_plain', Nat.zero_add, this]
  simpa using hj
 ·intro u hu; simp at hu; rcases hu with rfl | rfl <;> rfl
 ·unfold maxLen; omega
 ·omega
 ·intro v' w' hown' hg _
  refine h v' w' ?_ hg
  unfold OwnO
  rw [List.length_append, obCells_app]
  have : obCells [y] = obC y := List.append_nil _
  rw [this]; exact hown'
def adR (W0 : World) (Bb : Nat) (vB : Value) (i : Nat) (w w' : World) : Prop :=
 if i = 10 then w.grownBy w' vB.ownBlock ∧ ∀ g, vB.ownBlock = some g → W0.heap.size ≤ g ∧ ∃ xs, Row w g xs 33
 else ∃ u xs, Row w Bb xs 61 ∧ w' = w.setCell ⟨Bb, 1, none⟩ u
theorem adR_app {W0 : World} {Bb : Nat} {vB : Value} {w w' : World} (h : adR W0 Bb vB 10 w w') : w.grownBy w' vB.ownBlock ∧ ∀ g, vB.ownBlock = some g → W0.heap.size ≤ g ∧ ∃ xs, Row w g xs 33 := by unfold adR at h; rwa [if_pos rfl] at h
theorem adR_app' {W0 : World} {Bb : Nat} {vB : Value} {M : List Ob} {w w' : World} (h : w.grownBy w' vB.ownBlock) (ho : OwnO W0.heap.size w vB M) : adR W0 Bb vB 10 w w' := by
 unfold adR; rw [if_pos rfl]; exact ⟨h, fun g hg => ho.row hg⟩
theorem adR_set {W0 : World} {Bb : Nat} {vB : Value} {w w' : World} (h : adR W0 Bb vB 13 w w') : ∃ u xs, Row w Bb xs 61 ∧ w' = w.setCell ⟨Bb, 1, none⟩ u := by unfold adR at h; rwa [if_neg (by decide)] at h
theorem adR_set' {W0 : World} {Bb : Nat} {vB : Value} {w : World} {xs : Array Value} (hr : Row w Bb xs 61) (u : Value) : adR W0 Bb vB 13 w (w.setCell ⟨Bb, 1, none⟩ u) := by
 unfold adR; rw [if_neg (by decide)]; exact ⟨u, xs, hr, rfl⟩
theorem adR_own {W0 : World} {Bb B : Nat} {vB v : Value} {w w' : World} {L : List Ob} (h : adR W0 Bb vB 13 w w') (hU : OwnO B w v L) : OwnO B w' v L := by
 obtain ⟨u, xs, hr, rfl⟩ := adR_set h
 exact World.ownsRow.kept hU (grownBy_set w Bb 1 u) (by
  cases hv : v.ownBlock with
  | none => exact .inl rfl
  | some k => exact .inr fun e => OwnO.apart hU hr (by decide) (by rw [hv, e]))
def dadU (W0 : World) (Bb nb : Nat) (p : Nat × Nat × Nat) (vR vB pv ev : Value) (n : Nd) (M : List Ob) (kk rr : ByteArray) : Nat → Value → Value → World → Prop
 | 0 => fun v _ _ => v = .pointer (some ⟨Bb, 1, none⟩)
 | 1 => fun v _ _ => v = .pointer (some ⟨Bb, 1, none⟩)
 | 2 => fun v _ _ => v = .pointer (some ⟨Bb, 1, none⟩)
 | 3 => fun v _ _ => v = .pointer (some ⟨Bb, 1, none⟩)
 | 4 => fun v _ _ => v = vB
 | 5 => fun v _ _ => v = .string kk
 | 6 => fun v _ _ => v = .agg #[.int .i64 n.kd, .string n.d, pv, ev]
 | 7 => fun v _ _ => v = .string rr
 | 8 => fun v _ _ => v = .agg #[.string kk, .string rr]
 | 9 => fun v _ w => OneOb w v (⟨kk, rr⟩ : Ob)
 | 10 => fun v _ w => OwnO W0.heap.size w v (M ++ [(⟨kk, rr⟩ : Ob)])
 | 11 => fun v _ _ => v = .pointer (some ⟨Bb, 1, none⟩)
 | 12 => fun v _ _ => v = .pointer (some ⟨Bb, 1, none⟩)
 | 13 => fun _ e w => Row w Bb #[vR, e, .int .i64 p.1, .int .i64 p.2.1, .int .i64 p.2.2] 61
 | 14 => fun _ _ w => Row w Bb #[vR, vB, .int .i64 p.1, .int .i64 p.2.1, .int .i64 p.2.2] 61 ∧ vB.ownBlock ≠ some Bb
 | 15 => fun _ _ w => OwnO W0.heap.size w vB M
 | 16 => fun _ _ w => (IsParts w pv n.ps ∧ IsEntries w ev n.es) ∧ Row w nb #[.int .i64 n.kd, .string n.d, pv, ev] 44
 | _ => fun _ _ _ => True
def dadN : List (List Nat) := [[], [], [1], [2], [3, 14], [], [16], [6, 16], [5, 7], [8], [4, 9, 15], [0], [11], [12, 10, 14]]
def dadE : Nat → Option Tmp
 | 13 => some 18
 | _ => none
def dadB : List (Nat × Nat) := [(10, 9), (10, 13), (10, 15), (10, 16), (13, 9), (13, 14), (13, 15), (13, 16)]
theorem dad_T (W0 : World) (Bb nb : Nat) (p : Nat × Nat × Nat) (vR vB pv ev : Value) (n : Nd) (M : List Ob) (kk rr : ByteArray) (ix kx : Nat) (v e : Value) (w w' : World) (hk : kx < 17) (hne : kx ≠ ix) (hbd : (ix, kx) ∉ dadB) (hU : (dadU W0 Bb nb p vR vB pv ev n M kk rr) kx v e w) (hT : (appTs [10, 13] (adR W0 Bb vB)) ix w w') : (dadU W0 Bb nb p vR vB pv ev n M kk rr) kx v e w' := by
 by_cases hi10 : ix = 10
 ·subst hi10
  have hR := appTs_in (by decide) hT
  rcases (show kx = 0 ∨ kx = 1 ∨ kx = 2 ∨ kx = 3 ∨ kx = 4 ∨ kx = 5 ∨ kx = 6 ∨ kx = 7 ∨ kx = 8 ∨ kx = 9 ∨ kx = 10 ∨ kx = 11 ∨ kx = 12 ∨ kx = 13 ∨ kx = 14 ∨ kx = 15 ∨ kx = 16 by omega) with rfl | rfl | rfl | rfl | rfl | rfl | rfl | rfl | rfl | rfl | rfl | rfl | rfl | rfl | rfl | rfl | rfl
  iterate 9 exact hU
  ·exact absurd (by decide) hbd
  ·exact absurd rfl hne
  ·exact hU
  ·exact hU
  ·exact absurd (by decide) hbd
  ·exact ⟨((adR_app hR).1.block Bb hU.1.lt (fun e => hU.2 e.symm)).trans hU.1, hU.2⟩
  ·exact absurd (by decide) hbd
  ·exact absurd (by decide) hbd
 by_cases hi13 : ix = 13
 ·subst hi13
  have hR := appTs_in (by decide) hT
  rcases (show kx = 0 ∨ kx = 1 ∨ kx = 2 ∨ kx = 3 ∨ kx = 4 ∨ kx = 5 ∨ kx = 6 ∨ kx = 7 ∨ kx = 8 ∨ kx = 9 ∨ kx = 10 ∨ kx = 11 ∨ kx = 12 ∨ kx = 13 ∨ kx = 14 ∨ kx = 15 ∨ kx = 16 by omega) with rfl | rfl | rfl | rfl | rfl | rfl | rfl | rfl | rfl | rfl | rfl | rfl | rfl | rfl | rfl | rfl | rfl
  iterate 9 exact hU
  ·exact absurd (by decide) hbd
  ·exact adR_own hR hU
  ·exact hU
  ·exact hU
  ·exact absurd rfl hne
  ·exact absurd (by decide) hbd
  ·exact absurd (by decide) hbd
  ·exact absurd (by decide) hbd
 have hi : ix ∉ [10, 13] := by simp [hi10, hi13]
 have hb : Below w.heap.size w w' := appTs_out hi hT
 rcases (show kx = 0 ∨ kx = 1 ∨ kx = 2 ∨ kx = 3 ∨ kx = 4 ∨ kx = 5 ∨ kx = 6 ∨ kx = 7 ∨ kx = 8 ∨ kx = 9 ∨ kx = 10 ∨ kx = 11 ∨ kx = 12 ∨ kx = 13 ∨ kx = 14 ∨ kx = 15 ∨ kx = 16 by omega) with rfl | rfl | rfl | rfl | rfl | rfl | rfl | rfl | rfl | rfl | rfl | rfl | rfl | rfl | rfl | rfl | rfl
 iterate 9 exact hU
 ·exact OneOb.stays hU hb
 ·exact OwnO.stays hU hb
 ·exact hU
 ·exact hU
 ·exact Row.step hU hb
 ·exact ⟨Row.step hU.1 hb, hU.2⟩
 ·exact OwnO.stays hU hb
 ·exact ⟨⟨hU.1.1.stays hb, hU.1.2.stays hb⟩, hU.2.step hb⟩
def Added (W0 : World) (Bb : Nat) (p : Nat × Nat × Nat) (R : List It) (vR : Value) (S : List Ob) (k : List UInt8) (w : World) (e : Ending) (w' : World) : Prop :=
 e = .returned (.string ⟨k.toArray⟩) ∧ ∃ vB, Bld W0 Bb p w' R S vR vB ∧ Bk W0.heap.size Bb w w'
set_option maxRecDepth 100000 in
set_option maxHeartbeats 8000000 in
theorem pAdd_any (W0 : World) (Bb : Nat) (p : Nat × Nat × Nat) (n : Nd) (pv ev : Value) (w : World) (R : List It) (M : List Ob) (vR vB : Value) (h : Bld W0 Bb p w R M vR vB) (hp : IsParts w pv n.ps) (he : IsEntries w ev n.es) (hd : n.d.size ≤ 1000000000) (hM : M.length ≤ 900000) :
  Calls Tryz.prog 54 #[.pointer (some ⟨Bb, 1, none⟩), ndV n pv ev] w (Added W0 Bb p R vR (M ++ [obN n]) (keyN n) w) := by
 have hb0 := (Below.refl w.heap.size w).alloc (Nat.le_refl _) (.cells #[.int .i64 n.kd, .string n.d, pv, ev] 44)
 have HP0 := Lib.hid (hp.stays hb0); have HE0 := Lib.hid (he.stays hb0)
 have CK := Lib.hid (pKey_any n pv ev _ HP0.out HE0.out hd)
 have CW := Lib.hid (fun (W : World) (h1 : IsParts W pv n.ps) (h2 : IsEntries W ev n.es) => pWrite_any n pv ev W h1 h2 hd)
 have HH := Lib.hid (h.stays hb0)
 have HN0 : Hid (Row (w.alloc (.cells #[.int .i64 n.kd, .string n.d, pv, ev] 44)) w.heap.size #[.int .i64 n.kd, .string n.d, pv, ev] 44) := Lib.hid (Row.made _ _ _)
 obtain ⟨_, a1, cap1, rfl, _, _⟩ := hp
 obtain ⟨_, a2, cap2, rfl, _, _⟩ := he
 have HML := Lib.hid hM
 have HB0 := Lib.hid hb0
 obtain ⟨V, hV⟩ : ∃ V, V = w.alloc (.cells #[.int .i64 n.kd, .string n.d, .slice a1 n.ps.length cap1, .slice a2 n.es.length cap2] 44) := ⟨_, rfl⟩
 rw [← hV] at HP0 HE0 CK HH HN0 HB0
 have HV := Lib.hid hV
 have c0 := HN0.out.cell 0; have c1 := HN0.out.cell 1; have c2 := HN0.out.cell 2; have c3 := HN0.out.cell 3
 simp only [List.getElem?_toArray, List.getElem?_cons_zero, List.getElem?_cons_succ] at c0 c1 c2 c3
 clear h hb0 hV hM
 go_enter Tryz.func54, Tryz.ntmps54
 go_wp2_with fail
 rw [← HV.out]
 go_wp2_with fail
 with_reducible refine CK.out.mono ?_
 rintro e w1 ⟨rfl, hb1⟩
 have HR := Lib.hid (HH.out.stays hb1)
 have HP1 := Lib.hid (HP0.out.stays hb1); have HE1 := Lib.hid (HE0.out.stays hb1); have HN1 := Lib.hid (HN0.out.step hb1)
 have HG0 : Hid (HeldB W0 w Bb { w1 with drawn := w1.drawn + 1 }) := Lib.hid ⟨((Bk.of_below HB0.out).step hb1).step ((Below.refl _ _).drew), (below_step HH.out.below hb1).drew, HH.out.from_⟩
 obtain ⟨kk, hkk⟩ : ∃ kk : ByteArray, kk = ⟨(keyN n).toArray⟩ := ⟨_, rfl⟩
 obtain ⟨rr, hrr⟩ : ∃ rr : ByteArray, rr = ⟨(wrN n).toArray⟩ := ⟨_, rfl⟩
 rw [← hrr] at CW
 have HKK := Lib.hid hkk
 have HKR : Hid ((⟨kk, rr⟩ : Ob) = obN n) := Lib.hid (by rw [hkk, hrr]; rfl)
 rw [← hkk]
 clear hb1 c0 c1 c2 c3 CK HP0 HE0 HN0 HH hkk hrr
 go_wp2_with fail
 refine wp_region_wordsG (by kernel_rfl) (by kernel_rfl) (appTs [10, 13] (adR W0 Bb vB)) (HeldB W0 w Bb) dadE (dadU W0 Bb w.heap.size p vR vB (.slice a1 n.ps.length cap1) (.slice a2 n.es.length cap2) n M kk rr) 17 dadN [10, 13] (by kernel_rfl) (by kernel_rfl) (by kernel_rfl)
  dadB (by kernel_rfl) (fun ix kx v e w w' hi hk hne hb hU hT => dad_T _ _ _ _ _ _ _ _ _ _ _ _  ix kx v e w w' hk hne hb hU hT) (by decide) (HG0.out) (fun kx hk hge => ?hv0)
  [8, 9, 10, 11, 12, 13, 14, 15, 16, 17, 18, 19, 20] (by kernel_rfl) (forall_ops ?steps) ?behind
 case hv0 =>
  have hge' : 14 ≤ kx := hge
  rcases (show kx = 14 ∨ kx = 15 ∨ kx = 16 by omega) with rfl | rfl | rfl
  ·exact ⟨HR.out.row.drew, HR.out.ne⟩
  ·exact HR.out.built.stays ((Below.refl _ _).drew)
  ·exact ⟨⟨HP1.out.stays ((Below.refl _ _).drew), HE1.out.stays ((Below.refl _ _).drew)⟩, HN1.out.drew⟩
 case steps =>
  refine ⟨?_, ?_, ?_, ?_, ?_, ?_, ?_, ?_, ?_, ?_, ?_, ?_, ?_, ?_, trivial⟩
  ·refine stepG_of rfl ?_
   exact stepR_value (t := 8) (.pointer (some ⟨Bb, 1, none⟩)) rfl (fun _ => appTs_other (by decide) (Below.refl _ _)) (fun ac w hG hN hO => by
    have e0 : slot ac 0 = .pointer (some ⟨Bb, 1, none⟩) := hO 0 (by kernel_rfl)
    exact run_move_slot (.inl rfl) e0) (fun ac w hG hN => rfl)
  ·refine stepG_of rfl ?_
   exact stepR_value (t := 9) (.pointer (some ⟨Bb, 1, none⟩)) rfl (fun _ => appTs_other (by decide) (Below.refl _ _)) (fun ac w hG hN hO => by
    have e0 : slot ac 0 = .pointer (some ⟨Bb, 1, none⟩) := hO 0 (by kernel_rfl)
    exact run_move_slot (.inl rfl) e0) (fun ac w hG hN => rfl)
  ·refine stepG_of rfl ?_
   exact stepR_value (t := 10) (.pointer (some ⟨Bb, 1, none⟩)) rfl (fun _ => appTs_other (by decide) (Below.refl _ _)) (fun ac w hG hN hO => by
    have e9 : slot ac 9 = .pointer (some ⟨Bb, 1, none⟩) := hN 1 (by decide)
    have f9 := slot_at e9
    unfold execOp; go_simp) (fun ac w hG hN => rfl)
  ·refine stepG_of rfl ?_
   exact stepR_value (t := 11) (.pointer (some ⟨Bb, 1, none⟩)) rfl (fun _ => appTs_other (by decide) (Below.refl _ _)) (fun ac w hG hN hO => by
    have e10 : slot ac 10 = .pointer (some ⟨Bb, 1, none⟩) := hN 2 (by decide)
    have f10 := slot_at e10
    unfold execOp; go_simp) (fun ac w hG hN => rfl)
  ·refine stepG_of rfl ?_
   exact stepR_value (t := 12) vB rfl (fun _ => appTs_other (by decide) (Below.refl _ _)) (fun ac w hG hN hO => by
    have e11 : slot ac 11 = .pointer (some ⟨Bb, 1, none⟩) := hN 3 (by decide)
    have hx : Row w Bb #[vR, vB, .int .i64 p.1, .int .i64 p.2.1, .int .i64 p.2.2] 61 ∧ _ := hN 14 (by decide)
    have c2 : w.cell? ⟨Bb, 1, none⟩ = some vB := hx.1.cell 1
    have f := slot_at e11
    unfold execOp; go_simp) (fun ac w hG hN => rfl)
  ·refine stepG_of rfl ?_
   exact stepR_value (t := 13) (.string kk) rfl (fun _ => appTs_other (by decide) (Below.refl _ _)) (fun ac w hG hN hO => by
    have e5 : slot ac 5 = .string kk := hO 5 (by kernel_rfl)
    exact run_move_slot (.inl rfl) e5) (fun ac w hG hN => rfl)
  ·refine stepG_of rfl ?_
   exact stepR_value (t := 14) (.agg #[.int .i64 n.kd, .string n.d, (.slice a1 n.ps.length cap1), (.slice a2 n.es.length cap2)]) rfl (fun _ => appTs_other (by decide) (Below.refl _ _)) (fun ac w9 hG hN hO => by
    have e3 : slot ac 3 = .pointer (some ⟨w.heap.size, 0, none⟩) := hO 3 (by kernel_rfl)
    have hx : _ ∧ Row w9 w.heap.size #[.int .i64 n.kd, .string n.d, (.slice a1 n.ps.length cap1), (.slice a2 n.es.length cap2)] 44 := hN 16 (by decide)
    have c0 : w9.cell? ⟨w.heap.size, 0, none⟩ = some (.int .i64 n.kd) := hx.2.cell 0
    have c1 : w9.cell? ⟨w.heap.size, 1, none⟩ = some (.string n.d) := hx.2.cell 1
    have c2 : w9.cell? ⟨w.heap.size, 2, none⟩ = some (.slice a1 n.ps.length cap1) := hx.2.cell 2
    have c3 : w9.cell? ⟨w.heap.size, 3, none⟩ = some (.slice a2 n.es.length cap2) := hx.2.cell 3
    have f := slot_at e3
    unfold execOp; go_simp) (fun ac w9 hG hN => rfl)
  ·refine stepG_of rfl ?_
   intro ac w9 hG hN hO
   have e14 : slot ac 14 = .agg #[.int .i64 n.kd, .string n.d, (.slice a1 n.ps.length cap1), (.slice a2 n.es.length cap2)] := hN 6 (by decide)
   have hx : (IsParts w9 (.slice a1 n.ps.length cap1) n.ps ∧ IsEntries w9 (.slice a2 n.es.length cap2) n.es) ∧ _ := hN 16 (by decide)
   refine wp_callx 90 _ _ rfl (enters_of Tryz.func90 (by kernel_rfl) rfl) #[.agg #[.int .i64 n.kd, .string n.d, (.slice a1 n.ps.length cap1), (.slice a2 n.es.length cap2)]] (by simp [eval_slot, e14]) (calls_valN (CW.out w9 hx.1.1 hx.1.2)) ?_
   rintro v w'' ⟨hv, hb⟩
   exact ⟨v, rfl, appTs_other (by decide) hb, hG.on hb, hv⟩
  ·refine stepG_of rfl ?_
   exact stepR_value (t := 16) (.agg #[.string kk, .string rr]) rfl (fun _ => appTs_other (by decide) (Below.refl _ _)) (fun ac w hG hN hO => by
    have e13 : slot ac 13 = .string kk := hN 5 (by decide)
    have e15 : slot ac 15 = .string rr := hN 7 (by decide)
    have f13 := slot_at e13
    have f15 := slot_at e15
    unfold execOp; go_simp) (fun ac w hG hN => rfl)
  ·refine stepG_of rfl ?_
   intro ac w9 hG hN hO
   have e16 : slot ac 16 = .agg #[.string kk, .string rr] := hN 8 (by decide)
   refine wp_build_ob 16 rfl (x := (⟨kk, rr⟩ : Ob)) e16 ?_
   exact ⟨_, rfl, appTs_other (by decide) ((Below.refl _ _).alloc (Nat.le_refl _) _), hG.on ((Below.refl _ _).alloc (Nat.le_refl _) _), oneOb_new w9 (⟨kk, rr⟩ : Ob)⟩
  ·refine stepG_of rfl ?_
   intro ac w9 hG hN hO
   have e12 : slot ac 12 = vB := hN 4 (by decide)
   have e17 : OneOb w9 (slot ac 17) (⟨kk, rr⟩ : Ob) := hN 9 (by decide)
   have hown : OwnO W0.heap.size w9 vB M := hN 15 (by decide)
   have hM := HML.out
   refine wp_append_one_ob 12 17 rfl hown hG.below.size (slotE e12) e17 (by omega) ?_
   intro v' w' hown' hg
   exact ⟨v', rfl, appTs_at (by decide) (adR_app' hg hown), ⟨hG.bk.trans (Bk.turn hg (fun g hg2 => hown.row hg2)), hG.below.grown hg hG.below.size (fun j hj => (hown.row hj).1), hG.fr⟩, hown'⟩
  ·refine stepG_of rfl ?_
   exact stepR_value (t := 19) (.pointer (some ⟨Bb, 1, none⟩)) rfl (fun _ => appTs_other (by decide) (Below.refl _ _)) (fun ac w hG hN hO => by
    have e8 : slot ac 8 = .pointer (some ⟨Bb, 1, none⟩) := hN 0 (by decide)
    have f8 := slot_at e8
    unfold execOp; go_simp) (fun ac w hG hN => rfl)
  ·refine stepG_of rfl ?_
   exact stepR_value (t := 20) (.pointer (some ⟨Bb, 1, none⟩)) rfl (fun _ => appTs_other (by decide) (Below.refl _ _)) (fun ac w hG hN hO => by
    have e19 : slot ac 19 = .pointer (some ⟨Bb, 1, none⟩) := hN 11 (by decide)
    have f19 := slot_at e19
    unfold execOp; go_simp) (fun ac w hG hN => rfl)
  ·refine stepG_of rfl ?_
   intro ac w9 hG hN hO
   have e20 : slot ac 20 = .pointer (some ⟨Bb, 1, none⟩) := hN 12 (by decide)
   have hrow : Row w9 Bb #[vR, vB, .int .i64 p.1, .int .i64 p.2.1, .int .i64 p.2.2] 61 ∧ _ := hN 14 (by decide)
   have hc : w9.cell? ⟨Bb, 1, none⟩ = some vB := hrow.1.cell 1
   have hf := hrow.1.free 1
   have f1 := slot_at e20
   obtain ⟨u, hu⟩ : ∃ u, u = slot ac 18 := ⟨_, rfl⟩
   have f2 := slot_at hu.symm
   have hown : OwnO W0.heap.size w9 (slot ac 18) (M ++ [(⟨kk, rr⟩ : Ob)]) := hN 10 (by decide)
   rw [← hu] at hown
   obtain ⟨_, ua, uc, hue, _, _⟩ := hown.is
   subst hue
   have hs := hrow.1.set 1 (.slice ua (M ++ [(⟨kk, rr⟩ : Ob)]).length uc)
   exact wp_skip (w' := w9.setCell ⟨Bb, 1, none⟩ (.slice ua (M ++ [(⟨kk, rr⟩ : Ob)]).length uc)) (by unfold execOp; go_simp) ⟨undef, rfl, appTs_at (by decide) (adR_set' hrow.1 _), ⟨hG.bk.trans (Bk.set _), hG.below.setCell (p := ⟨Bb, 1, none⟩) hG.fr _, hG.fr⟩, by
    show Row _ Bb #[vR, exV _ 13 ac, .int .i64 p.1, .int .i64 p.2.1, .int .i64 p.2.2] _
    rw [show exV dadE 13 ac = slot ac 18 from rfl, ← hu]
    exact hs⟩
 case behind =>
  intro ac w5 hG hV hS ha
  have h10 : OwnO W0.heap.size w5 (slot ac 18) (M ++ [(⟨kk, rr⟩ : Ob)]) := hV 10 (by decide) (by decide)
  have h13 : Row w5 Bb #[vR, (slot ac 18), .int .i64 p.1, .int .i64 p.2.1, .int .i64 p.2.2] 61 := hV 13 (by decide) (by decide)
  generalize slot ac = sl at ha h13 h10
  subst ha
  simp only [patchL, List.contains_cons, List.contains_nil, Nat.reduceBEq, Bool.or_false, Bool.or_true, if_true, Bool.false_eq_true, if_false, Nat.reduceAdd]
  generalize sl 8 = s8
  generalize sl 9 = s9
  generalize sl 10 = s10
  generalize sl 11 = s11
  generalize sl 12 = s12
  generalize sl 13 = s13
  generalize sl 14 = s14
  generalize sl 15 = s15
  generalize sl 16 = s16
  generalize sl 17 = s17
  generalize sl 18 = s18 at h13 h10 ⊢
  generalize sl 19 = s19
  generalize sl 20 = s20
  clear hV hS
  have HO9 := Lib.hid h10; have HR9 := Lib.hid h13
  have HG9 := Lib.hid hG
  clear hG h10 h13
  go_wp2
  go_ret
  refine ⟨by rw [HKK.out]; rfl, _, ⟨HR9.out, HR.out.rest, ?_, HR.out.from_, HG9.out.below⟩, HG9.out.bk⟩
  have := HO9.out
  rwa [HKR.out] at this
end Go.Proofs.YtlccihidedfemaaGreatDoor

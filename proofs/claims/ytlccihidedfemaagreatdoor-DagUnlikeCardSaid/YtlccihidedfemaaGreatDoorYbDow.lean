/-
  Contracts over this translation: the document's file (a file's objects are added).
-/
import Derived.Test.YtlccihidedfemaaGreatDoorQb7
import Derived.Test.YtlccihidedfemaaGreatDoorQb3
import Derived.Test.YtlccihidedfemaaGreatDoorYbCrf
import Derived.Test.YtlccihidedfemaaGreatDoorYbNdf
set_option linter.unusedVariables false
namespace Go.Proofs.YtlccihidedfemaaGreatDoor
open Go.RowKit
attribute [local go_sem] Oper.semAt_some
structure HeldM (W0 : World) (n : Nat) (w : World) : Prop where
 below : Below W0.heap.size W0 w
 size : n ≤ w.heap.size
theorem HeldM.on {W0 w w' : World} {n : Nat} (h : HeldM W0 n w) (hb : Below w.heap.size w w') : HeldM W0 n w' := ⟨below_step h.below hb, Nat.le_trans h.size hb.size⟩
def OnePt (w : World) (v : Value) (x : Pt) : Prop := ∃ A, v = .slice (some ⟨A, 0, none⟩) 1 1 ∧ w.heap[A]? = some (.cells #[.string x.k, .int .i64 x.n] 74 (0, 0))
theorem OnePt.stays {w w' : World} {v : Value} {x : Pt} (h : OnePt w v x) (hb : Below w.heap.size w w') : OnePt w' v x := by
 obtain ⟨A, h1, h2⟩ := h
 exact ⟨A, h1, (hb.block A (Array.getElem?_eq_some_iff.1 h2).1).trans h2⟩
theorem onePt_new (w : World) (x : Pt) : OnePt (w.alloc (.cells #[.string x.k, .int .i64 x.n] 74)) (.slice (some ⟨w.heap.size, 0, none⟩) 1 1) x := ⟨_, rfl, heap_alloc_new w _⟩
theorem wp_build_part {o : Oper} {a : Act} {K : Act → World → Prop} {Q : Exit → Act → World → Prop} {w : World} (p : Nat) (ho : o.op = .buildSlice 41 1 #[(0, .tmp p)]) {x : Pt}
  (hx : slot a p = .agg #[.string x.k, .int .i64 x.n]) (hk : K (a.put o.dst (.slice (some ⟨w.heap.size, 0, none⟩) 1 1)) (w.alloc (.cells #[.string x.k, .int .i64 x.n] 74))) : o.wp Tryz.prog a w K Q := by
 refine wp_value (v := .slice (some ⟨w.heap.size, 0, none⟩) 1 1) (w' := w.alloc (.cells #[.string x.k, .int .i64 x.n] 74)) ?_ hk
 have f := slot_at hx
 unfold execOp
 rw [ho]
 go_simp
theorem wp_append_one_part {o : Oper} {a : Act} {B : Nat} {w : World} {K : Act → World → Prop} {Q : Exit → Act → World → Prop} (s x : Nat)
  (ho : o.op = .call { callee := .builtin .append, args := #[.tmp s, .tmp x], argTypes := #[41, 41] })
  {v : Value} {M : List Pt} {y : Pt} (hown : OwnP B w v M) (hBs : B ≤ w.heap.size) (hs : a.eval (.tmp s) = v) (hx : OnePt w (slot a x) y) (hlen : M.length ≤ 1000000)
  (h : ∀ v' w', OwnP B w' v' (M ++ [y]) → w.grownBy w' v.ownBlock → K (a.put o.dst v') w') : o.wp Tryz.prog a w K Q := by
 obtain ⟨i0, hi, hz0, hz1, hz2⟩ := info_parts infoPart
 obtain ⟨A, hx1, hx2⟩ := hx
 have hr : Row w A #[.string y.k, .int .i64 y.n] 74 := hx2
 refine wp_append_own w (.tmp s) (.tmp x) 41 ho B 74 i0 (ptV zeroPt) 2 24 Tryz.underlying41 hi hz0 hz1 hz2 rfl (by decide) v M.length (ptCells M) hs hown ⟨A, 0, none⟩ 1 1 (ptC y) (slotE hx1) rfl ?_ ?_ ?_ ?_ hBs ?_
 ·intro j u hj
  have := hr.cell j
  rw [add_plain', Nat.zero_add, this]
  simpa using hj
 ·intro u hu; simp at hu; rcases hu with rfl | rfl <;> rfl
 ·unfold maxLen; omega
 ·omega
 ·intro v' w' hown' hg _
  refine h v' w' ?_ hg
  unfold OwnP
  rw [List.length_append, ptCells_app]
  have : ptCells [y] = ptC y := List.append_nil _
  rw [this]; exact hown'
def flR (W0 : World) (bn : Nat) (vp : Value) (i : Nat) (w w' : World) : Prop :=
 if i = 10 then w.grownBy w' vp.ownBlock ∧ ∀ g, vp.ownBlock = some g → W0.heap.size ≤ g ∧ ∃ xs, Row w g xs 74
 else ∃ u a n c, Row w bn #[.int .i64 2, .string ⟨#[]⟩, .slice a n c, .slice none 0 0] 44 ∧ W0.heap.size ≤ bn ∧ w' = w.setCell ⟨bn, 2, none⟩ u
theorem flR_app {W0 : World} {bn : Nat} {vp : Value} {w w' : World} (h : flR W0 bn vp 10 w w') : w.grownBy w' vp.ownBlock := by unfold flR at h; rw [if_pos rfl] at h; exact h.1
theorem flR_app' {W0 w1 : World} {bn : Nat} {vp : Value} {Lp : List Pt} {w w' : World} (h : w.grownBy w' vp.ownBlock) (ho : OwnP w1.heap.size w vp Lp) (hb : bn < w1.heap.size ∧ W0.heap.size ≤ bn) : flR W0 bn vp 10 w w' := by
 unfold flR; rw [if_pos rfl]
 exact ⟨h, fun g hg => ⟨by have := (World.ownsRow.lt ho g hg).1; omega, ho.row hg⟩⟩
theorem flR_set {W0 : World} {bn : Nat} {vp : Value} {w w' : World} (h : flR W0 bn vp 12 w w') : ∃ u a n c, Row w bn #[.int .i64 2, .string ⟨#[]⟩, .slice a n c, .slice none 0 0] 44 ∧ W0.heap.size ≤ bn ∧ w' = w.setCell ⟨bn, 2, none⟩ u := by unfold flR at h; rwa [if_neg (by decide)] at h
theorem flR_set' {W0 : World} {bn : Nat} {vp : Value} {w : World} (hr : Row w bn #[.int .i64 2, .string ⟨#[]⟩, vp, .slice none 0 0] 44) (hv : ∃ a n c, vp = .slice a n c) (hb : W0.heap.size ≤ bn) (u : Value) : flR W0 bn vp 12 w (w.setCell ⟨bn, 2, none⟩ u) := by
 obtain ⟨a, n, c, rfl⟩ := hv
 unfold flR; rw [if_neg (by decide)]; exact ⟨u, a, n, c, hr, hb, rfl⟩
theorem flR_own {W0 : World} {bn Bs : Nat} {vp v : Value} {w w' : World} {L : List Pt} (h : flR W0 bn vp 12 w w') (hU : OwnP Bs w v L) (hb : bn < Bs) : OwnP Bs w' v L := by
 obtain ⟨u, _, _, _, _, _, rfl⟩ := flR_set h
 exact hU.setBelow (a := ⟨bn, 2, none⟩) hb u
theorem flR_lt {W0 : World} {bn b : Nat} {vp : Value} {w w' : World} (h : flR W0 bn vp 12 w w') (hb : b < w.heap.size) : b < w'.heap.size := by
 obtain ⟨u, _, _, _, _, _, rfl⟩ := flR_set h
 simpa [World.setCell] using hb
def TxtC (w : World) (tb to : Nat) (Ps : List (List UInt8)) : Prop := ∀ i (h : i < Ps.length), w.cell? ⟨tb, to + i, none⟩ = some (.string ⟨Ps[i].toArray⟩)
theorem TxtC.stays {w w' : World} {tb to : Nat} {Ps : List (List UInt8)} (h : TxtC w tb to Ps) (hl : tb < w.heap.size) (hb : Below w.heap.size w w') : TxtC w' tb to Ps := fun i hi => (hb.cell (p := ⟨tb, to + i, none⟩) hl).trans (h i hi)
theorem TxtC.grown {w w' : World} {tb to : Nat} {Ps : List (List UInt8)} {row : Option Nat} (h : TxtC w tb to Ps) (hl : tb < w.heap.size) (hg : w.grownBy w' row) (hr : row ≠ some tb) : TxtC w' tb to Ps := fun i hi => by
 rw [World.cell?_of_block (hg.block tb hl (fun e => hr e.symm))]; exact h i hi
theorem TxtC.set {w : World} {tb to bn : Nat} {Ps : List (List UInt8)} (h : TxtC w tb to Ps) {a : Option Addr} {n c : Nat} (hc : w.cell? ⟨bn, 2, none⟩ = some (.slice a n c)) (u : Value) : TxtC (w.setCell ⟨bn, 2, none⟩ u) tb to Ps := fun i hi => by
 rw [World.cell?_setCell_other _ _ _ _ (fun e => by
  have := h i hi
  first
   | (rw [e, hc] at this; cases this)
   | (rw [← e, hc] at this; cases this))]
 exact h i hi
theorem flR_txt {W0 : World} {bn : Nat} {vp : Value} {w w' : World} {tb to : Nat} {Ps : List (List UInt8)} (h : flR W0 bn vp 12 w w') (hU : TxtC w tb to Ps) : TxtC w' tb to Ps := by
 obtain ⟨u, a, n, c, hr, _, rfl⟩ := flR_set h
 have hc := hr.cell 2
 simp only [List.getElem?_toArray, List.getElem?_cons_zero, List.getElem?_cons_succ] at hc
 exact hU.set hc u
theorem flR_any {W0 : World} {bn : Nat} {vp v0 v : Value} {w w' : World} {L0 L : List Ob} (h : flR W0 bn vp 10 w w') (hU : AnyO W0 v0 L0 w v L) : AnyO W0 v0 L0 w' v L := by
 unfold flR at h; rw [if_pos rfl] at h
 exact hU.turn h.1 fun g hg => ⟨(h.2 g hg).1, by obtain ⟨xs, hx⟩ := (h.2 g hg).2; exact ⟨xs, _, hx, by decide⟩⟩
theorem flR_any2 {W0 : World} {bn : Nat} {vp v0 v : Value} {w w' : World} {L0 L : List Ob} (h : flR W0 bn vp 12 w w') (hU : AnyO W0 v0 L0 w v L) : AnyO W0 v0 L0 w' v L := by
 obtain ⟨u, a, n, c, hr, hb, rfl⟩ := flR_set h
 exact hU.turn (grownBy_set w bn 2 u) fun g hg => by cases hg; exact ⟨hb, _, _, hr, by decide⟩
def dflU (W0 : World) (bn tb to tl tcap kc Bs : Nat) (vp lv v0 : Value) (Lp : List Pt) (LL L0 : List Ob) (Ps : List (List UInt8)) (kk t : ByteArray) : Nat → Value → Value → World → Prop
 | 0 => fun v _ _ => v = .pointer (some ⟨bn, 2, none⟩)
 | 1 => fun v _ _ => v = vp
 | 2 => fun v _ _ => v = .string kk
 | 3 => fun v _ _ => v = .slice (some ⟨tb, to, none⟩) tl tcap
 | 4 => fun v _ _ => v = .int .i64 kc
 | 5 => fun v _ _ => v = .pointer (some ⟨tb, to + kc, none⟩)
 | 6 => fun v _ _ => v = .string t
 | 7 => fun v _ _ => v = .int .i64 t.size
 | 8 => fun v _ _ => v = .agg #[.string kk, .int .i64 t.size]
 | 9 => fun v _ w => OnePt w v (⟨kk, (t.size : Int)⟩ : Pt)
 | 10 => fun v _ w => OwnP Bs w v (Lp ++ [(⟨kk, (t.size : Int)⟩ : Pt)]) ∧ bn < Bs
 | 11 => fun v _ _ => v = .pointer (some ⟨bn, 2, none⟩)
 | 12 => fun _ e w => Row w bn #[.int .i64 2, .string ⟨#[]⟩, e, .slice none 0 0] 44
 | 13 => fun _ _ w => Row w bn #[.int .i64 2, .string ⟨#[]⟩, vp, .slice none 0 0] 44 ∧ vp.ownBlock ≠ some bn
 | 14 => fun _ _ w => OwnP Bs w vp Lp
 | 15 => fun _ _ w => TxtC w tb to Ps ∧ tb < w.heap.size ∧ vp.ownBlock ≠ some tb
 | 16 => fun _ _ w => AnyO W0 v0 L0 w lv LL
 | _ => fun _ _ _ => True
def dflN : List (List Nat) := [[], [0, 13], [], [], [], [3, 4], [5, 15], [6], [2, 7], [8], [1, 9, 14], [], [11, 10, 13]]
def dflE : Nat → Option Tmp
 | 12 => some 42
 | _ => none
def dflB : List (Nat × Nat) := [(10, 9), (10, 12), (10, 14), (12, 9), (12, 13), (12, 14)]
theorem dfl_T (W0 : World) (bn tb to tl tcap kc Bs : Nat) (vp lv v0 : Value) (Lp : List Pt) (LL L0 : List Ob) (Ps : List (List UInt8)) (kk t : ByteArray) (ix kx : Nat) (v e : Value) (w w' : World) (hk : kx < 17) (hne : kx ≠ ix) (hbd : (ix, kx) ∉ dflB) (hU : (dflU W0 bn tb to tl tcap kc Bs vp lv v0 Lp LL L0 Ps kk t) kx v e w) (hT : (appTs [10, 12] (flR W0 bn vp)) ix w w') : (dflU W0 bn tb to tl tcap kc Bs vp lv v0 Lp LL L0 Ps kk t) kx v e w' := by
 by_cases hi10 : ix = 10
 ·subst hi10
  have hR := appTs_in (by decide) hT
  rcases (show kx = 0 ∨ kx = 1 ∨ kx = 2 ∨ kx = 3 ∨ kx = 4 ∨ kx = 5 ∨ kx = 6 ∨ kx = 7 ∨ kx = 8 ∨ kx = 9 ∨ kx = 10 ∨ kx = 11 ∨ kx = 12 ∨ kx = 13 ∨ kx = 14 ∨ kx = 15 ∨ kx = 16 by omega) with rfl | rfl | rfl | rfl | rfl | rfl | rfl | rfl | rfl | rfl | rfl | rfl | rfl | rfl | rfl | rfl | rfl
  iterate 9 exact hU
  ·exact absurd (by decide) hbd
  ·exact absurd rfl hne
  ·exact hU
  ·exact absurd (by decide) hbd
  ·exact ⟨((flR_app hR).block bn hU.1.lt (fun e => hU.2 e.symm)).trans hU.1, hU.2⟩
  ·exact absurd (by decide) hbd
  ·exact ⟨hU.1.grown hU.2.1 (flR_app hR) hU.2.2, Nat.lt_of_lt_of_le hU.2.1 (flR_app hR).size, hU.2.2⟩
  ·exact flR_any hR hU
 by_cases hi12 : ix = 12
 ·subst hi12
  have hR := appTs_in (by decide) hT
  rcases (show kx = 0 ∨ kx = 1 ∨ kx = 2 ∨ kx = 3 ∨ kx = 4 ∨ kx = 5 ∨ kx = 6 ∨ kx = 7 ∨ kx = 8 ∨ kx = 9 ∨ kx = 10 ∨ kx = 11 ∨ kx = 12 ∨ kx = 13 ∨ kx = 14 ∨ kx = 15 ∨ kx = 16 by omega) with rfl | rfl | rfl | rfl | rfl | rfl | rfl | rfl | rfl | rfl | rfl | rfl | rfl | rfl | rfl | rfl | rfl
  iterate 9 exact hU
  ·exact absurd (by decide) hbd
  ·exact ⟨flR_own hR hU.1 hU.2, hU.2⟩
  ·exact hU
  ·exact absurd rfl hne
  ·exact absurd (by decide) hbd
  ·exact absurd (by decide) hbd
  ·exact ⟨flR_txt hR hU.1, flR_lt hR hU.2.1, hU.2.2⟩
  ·exact flR_any2 hR hU
 have hi : ix ∉ [10, 12] := by simp [hi10, hi12]
 have hb : Below w.heap.size w w' := appTs_out hi hT
 rcases (show kx = 0 ∨ kx = 1 ∨ kx = 2 ∨ kx = 3 ∨ kx = 4 ∨ kx = 5 ∨ kx = 6 ∨ kx = 7 ∨ kx = 8 ∨ kx = 9 ∨ kx = 10 ∨ kx = 11 ∨ kx = 12 ∨ kx = 13 ∨ kx = 14 ∨ kx = 15 ∨ kx = 16 by omega) with rfl | rfl | rfl | rfl | rfl | rfl | rfl | rfl | rfl | rfl | rfl | rfl | rfl | rfl | rfl | rfl | rfl
 iterate 9 exact hU
 ·exact OnePt.stays hU hb
 ·exact ⟨OwnP.stays hU.1 hb, hU.2⟩
 ·exact hU
 ·exact Row.step hU hb
 ·exact ⟨Row.step hU.1 hb, hU.2⟩
 ·exact OwnP.stays hU hb
 ·exact ⟨hU.1.stays hU.2.1 hb, Nat.lt_of_lt_of_le hU.2.1 hb.size, hU.2.2⟩
 ·exact AnyO.stays hU hb
set_option maxRecDepth 100000 in
set_option maxHeartbeats 8000000 in
theorem rFile_any (mn av b mx : Nat) (hF : FitAt mn av mx b) (v : Value) (L : List Ob) (s : ByteArray) (w : World) (h : IsObs w v L) (hs : s.size ≤ 100000) (hL : L.length + s.size ≤ 800000) :
  Calls Tryz.prog 62 #[pV mn av mx, v, .string s] w (RetOK v L (putsN L (seqF (cutN mn b mx) s.data.toList)) (keyN (fileN (cutN mn b mx) s.data.toList)) w) := by
 have CP := Lib.hid (fun W => refPieces_any mn av b mx hF s hs W)
 have OK := Lib.hid (cutN_ok (mn := mn) (b := b) (mx := mx) (by have := hF.h1; omega) (by have := hF.h2; have := hF.h3; omega))
 obtain ⟨c, hc⟩ : ∃ c, c = cutN mn b mx := ⟨_, rfl⟩
 rw [← hc] at CP OK ⊢
 have hpl : (pcs c s.data.toList).length ≤ s.size := by have := pcs_len OK.out.pos s.data.toList.length s.data.toList (Nat.le_refl _); rw [Lib.size_eq]; exact this
 obtain ⟨V, hV⟩ : ∃ V, V = (w.alloc (.cells #[.int .i64 mn, .int .i64 av, .int .i64 mx] 23)).alloc (.cells #[.int .i64 2, .string ⟨#[]⟩, .slice none 0 0, .slice none 0 0] 44) := ⟨_, rfl⟩
 have hbV : Below w.heap.size w V := by rw [hV]; exact ((Below.refl _ _).alloc (Nat.le_refl _) _).alloc (by simp) _
 have hR0 : Row V w.heap.size #[.int .i64 mn, .int .i64 av, .int .i64 mx] 23 := by rw [hV]; exact (Row.made _ _ _).alloc _
 have hRN : Row V (w.heap.size + 1) #[.int .i64 2, .string ⟨#[]⟩, .slice none 0 0, .slice none 0 0] 44 := by
  have := Row.made (w.alloc (.cells #[.int .i64 mn, .int .i64 av, .int .i64 mx] 23)) #[.int .i64 2, .string ⟨#[]⟩, .slice none 0 0, .slice none 0 0] 44
  rw [hV]; simpa using this
 have HV := Lib.hid hV; have HBV := Lib.hid hbV; have HRN := Lib.hid hRN
 have HI := Lib.hid (h.stays hbV); have HL0 := Lib.hid h
 obtain ⟨_, a0, cap0, rfl, _, _⟩ := h
 have p0 := hR0.cell 0; have p1 := hR0.cell 1; have p2 := hR0.cell 2
 simp only [List.getElem?_toArray, List.getElem?_cons_zero, List.getElem?_cons_succ] at p0 p1 p2
 clear hV hbV hRN hR0 hc hF
 go_enter Tryz.func62, Tryz.ntmps62
 go_wp2_with fail
 rw [← HV.out]
 go_wp2_with fail
 with_reducible refine (CP.out _).mono ?_
 rintro e w1 ⟨v1, rfl, hs1, hb1⟩
 have HS1 := Lib.hid hs1
 obtain ⟨hlt1, a1, cap1, rfl, _, _⟩ := hs1
 have HRN1 := Lib.hid (HRN.out.step hb1)
 have HI1 := Lib.hid (HI.out.stays hb1)
 have HB1 := Lib.hid (below_step HBV.out hb1)
 have hz1 : w.heap.size + 1 < w1.heap.size := HRN1.out.lt
 clear hb1 p0 p1 p2
 obtain ⟨Ps, hPs⟩ : ∃ Ps, Ps = pcs c s.data.toList := ⟨_, rfl⟩
 rw [← hPs] at HS1 hpl
 have HPS := Lib.hid hPs
 rw [← hPs]
 have hsl : (strsOf Ps).length = Ps.length := strsOf_len _
 rw [hsl] at HS1
 rw [hsl]
 obtain ⟨tb, to, hab, hT1⟩ : ∃ tb to, (0 < Ps.length → a1 = some ⟨tb, to, none⟩ ∧ tb < w1.heap.size) ∧ TxtC w1 tb to Ps := by
  obtain ⟨_, _, _, e, _, hc⟩ := HS1.out
  rw [hsl] at e
  cases e
  by_cases h0 : 0 < Ps.length
  ·obtain ⟨b', off, rfl, hbl, g⟩ := hc (by rw [strsOf_len]; exact h0)
   exact ⟨b', off, fun _ => ⟨rfl, hbl⟩, fun i hi => by have := g i (by rw [strsOf_len]; exact hi); rwa [strsOf_get hi] at this⟩
  ·exact ⟨0, 0, fun h => absurd h h0, fun i hi => absurd (Nat.lt_of_le_of_lt (Nat.zero_le _) hi) h0⟩
 have HAB := Lib.hid hab; have HT1 := Lib.hid hT1
 have HLL := Lib.hid (fun k => (putsN_len L ((Ps.take k).map pieceN)).2)
 have HA1 : Hid (AnyO w (.slice a0 L.length cap0) L w1 (.slice a0 L.length cap0) L) := Lib.hid ((AnyO.of HL0.out).stays HB1.out)
 clear hPs hab hT1 HS1 hsl HI1 HI
 go_wp2
 obtain ⟨bn, hbn⟩ : ∃ bn, bn = w.heap.size + 1 := ⟨_, rfl⟩
 rw [← hbn] at HRN1 hz1 ⊢
 have HBN := Lib.hid (show w.heap.size ≤ bn by omega)
 clear hbn
 go_loopw [1, 10] (fun lv i wr => ∃ (k : Nat) (vp : Value), k ≤ Ps.length ∧ i = .int .i64 k ∧ AnyO w (.slice a0 L.length cap0) L wr lv (putsN L ((Ps.take k).map pieceN)) ∧ Row wr bn #[.int .i64 2, .string ⟨#[]⟩, vp, .slice none 0 0] 44 ∧ OwnP w1.heap.size wr vp ((Ps.take k).map partP) ∧ TxtC wr tb to Ps ∧ Below w.heap.size w wr ∧ w1.heap.size ≤ wr.heap.size) (fun _ i _ => Ps.length - (intOf i).toNat)
 case atStart => exact ⟨0, _, Nat.zero_le _, rfl, HA1.out, HRN1.out, parts_own_nil _ _, HT1.out, HB1.out, Nat.le_refl _⟩
 case round =>
  obtain ⟨k, vp, hk, rfl, hA, hR, hO, hT, hB, hzr⟩ := hrel
  have hll := HLL.out k
  rw [List.length_map, List.length_take] at hll
  by_cases hlt : k < Ps.length
  ·obtain ⟨rfl, htb⟩ := HAB.out (by omega)
   have hbk : decide ((k : Int) < (Ps.length : Int)) = true := by simpa using (show (k : Int) < Ps.length by omega)
   have hst : putsN L ((Ps.take (k + 1)).map pieceN) = putN (putsN L ((Ps.take k).map pieceN)) (pieceN (Ps[k]'hlt)) := by rw [List.take_succ_eq_append_getElem hlt, List.map_append, putsN_app]; rfl
   have hsp : (Ps.take (k + 1)).map partP = (Ps.take k).map partP ++ [partP (Ps[k]'hlt)] := by rw [List.take_succ_eq_append_getElem hlt, List.map_append]; rfl
   have c0 := hT k hlt
   obtain ⟨pk, hpk⟩ : ∃ pk, Ps[k]'hlt = pk := ⟨_, rfl⟩
   rw [hpk] at hst hsp c0
   have HPK := Lib.hid hpk
   obtain ⟨t, ht⟩ : ∃ t : ByteArray, t = ⟨pk.toArray⟩ := ⟨_, rfl⟩
   have hts : t.size = pk.length := by rw [ht, Lib.size_eq]
   obtain ⟨kk, hkk⟩ : ∃ kk : ByteArray, kk = ⟨(keyN (pieceN pk)).toArray⟩ := ⟨_, rfl⟩
   have hx : partP pk = ⟨kk, (t.size : Int)⟩ := by unfold partP; rw [hkk, hts]
   rw [hx] at hsp
   have HST := Lib.hid hst; have HSP := Lib.hid hsp
   clear hpk hst hsp
   have CP6 : Hid (Calls Tryz.prog 63 #[u1, .agg #[.int .i64 1, .string t, .slice none 0 0, .slice none 0 0]] wr (RetOK u1 (putsN L ((Ps.take k).map pieceN)) (putN (putsN L ((Ps.take k).map pieceN)) (pieceN pk)) (keyN (pieceN pk)) wr)) := Lib.hid (by
    rw [ht]; exact rPut_any u1 _ (pieceN pk) (.slice none 0 0) (.slice none 0 0) wr hA.is (by omega) (parts_nil _) (entries_nil _))
   rw [← ht] at c0
   have HT := Lib.hid ht; have HLT := Lib.hid hlt; have HA0 := Lib.hid hA; have HO0 := Lib.hid hO; have HR0 := Lib.hid hR; have HC0 := Lib.hid hT; have HKK := Lib.hid hkk; have HB0 := Lib.hid hB
   have HLEN : Hid (((Ps.take k).map partP).length ≤ 1000000) := Lib.hid (by rw [List.length_map, List.length_take]; omega)
   obtain ⟨LL, hLL⟩ : ∃ LL, LL = putN (putsN L ((Ps.take k).map pieceN)) (pieceN pk) := ⟨_, rfl⟩
   rw [← hLL] at CP6 HST
   obtain ⟨Lp, hLp⟩ : ∃ Lp, Lp = (Ps.take k).map partP := ⟨_, rfl⟩
   rw [← hLp] at HO0 HLEN HSP
   clear hA hR hO hT hts hx hkk hLp hLL hB ht
   go_wp2_with fail
   with_reducible refine CP6.out.mono ?_
   rintro e w6 ⟨v6, rfl, hs6, hb6, hv6⟩
   have HA := Lib.hid (HA0.out.next hb6 hv6)
   have HR := Lib.hid (HR0.out.step hb6)
   have HO := Lib.hid (HO0.out.stays hb6)
   have htw : tb < wr.heap.size := Nat.lt_of_lt_of_le htb hzr
   have HC : Hid (TxtC w6 tb to Ps ∧ tb < w6.heap.size) := Lib.hid ⟨HC0.out.stays htw hb6, Nat.lt_of_lt_of_le htw hb6.size⟩
   have HNE : Hid (vp.ownBlock ≠ some bn ∧ vp.ownBlock ≠ some tb) := Lib.hid ⟨fun e => by have := (World.ownsRow.lt HO0.out bn e).1; omega, fun e => by have := (World.ownsRow.lt HO0.out tb e).1; omega⟩
   have HVP : Hid (∃ a n c, vp = .slice a n c) := Lib.hid (by obtain ⟨_, a, c, e, _⟩ := HO0.out.is; exact ⟨a, _, c, e⟩)
   have HBS : Hid (bn < w1.heap.size ∧ w.heap.size ≤ bn) := Lib.hid ⟨hz1, HBN.out⟩
   have HLP := HLEN
   have HKT : Hid (k < Ps.length) := HLT
   have HG0 : Hid (HeldM w w1.heap.size { w6 with drawn := w6.drawn + 1 }) := Lib.hid ⟨(below_step HB0.out hb6).drew, Nat.le_trans hzr hb6.size⟩
   rw [← HKK.out]
   clear c0 hs6 hv6 hb6 htw
   go_wp2_with fail
   refine wp_region_wordsG (by kernel_rfl) (by kernel_rfl) (appTs [10, 12] (flR w bn vp)) (HeldM w w1.heap.size) dflE (dflU w bn tb to Ps.length cap1 k w1.heap.size vp v6 (.slice a0 L.length cap0) Lp LL L Ps kk t) 17 dflN [10, 12, 15, 16] (by kernel_rfl) (by kernel_rfl) (by kernel_rfl)
    dflB (by kernel_rfl) (fun ix kx v e w w' hi hk hne hb hU hT => dfl_T _ _ _ _ _ _ _ _ _ _ _ _ _ _ _ _ _  ix kx v e w w' hk hne hb hU hT) (by decide) (HG0.out) (fun kx hk hge => ?hv0)
    [32, 33, 34, 35, 36, 37, 38, 39, 40, 41, 42, 43] (by kernel_rfl) (forall_ops ?steps) ?behind
   case hv0 =>
    have hge' : 13 ≤ kx := hge
    rcases (show kx = 13 ∨ kx = 14 ∨ kx = 15 ∨ kx = 16 by omega) with rfl | rfl | rfl | rfl
    ·exact ⟨HR.out.drew, HNE.out.1⟩
    ·exact HO.out.stays ((Below.refl _ _).drew)
    ·exact ⟨HC.out.1.stays HC.out.2 ((Below.refl _ _).drew), HC.out.2, HNE.out.2⟩
    ·exact HA.out.stays ((Below.refl _ _).drew)
   case steps =>
    refine ⟨?_, ?_, ?_, ?_, ?_, ?_, ?_, ?_, ?_, ?_, ?_, ?_, ?_, trivial⟩
    ·refine stepG_of rfl ?_
     exact stepR_value (t := 32) (.pointer (some ⟨bn, 2, none⟩)) rfl (fun _ => appTs_other (by decide) (Below.refl _ _)) (fun ac w hG hN hO => by
      have e8 : slot ac 8 = .pointer (some ⟨bn, 0, none⟩) := hO 8 (by kernel_rfl)
      have f8 := slot_at e8
      unfold execOp; go_simp) (fun ac w hG hN => rfl)
    ·refine stepG_of rfl ?_
     exact stepR_value (t := 33) vp rfl (fun _ => appTs_other (by decide) (Below.refl _ _)) (fun ac w hG hN hO => by
      have e32 : slot ac 32 = .pointer (some ⟨bn, 2, none⟩) := hN 0 (by decide)
      have hx : Row w bn #[.int .i64 2, .string ⟨#[]⟩, vp, .slice none 0 0] 44 ∧ _ := hN 13 (by decide)
      have c2 := hx.1.cell 2
      simp only [List.getElem?_toArray, List.getElem?_cons_zero, List.getElem?_cons_succ] at c2
      have f := slot_at e32
      unfold execOp; go_simp) (fun ac w hG hN => rfl)
    ·refine stepG_of rfl ?_
     exact stepR_value (t := 34) (.string kk) rfl (fun _ => appTs_other (by decide) (Below.refl _ _)) (fun ac w hG hN hO => by
      have e11 : slot ac 11 = .string kk := hO 11 (by kernel_rfl)
      exact run_move_slot (.inl rfl) e11) (fun ac w hG hN => rfl)
    ·refine stepG_of rfl ?_
     exact stepR_value (t := 35) (.slice (some ⟨tb, to, none⟩) Ps.length cap1) rfl (fun _ => appTs_other (by decide) (Below.refl _ _)) (fun ac w hG hN hO => by
      have e9 : slot ac 9 = .slice (some ⟨tb, to, none⟩) Ps.length cap1 := hO 9 (by kernel_rfl)
      exact run_move_slot (.inl rfl) e9) (fun ac w hG hN => rfl)
    ·refine stepG_of rfl ?_
     exact stepR_value (t := 36) (.int .i64 k) rfl (fun _ => appTs_other (by decide) (Below.refl _ _)) (fun ac w hG hN hO => by
      have e10 : slot ac 10 = .int .i64 k := hO 10 (by kernel_rfl)
      exact run_move_slot (.inl rfl) e10) (fun ac w hG hN => rfl)
    ·refine stepG_of rfl ?_
     exact stepR_value (t := 37) (.pointer (some ⟨tb, to + k, none⟩)) rfl (fun _ => appTs_other (by decide) (Below.refl _ _)) (fun ac w hG hN hO => by
      have e35 : slot ac 35 = .slice (some ⟨tb, to, none⟩) Ps.length cap1 := hN 3 (by decide)
      have e36 : slot ac 36 = .int .i64 k := hN 4 (by decide)
      have f35 := slot_at e35; have f36 := slot_at e36
      have hkt := HKT.out
      unfold execOp; go_simp) (fun ac w hG hN => rfl)
    ·refine stepG_of rfl ?_
     exact stepR_value (t := 38) (.string t) rfl (fun _ => appTs_other (by decide) (Below.refl _ _)) (fun ac w hG hN hO => by
      have e37 : slot ac 37 = .pointer (some ⟨tb, to + k, none⟩) := hN 5 (by decide)
      have hx : TxtC w tb to Ps ∧ _ := hN 15 (by decide)
      have c : w.cell? ⟨tb, to + k, none⟩ = some (.string t) := by rw [HT.out, ← HPK.out]; exact hx.1 k HLT.out
      have f := slot_at e37
      unfold execOp; go_simp) (fun ac w hG hN => rfl)
    ·refine stepG_of rfl ?_
     exact stepR_value (t := 39) (.int .i64 t.size) rfl (fun _ => appTs_other (by decide) (Below.refl _ _)) (fun ac w hG hN hO => by
      have e38 : slot ac 38 = .string t := hN 6 (by decide)
      have f38 := slot_at e38
      unfold execOp; go_simp) (fun ac w hG hN => rfl)
    ·refine stepG_of rfl ?_
     exact stepR_value (t := 40) (.agg #[.string kk, .int .i64 t.size]) rfl (fun _ => appTs_other (by decide) (Below.refl _ _)) (fun ac w hG hN hO => by
      have e34 : slot ac 34 = .string kk := hN 2 (by decide)
      have e39 : slot ac 39 = .int .i64 t.size := hN 7 (by decide)
      have f34 := slot_at e34
      have f39 := slot_at e39
      unfold execOp; go_simp) (fun ac w hG hN => rfl)
    ·refine stepG_of rfl ?_
     intro ac w hG hN hO
     have e40 : slot ac 40 = .agg #[.string kk, .int .i64 t.size] := hN 8 (by decide)
     refine wp_build_part 40 rfl (x := (⟨kk, (t.size : Int)⟩ : Pt)) e40 ?_
     exact ⟨_, rfl, appTs_other (by decide) ((Below.refl _ _).alloc (Nat.le_refl _) _), hG.on ((Below.refl _ _).alloc (Nat.le_refl _) _), onePt_new w (⟨kk, (t.size : Int)⟩ : Pt)⟩
    ·refine stepG_of rfl ?_
     intro ac w hG hN hO
     have e33 : slot ac 33 = vp := hN 1 (by decide)
     have e41 : OnePt w (slot ac 41) (⟨kk, (t.size : Int)⟩ : Pt) := hN 9 (by decide)
     have hown : OwnP w1.heap.size w vp Lp := hN 14 (by decide)
     have hbs := HBS.out
     have hlp := HLP.out
     have hBw : w1.heap.size ≤ w.heap.size := hG.size
     refine wp_append_one_part 33 41 rfl hown hBw (slotE e33) e41 hlp ?_
     intro v' w' hown' hg
     exact ⟨v', rfl, appTs_at (by decide) (flR_app' hg hown hbs), ⟨hG.below.grown hg hG.below.size (fun j hj => Nat.le_trans (Nat.le_trans hbs.2 (Nat.le_of_lt hbs.1)) (World.ownsRow.lt hown j hj).1), Nat.le_trans hG.size hg.size⟩, hown', hbs.1⟩
    ·refine stepG_of rfl ?_
     exact stepR_value (t := 43) (.pointer (some ⟨bn, 2, none⟩)) rfl (fun _ => appTs_other (by decide) (Below.refl _ _)) (fun ac w hG hN hO => by
      have e8 : slot ac 8 = .pointer (some ⟨bn, 0, none⟩) := hO 8 (by kernel_rfl)
      have f8 := slot_at e8
      unfold execOp; go_simp) (fun ac w hG hN => rfl)
    ·refine stepG_of rfl ?_
     intro ac w hG hN hO
     have e43 : slot ac 43 = .pointer (some ⟨bn, 2, none⟩) := hN 11 (by decide)
     have hrow : Row w bn #[.int .i64 2, .string ⟨#[]⟩, vp, .slice none 0 0] 44 ∧ _ := hN 13 (by decide)
     have hc := hrow.1.cell 2
     have hf := hrow.1.free 2
     simp only [List.getElem?_toArray, List.getElem?_cons_zero, List.getElem?_cons_succ] at hc
     have f1 := slot_at e43
     have hbs := HBS.out
     obtain ⟨u, hu⟩ : ∃ u, u = slot ac 42 := ⟨_, rfl⟩
     have f2 := slot_at hu.symm
     have hown : OwnP w1.heap.size w (slot ac 42) (Lp ++ [(⟨kk, (t.size : Int)⟩ : Pt)]) ∧ _ := hN 10 (by decide)
     rw [← hu] at hown
     obtain ⟨_, ua, uc, hue, _, _⟩ := hown.1.is
     subst hue
     have hs := hrow.1.set 2 (.slice ua (Lp ++ [(⟨kk, (t.size : Int)⟩ : Pt)]).length uc)
     exact wp_skip (w' := w.setCell ⟨bn, 2, none⟩ (.slice ua (Lp ++ [(⟨kk, (t.size : Int)⟩ : Pt)]).length uc)) (by unfold execOp; go_simp) ⟨undef, rfl, appTs_at (by decide) (flR_set' hrow.1 HVP.out hbs.2 _), ⟨hG.below.setCell (p := ⟨bn, 2, none⟩) hbs.2 _, by have := hG.size; simpa [World.setCell] using this⟩, by
      show Row _ bn #[.int .i64 2, .string ⟨#[]⟩, exV _ 12 ac, .slice none 0 0] _
      rw [show exV dflE 12 ac = slot ac 42 from rfl, ← hu]
      exact hs⟩
   case behind =>
    intro ac w5 hG hV hS ha
    have h10 : OwnP w1.heap.size w5 (slot ac 42) (Lp ++ [(⟨kk, (t.size : Int)⟩ : Pt)]) ∧ bn < w1.heap.size := hV 10 (by decide) (by decide)
    have h12 : Row w5 bn #[.int .i64 2, .string ⟨#[]⟩, (slot ac 42), .slice none 0 0] 44 := hV 12 (by decide) (by decide)
    have h15 : TxtC w5 tb to Ps ∧ tb < w5.heap.size ∧ vp.ownBlock ≠ some tb := hV 15 (by decide) (by decide)
    have h16 : AnyO w (.slice a0 L.length cap0) L w5 v6 LL := hV 16 (by decide) (by decide)
    generalize slot ac = sl at ha h12 h10
    subst ha
    simp only [patchL, List.contains_cons, List.contains_nil, Nat.reduceBEq, Bool.or_false, Bool.or_true, if_true, Bool.false_eq_true, if_false, Nat.reduceAdd]
    generalize sl 32 = s32
    generalize sl 33 = s33
    generalize sl 34 = s34
    generalize sl 35 = s35
    generalize sl 36 = s36
    generalize sl 37 = s37
    generalize sl 38 = s38
    generalize sl 39 = s39
    generalize sl 40 = s40
    generalize sl 41 = s41
    generalize sl 42 = s42 at h12 h10 ⊢
    generalize sl 43 = s43
    clear hV hS
    have HR9 := Lib.hid h12; have HO9 := Lib.hid h10.1; have HT9 := Lib.hid h15; have HA9 := Lib.hid h16
    have HB9 := Lib.hid hG.below; have HZ9 := Lib.hid hG.size
    clear hG h10 h12 h15 h16
    obtain ⟨_, ua, uc, hue, _, _⟩ := HO9.out.is
    subst hue
    go_wp2
    go_roundw
    case rel => exact ⟨k + 1, _, by omega, by go_num, by rw [HST.out]; exact HA9.out, HR9.out, by rw [HSP.out]; exact HO9.out, HT9.out.1, HB9.out, HZ9.out⟩
    case measure => simp [intOf]; omega
  ·have hke : Ps.take k = Ps := List.take_of_length_le (by omega)
   have hge : decide ((k : Int) < (Ps.length : Int)) = false := by simp; omega
   rw [hke] at hA hO
   obtain ⟨_, va, vc, hve, _, _⟩ := hO.is
   subst hve
   have hml : (Ps.map partP).length = Ps.length := List.length_map ..
   rw [hml] at hR hO
   have x0 := hR.cell 0; have x1 := hR.cell 1; have x2 := hR.cell 2; have x3 := hR.cell 3
   simp only [List.getElem?_toArray, List.getElem?_cons_zero, List.getElem?_cons_succ] at x0 x1 x2 x3
   have hl2 := HLL.out Ps.length
   rw [List.length_map, List.length_take, List.take_length] at hl2
   have CP7 : Hid (Calls Tryz.prog 63 #[u1, .agg #[.int .i64 2, .string ⟨#[]⟩, .slice va Ps.length vc, .slice none 0 0]] wr (RetOK u1 (putsN L (Ps.map pieceN)) (putN (putsN L (Ps.map pieceN)) (fileN c s.data.toList)) (keyN (fileN c s.data.toList)) wr)) := Lib.hid (by
    have := rPut_any u1 _ (fileN c s.data.toList) (.slice va Ps.length vc) (.slice none 0 0) wr hA.is (by omega) (by unfold fileN; rw [← HPS.out]; exact hO.is) (entries_nil _)
    exact this)
   have HE : Hid (putsN L (seqF c s.data.toList) = putN (putsN L (Ps.map pieceN)) (fileN c s.data.toList)) := Lib.hid (by unfold seqF; rw [← HPS.out, putsN_app]; rfl)
   have HB7 := Lib.hid hB; have HA7 := Lib.hid hA
   clear hA hR hO hT hB hll hl2 hke hml
   go_wp2_with fail
   with_reducible refine CP7.out.mono ?_
   rintro e w8 ⟨v8, rfl, hs8, hb8, hv8⟩
   have HA8 := Lib.hid (HA7.out.next hb8 hv8)
   have HS8 := Lib.hid hs8
   have HB8 := Lib.hid (below_step HB7.out hb8)
   clear hs8 hb8 hv8 x0 x1 x2 x3
   go_wp2
   exact bodyPost_ret (v := .tuple #[v8, .string ⟨(keyN (fileN c s.data.toList)).toArray⟩]) (by simp [results, Tryz.results62, go_sem]) rfl ⟨v8, rfl, by rw [HE.out]; exact HS8.out, HB8.out, by rw [HE.out]; exact HA8.out.2.2⟩
end Go.Proofs.YtlccihidedfemaaGreatDoor

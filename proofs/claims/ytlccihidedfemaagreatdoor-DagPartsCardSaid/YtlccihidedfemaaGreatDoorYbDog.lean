/-
  A round of the document's rawDir.
-/
import Derived.Test.YtlccihidedfemaaGreatDoorYbDoj
import Derived.Test.YtlccihidedfemaaGreatDoorYbDor
set_option linter.unusedVariables false
namespace Go.Proofs.YtlccihidedfemaaGreatDoor
open Go.RowKit
attribute [local go_sem] Oper.semAt_some
def rwR (w0 W0 : World) (bn bf : Nat) (fp : Value) (i : Nat) (w w' : World) : Prop :=
 if i = 11 then w.grownBy w' fp.ownBlock ∧ ∀ g, fp.ownBlock = some g → w0.heap.size < g ∧ bn ≠ g ∧ W0.heap.size ≤ g ∧ ∃ xs, Row w g xs 74
 else ∃ u a n c, W0.heap.size ≤ bf ∧ Row w bf #[.int .i64 2, .string ⟨#[]⟩, .slice a n c, .slice none 0 0] 44 ∧ w0.heap.size < bf ∧ bn ≠ bf ∧ w' = w.setCell ⟨bf, 2, none⟩ u
theorem rwR_app {w0 W0 : World} {bn bf : Nat} {fp : Value} {w w' : World} (h : rwR w0 W0 bn bf fp 11 w w') : w.grownBy w' fp.ownBlock := by unfold rwR at h; rw [if_pos rfl] at h; exact h.1
theorem rwR_app' {w0 W0 : World} {bn bf B : Nat} {fp : Value} {Lp : List Pt} {w w' : World} (h : w.grownBy w' fp.ownBlock) (ho : OwnP B w fp Lp) (h1 : w0.heap.size < B) (h2 : bn < B) (h3 : W0.heap.size ≤ w0.heap.size) : rwR w0 W0 bn bf fp 11 w w' := by
 unfold rwR; rw [if_pos rfl]
 exact ⟨h, fun g hg => ⟨by have := (World.ownsRow.lt ho g hg).1; omega, by have := (World.ownsRow.lt ho g hg).1; omega, by have := (World.ownsRow.lt ho g hg).1; omega, ho.row hg⟩⟩
theorem rwR_set {w0 W0 : World} {bn bf : Nat} {fp : Value} {w w' : World} (h : rwR w0 W0 bn bf fp 13 w w') : ∃ u a n c, W0.heap.size ≤ bf ∧ Row w bf #[.int .i64 2, .string ⟨#[]⟩, .slice a n c, .slice none 0 0] 44 ∧ w0.heap.size < bf ∧ bn ≠ bf ∧ w' = w.setCell ⟨bf, 2, none⟩ u := by unfold rwR at h; rwa [if_neg (by decide)] at h
theorem rwR_set' {w0 W0 : World} {bn bf : Nat} {fp : Value} {w : World} (hr : Row w bf #[.int .i64 2, .string ⟨#[]⟩, fp, .slice none 0 0] 44) (hv : ∃ a n c, fp = .slice a n c) (h1 : w0.heap.size < bf) (h2 : bn ≠ bf) (h3 : W0.heap.size ≤ w0.heap.size) (u : Value) : rwR w0 W0 bn bf fp 13 w (w.setCell ⟨bf, 2, none⟩ u) := by
 obtain ⟨a, n, c, rfl⟩ := hv
 unfold rwR; rw [if_neg (by decide)]; exact ⟨u, a, n, c, by omega, hr, h1, h2, rfl⟩
theorem rwR_own {w0 W0 : World} {bn bf B : Nat} {fp v : Value} {w w' : World} {L : List Pt} (h : rwR w0 W0 bn bf fp 13 w w') (hU : OwnP B w v L) (hb : bf < B) : OwnP B w' v L := by
 obtain ⟨u, _, _, _, _, _, _, _, rfl⟩ := rwR_set h
 exact hU.setBelow (a := ⟨bf, 2, none⟩) hb u
theorem rwR_lt {w0 W0 : World} {bn bf b : Nat} {fp : Value} {w w' : World} (h : rwR w0 W0 bn bf fp 13 w w') (hb : b < w.heap.size) : b < w'.heap.size := by
 obtain ⟨u, _, _, _, _, _, _, _, rfl⟩ := rwR_set h
 simpa [World.setCell] using hb
theorem rwR_txt {w0 W0 : World} {bn bf : Nat} {fp : Value} {w w' : World} {tb to : Nat} {Ps : List (List UInt8)} (h : rwR w0 W0 bn bf fp 13 w w') (hU : TxtC w tb to Ps) : TxtC w' tb to Ps := by
 obtain ⟨u, a, n, c, _, hr, _, _, rfl⟩ := rwR_set h
 have hc := hr.cell 2
 simp only [List.getElem?_toArray, List.getElem?_cons_zero, List.getElem?_cons_succ] at hc
 exact hU.set hc u
theorem two_kinds {w : World} {g : Nat} {xs ys : Array Value} {T S : TypeId} (h1 : Row w g xs T) (h2 : Row w g ys S) (hne : T ≠ S) : False := by
 have h3 := (show w.heap[g]? = _ from h1).symm.trans (show w.heap[g]? = _ from h2)
 cases h3; exact hne rfl
theorem RawIn.wide {w W0 : World} {P : Array Value} {bn Bs : Nat} {wr : World} {lv : Value} {MM : List (List UInt8)} {vp : Value} {es : List En} (h : RawIn w W0 P bn Bs wr lv MM vp es) {w' : World} {row : Option Nat} (hg : wr.grownBy w' row)
  (hr : ∀ g, row = some g → w.heap.size < g ∧ bn ≠ g ∧ W0.heap.size ≤ g ∧ ∃ xs T, Row wr g xs T ∧ T ≠ 9 ∧ T ≠ 78) : RawIn w W0 P bn Bs w' lv MM vp es := by
 refine ⟨?_, ?_, ?_, ?_, h.kept.later hg (fun g e => Nat.le_of_lt (hr g e).1), Nat.le_trans h.size hg.size, h.below.grown hg h.below.size (fun g e => (hr g e).2.2.1)⟩
 ·cases row with
  | none => exact World.ownsRow.kept h.txt hg (by
    cases hv : lv.ownBlock with
    | none => exact .inl rfl
    | some k => exact .inr (fun e => by cases e))
  | some g =>
   obtain ⟨_, _, _, xs, T, h4, h5, _⟩ := hr g rfl
   exact h.txt.turn h4 h5 hg
 ·exact (hg.block bn h.node.lt (fun e => (hr bn e.symm).2.1 rfl)).trans h.node
 ·exact World.ownsRow.kept h.own hg (by
   cases hv : vp.ownBlock with
   | none => exact .inl rfl
   | some k =>
    refine .inr (fun e => ?_)
    obtain ⟨_, _, _, xs, T, h4, _, h6⟩ := hr k e.symm
    obtain ⟨ys, h7⟩ := h.own.row hv
    exact two_kinds h4 h7 h6)
 ·exact (hg.block w.heap.size h.params.lt (fun e => by have := (hr _ e.symm).1; omega)).trans h.params
theorem rwR_raw {w0 W0 : World} {P : Array Value} {bn Bs bf : Nat} {fp lv vp : Value} {MM : List (List UInt8)} {es : List En} {w w' : World} (h : rwR w0 W0 bn bf fp 11 w w') (hU : RawIn w0 W0 P bn Bs w lv MM vp es) : RawIn w0 W0 P bn Bs w' lv MM vp es := by
 unfold rwR at h; rw [if_pos rfl] at h
 refine hU.wide h.1 fun g hg => ?_
 obtain ⟨h1, h2, h4, xs, h3⟩ := h.2 g hg
 exact ⟨h1, h2, h4, xs, _, h3, by decide, by decide⟩
theorem rwR_raw2 {w0 W0 : World} {P : Array Value} {bn Bs bf : Nat} {fp lv vp : Value} {MM : List (List UInt8)} {es : List En} {w w' : World} (h : rwR w0 W0 bn bf fp 13 w w') (hU : RawIn w0 W0 P bn Bs w lv MM vp es) : RawIn w0 W0 P bn Bs w' lv MM vp es := by
 obtain ⟨u, a, n, c, h4, hr, h1, h2, rfl⟩ := rwR_set h
 exact hU.wide (grownBy_set w bf 2 u) fun g hg => by cases hg; exact ⟨h1, h2, h4, _, _, hr, by decide, by decide⟩
theorem rwR_row {w0 W0 : World} {bn bf b : Nat} {fp : Value} {xs : Array Value} {w w' : World} (h : rwR w0 W0 bn bf fp 11 w w') (hU : Row w b xs 78) : Row w' b xs 78 := by
 unfold rwR at h; rw [if_pos rfl] at h
 exact (h.1.block b hU.lt (fun e => by obtain ⟨_, _, _, ys, h3⟩ := h.2 b e.symm; exact two_kinds hU h3 (by decide))).trans hU
theorem rwR_row2 {w0 W0 : World} {bn bf b : Nat} {fp : Value} {xs : Array Value} {w w' : World} (h : rwR w0 W0 bn bf fp 13 w w') (hU : Row w b xs 78) : Row w' b xs 78 := by
 obtain ⟨u, a, n, c, _, hr, h1, h2, rfl⟩ := rwR_set h
 exact hU.other ⟨bf, 2, none⟩ u (fun e => two_kinds hU (show Row w b _ _ by rw [show b = bf from e]; exact hr) (by decide))
def draU (w0 W0 : World) (Pm : Array Value) (bn Bs bf sb eb tb to tl tcap kc Bf : Nat) (fp lv vp : Value) (Lp : List Pt) (MM Ps : List (List UInt8)) (es : List En) (kk t z : ByteArray) (xe : Bool) : Nat → Value → Value → World → Prop
 | 0 => fun v _ _ => v = .pointer (some ⟨bf, 2, none⟩)
 | 1 => fun v _ _ => v = fp
 | 2 => fun v _ _ => v = .agg #[.int .i64 1, .string t, .slice none 0 0, .slice none 0 0]
 | 3 => fun v _ _ => v = .string kk
 | 4 => fun v _ _ => v = .slice (some ⟨tb, to, none⟩) tl tcap
 | 5 => fun v _ _ => v = .int .i64 kc
 | 6 => fun v _ _ => v = .pointer (some ⟨tb, to + kc, none⟩)
 | 7 => fun v _ _ => v = .string t
 | 8 => fun v _ _ => v = .int .i64 t.size
 | 9 => fun v _ _ => v = .agg #[.string kk, .int .i64 t.size]
 | 10 => fun v _ w => OnePt w v (⟨kk, (t.size : Int)⟩ : Pt)
 | 11 => fun v _ w => OwnP Bf w v (Lp ++ [(⟨kk, (t.size : Int)⟩ : Pt)]) ∧ bf < Bf
 | 12 => fun v _ _ => v = .pointer (some ⟨bf, 2, none⟩)
 | 13 => fun _ e w => Row w bf #[.int .i64 2, .string ⟨#[]⟩, e, .slice none 0 0] 44
 | 14 => fun _ _ w => Row w bf #[.int .i64 2, .string ⟨#[]⟩, fp, .slice none 0 0] 44 ∧ fp.ownBlock ≠ some bf
 | 15 => fun _ _ w => Row w sb #[.int .i64 1, .string t, .slice none 0 0, .slice none 0 0] 44
 | 16 => fun _ _ w => TxtC w tb to Ps ∧ tb < w.heap.size ∧ fp.ownBlock ≠ some tb
 | 17 => fun _ _ w => OwnP Bf w fp Lp
 | 18 => fun _ _ w => RawIn w0 W0 Pm bn Bs w lv MM vp es
 | 19 => fun _ _ w => Row w eb #[.string z, .int .i64 2, .bool xe, .string ⟨#[]⟩] 78
 | _ => fun _ _ _ => True
def draN : List (List Nat) := [[], [0, 14], [15], [2], [], [], [4, 5], [6, 16], [7], [3, 8], [9], [1, 10, 17], [], [12, 11, 14]]
def draE : Nat → Option Tmp
 | 13 => some 95
 | _ => none
def draB : List (Nat × Nat) := [(11, 10), (11, 13), (11, 15), (11, 17), (13, 10), (13, 14), (13, 15), (13, 17)]
theorem dra_T (w0 W0 : World) (Pm : Array Value) (bn Bs bf sb eb tb to tl tcap kc Bf : Nat) (fp lv vp : Value) (Lp : List Pt) (MM Ps : List (List UInt8)) (es : List En) (kk t z : ByteArray) (xe : Bool) (ix kx : Nat) (v e : Value) (w w' : World) (hk : kx < 20) (hne : kx ≠ ix) (hbd : (ix, kx) ∉ draB) (hU : (draU w0 W0 Pm bn Bs bf sb eb tb to tl tcap kc Bf fp lv vp Lp MM Ps es kk t z xe) kx v e w) (hT : (appTs [11, 13] (rwR w0 W0 bn bf fp)) ix w w') : (draU w0 W0 Pm bn Bs bf sb eb tb to tl tcap kc Bf fp lv vp Lp MM Ps es kk t z xe) kx v e w' := by
 by_cases hi11 : ix = 11
 ·subst hi11
  have hR := appTs_in (by decide) hT
  rcases (show kx = 0 ∨ kx = 1 ∨ kx = 2 ∨ kx = 3 ∨ kx = 4 ∨ kx = 5 ∨ kx = 6 ∨ kx = 7 ∨ kx = 8 ∨ kx = 9 ∨ kx = 10 ∨ kx = 11 ∨ kx = 12 ∨ kx = 13 ∨ kx = 14 ∨ kx = 15 ∨ kx = 16 ∨ kx = 17 ∨ kx = 18 ∨ kx = 19 by omega) with rfl | rfl | rfl | rfl | rfl | rfl | rfl | rfl | rfl | rfl | rfl | rfl | rfl | rfl | rfl | rfl | rfl | rfl | rfl | rfl
  iterate 10 exact hU
  ·exact absurd (by decide) hbd
  ·exact absurd rfl hne
  ·exact hU
  ·exact absurd (by decide) hbd
  ·exact ⟨((rwR_app hR).block bf hU.1.lt (fun e => hU.2 e.symm)).trans hU.1, hU.2⟩
  ·exact absurd (by decide) hbd
  ·exact ⟨hU.1.grown hU.2.1 (rwR_app hR) hU.2.2, Nat.lt_of_lt_of_le hU.2.1 (rwR_app hR).size, hU.2.2⟩
  ·exact absurd (by decide) hbd
  ·exact rwR_raw hR hU
  ·exact rwR_row hR hU
 by_cases hi13 : ix = 13
 ·subst hi13
  have hR := appTs_in (by decide) hT
  rcases (show kx = 0 ∨ kx = 1 ∨ kx = 2 ∨ kx = 3 ∨ kx = 4 ∨ kx = 5 ∨ kx = 6 ∨ kx = 7 ∨ kx = 8 ∨ kx = 9 ∨ kx = 10 ∨ kx = 11 ∨ kx = 12 ∨ kx = 13 ∨ kx = 14 ∨ kx = 15 ∨ kx = 16 ∨ kx = 17 ∨ kx = 18 ∨ kx = 19 by omega) with rfl | rfl | rfl | rfl | rfl | rfl | rfl | rfl | rfl | rfl | rfl | rfl | rfl | rfl | rfl | rfl | rfl | rfl | rfl | rfl
  iterate 10 exact hU
  ·exact absurd (by decide) hbd
  ·exact ⟨rwR_own hR hU.1 hU.2, hU.2⟩
  ·exact hU
  ·exact absurd rfl hne
  ·exact absurd (by decide) hbd
  ·exact absurd (by decide) hbd
  ·exact ⟨rwR_txt hR hU.1, rwR_lt hR hU.2.1, hU.2.2⟩
  ·exact absurd (by decide) hbd
  ·exact rwR_raw2 hR hU
  ·exact rwR_row2 hR hU
 have hi : ix ∉ [11, 13] := by simp [hi11, hi13]
 have hb : Below w.heap.size w w' := appTs_out hi hT
 rcases (show kx = 0 ∨ kx = 1 ∨ kx = 2 ∨ kx = 3 ∨ kx = 4 ∨ kx = 5 ∨ kx = 6 ∨ kx = 7 ∨ kx = 8 ∨ kx = 9 ∨ kx = 10 ∨ kx = 11 ∨ kx = 12 ∨ kx = 13 ∨ kx = 14 ∨ kx = 15 ∨ kx = 16 ∨ kx = 17 ∨ kx = 18 ∨ kx = 19 by omega) with rfl | rfl | rfl | rfl | rfl | rfl | rfl | rfl | rfl | rfl | rfl | rfl | rfl | rfl | rfl | rfl | rfl | rfl | rfl | rfl
 iterate 10 exact hU
 ·exact OnePt.stays hU hb
 ·exact ⟨OwnP.stays hU.1 hb, hU.2⟩
 ·exact hU
 ·exact Row.step hU hb
 ·exact ⟨Row.step hU.1 hb, hU.2⟩
 ·exact Row.step hU hb
 ·exact ⟨hU.1.stays hU.2.1 hb, Nat.lt_of_lt_of_le hU.2.1 hb.size, hU.2.2⟩
 ·exact OwnP.stays hU hb
 ·exact RawIn.stays hU hb
 ·exact Row.step hU hb
theorem last_of {w : World} {v : Value} {MM : List (List UInt8)} {Mi : List (List UInt8)} {l : List UInt8} (h : IsStrs w v (strsOf MM)) (e : MM = Mi ++ [l]) : ∃ (L7 : List ByteArray) (b o cap : Nat), v = .slice (some ⟨b, o, none⟩) L7.length cap ∧ 0 < L7.length ∧ L7.length ≤ 9223372036854775807 ∧ w.cell? ⟨b, o + (L7.length - 1), none⟩ = some (.string ⟨l.toArray⟩) := by
 obtain ⟨hm, a, cap, hv, _, hc⟩ := h
 have hl : (strsOf MM).length = Mi.length + 1 := by rw [strsOf_len, e, List.length_append]; rfl
 obtain ⟨b, off, rfl, hb, g⟩ := hc (by omega)
 refine ⟨strsOf MM, b, off, cap, hv, by omega, by unfold maxLen at hm; omega, ?_⟩
 have h1 := g ((strsOf MM).length - 1) (by omega)
 have h2 : (strsOf MM)[(strsOf MM).length - 1]'(by omega) = ⟨l.toArray⟩ := by
  rw [strsOf_get (by rw [strsOf_len] at hl ⊢; omega)]
  congr 2
  subst e
  simp [strsOf_len]
 rw [h2] at h1; exact h1
theorem wrN_len {n : Nd} (h : fitN n = true) : (wrN n).length ≤ 50000 := by rw [wrN_fit h]; exact (wrL_len h).2
theorem own_txt {W w : World} {v : Value} {Ps : List (List UInt8)} (h : OwnTxt W w v Ps) : ∃ (a : Option Addr) (cap tb to : Nat), v = .slice a Ps.length cap ∧ (0 < Ps.length → a = some ⟨tb, to, none⟩ ∧ W.heap.size ≤ tb ∧ tb < w.heap.size) ∧ TxtC w tb to Ps := by
 obtain ⟨_, a, cap, hv, _, hc⟩ := h.strs
 by_cases h0 : 0 < Ps.length
 ·obtain ⟨b, off, rfl, hbl, g⟩ := hc (by rw [strsOf_len]; exact h0)
  refine ⟨_, cap, b, off, by rw [hv, strsOf_len], fun _ => ⟨rfl, (h.row (g := b) (by rw [hv]; rfl)).1, hbl⟩, fun i hi => ?_⟩
  have := g i (by rw [strsOf_len]; exact hi)
  rwa [strsOf_get hi] at this
 ·exact ⟨a, cap, 0, 0, by rw [hv, strsOf_len], fun h => absurd h h0, fun i hi => absurd (Nat.lt_of_le_of_lt (Nat.zero_le _) hi) h0⟩
set_option maxRecDepth 100000 in
set_option maxHeartbeats 32000000 in
theorem raw_step (mn av b mx : Nat) (hF : FitAt mn av mx b) (I : List It) (R : ReadyT (cutN mn b mx) I) (hs : ∀ x ∈ I, x.p.size ≤ 100000 ∧ x.c.size ≤ 100000) (k : Nat) (ih : RawAt mn av b mx I k) : RawAt mn av b mx I (k + 1) := by
 intro dp hdp W0 v iv M d w0 hbw ho hi hL
 have hI : I.length ≤ 60 := R.fit.len
 have CD := Lib.hid refDir_any
 have CS := Lib.hid refSplit_any
 have CPC := Lib.hid (fun s hs W => refPiecesO_any mn av b mx hF s hs W)
 have OK := Lib.hid (cutN_ok (mn := mn) (b := b) (mx := mx) (by have := hF.h1; omega) (by have := hF.h2; have := hF.h3; omega))
 have IH := Lib.hid ih
 have HP := Lib.hid R.fit.path; have HS := Lib.hid hs
 obtain ⟨c, hc⟩ : ∃ c, c = cutN mn b mx := ⟨_, rfl⟩
 have HCC := Lib.hid hc
 rw [← hc] at CPC hL R OK ⊢
 have HRD := Lib.hid R
 obtain ⟨td, ht⟩ : ∃ td, td = d.data.toList := ⟨_, rfl⟩
 rw [← ht] at hL ⊢
 have HT := Lib.hid ht
 obtain ⟨V, hV⟩ : ∃ V, V = (w0.alloc (.cells #[.int .i64 mn, .int .i64 av, .int .i64 mx] 23)).alloc (.cells #[.int .i64 3, .string ⟨#[]⟩, .slice none 0 0, .slice none 0 0] 44) := ⟨_, rfl⟩
 have hbV : Below w0.heap.size w0 V := by rw [hV]; exact ((Below.refl _ _).alloc (Nat.le_refl _) _).alloc (by simp) _
 have hR0 : Row V w0.heap.size #[.int .i64 mn, .int .i64 av, .int .i64 mx] 23 := by rw [hV]; exact (Row.made _ _ _).alloc _
 have hRN : Row V (w0.heap.size + 1) #[.int .i64 3, .string ⟨#[]⟩, .slice none 0 0, .slice none 0 0] 44 := by
  have := Row.made (w0.alloc (.cells #[.int .i64 mn, .int .i64 av, .int .i64 mx] 23)) #[.int .i64 3, .string ⟨#[]⟩, .slice none 0 0, .slice none 0 0] 44
  rw [hV]; simpa using this
 have hz1 := hRN.lt
 obtain ⟨bn, hbn⟩ : ∃ bn, bn = w0.heap.size + 1 := ⟨_, rfl⟩
 have HBN := Lib.hid hbn
 have HWW := Lib.hid hbw.size
 have HD0 : Hid (RawIn w0 W0 #[.int .i64 mn, .int .i64 av, .int .i64 mx] bn V.heap.size V v (M ++ (preS c I k td 0).map wrN) (.slice none 0 0) (preE c I k td 0)) := Lib.hid (by
  rw [hbn]
  have e1 : preS c I k td 0 = [] := rfl
  have e2 : preE c I k td 0 = [] := rfl
  rw [e1, e2, List.map_nil, List.append_nil]
  exact ⟨ho.stays hbV, hRN, entries_own_nil _ _, hR0, Kept.of_below hbV, Nat.le_refl _, below_step hbw hbV⟩)
 have HV := Lib.hid hV; have HI0 := Lib.hid hi
 have HLN := Lib.hid hL
 obtain ⟨_, a1, cap1, rfl, _, _⟩ := hi
 have q8 : decide ((dp : Int) ≤ 8) = true := decide_eq_true (by omega)
 clear hV hbV hRN hR0 hc ht hF hs ih hL R ho
 go_enter Tryz.func46, Tryz.ntmps46
 go_wp2_with fail
 rw [← HV.out, ← HBN.out]
 clear hbn
 go_loopw [2, 12] (fun lv i wr => ∃ (j : Nat) (vp : Value), j ≤ I.length ∧ i = .int .i64 j ∧ RawIn w0 W0 #[.int .i64 mn, .int .i64 av, .int .i64 mx] bn V.heap.size wr lv (M ++ (preS c I k td j).map wrN) vp (preE c I k td j)) (fun _ i _ => I.length - (intOf i).toNat)
 case atStart => exact ⟨0, _, Nat.zero_le _, rfl, HD0.out⟩
 case round =>
  obtain ⟨j, vp, hj, rfl, hD⟩ := hrel
  have HD := Lib.hid hD
  have hB := hD.below
  have hpl := pre_le c I k td hj
  clear hD
  by_cases hlt : j < I.length
  ·obtain ⟨_, _, _, e, _, hc⟩ := HI0.out.stays hB
   cases e
   obtain ⟨b1, off, rfl, hbl, g⟩ := hc (by omega)
   obtain ⟨c0, c1, c2, c3⟩ := g j hlt
   clear g hc
   have hbk : decide ((j : Int) < (I.length : Int)) = true := by simpa using (show (j : Int) < I.length by omega)
   have hin := preS_in (c := c) (k := k) (d := td) hlt
   have hout := preS_out (c := c) (k := k) (d := td) hlt
   have ein := preE_in (c := c) (k := k) (d := td) hlt
   have eout := preE_out (c := c) (k := k) (d := td) hlt
   have hle := pre_less (c := c) (k := k) (d := td) hlt
   have hmem : I[j]'hlt ∈ I := List.getElem_mem hlt
   have hxp := HP.out _ (List.getElem_mem hlt)
   have hxs := HS.out _ (List.getElem_mem hlt)
   obtain ⟨x, hx⟩ : ∃ x, I[j]'hlt = x := ⟨_, rfl⟩
   rw [hx] at c0 c1 c2 c3 hin hout ein eout hle hxp hxs hmem
   clear hx
   have HMEM := Lib.hid hmem
   have C := Lib.hid (CD.out x.p hxs.1)
   rw [show x.p.data.toList = x.t from rfl] at C
   have hba := (Below.refl wr.heap.size wr).alloc (Nat.le_refl _) (.cells #[.string x.p, .bool x.d, .bool x.e, .string x.c] 51)
   have HX := Lib.hid (inBox_new wr x 51)
   have HD2 := Lib.hid (HD.out.stays hba)
   clear hba HD hmem
   by_cases hd : dirS x.t = td
   ·have f1 : ((dirS x.t) == d.toList) = true := by rw [beq_iff_eq, Lib.toList_data, ← HT.out]; exact hd
    have HIN := Lib.hid (hin hd); have EIN := Lib.hid (ein hd); have HLE := Lib.hid (hle hd)
    have S := Lib.hid (CS.out x.p hxs.1)
    rw [show x.p.data.toList = x.t from rfl] at S
    have HL := Lib.hid (last_at hxp)
    have HXS := Lib.hid hxs; have HPL := Lib.hid hpl
    clear hin hout ein eout hle hd hxp hxs hpl
    go_wp2_with fail
    refine (C.out _).mono ?_
    rintro e w1 ⟨rfl, hb1⟩
    have HX1 := Lib.hid (HX.out.stays hb1)
    have HD3 := Lib.hid (HD2.out.stays hb1)
    obtain ⟨e0, e1, e2, e3⟩ := HX1.out.cells
    clear c0 c1 c2 c3 hb1 HX HD2 hB
    go_wp2_with fail
    refine (S.out _).mono ?_
    rintro e w2 ⟨v2, rfl, hv2, hb2⟩
    have HX2 := Lib.hid (HX1.out.stays hb2)
    have HD4 := Lib.hid (HD3.out.stays hb2)
    clear e0 e1 e2 e3 hb2 HX1 HD3
    obtain ⟨e0, e1, e2, e3⟩ := HX2.out.cells
    obtain ⟨Mn, hMn⟩ : ∃ Mn, Mn = strsOf (splitS x.t) := ⟨_, rfl⟩
    rw [← hMn] at HL hv2
    clear hMn
    obtain ⟨hm2, a2, cap2, rfl, _, hc2⟩ := hv2
    have hmm2 : Mn.length ≤ 9223372036854775807 := by unfold maxLen at hm2; omega
    have hpos := HL.out.1
    obtain ⟨b2, o2, rfl, _, g2⟩ := hc2 hpos
    have q := g2 (Mn.length - 1) (by omega)
    have HZ := Lib.hid (HL.out.2 (by omega))
    obtain ⟨z, hz⟩ : ∃ z, z = Mn[Mn.length - 1] := ⟨_, rfl⟩
    rw [← hz] at q HZ
    clear hz g2 hc2
    have hw1 : IntKind.i64.wrap ((Mn.length : Int) - 1) = ((Mn.length - 1 : Nat) : Int) := (IntWalk.i64_in _ (by omega)).trans (by omega)
    have hlt2 : Mn.length - 1 < Mn.length := by omega
    have hlx := HX2.out.2
    have htn : ((Mn.length - 1 : Nat) : Int).toNat = Mn.length - 1 := by omega
    go_wp2_with fail
    go_region
    obtain ⟨W5, hW5⟩ : ∃ W5, W5 = (w2.alloc (.cells #[.string z, .int .i64 2, .bool x.e, .string ⟨#[]⟩] 78)).drew := ⟨_, rfl⟩
    obtain ⟨eb, heb⟩ : ∃ eb, eb = w2.heap.size := ⟨_, rfl⟩
    have hbe : Below w2.heap.size w2 W5 := by rw [hW5]; exact ((Below.refl _ _).alloc (Nat.le_refl _) _).drew
    have hRE : Row W5 eb #[.string z, .int .i64 2, .bool x.e, .string ⟨#[]⟩] 78 := by rw [hW5, heb]; exact (Row.made w2 _ _).drew
    rw [← hW5, ← heb]
    have HX5 := Lib.hid (HX2.out.stays hbe)
    have HD5 := Lib.hid (HD4.out.stays hbe)
    have HRE := Lib.hid hRE
    have hge : vp.ownBlock ≠ some eb := fun e => by have := (World.ownsRow.lt HD4.out.own eb e).2; omega
    have HGE := Lib.hid hge
    have hsz4 := HD4.out.size
    have hbeb : bn < eb := by have := HBN.out; omega
    have hz9 : bn < V.heap.size := by have := HBN.out; omega
    have hweb : w0.heap.size < eb := by have := HBN.out; omega
    have hxe : wr.heap.size ≠ eb := by omega
    have hz5 : eb < W5.heap.size := hRE.lt
    clear hW5 hRE hge e0 e1 e2 e3 q hbe heb hlt2 htn hw1 hlx hpos hmm2 hm2
    obtain ⟨e0, e1, e2, e3⟩ := HX5.out.cells
    have HEN : Hid (z = ⟨(lastN x.t).toArray⟩) := Lib.hid (str_list HZ.out)
    rcases hxd : x.d with _ | _
    ·rw [hxd] at e1
     obtain ⟨W6, hW6⟩ : ∃ W6, W6 = W5.alloc (.cells #[.int .i64 2, .string ⟨#[]⟩, .slice none 0 0, .slice none 0 0] 44) := ⟨_, rfl⟩
     have hb6 : Below W5.heap.size W5 W6 := by rw [hW6]; exact (Below.refl _ _).alloc (Nat.le_refl _) _
     obtain ⟨bf, hbf⟩ : ∃ bf, bf = W5.heap.size := ⟨_, rfl⟩
     have hRF : Row W6 bf #[.int .i64 2, .string ⟨#[]⟩, .slice none 0 0, .slice none 0 0] 44 := by rw [hW6, hbf]; exact Row.made _ _ _
     have HWF := Lib.hid hW6; have HBFE := Lib.hid hbf
     have HRF6 := Lib.hid hRF
     have HD6 := Lib.hid (HD5.out.stays hb6)
     have HRE6 := Lib.hid (HRE.out.step hb6)
     have CP := Lib.hid (CPC.out x.c HXS.out.2 W6)
     rw [show x.c.data.toList = x.b from rfl] at CP
     obtain ⟨Ps, hPs⟩ : ∃ Ps, Ps = pcs c x.b := ⟨_, rfl⟩
     have HPS := Lib.hid hPs
     have hxb : x.b.length = x.c.size := by unfold It.b; rw [Lib.size_eq]
     have hpl2 : Ps.length ≤ 100000 := by
      have h1 := pcs_len OK.out.pos x.b.length x.b (Nat.le_refl _)
      have h2 := HXS.out.2
      rw [hPs]; omega
     have p0 := HD5.out.params.cell 0; have p1 := HD5.out.params.cell 1; have p2 := HD5.out.params.cell 2
     simp only [List.getElem?_toArray, List.getElem?_cons_zero, List.getElem?_cons_succ] at p0 p1 p2
     have hlp5 := HD5.out.params.lt
     have hlx5 := HX5.out.2
     have hq : sqT c I k x = seqF c x.b := by unfold sqT; rw [if_neg (by rw [hxd]; decide)]
     have hsub : subN c I k x = fileN c x.b := by unfold subN; rw [if_neg (by rw [hxd]; decide)]
     rw [hq] at HIN HLE; rw [hsub] at EIN
     have HFS : Hid (fitN (fileN c x.b) = true) := Lib.hid (file_fit HRD.out HMEM.out)
     have hbf1 : w0.heap.size < bf := by omega
     have hbf2 : bn < bf := by omega
     have hebf : eb < bf := by omega
     clear hq hsub hPs hW6 hRF hbf
     go_wp2_with fail
     rw [← HWF.out, ← HBFE.out]
     with_reducible refine CP.out.mono ?_
     rintro e w7 ⟨v7, rfl, ho7, hb7⟩
     rw [← HPS.out] at ho7
     obtain ⟨a7, cap7, tb, to, hv7, hab, hT7⟩ := own_txt ho7
     subst hv7
     have HAB := Lib.hid hab; have HT7 := Lib.hid hT7
     have HD7 := Lib.hid (HD6.out.stays hb7)
     have HRF7 := Lib.hid (HRF6.out.step hb7)
     have HRE7 := Lib.hid (HRE6.out.step hb7)
     have hbf7 := HRF7.out.lt
     have HNT7 : Hid (0 < Ps.length → u2.ownBlock ≠ some tb) := Lib.hid (fun h e => by have h1 := (World.ownsRow.lt HD6.out.txt tb e).2; have h2 := (hab h).2.1; omega)
     have HLW := Lib.hid hbw
     clear hab hT7 ho7 hb6 hb7 e0 e1 e2 e3 p0 p1 p2 hlp5 hlx5
     go_wp2
     go_loopw [2, 18] (fun lv i ws => ∃ (q : Nat) (fp : Value), q ≤ Ps.length ∧ i = .int .i64 q ∧ RawIn w0 W0 #[.int .i64 mn, .int .i64 av, .int .i64 mx] bn V.heap.size ws lv (M ++ (preS c I k td j ++ (Ps.take q).map pieceN).map wrN) vp (preE c I k td j) ∧ Row ws bf #[.int .i64 2, .string ⟨#[]⟩, fp, .slice none 0 0] 44 ∧ OwnP w7.heap.size ws fp ((Ps.take q).map partP) ∧ Row ws eb #[.string z, .int .i64 2, .bool x.e, .string ⟨#[]⟩] 78 ∧ TxtC ws tb to Ps ∧ (0 < Ps.length → lv.ownBlock ≠ some tb) ∧ w7.heap.size ≤ ws.heap.size) (fun _ i _ => Ps.length - (intOf i).toNat)
     case atStart => exact ⟨0, _, Nat.zero_le _, rfl, by rw [List.take_zero, List.map_nil, List.append_nil]; exact HD7.out, HRF7.out, parts_own_nil _ _, HRE7.out, HT7.out, HNT7.out, Nat.le_refl _⟩
     case round =>
      obtain ⟨q, fp, hq, rfl, hD, hRf, hO, hRe, hT, hN, hz⟩ := hrel
      have HDq := Lib.hid hD; have HRq := Lib.hid hRf; have HOq := Lib.hid hO; have HEq := Lib.hid hRe; have HTq := Lib.hid hT; have HNq := Lib.hid hN
      have hml : (M ++ (preS c I k td j ++ (Ps.take q).map pieceN).map wrN).length ≤ 900000 := by
       rw [List.length_append, List.length_map, List.length_append, List.length_map, List.length_take]
       have := HLN.out; have := HPL.out; omega
      clear hD hRf hO hRe hT hN
      obtain ⟨Mq, hMq⟩ : ∃ Mq, Mq = M ++ (preS c I k td j ++ (Ps.take q).map pieceN).map wrN := ⟨_, rfl⟩
      rw [← hMq] at HDq hml
      have HMQ := Lib.hid hMq
      by_cases hlq : q < Ps.length
      ·obtain ⟨rfl, htl, htb⟩ := HAB.out (by omega)
       have hbq : decide ((q : Int) < (Ps.length : Int)) = true := by simpa using (show (q : Int) < Ps.length by omega)
       have hst : M ++ (preS c I k td j ++ (Ps.take (q + 1)).map pieceN).map wrN = Mq ++ [wrN (pieceN (Ps[q]'hlq))] := by rw [hMq, List.take_succ_eq_append_getElem hlq]; simp only [List.map_append, List.map_cons, List.map_nil, List.append_assoc]
       have hsp : (Ps.take (q + 1)).map partP = (Ps.take q).map partP ++ [partP (Ps[q]'hlq)] := by rw [List.take_succ_eq_append_getElem hlq, List.map_append]; rfl
       have c0 := HTq.out q hlq
       obtain ⟨pk, hpk⟩ : ∃ pk, Ps[q]'hlq = pk := ⟨_, rfl⟩
       rw [hpk] at hst hsp c0
       have HPK := Lib.hid hpk
       obtain ⟨tp, htp⟩ : ∃ tp : ByteArray, tp = ⟨pk.toArray⟩ := ⟨_, rfl⟩
       have hts : tp.size = pk.length := by rw [htp, Lib.size_eq]
       obtain ⟨kk, hkk⟩ : ∃ kk : ByteArray, kk = ⟨(keyN (pieceN pk)).toArray⟩ := ⟨_, rfl⟩
       obtain ⟨S1, hS1⟩ : ∃ S1 : ByteArray, S1 = ⟨(wrN (pieceN pk)).toArray⟩ := ⟨_, rfl⟩
       have hx9 : partP pk = ⟨kk, (tp.size : Int)⟩ := by unfold partP; rw [hkk, hts]
       rw [hx9] at hsp
       have hS1l : wrN (pieceN pk) = S1.data.toList := by rw [hS1]
       rw [hS1l] at hst
       have CW1 : Hid (∀ W, Calls Tryz.prog 43 #[.agg #[.int .i64 1, .string tp, .slice none 0 0, .slice none 0 0]] W fun e w' => e = .returned (.string S1) ∧ Below W.heap.size W w') := Lib.hid (fun W => by
        rw [htp, hS1]; exact rWrite_any (pieceN pk) (.slice none 0 0) (.slice none 0 0) W (parts_nil _) (entries_nil _))
       have CK1 : Hid (∀ W, Calls Tryz.prog 77 #[.agg #[.int .i64 1, .string tp, .slice none 0 0, .slice none 0 0]] W fun e w' => e = .returned (.string kk) ∧ Below W.heap.size W w') := Lib.hid (fun W => by
        rw [htp, hkk]; exact rKey_any (pieceN pk) (.slice none 0 0) (.slice none 0 0) W (parts_nil _) (entries_nil _))
       obtain ⟨MM, hMM⟩ : ∃ MM, MM = Mq ++ [S1.data.toList] := ⟨_, rfl⟩
       rw [← hMM] at hst
       obtain ⟨Lp, hLp⟩ : ∃ Lp, Lp = (Ps.take q).map partP := ⟨_, rfl⟩
       have HLP : Hid (Lp.length ≤ 1000000) := Lib.hid (by rw [hLp, List.length_map, List.length_take]; omega)
       rw [← hLp] at HOq hsp
       have HST := Lib.hid hst; have HSP := Lib.hid hsp; have HMM := Lib.hid hMM; have HTT := Lib.hid htp
       rw [← htp] at c0
       obtain ⟨Wa, hWa⟩ : ∃ Wa, Wa = wr.alloc (.cells #[.int .i64 1, .string tp, .slice none 0 0, .slice none 0 0] 44) := ⟨_, rfl⟩
       obtain ⟨sb, hsb⟩ : ∃ sb, sb = wr.heap.size := ⟨_, rfl⟩
       have hba : Below wr.heap.size wr Wa := by rw [hWa]; exact (Below.refl _ _).alloc (Nat.le_refl _) _
       have hRS : Row Wa sb #[.int .i64 1, .string tp, .slice none 0 0, .slice none 0 0] 44 := by rw [hWa, hsb]; exact Row.made _ _ _
       have HWA := Lib.hid hWa; have HSB := Lib.hid hsb; have HBA := Lib.hid hba; have HRSA := Lib.hid hRS
       clear hst hsp hMM hLp htp hts hkk hS1 hx9 hS1l hpk hMq hWa hsb hba hRS
       go_wp2_with fail
       rw [← HWA.out, ← HSB.out]
       with_reducible refine (CW1.out _).mono ?_
       rintro e wb ⟨rfl, hbb⟩
       have hbab := below_step HBA.out hbb
       have HDb := Lib.hid (HDq.out.stays hbab)
       have HRb := Lib.hid (HRq.out.step hbab); have HOb := Lib.hid (HOq.out.stays hbab); have HEb := Lib.hid (HEq.out.step hbab)
       have htw : tb < wr.heap.size := by omega
       have HTb := Lib.hid (HTq.out.stays htw hbab)
       have htwb : tb < wb.heap.size := Nat.lt_of_lt_of_le htw hbab.size
       have hsb2 : wr.heap.size ≤ wb.heap.size := hbab.size
       have hRSb := HRSA.out.step hbb
       have HRSB := Lib.hid hRSb
       have sc0 := hRSb.cell 0; have sc1 := hRSb.cell 1; have sc2 := hRSb.cell 2; have sc3 := hRSb.cell 3
       simp only [List.getElem?_toArray, List.getElem?_cons_zero, List.getElem?_cons_succ] at sc0 sc1 sc2 sc3
       have hzb : W0.heap.size ≤ wb.heap.size := HDb.out.below.size
       have hol : Mq.length ≤ 1000000 := by omega
       clear hbb hbab c0 hRSb
       go_wp2_with (at_builtin; refine wpList_append_txt_at rfl _ _ rfl HDb.out.txt hzb rfl rfl rfl hol ?_)
       intro v9 wc hown9 hgc hat
       rw [← HMM.out] at hown9
       have kc : Kept W0.heap.size wb wc := Kept.grown hgc fun g e => HDb.out.txt.row e
       have HD := Lib.hid (HDb.out.text hgc hown9)
       have HRF := Lib.hid (row_kept HRb.out (by decide) kc); have HRS := Lib.hid (row_kept HRSB.out (by decide) kc); have HRE9 := Lib.hid (row_kept HEb.out (by decide) kc)
       have HO := Lib.hid (HOb.out.kept kc)
       have hNv : u2.ownBlock ≠ some tb := HNq.out (by omega)
       have HNT : Hid (0 < Ps.length → v9.ownBlock ≠ some tb) := Lib.hid (fun _ e => by
        rcases hat with h | ⟨g, h, hg⟩
        ·exact hNv (h.symm.trans e)
        ·rw [h] at e; cases e; omega)
       have HC : Hid (TxtC wc tb to Ps ∧ tb < wc.heap.size) := Lib.hid ⟨HTb.out.grown htwb hgc hNv, Nat.lt_of_lt_of_le htwb hgc.size⟩
       have HNE : Hid (fp.ownBlock ≠ some bf ∧ fp.ownBlock ≠ some tb) := Lib.hid ⟨fun e => by have := (World.ownsRow.lt HO.out bf e).1; omega, fun e => by have := (World.ownsRow.lt HO.out tb e).1; omega⟩
       have HVP : Hid (∃ a n c, fp = .slice a n c) := Lib.hid (by obtain ⟨_, a, c, e, _⟩ := HO.out.is; exact ⟨a, _, c, e⟩)
       have hww := HWW.out
       have HBS : Hid (bf < w7.heap.size ∧ w0.heap.size < w7.heap.size ∧ bn < w7.heap.size ∧ W0.heap.size ≤ w0.heap.size) := Lib.hid ⟨hbf7, by omega, by omega, hww⟩
       have HBF : Hid (w0.heap.size < bf ∧ bn ≠ bf ∧ W0.heap.size ≤ bf) := Lib.hid ⟨hbf1, by omega, by omega⟩
       have HKT : Hid (q < Ps.length) := Lib.hid hlq
       have HG0 : Hid (HeldM W0 w7.heap.size { wc with drawn := wc.drawn + 1 }) := Lib.hid ⟨HD.out.below.drew, by have := hgc.size; show w7.heap.size ≤ wc.heap.size; omega⟩
       clear hown9 hgc hat kc sc0 sc1 sc2 sc3 htw htwb hsb2 hzb hNv
       go_wp2_with fail
       refine wp_region_wordsG (by kernel_rfl) (by kernel_rfl) (appTs [11, 13] (rwR w0 W0 bn bf fp)) (HeldM W0 w7.heap.size) draE (draU w0 W0 #[.int .i64 mn, .int .i64 av, .int .i64 mx] bn V.heap.size bf sb eb tb to Ps.length cap7 q w7.heap.size fp v9 vp Lp MM Ps (preE c I k td j) kk tp z x.e) 20 draN [11, 13, 16, 18, 19] (by kernel_rfl) (by kernel_rfl) (by kernel_rfl)
        draB (by kernel_rfl) (fun ix kx v e w w' hi hk hne hb hU hT => dra_T _ _ _ _ _ _ _ _ _ _ _ _ _ _ _ _ _ _ _ _ _ _ _ _ _  ix kx v e w w' hk hne hb hU hT) (by decide) (HG0.out) (fun kx hk hge => ?hv0)
        [84, 85, 86, 87, 88, 89, 90, 91, 92, 93, 94, 95, 96] (by kernel_rfl) (forall_ops ?steps) ?behind
       case hv0 =>
        have hge' : 14 ≤ kx := hge
        rcases (show kx = 14 ∨ kx = 15 ∨ kx = 16 ∨ kx = 17 ∨ kx = 18 ∨ kx = 19 by omega) with rfl | rfl | rfl | rfl | rfl | rfl
        ·exact ⟨HRF.out.drew, HNE.out.1⟩
        ·exact HRS.out.drew
        ·exact ⟨HC.out.1.stays HC.out.2 ((Below.refl _ _).drew), HC.out.2, HNE.out.2⟩
        ·exact HO.out.stays ((Below.refl _ _).drew)
        ·exact HD.out.stays ((Below.refl _ _).drew)
        ·exact HRE9.out.drew
       case steps =>
        refine ⟨?_, ?_, ?_, ?_, ?_, ?_, ?_, ?_, ?_, ?_, ?_, ?_, ?_, ?_, trivial⟩
        ·refine stepG_of rfl ?_
         exact stepR_value (t := 84) (.pointer (some ⟨bf, 2, none⟩)) rfl (fun _ => appTs_other (by decide) (Below.refl _ _)) (fun ac w hG hN hO => by
          have e16 : slot ac 16 = .pointer (some ⟨bf, 0, none⟩) := hO 16 (by kernel_rfl)
          have f16 := slot_at e16
          unfold execOp; go_simp) (fun ac w hG hN => rfl)
        ·refine stepG_of rfl ?_
         exact stepR_value (t := 85) fp rfl (fun _ => appTs_other (by decide) (Below.refl _ _)) (fun ac w hG hN hO => by
          have e84 : slot ac 84 = .pointer (some ⟨bf, 2, none⟩) := hN 0 (by decide)
          have hx : Row w bf #[.int .i64 2, .string ⟨#[]⟩, fp, .slice none 0 0] 44 ∧ _ := hN 14 (by decide)
          have c2 := hx.1.cell 2
          simp only [List.getElem?_toArray, List.getElem?_cons_zero, List.getElem?_cons_succ] at c2
          have f := slot_at e84
          unfold execOp; go_simp) (fun ac w hG hN => rfl)
        ·refine stepG_of rfl ?_
         exact stepR_value (t := 86) (.agg #[.int .i64 1, .string tp, .slice none 0 0, .slice none 0 0]) rfl (fun _ => appTs_other (by decide) (Below.refl _ _)) (fun ac w hG hN hO => by
          have e19 : slot ac 19 = .pointer (some ⟨sb, 0, none⟩) := hO 19 (by kernel_rfl)
          have hx : Row w sb #[.int .i64 1, .string tp, .slice none 0 0, .slice none 0 0] 44 := hN 15 (by decide)
          have c0 := hx.cell 0; have c1 := hx.cell 1; have c2 := hx.cell 2; have c3 := hx.cell 3
          simp only [List.getElem?_toArray, List.getElem?_cons_zero, List.getElem?_cons_succ] at c0 c1 c2 c3
          have f := slot_at e19
          unfold execOp; go_simp) (fun ac w hG hN => rfl)
        ·refine stepG_of rfl ?_
         intro ac w hG hN hO
         have e86 : slot ac 86 = .agg #[.int .i64 1, .string tp, .slice none 0 0, .slice none 0 0] := hN 2 (by decide)
         refine wp_callx 77 _ _ rfl (enters_of Tryz.func77 (by kernel_rfl) rfl) #[.agg #[.int .i64 1, .string tp, .slice none 0 0, .slice none 0 0]] (by simp [eval_slot, e86]) (calls_valN (CK1.out w)) ?_
         rintro v w'' ⟨hv, hb⟩
         exact ⟨v, rfl, (appTs_other (by decide) hb), hG.on hb, hv⟩
        ·refine stepG_of rfl ?_
         exact stepR_value (t := 88) (.slice (some ⟨tb, to, none⟩) Ps.length cap7) rfl (fun _ => appTs_other (by decide) (Below.refl _ _)) (fun ac w hG hN hO => by
          have e17 : slot ac 17 = .slice (some ⟨tb, to, none⟩) Ps.length cap7 := hO 17 (by kernel_rfl)
          exact run_move_slot (.inl rfl) e17) (fun ac w hG hN => rfl)
        ·refine stepG_of rfl ?_
         exact stepR_value (t := 89) (.int .i64 q) rfl (fun _ => appTs_other (by decide) (Below.refl _ _)) (fun ac w hG hN hO => by
          have e18 : slot ac 18 = .int .i64 q := hO 18 (by kernel_rfl)
          exact run_move_slot (.inl rfl) e18) (fun ac w hG hN => rfl)
        ·refine stepG_of rfl ?_
         exact stepR_value (t := 90) (.pointer (some ⟨tb, to + q, none⟩)) rfl (fun _ => appTs_other (by decide) (Below.refl _ _)) (fun ac w hG hN hO => by
          have e88 : slot ac 88 = .slice (some ⟨tb, to, none⟩) Ps.length cap7 := hN 4 (by decide)
          have e89 : slot ac 89 = .int .i64 q := hN 5 (by decide)
          have f35 := slot_at e88; have f36 := slot_at e89
          have hkt := HKT.out
          unfold execOp; go_simp) (fun ac w hG hN => rfl)
        ·refine stepG_of rfl ?_
         exact stepR_value (t := 91) (.string tp) rfl (fun _ => appTs_other (by decide) (Below.refl _ _)) (fun ac w hG hN hO => by
          have e90 : slot ac 90 = .pointer (some ⟨tb, to + q, none⟩) := hN 6 (by decide)
          have hx : TxtC w tb to Ps ∧ _ := hN 16 (by decide)
          have c : w.cell? ⟨tb, to + q, none⟩ = some (.string tp) := by rw [HTT.out, ← HPK.out]; exact hx.1 q HKT.out
          have f := slot_at e90
          unfold execOp; go_simp) (fun ac w hG hN => rfl)
        ·refine stepG_of rfl ?_
         exact stepR_value (t := 92) (.int .i64 tp.size) rfl (fun _ => appTs_other (by decide) (Below.refl _ _)) (fun ac w hG hN hO => by
          have e91 : slot ac 91 = .string tp := hN 7 (by decide)
          have f91 := slot_at e91
          unfold execOp; go_simp) (fun ac w hG hN => rfl)
        ·refine stepG_of rfl ?_
         exact stepR_value (t := 93) (.agg #[.string kk, .int .i64 tp.size]) rfl (fun _ => appTs_other (by decide) (Below.refl _ _)) (fun ac w hG hN hO => by
          have e87 : slot ac 87 = .string kk := hN 3 (by decide)
          have e92 : slot ac 92 = .int .i64 tp.size := hN 8 (by decide)
          have f87 := slot_at e87
          have f92 := slot_at e92
          unfold execOp; go_simp) (fun ac w hG hN => rfl)
        ·refine stepG_of rfl ?_
         intro ac w hG hN hO
         have e93 : slot ac 93 = .agg #[.string kk, .int .i64 tp.size] := hN 9 (by decide)
         refine wp_build_part 93 rfl (x := (⟨kk, (tp.size : Int)⟩ : Pt)) e93 ?_
         exact ⟨_, rfl, appTs_other (by decide) ((Below.refl _ _).alloc (Nat.le_refl _) _), hG.on ((Below.refl _ _).alloc (Nat.le_refl _) _), onePt_new w (⟨kk, (tp.size : Int)⟩ : Pt)⟩
        ·refine stepG_of rfl ?_
         intro ac w hG hN hO
         have e85 : slot ac 85 = fp := hN 1 (by decide)
         have e94 : OnePt w (slot ac 94) (⟨kk, (tp.size : Int)⟩ : Pt) := hN 10 (by decide)
         have hown : OwnP w7.heap.size w fp Lp := hN 17 (by decide)
         have hbs := HBS.out
         refine wp_append_one_part 85 94 rfl hown hG.size (slotE e85) e94 HLP.out ?_
         intro v' w' hown' hg
         exact ⟨v', rfl, appTs_at (by decide) (rwR_app' hg hown hbs.2.1 hbs.2.2.1 HWW.out), ⟨hG.below.grown hg hG.below.size (fun g hj => by have h1 := (World.ownsRow.lt hown g hj).1; have h2 := hbs.2.1; have h3 := hbs.2.2.2; omega), Nat.le_trans hG.size hg.size⟩, hown', hbs.1⟩
        ·refine stepG_of rfl ?_
         exact stepR_value (t := 96) (.pointer (some ⟨bf, 2, none⟩)) rfl (fun _ => appTs_other (by decide) (Below.refl _ _)) (fun ac w hG hN hO => by
          have e16 : slot ac 16 = .pointer (some ⟨bf, 0, none⟩) := hO 16 (by kernel_rfl)
          have f16 := slot_at e16
          unfold execOp; go_simp) (fun ac w hG hN => rfl)
        ·refine stepG_of rfl ?_
         intro ac w hG hN hO
         have e96 : slot ac 96 = .pointer (some ⟨bf, 2, none⟩) := hN 12 (by decide)
         have hrow : Row w bf #[.int .i64 2, .string ⟨#[]⟩, fp, .slice none 0 0] 44 ∧ _ := hN 14 (by decide)
         have hc := hrow.1.cell 2
         have hf := hrow.1.free 2
         simp only [List.getElem?_toArray, List.getElem?_cons_zero, List.getElem?_cons_succ] at hc
         have f1 := slot_at e96
         have hbs := HBS.out
         have hbf := HBF.out
         obtain ⟨u, hu⟩ : ∃ u, u = slot ac 95 := ⟨_, rfl⟩
         have f2 := slot_at hu.symm
         have hown : OwnP w7.heap.size w (slot ac 95) (Lp ++ [(⟨kk, (tp.size : Int)⟩ : Pt)]) ∧ _ := hN 11 (by decide)
         rw [← hu] at hown
         obtain ⟨_, ua, uc, hue, _, _⟩ := hown.1.is
         subst hue
         have hs := hrow.1.set 2 (.slice ua (Lp ++ [(⟨kk, (tp.size : Int)⟩ : Pt)]).length uc)
         exact wp_skip (w' := w.setCell ⟨bf, 2, none⟩ (.slice ua (Lp ++ [(⟨kk, (tp.size : Int)⟩ : Pt)]).length uc)) (by unfold execOp; go_simp) ⟨undef, rfl, appTs_at (by decide) (rwR_set' hrow.1 HVP.out hbf.1 hbf.2.1 HWW.out _), ⟨hG.below.setCell (p := ⟨bf, 2, none⟩) hbf.2.2 _, by have := hG.size; simpa [World.setCell] using this⟩, by
          show Row _ bf #[.int .i64 2, .string ⟨#[]⟩, exV _ 13 ac, .slice none 0 0] _
          rw [show exV draE 13 ac = slot ac 95 from rfl, ← hu]
          exact hs⟩
       case behind =>
        intro ac w5 hG hV hS ha
        have h11 : OwnP w7.heap.size w5 (slot ac 95) (Lp ++ [(⟨kk, (tp.size : Int)⟩ : Pt)]) ∧ bf < w7.heap.size := hV 11 (by decide) (by decide)
        have h13 : Row w5 bf #[.int .i64 2, .string ⟨#[]⟩, (slot ac 95), .slice none 0 0] 44 := hV 13 (by decide) (by decide)
        have h16 : TxtC w5 tb to Ps ∧ tb < w5.heap.size ∧ fp.ownBlock ≠ some tb := hV 16 (by decide) (by decide)
        have h18 : RawIn w0 W0 #[.int .i64 mn, .int .i64 av, .int .i64 mx] bn V.heap.size w5 v9 MM vp (preE c I k td j) := hV 18 (by decide) (by decide)
        have h19 : Row w5 eb #[.string z, .int .i64 2, .bool x.e, .string ⟨#[]⟩] 78 := hV 19 (by decide) (by decide)
        generalize slot ac = sl at ha h13 h11
        subst ha
        simp only [patchL, List.contains_cons, List.contains_nil, Nat.reduceBEq, Bool.or_false, Bool.or_true, if_true, Bool.false_eq_true, if_false, Nat.reduceAdd]
        generalize sl 84 = s84
        generalize sl 85 = s85
        generalize sl 86 = s86
        generalize sl 87 = s87
        generalize sl 88 = s88
        generalize sl 89 = s89
        generalize sl 90 = s90
        generalize sl 91 = s91
        generalize sl 92 = s92
        generalize sl 93 = s93
        generalize sl 94 = s94
        generalize sl 95 = s95 at h13 h11 ⊢
        generalize sl 96 = s96
        clear hV hS
        have HR9 := Lib.hid h13; have HO9 := Lib.hid h11.1; have HT9 := Lib.hid h16; have HD9 := Lib.hid h18; have HE9 := Lib.hid h19
        have HZ9 := Lib.hid hG.size
        clear hG h11 h13 h16 h18 h19
        obtain ⟨_, ua, uc, hue, _, _⟩ := HO9.out.is
        subst hue
        go_wp2
        go_roundw
        case rel => exact ⟨q + 1, _, by omega, by go_num, by rw [HST.out]; exact HD9.out, HR9.out, by rw [HSP.out]; exact HO9.out, HE9.out, HT9.out.1, HNT.out, HZ9.out⟩
        case measure => simp [intOf]; omega
      ·have hke : Ps.take q = Ps := List.take_of_length_le (by omega)
       have hge : decide ((q : Int) < (Ps.length : Int)) = false := by simp; omega
       rw [hke] at HOq hMq
       have hml2 : (Ps.map partP).length = Ps.length := List.length_map ..
       obtain ⟨_, va, vc, hve, _, _⟩ := HOq.out.is
       rw [hml2] at hve
       subst hve
       have x0 := HRq.out.cell 0; have x1 := HRq.out.cell 1; have x2 := HRq.out.cell 2; have x3 := HRq.out.cell 3
       simp only [List.getElem?_toArray, List.getElem?_cons_zero, List.getElem?_cons_succ] at x0 x1 x2 x3
       obtain ⟨S2, hS2⟩ : ∃ S2 : ByteArray, S2 = ⟨(wrN (fileN c x.b)).toArray⟩ := ⟨_, rfl⟩
       have CW2 : Hid (Calls Tryz.prog 43 #[.agg #[.int .i64 2, .string ⟨#[]⟩, .slice va Ps.length vc, .slice none 0 0]] wr fun e w' => e = .returned (.string S2) ∧ Below wr.heap.size wr w') := Lib.hid (by
        rw [hS2]; exact rWrite_any (fileN c x.b) (.slice va Ps.length vc) (.slice none 0 0) wr (by unfold fileN; rw [← HPS.out]; exact HOq.out.is) (entries_nil _))
       have hS2l : S2.data.toList = wrN (fileN c x.b) := by rw [hS2]
       have HLI : Hid (M ++ (preS c I k td (j + 1)).map wrN = Mq ++ [wrN (fileN c x.b)]) := Lib.hid (by rw [hMq, HIN.out]; unfold seqF; rw [← HPS.out]; simp)
       have HS2 := Lib.hid hS2l
       have hol : Mq.length ≤ 1000000 := by omega
       clear hke hMq hml2 hS2 hS2l
       go_wp2_with fail
       with_reducible refine CW2.out.mono ?_
       rintro e wf ⟨rfl, hbf8⟩
       have HDf := Lib.hid (HDq.out.stays hbf8); have HREf := Lib.hid (HEq.out.step hbf8)
       have hzf : W0.heap.size ≤ wf.heap.size := HDf.out.below.size
       clear hbf8 x0 x1 x2 x3
       go_wp2_with (at_builtin; refine wpList_append_txt_at rfl _ _ rfl HDf.out.txt hzf rfl rfl rfl hol ?_)
       intro v9 wt hown9 hgt _
       rw [HS2.out, ← HLI.out] at hown9
       have kt : Kept W0.heap.size wf wt := Kept.grown hgt fun g e => HDf.out.txt.row e
       have HDt := Lib.hid (HDf.out.text hgt hown9)
       have HREt := Lib.hid (row_kept HREf.out (by decide) kt)
       have HMI := HLI
       clear hown9 hgt kt hzf
       obtain ⟨L7, b7, o7, cp7, hv7, hpos7, hmm7, q7⟩ := last_of HDt.out.txt.strs HMI.out
       subst hv7
       obtain ⟨zz, hzz⟩ : ∃ zz : ByteArray, zz = ⟨(wrN (fileN c x.b)).toArray⟩ := ⟨_, rfl⟩
       rw [← hzz] at q7
       have CSM := Lib.hid (fun W => refSum_any zz (by rw [Lib.size_eq, hzz]; have := wrN_len HFS.out; show (wrN (fileN c x.b)).length ≤ _; omega) W)
       obtain ⟨K, hK⟩ : ∃ K : ByteArray, K = ⟨(keyN (fileN c x.b)).toArray⟩ := ⟨_, rfl⟩
       rw [show (⟨(shaSum zz.data.toList).toArray⟩ : ByteArray) = K by rw [hK, hzz, keyN_fit HFS.out, wrN_fit HFS.out]] at CSM
       have hEN : entE x (keyN (fileN c x.b)) = ⟨z, 2, x.e, K⟩ := by unfold entE; rw [HEN.out, hK, hxd]; rfl
       rw [hEN] at EIN
       have hw7 : IntKind.i64.wrap ((L7.length : Int) - 1) = ((L7.length - 1 : Nat) : Int) := (IntWalk.i64_in _ (by omega)).trans (by omega)
       clear hK hEN hzz hxd
       go_wp2_with fail
       refine (CSM.out _).mono ?_
       rintro e w8 ⟨rfl, hb8⟩
       have hR7 := HREt.out.step hb8
       have HD7 := Lib.hid (HDt.out.stays hb8)
       have hge7 : eb < w8.heap.size := hR7.lt
       clear hb8 q7 hpos7 hmm7 hw7
       have r0 := hR7.cell 0; have r1 := hR7.cell 1; have r2 := hR7.cell 2; have r3 := hR7.cell 3
       have n3 := hR7.free 3
       simp only [List.getElem?_toArray, List.getElem?_cons_zero, List.getElem?_cons_succ] at r0 r1 r2 r3
       have hR8 : Row (w8.setCell ⟨eb, 3, none⟩ (.string K)) eb #[.string z, .int .i64 2, .bool x.e, .string K] 78 := by simpa using hR7.set 3 (.string K)
       have HD8 := Lib.hid (HD7.out.other (grownBy_set w8 eb 3 (.string K)) HWW.out (fun g e => by cases e; exact ⟨hweb, by omega, HGE.out, _, _, hR7, by decide⟩))
       have s0 := hR8.cell 0; have s1 := hR8.cell 1; have s2 := hR8.cell 2; have s3 := hR8.cell 3
       have x0 := HD8.out.node.cell 0; have x1 := HD8.out.node.cell 1; have x2 := HD8.out.node.cell 2; have x3 := HD8.out.node.cell 3
       simp only [List.getElem?_toArray, List.getElem?_cons_zero, List.getElem?_cons_succ] at s0 s1 s2 s3 x0 x1 x2 x3
       have hw8 := HD8.out.size
       have HZ8 : Hid (w8.heap.size = (w8.setCell ⟨eb, 3, none⟩ (.string K)).heap.size) := Lib.hid (by simp [World.setCell])
       have hel : (preE c I k td j).length ≤ 1000000 := by have := preE_len c I k td j; omega
       clear hR7 hR8
       go_wp2_with (at_builtin; refine wpList_append_entries2 (y := ⟨z, 2, x.e, K⟩) rfl _ _ rfl HD8.out.own hw8 HZ8.out rfl rfl hel ?_)
       intro v' w9 hown9 hg9
       have hn9 := row_grownE HD8.out.node HD8.out.own hg9 hz9
       have HD9 := Lib.hid (HD8.out.added hg9 hown9 hz9 (by have := HBN.out; omega) HWW.out)
       have z0 := hn9.cell 0; have z1 := hn9.cell 1; have z2 := hn9.cell 2; have z3 := hn9.cell 3
       have m3 := hn9.free 3
       simp only [List.getElem?_toArray, List.getElem?_cons_zero, List.getElem?_cons_succ] at z0 z1 z2 z3
       obtain ⟨_, va2, vc2, hve, _, _⟩ := hown9.is
       subst hve
       rw [← EIN.out] at HD9 ⊢
       obtain ⟨En2, hEn2⟩ : ∃ En2, En2 = preE c I k td (j + 1) := ⟨_, rfl⟩
       rw [← hEn2] at HD9 ⊢
       have HE2 := Lib.hid hEn2
       clear hg9 hown9 hn9 s0 s1 s2 s3 x0 x1 x2 x3 hEn2
       go_wp2
       go_roundw
       case rel => exact ⟨j + 1, _, by omega, by go_num, by rw [← HE2.out]; exact HD9.out⟩
       case measure => simp [intOf]; omega
    ·rw [hxd] at e1
     have HD6 := Lib.hid (HD5.out.other (grownBy_set W5 eb 1 (.int .i64 3)) HWW.out (fun g e => by cases e; exact ⟨hweb, by omega, HGE.out, _, _, HRE.out, by decide⟩))
     have hR6 := HRE.out.set 1 (.int .i64 3)
     have HRE6 : Hid (Row (W5.setCell ⟨eb, 1, none⟩ (.int .i64 3)) eb #[.string z, .int .i64 3, .bool x.e, .string ⟨#[]⟩] 78) := Lib.hid (by simpa using hR6)
     have r0 := HRE.out.cell 0; have r1 := HRE.out.cell 1; have r2 := HRE.out.cell 2; have r3 := HRE.out.cell 3
     have n1 := HRE.out.free 1
     simp only [List.getElem?_toArray, List.getElem?_cons_zero, List.getElem?_cons_succ] at r0 r1 r2 r3
     clear hR6
     have i0 : (W5.setCell ⟨eb, 1, none⟩ (.int .i64 3)).cell? ⟨wr.heap.size, 0, none⟩ = some (.string x.p) := (World.cell?_setCell_other _ _ _ _ (fun e => hxe (by cases e))).trans e0
     have hq : sqT c I k x = seqD c I k x.t := by unfold sqT; rw [if_pos hxd]
     have hsub : subN c I k x = dirN c I k x.t := by unfold subN; rw [if_pos hxd]
     rw [hq] at HIN HLE; rw [hsub] at EIN
     have HFS : Hid (fitN (dirN c I k x.t) = true) := Lib.hid (dir_fit HRD.out k x.t)
     have CKK := Lib.hid (IH.out (dp + 1) (by omega) W0 u2 (.slice (some ⟨b1, off, none⟩) I.length cap1) (M ++ (preS c I k td j).map wrN) x.p (W5.setCell ⟨eb, 1, none⟩ (.int .i64 3)) HD6.out.below HD6.out.txt HI0.out (by
      rw [← HCC.out, show x.p.data.toList = x.t from rfl, List.length_append, List.length_map]
      have := HLN.out; have := HLE.out; omega))
     rw [← HCC.out, show x.p.data.toList = x.t from rfl, List.append_assoc, ← List.map_append, ← HIN.out] at CKK
     have HMI : Hid (∃ Mi, M ++ (preS c I k td (j + 1)).map wrN = Mi ++ [wrN (dirN c I k x.t)]) := Lib.hid (by
      rw [HIN.out]
      obtain ⟨S0, hS0⟩ : ∃ S0, seqD c I k x.t = S0 ++ [dirN c I k x.t] := by cases k with
       | zero => exact ⟨[], rfl⟩
       | succ k => exact ⟨_, rfl⟩
      exact ⟨M ++ ((preS c I k td j) ++ S0).map wrN, by rw [hS0]; simp⟩)
     have HMI := Lib.hid HMI.out.choose_spec
     have p0 := HD6.out.params.cell 0; have p1 := HD6.out.params.cell 1; have p2 := HD6.out.params.cell 2
     simp only [List.getElem?_toArray, List.getElem?_cons_zero, List.getElem?_cons_succ] at p0 p1 p2
     clear hq hsub
     go_wp2_with fail
     refine CKK.out.mono ?_
     rintro e w7 ⟨v7, rfl, ho7, hk7⟩
     have HREt := Lib.hid (row_kept HRE6.out (by decide) hk7)
     have HDt := Lib.hid (HD6.out.call hk7 ho7)
     clear ho7 hk7 p0 p1 p2 e0 e1 e2 e3 r0 r1 r2 r3 n1 i0
     obtain ⟨L7, b7, o7, cp7, hv7, hpos7, hmm7, q7⟩ := last_of HDt.out.txt.strs HMI.out
     subst hv7
     obtain ⟨zz, hzz⟩ : ∃ zz : ByteArray, zz = ⟨(wrN (dirN c I k x.t)).toArray⟩ := ⟨_, rfl⟩
     rw [← hzz] at q7
     have CSM := Lib.hid (fun W => refSum_any zz (by rw [Lib.size_eq, hzz]; have := wrN_len HFS.out; show (wrN (dirN c I k x.t)).length ≤ _; omega) W)
     obtain ⟨K, hK⟩ : ∃ K : ByteArray, K = ⟨(keyN (dirN c I k x.t)).toArray⟩ := ⟨_, rfl⟩
     rw [show (⟨(shaSum zz.data.toList).toArray⟩ : ByteArray) = K by rw [hK, hzz, keyN_fit HFS.out, wrN_fit HFS.out]] at CSM
     have hEN : entE x (keyN (dirN c I k x.t)) = ⟨z, 3, x.e, K⟩ := by unfold entE; rw [HEN.out, hK, hxd]; rfl
     rw [hEN] at EIN
     have hw7 : IntKind.i64.wrap ((L7.length : Int) - 1) = ((L7.length - 1 : Nat) : Int) := (IntWalk.i64_in _ (by omega)).trans (by omega)
     clear hK hEN hzz hxd
     go_wp2_with fail
     refine (CSM.out _).mono ?_
     rintro e w8 ⟨rfl, hb8⟩
     have hR7 := HREt.out.step hb8
     have HD7 := Lib.hid (HDt.out.stays hb8)
     have hge7 : eb < w8.heap.size := hR7.lt
     clear hb8 q7 hpos7 hmm7 hw7
     have r0 := hR7.cell 0; have r1 := hR7.cell 1; have r2 := hR7.cell 2; have r3 := hR7.cell 3
     have n3 := hR7.free 3
     simp only [List.getElem?_toArray, List.getElem?_cons_zero, List.getElem?_cons_succ] at r0 r1 r2 r3
     have hR8 : Row (w8.setCell ⟨eb, 3, none⟩ (.string K)) eb #[.string z, .int .i64 3, .bool x.e, .string K] 78 := by simpa using hR7.set 3 (.string K)
     have HD8 := Lib.hid (HD7.out.other (grownBy_set w8 eb 3 (.string K)) HWW.out (fun g e => by cases e; exact ⟨hweb, by omega, HGE.out, _, _, hR7, by decide⟩))
     have s0 := hR8.cell 0; have s1 := hR8.cell 1; have s2 := hR8.cell 2; have s3 := hR8.cell 3
     have x0 := HD8.out.node.cell 0; have x1 := HD8.out.node.cell 1; have x2 := HD8.out.node.cell 2; have x3 := HD8.out.node.cell 3
     simp only [List.getElem?_toArray, List.getElem?_cons_zero, List.getElem?_cons_succ] at s0 s1 s2 s3 x0 x1 x2 x3
     have hw8 := HD8.out.size
     have HZ8 : Hid (w8.heap.size = (w8.setCell ⟨eb, 3, none⟩ (.string K)).heap.size) := Lib.hid (by simp [World.setCell])
     have hel : (preE c I k td j).length ≤ 1000000 := by have := preE_len c I k td j; omega
     clear hR7 hR8
     go_wp2_with (at_builtin; refine wpList_append_entries2 (y := ⟨z, 3, x.e, K⟩) rfl _ _ rfl HD8.out.own hw8 HZ8.out rfl rfl hel ?_)
     intro v' w9 hown9 hg9
     have hn9 := row_grownE HD8.out.node HD8.out.own hg9 hz9
     have HD9 := Lib.hid (HD8.out.added hg9 hown9 hz9 (by have := HBN.out; omega) HWW.out)
     have z0 := hn9.cell 0; have z1 := hn9.cell 1; have z2 := hn9.cell 2; have z3 := hn9.cell 3
     have m3 := hn9.free 3
     simp only [List.getElem?_toArray, List.getElem?_cons_zero, List.getElem?_cons_succ] at z0 z1 z2 z3
     obtain ⟨_, va2, vc2, hve, _, _⟩ := hown9.is
     subst hve
     rw [← EIN.out] at HD9 ⊢
     obtain ⟨En2, hEn2⟩ : ∃ En2, En2 = preE c I k td (j + 1) := ⟨_, rfl⟩
     rw [← hEn2] at HD9 ⊢
     have HE2 := Lib.hid hEn2
     clear hg9 hown9 hn9 s0 s1 s2 s3 x0 x1 x2 x3 hEn2
     go_wp2
     go_roundw
     case rel => exact ⟨j + 1, _, by omega, by go_num, by rw [← HE2.out]; exact HD9.out⟩
     case measure => simp [intOf]; omega
   ·have f1 : ((dirS x.t) == d.toList) = false := by rw [beq_eq_false_iff_ne, Lib.toList_data, ← HT.out]; exact hd
    have HIN := Lib.hid (hout hd); have EIN := Lib.hid (eout hd)
    clear hin hout ein eout hle hd hxp hxs hpl
    go_wp2_with fail
    refine (C.out _).mono ?_
    rintro e w1 ⟨rfl, hb1⟩
    have HD3 := Lib.hid (HD2.out.stays hb1)
    clear c0 c1 c2 c3 hb1 HX HD2 hB
    go_wp2_with fail
    go_roundw
    case rel => exact ⟨j + 1, vp, by omega, by go_num, by rw [HIN.out, EIN.out]; exact HD3.out⟩
    case measure => simp [intOf]; omega
  ·have hge : decide ((j : Int) < (I.length : Int)) = false := by simp; omega
   obtain ⟨PA1, PA2⟩ := pre_all c I k td (i := j) (by omega)
   have HPA := Lib.hid PA1; have HPB := Lib.hid PA2
   obtain ⟨_, va, vc, hve, _, _⟩ := HD.out.own.is
   obtain ⟨ez, hez⟩ : ∃ ez, ez = (preE c I k td j).length := ⟨_, rfl⟩
   rw [← hez] at hve
   subst hve
   have x0 := HD.out.node.cell 0; have x1 := HD.out.node.cell 1; have x2 := HD.out.node.cell 2; have x3 := HD.out.node.cell 3
   simp only [List.getElem?_toArray, List.getElem?_cons_zero, List.getElem?_cons_succ] at x0 x1 x2 x3
   obtain ⟨S2, hS2⟩ : ∃ S2 : ByteArray, S2 = ⟨(wrN (dirN c I (k + 1) td)).toArray⟩ := ⟨_, rfl⟩
   have CW2 : Hid (Calls Tryz.prog 43 #[.agg #[.int .i64 3, .string ⟨#[]⟩, .slice none 0 0, .slice va ez vc]] wr fun e w' => e = .returned (.string S2) ∧ Below wr.heap.size wr w') := Lib.hid (by
    rw [hS2]; exact rWrite_any (dirN c I (k + 1) td) (.slice none 0 0) (.slice va ez vc) wr (parts_nil _) (by rw [HPB.out]; exact HD.out.own.is))
   have HS2 : Hid (S2.data.toList = wrN (dirN c I (k + 1) td)) := Lib.hid (by rw [hS2])
   have hol : (M ++ (preS c I k td j).map wrN).length ≤ 1000000 := by rw [List.length_append, List.length_map]; have := HLN.out; omega
   have hb0 := HD.out.kept
   clear PA1 PA2 hez hpl hB hS2
   go_wp2_with fail
   with_reducible refine CW2.out.mono ?_
   rintro e w8 ⟨rfl, hb8⟩
   have HD8 := Lib.hid (HD.out.stays hb8)
   have hz8 := HD8.out.below.size
   clear hb8 x0 x1 x2 x3 hb0
   go_wp2_with (at_builtin; refine wpList_append_txt_at rfl _ _ rfl HD8.out.txt hz8 rfl rfl rfl hol ?_)
   intro v' w9 hown9 hg9 _
   have HD9 := Lib.hid (HD8.out.text hg9 hown9)
   have HS9 := Lib.hid hown9
   clear hown9 hg9
   go_wp2
   go_ret
   exact ⟨v', rfl, by
    have e : M ++ (seqD c I (k + 1) td).map wrN = M ++ (preS c I k td j).map wrN ++ [S2.data.toList] := by rw [HPA.out, HS2.out]; simp
    rw [e, List.append_assoc]; exact HS9.out, HD9.out.kept⟩
end Go.Proofs.YtlccihidedfemaaGreatDoor

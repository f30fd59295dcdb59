/-
  Contracts over this translation: the document's dir (a directory's objects are added).
-/
import Derived.Test.YtlccihidedfemaaGreatDoorYbDow
import Derived.Test.YtlccihidedfemaaGreatDoorQb4
import Derived.Test.YtlccihidedfemaaGreatDoorYbTif
import Derived.IntWalk
set_option linter.unusedVariables false
namespace Go.Proofs.YtlccihidedfemaaGreatDoor
open Go.RowKit
attribute [local go_sem] Oper.semAt_some
def sqT (c : List UInt8 → Nat) (I : List It) (k : Nat) (x : It) : List Nd := if x.d then seqD c I k x.t else seqF c x.b
def preS (c : List UInt8 → Nat) (I : List It) (k : Nat) (d : List UInt8) (i : Nat) : List Nd := (inD (I.take i) d).flatMap (sqT c I k)
def preE (c : List UInt8 → Nat) (I : List It) (k : Nat) (d : List UInt8) (i : Nat) : List En := (inD (I.take i) d).map fun x => entE x (keyN (subN c I k x))
theorem inD_step {I : List It} {d : List UInt8} {i : Nat} (hi : i < I.length) : inD (I.take (i + 1)) d = inD (I.take i) d ++ if dirS I[i].t = d then [I[i]] else [] := by
 unfold inD
 rw [List.take_succ_eq_append_getElem hi, List.filter_append, List.filter_cons, List.filter_nil]
 congr 1
 by_cases h : dirS I[i].t = d
 ·rw [if_pos h, decide_eq_true h]; rfl
 ·rw [if_neg h, decide_eq_false h]; rfl
theorem preS_in {c : List UInt8 → Nat} {I : List It} {k : Nat} {d : List UInt8} {i : Nat} (hi : i < I.length) (h : dirS I[i].t = d) : preS c I k d (i + 1) = preS c I k d i ++ sqT c I k I[i] := by
 unfold preS; rw [inD_step hi, if_pos h, List.flatMap_append]; simp
theorem preS_out {c : List UInt8 → Nat} {I : List It} {k : Nat} {d : List UInt8} {i : Nat} (hi : i < I.length) (h : dirS I[i].t ≠ d) : preS c I k d (i + 1) = preS c I k d i := by
 unfold preS; rw [inD_step hi, if_neg h, List.append_nil]
theorem preE_in {c : List UInt8 → Nat} {I : List It} {k : Nat} {d : List UInt8} {i : Nat} (hi : i < I.length) (h : dirS I[i].t = d) : preE c I k d (i + 1) = preE c I k d i ++ [entE I[i] (keyN (subN c I k I[i]))] := by
 unfold preE; rw [inD_step hi, if_pos h, List.map_append]; rfl
theorem preE_out {c : List UInt8 → Nat} {I : List It} {k : Nat} {d : List UInt8} {i : Nat} (hi : i < I.length) (h : dirS I[i].t ≠ d) : preE c I k d (i + 1) = preE c I k d i := by
 unfold preE; rw [inD_step hi, if_neg h, List.append_nil]
theorem preE_len (c : List UInt8 → Nat) (I : List It) (k : Nat) (d : List UInt8) (i : Nat) : (preE c I k d i).length ≤ i := by
 unfold preE inD; rw [List.length_map]
 exact Nat.le_trans (List.length_filter_le _ _) (by rw [List.length_take]; omega)
theorem pre_all (c : List UInt8 → Nat) (I : List It) (k : Nat) (d : List UInt8) {i : Nat} (h : I.length ≤ i) : seqD c I (k + 1) d = preS c I k d i ++ [dirN c I (k + 1) d] ∧ (dirN c I (k + 1) d) = ⟨3, ⟨#[]⟩, [], preE c I k d i⟩ := by
 unfold preS preE
 rw [List.take_of_length_le h]
 exact ⟨rfl, rfl⟩
theorem pre_less {c : List UInt8 → Nat} {I : List It} {k : Nat} {d : List UInt8} {i : Nat} (hi : i < I.length) (h : dirS I[i].t = d) : (preS c I k d i).length + (sqT c I k I[i]).length ≤ (seqD c I (k + 1) d).length := by
 have e : (seqD c I (k + 1) d) = preS c I k d I.length ++ [dirN c I (k + 1) d] := (pre_all c I k d (Nat.le_refl _)).1
 have h2 : I = I.take (i + 1) ++ I.drop (i + 1) := (List.take_append_drop _ _).symm
 have h3 : preS c I k d I.length = preS c I k d (i + 1) ++ (inD (I.drop (i + 1)) d).flatMap (sqT c I k) := by
  unfold preS
  rw [List.take_length]
  conv => lhs; rw [show inD I d = inD (I.take (i + 1)) d ++ inD (I.drop (i + 1)) d by unfold inD; rw [← List.filter_append, List.take_append_drop]]
  rw [List.flatMap_append]
 rw [e, h3, preS_in hi h]
 simp only [List.length_append]
 omega
theorem pre_le (c : List UInt8 → Nat) (I : List It) (k : Nat) (d : List UInt8) {i : Nat} (hi : i ≤ I.length) : (preS c I k d i).length ≤ (seqD c I (k + 1) d).length := by
 have e : (seqD c I (k + 1) d) = preS c I k d I.length ++ [dirN c I (k + 1) d] := (pre_all c I k d (Nat.le_refl _)).1
 have h3 : preS c I k d I.length = preS c I k d i ++ (inD (I.drop i) d).flatMap (sqT c I k) := by
  unfold preS
  rw [List.take_length]
  conv => lhs; rw [show inD I d = inD (I.take i) d ++ inD (I.drop i) d by unfold inD; rw [← List.filter_append, List.take_append_drop]]
  rw [List.flatMap_append]
 rw [e, h3]
 simp only [List.length_append]
 omega
def DirAt (mn av b mx : Nat) (I : List It) (k : Nat) : Prop := ∀ (dp : Nat), dp + k = 9 → ∀ (v iv : Value) (L : List Ob) (d : ByteArray) (w : World), IsObs w v L → IsItems w iv I → L.length + (seqD (cutN mn b mx) I k d.data.toList).length ≤ 700000 →
 Calls Tryz.prog 33 #[pV mn av mx, iv, v, .string d, .int .i64 dp] w (RetOK v L (putsN L (seqD (cutN mn b mx) I k d.data.toList)) (keyN (dirN (cutN mn b mx) I k d.data.toList)) w)
def DirIn (w : World) (P : Array Value) (v0 : Value) (L0 : List Ob) (bn Bs : Nat) (wr : World) (lv : Value) (LL : List Ob) (vp : Value) (es : List En) : Prop :=
 AnyO w v0 L0 wr lv LL ∧ Row wr bn #[.int .i64 3, .string ⟨#[]⟩, .slice none 0 0, vp] 44 ∧ OwnE Bs wr vp es ∧ Row wr w.heap.size P 23 ∧ Below w.heap.size w wr ∧ Bs ≤ wr.heap.size
theorem DirIn.stays {w : World} {P : Array Value} {v0 : Value} {L0 : List Ob} {bn Bs : Nat} {wr : World} {lv : Value} {LL : List Ob} {vp : Value} {es : List En} (h : DirIn w P v0 L0 bn Bs wr lv LL vp es) {w' : World} (hb : Below wr.heap.size wr w') : DirIn w P v0 L0 bn Bs w' lv LL vp es :=
 ⟨h.1.stays hb, h.2.1.step hb, h.2.2.1.stays hb, h.2.2.2.1.step hb, below_step h.2.2.2.2.1 hb, Nat.le_trans h.2.2.2.2.2 hb.size⟩
theorem DirIn.turn {w : World} {P : Array Value} {v0 : Value} {L0 : List Ob} {bn Bs : Nat} {wr : World} {lv : Value} {LL : List Ob} {vp : Value} {es : List En} (h : DirIn w P v0 L0 bn Bs wr lv LL vp es) {eb : Nat} {xs : Array Value} (hr : Row wr eb xs 78) (hne : ∀ g, vp.ownBlock = some g → g < eb) (hb : bn < eb) (hw : w.heap.size < eb) (i : Nat) (u : Value) :
    DirIn w P v0 L0 bn Bs (wr.setCell ⟨eb, i, none⟩ u) lv LL vp es :=
  ⟨h.1.turn (grownBy_set wr eb i u) fun g e => by cases e; exact ⟨Nat.le_of_lt hw, _, _, hr, by decide⟩,
   h.2.1.other ⟨eb, i, none⟩ u (show bn ≠ eb by omega), h.2.2.1.setNe hne u, h.2.2.2.1.other ⟨eb, i, none⟩ u (show w.heap.size ≠ eb by omega),
   h.2.2.2.2.1.setCell (p := ⟨eb, i, none⟩) (Nat.le_of_lt hw) u, by have := h.2.2.2.2.2; simpa [World.setCell] using this⟩
theorem DirIn.next {w : World} {P : Array Value} {v0 : Value} {L0 : List Ob} {bn Bs : Nat} {wr : World} {lv : Value} {LL : List Ob} {vp : Value} {es : List En} (h : DirIn w P v0 L0 bn Bs wr lv LL vp es) {w' : World} (hb : Below wr.heap.size wr w') {lv' : Value} {LL' : List Ob} (hv : lv' = lv ∧ LL' = LL ∨ OwnO wr.heap.size w' lv' LL') : DirIn w P v0 L0 bn Bs w' lv' LL' vp es :=
 ⟨h.1.next hb hv, (h.stays hb).2⟩
theorem DirIn.own {w : World} {P : Array Value} {v0 : Value} {L0 : List Ob} {bn Bs : Nat} {wr : World} {lv : Value} {LL : List Ob} {vp : Value} {es : List En} (h : DirIn w P v0 L0 bn Bs wr lv LL vp es) : OwnE Bs wr vp es := h.2.2.1
theorem DirIn.node {w : World} {P : Array Value} {v0 : Value} {L0 : List Ob} {bn Bs : Nat} {wr : World} {lv : Value} {LL : List Ob} {vp : Value} {es : List En} (h : DirIn w P v0 L0 bn Bs wr lv LL vp es) : Row wr bn #[.int .i64 3, .string ⟨#[]⟩, .slice none 0 0, vp] 44 := h.2.1
theorem DirIn.params {w : World} {P : Array Value} {v0 : Value} {L0 : List Ob} {bn Bs : Nat} {wr : World} {lv : Value} {LL : List Ob} {vp : Value} {es : List En} (h : DirIn w P v0 L0 bn Bs wr lv LL vp es) : Row wr w.heap.size P 23 := h.2.2.2.1
theorem DirIn.below {w : World} {P : Array Value} {v0 : Value} {L0 : List Ob} {bn Bs : Nat} {wr : World} {lv : Value} {LL : List Ob} {vp : Value} {es : List En} (h : DirIn w P v0 L0 bn Bs wr lv LL vp es) : Below w.heap.size w wr := h.2.2.2.2.1
theorem DirIn.size {w : World} {P : Array Value} {v0 : Value} {L0 : List Ob} {bn Bs : Nat} {wr : World} {lv : Value} {LL : List Ob} {vp : Value} {es : List En} (h : DirIn w P v0 L0 bn Bs wr lv LL vp es) : Bs ≤ wr.heap.size := h.2.2.2.2.2
theorem DirIn.added {w : World} {P : Array Value} {v0 : Value} {L0 : List Ob} {bn Bs : Nat} {wr w' : World} {lv : Value} {LL : List Ob} {vp v' : Value} {es es' : List En} (h : DirIn w P v0 L0 bn Bs wr lv LL vp es) (hg : wr.grownBy w' vp.ownBlock) (ho : OwnE Bs w' v' es') (hbn : bn < Bs) (hw : w.heap.size < bn) :
  DirIn w P v0 L0 bn Bs (w'.setCell ⟨bn, 3, none⟩ v') lv LL v' es' := by
 have hlt := fun g (e : vp.ownBlock = some g) => (World.ownsRow.lt h.own g e).1
 have hn := row_grownE h.node h.own hg hbn
 refine ⟨(h.1.turn hg fun g e => ⟨by have := hlt g e; omega, by obtain ⟨xs, hx⟩ := h.own.row e; exact ⟨xs, _, hx, by decide⟩⟩).turn (grownBy_set w' bn 3 v') fun g e => (by cases e; exact ⟨Nat.le_of_lt hw, _, _, hn, by decide⟩), ?_, ho.setBelow (a := ⟨bn, 3, none⟩) hbn v', ?_, ?_, ?_⟩
 ·simpa using hn.set 3 v'
 ·exact (row_grownE h.params h.own hg (by omega)).other ⟨bn, 3, none⟩ v' (show w.heap.size ≠ bn by omega)
 ·exact (h.below.grown hg h.below.size (fun g e => by have := hlt g e; omega)).setCell (p := ⟨bn, 3, none⟩) (Nat.le_of_lt hw) v'
 ·have := h.size; have := hg.size; simp [World.setCell]; omega
set_option maxRecDepth 100000 in
set_option maxHeartbeats 16000000 in
theorem dir_step (mn av b mx : Nat) (hF : FitAt mn av mx b) (I : List It) (hp : ∀ x ∈ I, pathB x.t = true) (hs : ∀ x ∈ I, x.p.size ≤ 100000 ∧ x.c.size ≤ 100000) (hI : I.length ≤ 1000) (k : Nat) (ih : DirAt mn av b mx I k) : DirAt mn av b mx I (k + 1) := by
 intro dp hdp v iv L d w h hi hL
 have CD := Lib.hid refDir_any
 have CS := Lib.hid refSplit_any
 have CF := Lib.hid (rFile_any mn av b mx hF)
 have IH := Lib.hid ih
 have HP := Lib.hid hp; have HS := Lib.hid hs
 obtain ⟨c, hc⟩ : ∃ c, c = cutN mn b mx := ⟨_, rfl⟩
 have HC := Lib.hid hc
 rw [← hc] at CF hL ⊢
 obtain ⟨t, ht⟩ : ∃ t, t = d.data.toList := ⟨_, rfl⟩
 rw [← ht] at hL ⊢
 have HT := Lib.hid ht
 obtain ⟨V, hV⟩ : ∃ V, V = (w.alloc (.cells #[.int .i64 mn, .int .i64 av, .int .i64 mx] 23)).alloc (.cells #[.int .i64 3, .string ⟨#[]⟩, .slice none 0 0, .slice none 0 0] 44) := ⟨_, rfl⟩
 have hbV : Below w.heap.size w V := by rw [hV]; exact ((Below.refl _ _).alloc (Nat.le_refl _) _).alloc (by simp) _
 have hR0 : Row V w.heap.size #[.int .i64 mn, .int .i64 av, .int .i64 mx] 23 := by rw [hV]; exact (Row.made _ _ _).alloc _
 have hRN : Row V (w.heap.size + 1) #[.int .i64 3, .string ⟨#[]⟩, .slice none 0 0, .slice none 0 0] 44 := by
  have := Row.made (w.alloc (.cells #[.int .i64 mn, .int .i64 av, .int .i64 mx] 23)) #[.int .i64 3, .string ⟨#[]⟩, .slice none 0 0, .slice none 0 0] 44
  rw [hV]; simpa using this
 have hz1 := hRN.lt
 obtain ⟨bn, hbn⟩ : ∃ bn, bn = w.heap.size + 1 := ⟨_, rfl⟩
 have HBN := Lib.hid hbn
 have HD0 : Hid (DirIn w #[.int .i64 mn, .int .i64 av, .int .i64 mx] v L bn V.heap.size V v (putsN L (preS c I k t 0)) (.slice none 0 0) (preE c I k t 0)) := Lib.hid (by
  rw [hbn]
  have e1 : preS c I k t 0 = [] := rfl
  have e2 : preE c I k t 0 = [] := rfl
  rw [e1, e2]
  exact ⟨(AnyO.of h).stays hbV, hRN, entries_own_nil _ _, hR0, hbV, Nat.le_refl _⟩)
 have HV := Lib.hid hV; have HI0 := Lib.hid hi
 have HLN := Lib.hid hL
 obtain ⟨_, a0, cap0, rfl, _, _⟩ := h
 obtain ⟨_, a1, cap1, rfl, _, _⟩ := hi
 have q8 : decide ((dp : Int) ≤ 8) = true := decide_eq_true (by omega)
 clear hV hbV hRN hR0 hc ht hF hp hs ih hL
 go_enter Tryz.func33, Tryz.ntmps33
 go_wp2_with fail
 rw [← HV.out, ← HBN.out]
 clear hbn
 go_loopw [2, 13] (fun lv i wr => ∃ (j : Nat) (vp : Value), j ≤ I.length ∧ i = .int .i64 j ∧ DirIn w #[.int .i64 mn, .int .i64 av, .int .i64 mx] (.slice a0 L.length cap0) L bn V.heap.size wr lv (putsN L (preS c I k t j)) vp (preE c I k t j)) (fun _ i _ => I.length - (intOf i).toNat)
 case atStart => exact ⟨0, _, Nat.zero_le _, rfl, HD0.out⟩
 case round =>
  obtain ⟨j, vp, hj, rfl, hD⟩ := hrel
  have HD := Lib.hid hD
  have hB := hD.2.2.2.2.1
  have hll := (putsN_len L (preS c I k t j)).2
  have hpl := pre_le c I k t hj
  clear hD
  by_cases hlt : j < I.length
  ·obtain ⟨_, _, _, e, _, hc⟩ := HI0.out.stays hB
   cases e
   obtain ⟨b1, off, rfl, hbl, g⟩ := hc (by omega)
   obtain ⟨c0, c1, c2, c3⟩ := g j hlt
   clear g hc
   have hbk : decide ((j : Int) < (I.length : Int)) = true := by simpa using (show (j : Int) < I.length by omega)
   have hin := preS_in (c := c) (k := k) (d := t) hlt
   have hout := preS_out (c := c) (k := k) (d := t) hlt
   have ein := preE_in (c := c) (k := k) (d := t) hlt
   have eout := preE_out (c := c) (k := k) (d := t) hlt
   have hle := pre_less (c := c) (k := k) (d := t) hlt
   have hxp := HP.out _ (List.getElem_mem hlt)
   have hxs := HS.out _ (List.getElem_mem hlt)
   obtain ⟨x, hx⟩ : ∃ x, I[j]'hlt = x := ⟨_, rfl⟩
   rw [hx] at c0 c1 c2 c3 hin hout ein eout hle hxp hxs
   clear hx
   have C := Lib.hid (CD.out x.p hxs.1)
   rw [show x.p.data.toList = x.t from rfl] at C
   have hba := (Below.refl wr.heap.size wr).alloc (Nat.le_refl _) (.cells #[.string x.p, .bool x.d, .bool x.e, .string x.c] 51)
   have HX := Lib.hid (inBox_new wr x 51)
   have HD2 := Lib.hid (HD.out.stays hba)
   have HI2 := Lib.hid (HI0.out.stays (below_step hB hba))
   clear hba HD
   by_cases hd : dirS x.t = t
   ·have f1 : ((dirS x.t) == d.toList) = true := by rw [beq_iff_eq, Lib.toList_data, ← HT.out]; exact hd
    have HIN := Lib.hid (hin hd); have EIN := Lib.hid (ein hd); have HLE := Lib.hid (hle hd)
    have S := Lib.hid (CS.out x.p hxs.1)
    rw [show x.p.data.toList = x.t from rfl] at S
    have HL := Lib.hid (last_at hxp)
    have HXP := Lib.hid hxp; have HXS := Lib.hid hxs; have HPL := Lib.hid hpl; have HLL := Lib.hid hll
    clear hin hout ein eout hle hd hxp hxs hpl hll
    go_wp2_with fail
    refine (C.out _).mono ?_
    rintro e w1 ⟨rfl, hb1⟩
    have HX1 := Lib.hid (HX.out.stays hb1)
    have HD3 := Lib.hid (HD2.out.stays hb1)
    have HI3 := Lib.hid (HI2.out.stays hb1)
    obtain ⟨e0, e1, e2, e3⟩ := HX1.out.cells
    clear c0 c1 c2 c3 hb1 HX HD2 HI2 hB
    go_wp2_with fail
    refine (S.out _).mono ?_
    rintro e w2 ⟨v2, rfl, hv2, hb2⟩
    have HX2 := Lib.hid (HX1.out.stays hb2)
    have HD4 := Lib.hid (HD3.out.stays hb2)
    have HI4 := Lib.hid (HI3.out.stays hb2)
    clear e0 e1 e2 e3 hb2 HX1 HD3 HI3
    obtain ⟨e0, e1, e2, e3⟩ := HX2.out.cells
    obtain ⟨M, hM⟩ : ∃ M, M = strsOf (splitS x.t) := ⟨_, rfl⟩
    rw [← hM] at HL hv2
    clear hM
    obtain ⟨hm2, a2, cap2, rfl, _, hc2⟩ := hv2
    have hmm2 : M.length ≤ 9223372036854775807 := by unfold maxLen at hm2; omega
    have hpos := HL.out.1
    obtain ⟨b2, o2, rfl, _, g2⟩ := hc2 hpos
    have q := g2 (M.length - 1) (by omega)
    have HZ := Lib.hid (HL.out.2 (by omega))
    obtain ⟨z, hz⟩ : ∃ z, z = M[M.length - 1] := ⟨_, rfl⟩
    rw [← hz] at q HZ
    clear hz g2 hc2
    have hw1 : IntKind.i64.wrap ((M.length : Int) - 1) = ((M.length - 1 : Nat) : Int) := (IntWalk.i64_in _ (by omega)).trans (by omega)
    have hlt2 : M.length - 1 < M.length := by omega
    have hlx := HX2.out.2
    have htn : ((M.length - 1 : Nat) : Int).toNat = M.length - 1 := by omega
    go_wp2_with fail
    go_region
    obtain ⟨W5, hW5⟩ : ∃ W5, W5 = (w2.alloc (.cells #[.string z, .int .i64 2, .bool x.e, .string ⟨#[]⟩] 78)).drew := ⟨_, rfl⟩
    obtain ⟨eb, heb⟩ : ∃ eb, eb = w2.heap.size := ⟨_, rfl⟩
    have hbe : Below w2.heap.size w2 W5 := by rw [hW5]; exact ((Below.refl _ _).alloc (Nat.le_refl _) _).drew
    have hRE : Row W5 eb #[.string z, .int .i64 2, .bool x.e, .string ⟨#[]⟩] 78 := by rw [hW5, heb]; exact (Row.made w2 _ _).drew
    have HWE := Lib.hid hW5
    rw [← hW5, ← heb]
    have HX5 := Lib.hid (HX2.out.stays hbe)
    have HD5 := Lib.hid (HD4.out.stays hbe)
    have HI5 := Lib.hid (HI4.out.stays hbe)
    have HRE := Lib.hid hRE
    have hge : ∀ g, vp.ownBlock = some g → g < eb := fun g e => by rw [heb]; exact (World.ownsRow.lt HD4.out.own g e).2
    have HGE := Lib.hid hge
    have hsz4 := HD4.out.size
    have hbeb : bn < eb := by have := HBN.out; omega
    have hz9 : bn < V.heap.size := by have := HBN.out; omega
    have hweb : w.heap.size < eb := by have := HBN.out; omega
    have hxe : wr.heap.size ≠ eb := by omega
    have hz5 : eb < W5.heap.size := hRE.lt
    clear hW5 hRE hge e0 e1 e2 e3 q hbe heb hlt2 htn hw1 hlx hpos hmm2 hm2
    obtain ⟨e0, e1, e2, e3⟩ := HX5.out.cells
    have HEN : Hid (z = ⟨(lastN x.t).toArray⟩) := Lib.hid (str_list HZ.out)
    rcases hxd : x.d with _ | _
    ·rw [hxd] at e1
     have HD6 := HD5
     have HRE6 : Hid (Row W5 eb #[.string z, .int .i64 2, .bool x.e, .string ⟨#[]⟩] 78) := HRE
     have hq : sqT c I k x = seqF c x.b := by unfold sqT; rw [if_neg (by rw [hxd]; decide)]
     have hsub : subN c I k x = fileN c x.b := by unfold subN; rw [if_neg (by rw [hxd]; decide)]
     rw [hq] at HIN HLE; rw [hsub] at EIN
     have CK := Lib.hid (CF.out u2 (putsN L (preS c I k t j)) x.c W5 HD6.out.1.is HXS.out.2 (by
      have := HLN.out; have := HLL.out; have := HPL.out; have := HXS.out.2; omega))
     rw [show x.c.data.toList = x.b from rfl, ← putsN_app, ← HIN.out] at CK
     obtain ⟨K, hK⟩ : ∃ K : ByteArray, K = ⟨(keyN (fileN c x.b)).toArray⟩ := ⟨_, rfl⟩
     have HK := Lib.hid hK
     have p0 := HD6.out.params.cell 0; have p1 := HD6.out.params.cell 1; have p2 := HD6.out.params.cell 2
     simp only [List.getElem?_toArray, List.getElem?_cons_zero, List.getElem?_cons_succ] at p0 p1 p2
     have hEN : entE x (keyN (fileN c x.b)) = ⟨z, 2, x.e, K⟩ := by unfold entE; rw [HEN.out, hK, hxd]; rfl
     rw [hEN] at EIN
     obtain ⟨LL2, hLL2⟩ : ∃ LL2, LL2 = putsN L (preS c I k t (j + 1)) := ⟨_, rfl⟩
     rw [← hLL2] at CK
     have HL2 := Lib.hid hLL2
     clear hK hEN hq hsub hxd hLL2
     go_wp2_with fail
     refine CK.out.mono ?_
     rintro e w7 ⟨v7, rfl, hs7, hb7, hv7⟩
     rw [← HK.out]
     have hR7 := HRE6.out.step hb7
     have HD7 := Lib.hid (HD6.out.next hb7 hv7)
     have hge7 : eb < w7.heap.size := hR7.lt
     clear hs7 hv7 hb7 p0 p1 p2 e0 e1 e2 e3
     have r0 := hR7.cell 0; have r1 := hR7.cell 1; have r2 := hR7.cell 2; have r3 := hR7.cell 3
     have n3 := hR7.free 3
     simp only [List.getElem?_toArray, List.getElem?_cons_zero, List.getElem?_cons_succ] at r0 r1 r2 r3
     have hR8 : Row (w7.setCell ⟨eb, 3, none⟩ (.string K)) eb #[.string z, .int .i64 2, .bool x.e, .string K] 78 := by simpa using hR7.set 3 (.string K)
     have HD8 := Lib.hid (HD7.out.turn hR7 HGE.out hbeb hweb 3 (.string K))
     have s0 := hR8.cell 0; have s1 := hR8.cell 1; have s2 := hR8.cell 2; have s3 := hR8.cell 3
     have x0 := HD8.out.node.cell 0; have x1 := HD8.out.node.cell 1; have x2 := HD8.out.node.cell 2; have x3 := HD8.out.node.cell 3
     simp only [List.getElem?_toArray, List.getElem?_cons_zero, List.getElem?_cons_succ] at s0 s1 s2 s3 x0 x1 x2 x3
     have hw8 := HD8.out.size
     have HZ8 : Hid (w7.heap.size = (w7.setCell ⟨eb, 3, none⟩ (.string K)).heap.size) := Lib.hid (by simp [World.setCell])
     have hel : (preE c I k t j).length ≤ 1000000 := by have := preE_len c I k t j; omega
     clear hR7 hR8
     go_wp2_with (at_builtin; refine wpList_append_entries2 (y := ⟨z, 2, x.e, K⟩) rfl _ _ rfl HD8.out.own hw8 HZ8.out rfl rfl hel ?_)
     intro v' w9 hown9 hg9
     have hn9 := row_grownE HD8.out.node HD8.out.own hg9 hz9
     have HD9 := Lib.hid (HD8.out.added hg9 hown9 hz9 (by have := HBN.out; omega))
     have z0 := hn9.cell 0; have z1 := hn9.cell 1; have z2 := hn9.cell 2; have z3 := hn9.cell 3
     have m3 := hn9.free 3
     simp only [List.getElem?_toArray, List.getElem?_cons_zero, List.getElem?_cons_succ] at z0 z1 z2 z3
     obtain ⟨_, va2, vc2, hve, _, _⟩ := hown9.is
     subst hve
     rw [← EIN.out] at HD9 ⊢
     obtain ⟨En2, hEn2⟩ : ∃ En2, En2 = preE c I k t (j + 1) := ⟨_, rfl⟩
     rw [← hEn2] at HD9 ⊢
     have HE2 := Lib.hid hEn2
     clear hg9 hown9 hn9 s0 s1 s2 s3 x0 x1 x2 x3 hEn2
     go_wp2
     go_roundw
     case rel => exact ⟨j + 1, _, by omega, by go_num, by rw [← HL2.out, ← HE2.out]; exact HD9.out⟩
     case measure => simp [intOf]; omega
    ·rw [hxd] at e1
     have HD6 := Lib.hid (HD5.out.turn HRE.out HGE.out hbeb hweb 1 (.int .i64 3))
     have hR6 := HRE.out.set 1 (.int .i64 3)
     have HRE6 : Hid (Row (W5.setCell ⟨eb, 1, none⟩ (.int .i64 3)) eb #[.string z, .int .i64 3, .bool x.e, .string ⟨#[]⟩] 78) := Lib.hid (by simpa using hR6)
     have HI6 : Hid (IsItems (W5.setCell ⟨eb, 1, none⟩ (.int .i64 3)) _ I) := Lib.hid (HI0.out.stays HD6.out.below)
     have r0 := HRE.out.cell 0; have r1 := HRE.out.cell 1; have r2 := HRE.out.cell 2; have r3 := HRE.out.cell 3
     have n1 := HRE.out.free 1
     simp only [List.getElem?_toArray, List.getElem?_cons_zero, List.getElem?_cons_succ] at r0 r1 r2 r3
     clear hR6
     have i0 : (W5.setCell ⟨eb, 1, none⟩ (.int .i64 3)).cell? ⟨wr.heap.size, 0, none⟩ = some (.string x.p) := (World.cell?_setCell_other _ _ _ _ (fun e => hxe (by cases e))).trans e0
     have hq : sqT c I k x = seqD c I k x.t := by unfold sqT; rw [if_pos hxd]
     have hsub : subN c I k x = dirN c I k x.t := by unfold subN; rw [if_pos hxd]
     rw [hq] at HIN HLE; rw [hsub] at EIN
     have CK := Lib.hid (IH.out (dp + 1) (by omega) u2 (.slice (some ⟨b1, off, none⟩) I.length cap1) (putsN L (preS c I k t j)) x.p (W5.setCell ⟨eb, 1, none⟩ (.int .i64 3)) HD6.out.1.is HI6.out (by
      rw [← HC.out, show x.p.data.toList = x.t from rfl]
      have := HLN.out; have := HLE.out; have := HLL.out; omega))
     rw [← HC.out, show x.p.data.toList = x.t from rfl, ← putsN_app, ← HIN.out] at CK
     obtain ⟨K, hK⟩ : ∃ K : ByteArray, K = ⟨(keyN (dirN c I k x.t)).toArray⟩ := ⟨_, rfl⟩
     have HK := Lib.hid hK
     have p0 := HD6.out.params.cell 0; have p1 := HD6.out.params.cell 1; have p2 := HD6.out.params.cell 2
     simp only [List.getElem?_toArray, List.getElem?_cons_zero, List.getElem?_cons_succ] at p0 p1 p2
     have hEN : entE x (keyN (dirN c I k x.t)) = ⟨z, 3, x.e, K⟩ := by unfold entE; rw [HEN.out, hK, hxd]; rfl
     rw [hEN] at EIN
     obtain ⟨LL2, hLL2⟩ : ∃ LL2, LL2 = putsN L (preS c I k t (j + 1)) := ⟨_, rfl⟩
     rw [← hLL2] at CK
     have HL2 := Lib.hid hLL2
     clear hK hEN hq hsub hxd hLL2
     go_wp2_with fail
     refine CK.out.mono ?_
     rintro e w7 ⟨v7, rfl, hs7, hb7, hv7⟩
     rw [← HK.out]
     have hR7 := HRE6.out.step hb7
     have HD7 := Lib.hid (HD6.out.next hb7 hv7)
     have hge7 : eb < w7.heap.size := hR7.lt
     clear hs7 hv7 hb7 p0 p1 p2 e0 e1 e2 e3 r0 r1 r2 r3 n1 i0
     have r0 := hR7.cell 0; have r1 := hR7.cell 1; have r2 := hR7.cell 2; have r3 := hR7.cell 3
     have n3 := hR7.free 3
     simp only [List.getElem?_toArray, List.getElem?_cons_zero, List.getElem?_cons_succ] at r0 r1 r2 r3
     have hR8 : Row (w7.setCell ⟨eb, 3, none⟩ (.string K)) eb #[.string z, .int .i64 3, .bool x.e, .string K] 78 := by simpa using hR7.set 3 (.string K)
     have HD8 := Lib.hid (HD7.out.turn hR7 HGE.out hbeb hweb 3 (.string K))
     have s0 := hR8.cell 0; have s1 := hR8.cell 1; have s2 := hR8.cell 2; have s3 := hR8.cell 3
     have x0 := HD8.out.node.cell 0; have x1 := HD8.out.node.cell 1; have x2 := HD8.out.node.cell 2; have x3 := HD8.out.node.cell 3
     simp only [List.getElem?_toArray, List.getElem?_cons_zero, List.getElem?_cons_succ] at s0 s1 s2 s3 x0 x1 x2 x3
     have hw8 := HD8.out.size
     have HZ8 : Hid (w7.heap.size = (w7.setCell ⟨eb, 3, none⟩ (.string K)).heap.size) := Lib.hid (by simp [World.setCell])
     have hel : (preE c I k t j).length ≤ 1000000 := by have := preE_len c I k t j; omega
     clear hR7 hR8
     go_wp2_with (at_builtin; refine wpList_append_entries2 (y := ⟨z, 3, x.e, K⟩) rfl _ _ rfl HD8.out.own hw8 HZ8.out rfl rfl hel ?_)
     intro v' w9 hown9 hg9
     have hn9 := row_grownE HD8.out.node HD8.out.own hg9 hz9
     have HD9 := Lib.hid (HD8.out.added hg9 hown9 hz9 (by have := HBN.out; omega))
     have z0 := hn9.cell 0; have z1 := hn9.cell 1; have z2 := hn9.cell 2; have z3 := hn9.cell 3
     have m3 := hn9.free 3
     simp only [List.getElem?_toArray, List.getElem?_cons_zero, List.getElem?_cons_succ] at z0 z1 z2 z3
     obtain ⟨_, va2, vc2, hve, _, _⟩ := hown9.is
     subst hve
     rw [← EIN.out] at HD9 ⊢
     obtain ⟨En2, hEn2⟩ : ∃ En2, En2 = preE c I k t (j + 1) := ⟨_, rfl⟩
     rw [← hEn2] at HD9 ⊢
     have HE2 := Lib.hid hEn2
     clear hg9 hown9 hn9 s0 s1 s2 s3 x0 x1 x2 x3 hEn2
     go_wp2
     go_roundw
     case rel => exact ⟨j + 1, _, by omega, by go_num, by rw [← HL2.out, ← HE2.out]; exact HD9.out⟩
     case measure => simp [intOf]; omega
   ·have f1 : ((dirS x.t) == d.toList) = false := by rw [beq_eq_false_iff_ne, Lib.toList_data, ← HT.out]; exact hd
    have HIN := Lib.hid (hout hd); have EIN := Lib.hid (eout hd)
    clear hin hout ein eout hle hd hxp hxs hpl hll
    go_wp2_with fail
    refine (C.out _).mono ?_
    rintro e w1 ⟨rfl, hb1⟩
    have HD3 := Lib.hid (HD2.out.stays hb1)
    clear c0 c1 c2 c3 hb1 HX HD2 HI2 hB
    go_wp2_with fail
    go_roundw
    case rel => exact ⟨j + 1, vp, by omega, by go_num, by rw [HIN.out, EIN.out]; exact HD3.out⟩
    case measure => simp [intOf]; omega
  ·have hge : decide ((j : Int) < (I.length : Int)) = false := by simp; omega
   obtain ⟨PA1, PA2⟩ := pre_all c I k t (i := j) (by omega)
   have HPA := Lib.hid PA1; have HPB := Lib.hid PA2
   obtain ⟨_, va, vc, hve, _, _⟩ := HD.out.own.is
   have hle := preE_len c I k t j
   obtain ⟨ez, hez⟩ : ∃ ez, ez = (preE c I k t j).length := ⟨_, rfl⟩
   rw [← hez] at hve
   subst hve
   have x0 := HD.out.node.cell 0; have x1 := HD.out.node.cell 1; have x2 := HD.out.node.cell 2; have x3 := HD.out.node.cell 3
   simp only [List.getElem?_toArray, List.getElem?_cons_zero, List.getElem?_cons_succ] at x0 x1 x2 x3
   have CP7 : Hid (Calls Tryz.prog 63 #[u2, .agg #[.int .i64 3, .string ⟨#[]⟩, .slice none 0 0, .slice va ez vc]] wr (RetOK u2 (putsN L (preS c I k t j)) (putN (putsN L (preS c I k t j)) (dirN c I (k + 1) t)) (keyN (dirN c I (k + 1) t)) wr)) := Lib.hid (by
    have := rPut_any u2 _ (dirN c I (k + 1) t) (.slice none 0 0) (.slice va ez vc) wr HD.out.1.is (by have := HLN.out; omega) (parts_nil _) (by rw [HPB.out]; exact HD.out.own.is)
    exact this)
   have HE : Hid (putsN L (seqD c I (k + 1) t) = putN (putsN L (preS c I k t j)) (dirN c I (k + 1) t)) := Lib.hid (by rw [HPA.out, putsN_app]; rfl)
   clear PA1 PA2 hle hez hll hpl hB
   go_wp2_with fail
   with_reducible refine CP7.out.mono ?_
   rintro e w8 ⟨v8, rfl, hs8, hb8, hv8⟩
   have HA8 := Lib.hid (HD.out.1.next hb8 hv8)
   have HS8 := Lib.hid hs8
   have HB8 := Lib.hid (below_step HD.out.below hb8)
   clear hs8 hb8 hv8 x0 x1 x2 x3
   go_wp2
   exact bodyPost_ret (v := .tuple #[v8, .string ⟨(keyN (dirN c I (k + 1) t)).toArray⟩]) (by simp [results, Tryz.results33, go_sem]) rfl ⟨v8, rfl, by rw [HE.out]; exact HS8.out, HB8.out, by rw [HE.out]; exact HA8.out.2.2⟩
end Go.Proofs.YtlccihidedfemaaGreatDoor

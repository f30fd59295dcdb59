/-
  Texts put together: contracts and laws that this seat's proofs share.
-/
import Derived.Test.YtjpjpmkadoaipaaGreatDoorQb3
import Derived.Test.YtjpjpmkadoaipaaGreatDoorQb2
import Derived.IntWalk
import Derived.Maps.AppendAt
import Derived.Test.YtjpjpmkadoaipaaGreatDoorQb1
import Derived.Test.YtjpjpmkadoaipaaGreatDoorQb0
import Derived.Shelf.Spec.SearchS
import Derived.Shelf.Sort.Plain
import Derived.Shelf.Slices.CompactS
import Derived.Shelf.Slices.In.SortNone
import Derived.Sort.OwnSorted
import Derived.Lib.OwnBridge
import Derived.WalkKit
import Derived.LoopTactic
import Derived.RegionTactic
import Derived.BigRegionIn
import Derived.Sort.CutIn
import Derived.Deep.QuietTactic
import Derived.BigQuiet
import Derived.Outline
import Derived.Laws.Cover1
import Derived.Shelf.Strings.Count
import Derived.Lib.SplitLaws
import Derived.StillTailTactics
set_option linter.unusedVariables false
namespace Go.Proofs.YtjpjpmkadoaipaaGreatDoor
open Go.RowKit
attribute [local go_sem] Oper.semAt_some
def sqT (c : List UInt8 → Nat) (I : List It) (k : Nat) (x : It) : List Nd := if x.d then seqD c I k x.t else seqF c x.b
def preS (c : List UInt8 → Nat) (I : List It) (k : Nat) (d : List UInt8) (i : Nat) : List Nd := (inD (I.take i) d).flatMap (sqT c I k)
def preE (c : List UInt8 → Nat) (I : List It) (k : Nat) (d : List UInt8) (i : Nat) : List En := (inD (I.take i) d).map fun x => entE x (keyN (subN c I k x))
theorem inD_step {I : List It} {d : List UInt8} {i : Nat} (hi : i < I.length) : inD (I.take (i + 1)) d = inD (I.take i) d ++ if dirS I[i].t = d then [I[i]] else [] := by
 unfold inD
 rw [List.take_succ_eq_append_getElem hi, List.filter_append, List.filter_cons, List.filter_nil]
 congr 1
 by_cases h : dirS I[i].t = d
 ·rw [if_pos h, decide_eq_true h]; rfl
 ·rw [if_neg h, decide_eq_false h]; rfl
theorem preS_in {c : List UInt8 → Nat} {I : List It} {k : Nat} {d : List UInt8} {i : Nat} (hi : i < I.length) (h : dirS I[i].t = d) : preS c I k d (i + 1) = preS c I k d i ++ sqT c I k I[i] := by
 unfold preS; rw [inD_step hi, if_pos h, List.flatMap_append]; simp
theorem preS_out {c : List UInt8 → Nat} {I : List It} {k : Nat} {d : List UInt8} {i : Nat} (hi : i < I.length) (h : dirS I[i].t ≠ d) : preS c I k d (i + 1) = preS c I k d i := by
 unfold preS; rw [inD_step hi, if_neg h, List.append_nil]
theorem preE_in {c : List UInt8 → Nat} {I : List It} {k : Nat} {d : List UInt8} {i : Nat} (hi : i < I.length) (h : dirS I[i].t = d) : preE c I k d (i + 1) = preE c I k d i ++ [entE I[i] (keyN (subN c I k I[i]))] := by
 unfold preE; rw [inD_step hi, if_pos h, List.map_append]; rfl
theorem preE_out {c : List UInt8 → Nat} {I : List It} {k : Nat} {d : List UInt8} {i : Nat} (hi : i < I.length) (h : dirS I[i].t ≠ d) : preE c I k d (i + 1) = preE c I k d i := by
 unfold preE; rw [inD_step hi, if_neg h, List.append_nil]
theorem preE_len (c : List UInt8 → Nat) (I : List It) (k : Nat) (d : List UInt8) (i : Nat) : (preE c I k d i).length ≤ i := by
 unfold preE inD; rw [List.length_map]
 exact Nat.le_trans (List.length_filter_le _ _) (by rw [List.length_take]; omega)
theorem pre_all (c : List UInt8 → Nat) (I : List It) (k : Nat) (d : List UInt8) {i : Nat} (h : I.length ≤ i) : seqD c I (k + 1) d = preS c I k d i ++ [dirN c I (k + 1) d] ∧ (dirN c I (k + 1) d) = ⟨3, ⟨#[]⟩, [], preE c I k d i⟩ := by
 unfold preS preE
 rw [List.take_of_length_le h]
 exact ⟨rfl, rfl⟩
theorem pre_less {c : List UInt8 → Nat} {I : List It} {k : Nat} {d : List UInt8} {i : Nat} (hi : i < I.length) (h : dirS I[i].t = d) : (preS c I k d i).length + (sqT c I k I[i]).length ≤ (seqD c I (k + 1) d).length := by
 have e : (seqD c I (k + 1) d) = preS c I k d I.length ++ [dirN c I (k + 1) d] := (pre_all c I k d (Nat.le_refl _)).1
 have h2 : I = I.take (i + 1) ++ I.drop (i + 1) := (List.take_append_drop _ _).symm
 have h3 : preS c I k d I.length = preS c I k d (i + 1) ++ (inD (I.drop (i + 1)) d).flatMap (sqT c I k) := by
  unfold preS
  rw [List.take_length]
  conv => lhs; rw [show inD I d = inD (I.take (i + 1)) d ++ inD (I.drop (i + 1)) d by unfold inD; rw [← List.filter_append, List.take_append_drop]]
  rw [List.flatMap_append]
 rw [e, h3, preS_in hi h]
 simp only [List.length_append]
 omega
theorem pre_le (c : List UInt8 → Nat) (I : List It) (k : Nat) (d : List UInt8) {i : Nat} (hi : i ≤ I.length) : (preS c I k d i).length ≤ (seqD c I (k + 1) d).length := by
 have e : (seqD c I (k + 1) d) = preS c I k d I.length ++ [dirN c I (k + 1) d] := (pre_all c I k d (Nat.le_refl _)).1
 have h3 : preS c I k d I.length = preS c I k d i ++ (inD (I.drop i) d).flatMap (sqT c I k) := by
  unfold preS
  rw [List.take_length]
  conv => lhs; rw [show inD I d = inD (I.take i) d ++ inD (I.drop i) d by unfold inD; rw [← List.filter_append, List.take_append_drop]]
  rw [List.flatMap_append]
 rw [e, h3]
 simp only [List.length_append]
 omega
def DirAt (mn av b mx : Nat) (I : List It) (k : Nat) : Prop := ∀ (dp : Nat), dp + k = 9 → ∀ (v iv : Value) (L : List Ob) (d : ByteArray) (w : World), IsObs w v L → IsItems w iv I → L.length + (seqD (cutN mn b mx) I k d.data.toList).length ≤ 700000 →
 Calls Tryz.prog 24 #[pV mn av mx, iv, v, .string d, .int .i64 dp] w (RetOK v L (putsN L (seqD (cutN mn b mx) I k d.data.toList)) (keyN (dirN (cutN mn b mx) I k d.data.toList)) w)
def DirIn (w : World) (P : Array Value) (v0 : Value) (L0 : List Ob) (bn Bs : Nat) (wr : World) (lv : Value) (LL : List Ob) (vp : Value) (es : List En) : Prop :=
 AnyO w v0 L0 wr lv LL ∧ Row wr bn #[.int .i64 3, .string ⟨#[]⟩, .slice none 0 0, vp] 71 ∧ OwnE Bs wr vp es ∧ Row wr w.heap.size P 23 ∧ Below w.heap.size w wr ∧ Bs ≤ wr.heap.size
theorem DirIn.stays {w : World} {P : Array Value} {v0 : Value} {L0 : List Ob} {bn Bs : Nat} {wr : World} {lv : Value} {LL : List Ob} {vp : Value} {es : List En} (h : DirIn w P v0 L0 bn Bs wr lv LL vp es) {w' : World} (hb : Below wr.heap.size wr w') : DirIn w P v0 L0 bn Bs w' lv LL vp es :=
 ⟨h.1.stays hb, h.2.1.step hb, h.2.2.1.stays hb, h.2.2.2.1.step hb, below_step h.2.2.2.2.1 hb, Nat.le_trans h.2.2.2.2.2 hb.size⟩
theorem DirIn.turn {w : World} {P : Array Value} {v0 : Value} {L0 : List Ob} {bn Bs : Nat} {wr : World} {lv : Value} {LL : List Ob} {vp : Value} {es : List En} (h : DirIn w P v0 L0 bn Bs wr lv LL vp es) {eb : Nat} {xs : Array Value} (hr : Row wr eb xs 89) (hne : ∀ g, vp.ownBlock = some g → g < eb) (hb : bn < eb) (hw : w.heap.size < eb) (i : Nat) (u : Value) :
    DirIn w P v0 L0 bn Bs (wr.setCell ⟨eb, i, none⟩ u) lv LL vp es :=
  ⟨h.1.turn (grownBy_set wr eb i u) fun g e => by cases e; exact ⟨Nat.le_of_lt hw, _, _, hr, by decide⟩,
   h.2.1.other ⟨eb, i, none⟩ u (show bn ≠ eb by omega), h.2.2.1.setNe hne u, h.2.2.2.1.other ⟨eb, i, none⟩ u (show w.heap.size ≠ eb by omega),
   h.2.2.2.2.1.setCell (p := ⟨eb, i, none⟩) (Nat.le_of_lt hw) u, by have := h.2.2.2.2.2; simpa [World.setCell] using this⟩
theorem DirIn.next {w : World} {P : Array Value} {v0 : Value} {L0 : List Ob} {bn Bs : Nat} {wr : World} {lv : Value} {LL : List Ob} {vp : Value} {es : List En} (h : DirIn w P v0 L0 bn Bs wr lv LL vp es) {w' : World} (hb : Below wr.heap.size wr w') {lv' : Value} {LL' : List Ob} (hv : lv' = lv ∧ LL' = LL ∨ OwnO wr.heap.size w' lv' LL') : DirIn w P v0 L0 bn Bs w' lv' LL' vp es :=
 ⟨h.1.next hb hv, (h.stays hb).2⟩
theorem DirIn.own {w : World} {P : Array Value} {v0 : Value} {L0 : List Ob} {bn Bs : Nat} {wr : World} {lv : Value} {LL : List Ob} {vp : Value} {es : List En} (h : DirIn w P v0 L0 bn Bs wr lv LL vp es) : OwnE Bs wr vp es := h.2.2.1
theorem DirIn.node {w : World} {P : Array Value} {v0 : Value} {L0 : List Ob} {bn Bs : Nat} {wr : World} {lv : Value} {LL : List Ob} {vp : Value} {es : List En} (h : DirIn w P v0 L0 bn Bs wr lv LL vp es) : Row wr bn #[.int .i64 3, .string ⟨#[]⟩, .slice none 0 0, vp] 71 := h.2.1
theorem DirIn.params {w : World} {P : Array Value} {v0 : Value} {L0 : List Ob} {bn Bs : Nat} {wr : World} {lv : Value} {LL : List Ob} {vp : Value} {es : List En} (h : DirIn w P v0 L0 bn Bs wr lv LL vp es) : Row wr w.heap.size P 23 := h.2.2.2.1
theorem DirIn.below {w : World} {P : Array Value} {v0 : Value} {L0 : List Ob} {bn Bs : Nat} {wr : World} {lv : Value} {LL : List Ob} {vp : Value} {es : List En} (h : DirIn w P v0 L0 bn Bs wr lv LL vp es) : Below w.heap.size w wr := h.2.2.2.2.1
theorem DirIn.size {w : World} {P : Array Value} {v0 : Value} {L0 : List Ob} {bn Bs : Nat} {wr : World} {lv : Value} {LL : List Ob} {vp : Value} {es : List En} (h : DirIn w P v0 L0 bn Bs wr lv LL vp es) : Bs ≤ wr.heap.size := h.2.2.2.2.2
theorem DirIn.added {w : World} {P : Array Value} {v0 : Value} {L0 : List Ob} {bn Bs : Nat} {wr w' : World} {lv : Value} {LL : List Ob} {vp v' : Value} {es es' : List En} (h : DirIn w P v0 L0 bn Bs wr lv LL vp es) (hg : wr.grownBy w' vp.ownBlock) (ho : OwnE Bs w' v' es') (hbn : bn < Bs) (hw : w.heap.size < bn) :
  DirIn w P v0 L0 bn Bs (w'.setCell ⟨bn, 3, none⟩ v') lv LL v' es' := by
 have hlt := fun g (e : vp.ownBlock = some g) => (World.ownsRow.lt h.own g e).1
 have hn := row_grownE h.node h.own hg hbn
 refine ⟨(h.1.turn hg fun g e => ⟨by have := hlt g e; omega, by obtain ⟨xs, hx⟩ := h.own.row e; exact ⟨xs, _, hx, by decide⟩⟩).turn (grownBy_set w' bn 3 v') fun g e => (by cases e; exact ⟨Nat.le_of_lt hw, _, _, hn, by decide⟩), ?_, ho.setBelow (a := ⟨bn, 3, none⟩) hbn v', ?_, ?_, ?_⟩
 ·simpa using hn.set 3 v'
 ·exact (row_grownE h.params h.own hg (by omega)).other ⟨bn, 3, none⟩ v' (show w.heap.size ≠ bn by omega)
 ·exact (h.below.grown hg h.below.size (fun g e => by have := hlt g e; omega)).setCell (p := ⟨bn, 3, none⟩) (Nat.le_of_lt hw) v'
 ·have := h.size; have := hg.size; simp [World.setCell]; omega
set_option maxRecDepth 100000 in
set_option maxHeartbeats 16000000 in
theorem dir_step (mn av b mx : Nat) (hF : FitAt mn av mx b) (I : List It) (hp : ∀ x ∈ I, pathB x.t = true) (hs : ∀ x ∈ I, x.p.size ≤ 100000 ∧ x.c.size ≤ 100000) (hI : I.length ≤ 1000) (k : Nat) (ih : DirAt mn av b mx I k) : DirAt mn av b mx I (k + 1) := by
 intro dp hdp v iv L d w h hi hL
 have CD := Lib.hid refDir_any
 have CS := Lib.hid refSplit_any
 have CF := Lib.hid (rFile_any mn av b mx hF)
 have IH := Lib.hid ih
 have HP := Lib.hid hp; have HS := Lib.hid hs
 obtain ⟨c, hc⟩ : ∃ c, c = cutN mn b mx := ⟨_, rfl⟩
 have HC := Lib.hid hc
 rw [← hc] at CF hL ⊢
 obtain ⟨t, ht⟩ : ∃ t, t = d.data.toList := ⟨_, rfl⟩
 rw [← ht] at hL ⊢
 have HT := Lib.hid ht
 obtain ⟨V, hV⟩ : ∃ V, V = (w.alloc (.cells #[.int .i64 mn, .int .i64 av, .int .i64 mx] 23)).alloc (.cells #[.int .i64 3, .string ⟨#[]⟩, .slice none 0 0, .slice none 0 0] 71) := ⟨_, rfl⟩
 have hbV : Below w.heap.size w V := by rw [hV]; exact ((Below.refl _ _).alloc (Nat.le_refl _) _).alloc (by simp) _
 have hR0 : Row V w.heap.size #[.int .i64 mn, .int .i64 av, .int .i64 mx] 23 := by rw [hV]; exact (Row.made _ _ _).alloc _
 have hRN : Row V (w.heap.size + 1) #[.int .i64 3, .string ⟨#[]⟩, .slice none 0 0, .slice none 0 0] 71 := by
  have := Row.made (w.alloc (.cells #[.int .i64 mn, .int .i64 av, .int .i64 mx] 23)) #[.int .i64 3, .string ⟨#[]⟩, .slice none 0 0, .slice none 0 0] 71
  rw [hV]; simpa using this
 have hz1 := hRN.lt
 obtain ⟨bn, hbn⟩ : ∃ bn, bn = w.heap.size + 1 := ⟨_, rfl⟩
 have HBN := Lib.hid hbn
 have HD0 : Hid (DirIn w #[.int .i64 mn, .int .i64 av, .int .i64 mx] v L bn V.heap.size V v (putsN L (preS c I k t 0)) (.slice none 0 0) (preE c I k t 0)) := Lib.hid (by
  rw [hbn]
  have e1 : preS c I k t 0 = [] := rfl
  have e2 : preE c I k t 0 = [] := rfl
  rw [e1, e2]
  exact ⟨(AnyO.of h).stays hbV, hRN, entries_own_nil _ _, hR0, hbV, Nat.le_refl _⟩)
 have HV := Lib.hid hV; have HI0 := Lib.hid hi
 have HLN := Lib.hid hL
 obtain ⟨_, a0, cap0, rfl, _, _⟩ := h
 obtain ⟨_, a1, cap1, rfl, _, _⟩ := hi
 have q8 : decide ((dp : Int) ≤ 8) = true := decide_eq_true (by omega)
 clear hV hbV hRN hR0 hc ht hF hp hs ih hL
 go_enter Tryz.func24, Tryz.ntmps24
 go_wp2_with fail
 rw [← HV.out, ← HBN.out]
 clear hbn
 go_loopw [2, 13] (fun lv i wr => ∃ (j : Nat) (vp : Value), j ≤ I.length ∧ i = .int .i64 j ∧ DirIn w #[.int .i64 mn, .int .i64 av, .int .i64 mx] (.slice a0 L.length cap0) L bn V.heap.size wr lv (putsN L (preS c I k t j)) vp (preE c I k t j)) (fun _ i _ => I.length - (intOf i).toNat)
 case atStart => exact ⟨0, _, Nat.zero_le _, rfl, HD0.out⟩
 case round =>
  obtain ⟨j, vp, hj, rfl, hD⟩ := hrel
  have HD := Lib.hid hD
  have hB := hD.2.2.2.2.1
  have hll := (putsN_len L (preS c I k t j)).2
  have hpl := pre_le c I k t hj
  clear hD
  by_cases hlt : j < I.length
  ·obtain ⟨_, _, _, e, _, hc⟩ := HI0.out.stays hB
   cases e
   obtain ⟨b1, off, rfl, hbl, g⟩ := hc (by omega)
   obtain ⟨c0, c1, c2, c3⟩ := g j hlt
   clear g hc
   have hbk : decide ((j : Int) < (I.length : Int)) = true := by simpa using (show (j : Int) < I.length by omega)
   have hin := preS_in (c := c) (k := k) (d := t) hlt
   have hout := preS_out (c := c) (k := k) (d := t) hlt
   have ein := preE_in (c := c) (k := k) (d := t) hlt
   have eout := preE_out (c := c) (k := k) (d := t) hlt
   have hle := pre_less (c := c) (k := k) (d := t) hlt
   have hxp := HP.out _ (List.getElem_mem hlt)
   have hxs := HS.out _ (List.getElem_mem hlt)
   obtain ⟨x, hx⟩ : ∃ x, I[j]'hlt = x := ⟨_, rfl⟩
   rw [hx] at c0 c1 c2 c3 hin hout ein eout hle hxp hxs
   clear hx
   have C := Lib.hid (CD.out x.p hxs.1)
   rw [show x.p.data.toList = x.t from rfl] at C
   have hba := (Below.refl wr.heap.size wr).alloc (Nat.le_refl _) (.cells #[.string x.p, .bool x.d, .bool x.e, .string x.c] 52)
   have HX := Lib.hid (inBox_new wr x 52)
   have HD2 := Lib.hid (HD.out.stays hba)
   have HI2 := Lib.hid (HI0.out.stays (below_step hB hba))
   clear hba HD
   by_cases hd : dirS x.t = t
   ·have f1 : ((dirS x.t) == d.toList) = true := by rw [beq_iff_eq, Lib.toList_data, ← HT.out]; exact hd
    have HIN := Lib.hid (hin hd); have EIN := Lib.hid (ein hd); have HLE := Lib.hid (hle hd)
    have S := Lib.hid (CS.out x.p hxs.1)
    rw [show x.p.data.toList = x.t from rfl] at S
    have HL := Lib.hid (last_at hxp)
    have HXP := Lib.hid hxp; have HXS := Lib.hid hxs; have HPL := Lib.hid hpl; have HLL := Lib.hid hll
    clear hin hout ein eout hle hd hxp hxs hpl hll
    go_wp2_with fail
    refine (C.out _).mono ?_
    rintro e w1 ⟨rfl, hb1⟩
    have HX1 := Lib.hid (HX.out.stays hb1)
    have HD3 := Lib.hid (HD2.out.stays hb1)
    have HI3 := Lib.hid (HI2.out.stays hb1)
    obtain ⟨e0, e1, e2, e3⟩ := HX1.out.cells
    clear c0 c1 c2 c3 hb1 HX HD2 HI2 hB
    go_wp2_with fail
    refine (S.out _).mono ?_
    rintro e w2 ⟨v2, rfl, hv2, hb2⟩
    have HX2 := Lib.hid (HX1.out.stays hb2)
    have HD4 := Lib.hid (HD3.out.stays hb2)
    have HI4 := Lib.hid (HI3.out.stays hb2)
    clear e0 e1 e2 e3 hb2 HX1 HD3 HI3
    obtain ⟨e0, e1, e2, e3⟩ := HX2.out.cells
    obtain ⟨M, hM⟩ : ∃ M, M = strsOf (splitS x.t) := ⟨_, rfl⟩
    rw [← hM] at HL hv2
    clear hM
    obtain ⟨hm2, a2, cap2, rfl, _, hc2⟩ := hv2
    have hmm2 : M.length ≤ 9223372036854775807 := by unfold maxLen at hm2; omega
    have hpos := HL.out.1
    obtain ⟨b2, o2, rfl, _, g2⟩ := hc2 hpos
    have q := g2 (M.length - 1) (by omega)
    have HZ := Lib.hid (HL.out.2 (by omega))
    obtain ⟨z, hz⟩ : ∃ z, z = M[M.length - 1] := ⟨_, rfl⟩
    rw [← hz] at q HZ
    clear hz g2 hc2
    have hw1 : IntKind.i64.wrap ((M.length : Int) - 1) = ((M.length - 1 : Nat) : Int) := (IntWalk.i64_in _ (by omega)).trans (by omega)
    have hlt2 : M.length - 1 < M.length := by omega
    have hlx := HX2.out.2
    have htn : ((M.length - 1 : Nat) : Int).toNat = M.length - 1 := by omega
    go_wp2_with fail
    go_region
    obtain ⟨W5, hW5⟩ : ∃ W5, W5 = (w2.alloc (.cells #[.string z, .int .i64 2, .bool x.e, .string ⟨#[]⟩] 89)).drew := ⟨_, rfl⟩
    obtain ⟨eb, heb⟩ : ∃ eb, eb = w2.heap.size := ⟨_, rfl⟩
    have hbe : Below w2.heap.size w2 W5 := by rw [hW5]; exact ((Below.refl _ _).alloc (Nat.le_refl _) _).drew
    have hRE : Row W5 eb #[.string z, .int .i64 2, .bool x.e, .string ⟨#[]⟩] 89 := by rw [hW5, heb]; exact (Row.made w2 _ _).drew
    have HWE := Lib.hid hW5
    rw [← hW5, ← heb]
    have HX5 := Lib.hid (HX2.out.stays hbe)
    have HD5 := Lib.hid (HD4.out.stays hbe)
    have HI5 := Lib.hid (HI4.out.stays hbe)
    have HRE := Lib.hid hRE
    have hge : ∀ g, vp.ownBlock = some g → g < eb := fun g e => by rw [heb]; exact (World.ownsRow.lt HD4.out.own g e).2
    have HGE := Lib.hid hge
    have hsz4 := HD4.out.size
    have hbeb : bn < eb := by have := HBN.out; omega
    have hz9 : bn < V.heap.size := by have := HBN.out; omega
    have hweb : w.heap.size < eb := by have := HBN.out; omega
    have hxe : wr.heap.size ≠ eb := by omega
    have hz5 : eb < W5.heap.size := hRE.lt
    clear hW5 hRE hge e0 e1 e2 e3 q hbe heb hlt2 htn hw1 hlx hpos hmm2 hm2
    obtain ⟨e0, e1, e2, e3⟩ := HX5.out.cells
    have HEN : Hid (z = ⟨(lastN x.t).toArray⟩) := Lib.hid (str_list HZ.out)
    rcases hxd : x.d with _ | _
    ·rw [hxd] at e1
     have HD6 := HD5
     have HRE6 : Hid (Row W5 eb #[.string z, .int .i64 2, .bool x.e, .string ⟨#[]⟩] 89) := HRE
     have hq : sqT c I k x = seqF c x.b := by unfold sqT; rw [if_neg (by rw [hxd]; decide)]
     have hsub : subN c I k x = fileN c x.b := by unfold subN; rw [if_neg (by rw [hxd]; decide)]
     rw [hq] at HIN HLE; rw [hsub] at EIN
     have CK := Lib.hid (CF.out u2 (putsN L (preS c I k t j)) x.c W5 HD6.out.1.is HXS.out.2 (by
      have := HLN.out; have := HLL.out; have := HPL.out; have := HXS.out.2; omega))
     rw [show x.c.data.toList = x.b from rfl, ← putsN_app, ← HIN.out] at CK
     obtain ⟨K, hK⟩ : ∃ K : ByteArray, K = ⟨(keyN (fileN c x.b)).toArray⟩ := ⟨_, rfl⟩
     have HK := Lib.hid hK
     have p0 := HD6.out.params.cell 0; have p1 := HD6.out.params.cell 1; have p2 := HD6.out.params.cell 2
     simp only [List.getElem?_toArray, List.getElem?_cons_zero, List.getElem?_cons_succ] at p0 p1 p2
     have hEN : entE x (keyN (fileN c x.b)) = ⟨z, 2, x.e, K⟩ := by unfold entE; rw [HEN.out, hK, hxd]; rfl
     rw [hEN] at EIN
     obtain ⟨LL2, hLL2⟩ : ∃ LL2, LL2 = putsN L (preS c I k t (j + 1)) := ⟨_, rfl⟩
     rw [← hLL2] at CK
     have HL2 := Lib.hid hLL2
     clear hK hEN hq hsub hxd hLL2
     go_wp2_with fail
     refine CK.out.mono ?_
     rintro e w7 ⟨v7, rfl, hs7, hb7, hv7⟩
     rw [← HK.out]
     have hR7 := HRE6.out.step hb7
     have HD7 := Lib.hid (HD6.out.next hb7 hv7)
     have hge7 : eb < w7.heap.size := hR7.lt
     clear hs7 hv7 hb7 p0 p1 p2 e0 e1 e2 e3
     have r0 := hR7.cell 0; have r1 := hR7.cell 1; have r2 := hR7.cell 2; have r3 := hR7.cell 3
     have n3 := hR7.free 3
     simp only [List.getElem?_toArray, List.getElem?_cons_zero, List.getElem?_cons_succ] at r0 r1 r2 r3
     have hR8 : Row (w7.setCell ⟨eb, 3, none⟩ (.string K)) eb #[.string z, .int .i64 2, .bool x.e, .string K] 89 := by simpa using hR7.set 3 (.string K)
     have HD8 := Lib.hid (HD7.out.turn hR7 HGE.out hbeb hweb 3 (.string K))
     have s0 := hR8.cell 0; have s1 := hR8.cell 1; have s2 := hR8.cell 2; have s3 := hR8.cell 3
     have x0 := HD8.out.node.cell 0; have x1 := HD8.out.node.cell 1; have x2 := HD8.out.node.cell 2; have x3 := HD8.out.node.cell 3
     simp only [List.getElem?_toArray, List.getElem?_cons_zero, List.getElem?_cons_succ] at s0 s1 s2 s3 x0 x1 x2 x3
     have hw8 := HD8.out.size
     have HZ8 : Hid (w7.heap.size = (w7.setCell ⟨eb, 3, none⟩ (.string K)).heap.size) := Lib.hid (by simp [World.setCell])
     have hel : (preE c I k t j).length ≤ 1000000 := by have := preE_len c I k t j; omega
     clear hR7 hR8
     go_wp2_with (at_builtin; refine wpList_append_entries2 (y := ⟨z, 2, x.e, K⟩) rfl _ _ rfl HD8.out.own hw8 HZ8.out rfl rfl hel ?_)
     intro v' w9 hown9 hg9
     have hn9 := row_grownE HD8.out.node HD8.out.own hg9 hz9
     have HD9 := Lib.hid (HD8.out.added hg9 hown9 hz9 (by have := HBN.out; omega))
     have z0 := hn9.cell 0; have z1 := hn9.cell 1; have z2 := hn9.cell 2; have z3 := hn9.cell 3
     have m3 := hn9.free 3
     simp only [List.getElem?_toArray, List.getElem?_cons_zero, List.getElem?_cons_succ] at z0 z1 z2 z3
     obtain ⟨_, va2, vc2, hve, _, _⟩ := hown9.is
     subst hve
     rw [← EIN.out] at HD9 ⊢
     obtain ⟨En2, hEn2⟩ : ∃ En2, En2 = preE c I k t (j + 1) := ⟨_, rfl⟩
     rw [← hEn2] at HD9 ⊢
     have HE2 := Lib.hid hEn2
     clear hg9 hown9 hn9 s0 s1 s2 s3 x0 x1 x2 x3 hEn2
     go_wp2
     go_roundw
     case rel => exact ⟨j + 1, _, by omega, by go_num, by rw [← HL2.out, ← HE2.out]; exact HD9.out⟩
     case measure => simp [intOf]; omega
    ·rw [hxd] at e1
     have HD6 := Lib.hid (HD5.out.turn HRE.out HGE.out hbeb hweb 1 (.int .i64 3))
     have hR6 := HRE.out.set 1 (.int .i64 3)
     have HRE6 : Hid (Row (W5.setCell ⟨eb, 1, none⟩ (.int .i64 3)) eb #[.string z, .int .i64 3, .bool x.e, .string ⟨#[]⟩] 89) := Lib.hid (by simpa using hR6)
     have HI6 : Hid (IsItems (W5.setCell ⟨eb, 1, none⟩ (.int .i64 3)) _ I) := Lib.hid (HI0.out.stays HD6.out.below)
     have r0 := HRE.out.cell 0; have r1 := HRE.out.cell 1; have r2 := HRE.out.cell 2; have r3 := HRE.out.cell 3
     have n1 := HRE.out.free 1
     simp only [List.getElem?_toArray, List.getElem?_cons_zero, List.getElem?_cons_succ] at r0 r1 r2 r3
     clear hR6
     have i0 : (W5.setCell ⟨eb, 1, none⟩ (.int .i64 3)).cell? ⟨wr.heap.size, 0, none⟩ = some (.string x.p) := (World.cell?_setCell_other _ _ _ _ (fun e => hxe (by cases e))).trans e0
     have hq : sqT c I k x = seqD c I k x.t := by unfold sqT; rw [if_pos hxd]
     have hsub : subN c I k x = dirN c I k x.t := by unfold subN; rw [if_pos hxd]
     rw [hq] at HIN HLE; rw [hsub] at EIN
     have CK := Lib.hid (IH.out (dp + 1) (by omega) u2 (.slice (some ⟨b1, off, none⟩) I.length cap1) (putsN L (preS c I k t j)) x.p (W5.setCell ⟨eb, 1, none⟩ (.int .i64 3)) HD6.out.1.is HI6.out (by
      rw [← HC.out, show x.p.data.toList = x.t from rfl]
      have := HLN.out; have := HLE.out; have := HLL.out; omega))
     rw [← HC.out, show x.p.data.toList = x.t from rfl, ← putsN_app, ← HIN.out] at CK
     obtain ⟨K, hK⟩ : ∃ K : ByteArray, K = ⟨(keyN (dirN c I k x.t)).toArray⟩ := ⟨_, rfl⟩
     have HK := Lib.hid hK
     have p0 := HD6.out.params.cell 0; have p1 := HD6.out.params.cell 1; have p2 := HD6.out.params.cell 2
     simp only [List.getElem?_toArray, List.getElem?_cons_zero, List.getElem?_cons_succ] at p0 p1 p2
     have hEN : entE x (keyN (dirN c I k x.t)) = ⟨z, 3, x.e, K⟩ := by unfold entE; rw [HEN.out, hK, hxd]; rfl
     rw [hEN] at EIN
     obtain ⟨LL2, hLL2⟩ : ∃ LL2, LL2 = putsN L (preS c I k t (j + 1)) := ⟨_, rfl⟩
     rw [← hLL2] at CK
     have HL2 := Lib.hid hLL2
     clear hK hEN hq hsub hxd hLL2
     go_wp2_with fail
     refine CK.out.mono ?_
     rintro e w7 ⟨v7, rfl, hs7, hb7, hv7⟩
     rw [← HK.out]
     have hR7 := HRE6.out.step hb7
     have HD7 := Lib.hid (HD6.out.next hb7 hv7)
     have hge7 : eb < w7.heap.size := hR7.lt
     clear hs7 hv7 hb7 p0 p1 p2 e0 e1 e2 e3 r0 r1 r2 r3 n1 i0
     have r0 := hR7.cell 0; have r1 := hR7.cell 1; have r2 := hR7.cell 2; have r3 := hR7.cell 3
     have n3 := hR7.free 3
     simp only [List.getElem?_toArray, List.getElem?_cons_zero, List.getElem?_cons_succ] at r0 r1 r2 r3
     have hR8 : Row (w7.setCell ⟨eb, 3, none⟩ (.string K)) eb #[.string z, .int .i64 3, .bool x.e, .string K] 89 := by simpa using hR7.set 3 (.string K)
     have HD8 := Lib.hid (HD7.out.turn hR7 HGE.out hbeb hweb 3 (.string K))
     have s0 := hR8.cell 0; have s1 := hR8.cell 1; have s2 := hR8.cell 2; have s3 := hR8.cell 3
     have x0 := HD8.out.node.cell 0; have x1 := HD8.out.node.cell 1; have x2 := HD8.out.node.cell 2; have x3 := HD8.out.node.cell 3
     simp only [List.getElem?_toArray, List.getElem?_cons_zero, List.getElem?_cons_succ] at s0 s1 s2 s3 x0 x1 x2 x3
     have hw8 := HD8.out.size
     have HZ8 : Hid (w7.heap.size = (w7.setCell ⟨eb, 3, none⟩ (.string K)).heap.size) := Lib.hid (by simp [World.setCell])
     have hel : (preE c I k t j).length ≤ 1000000 := by have := preE_len c I k t j; omega
     clear hR7 hR8
     go_wp2_with (at_builtin; refine wpList_append_entries2 (y := ⟨z, 3, x.e, K⟩) rfl _ _ rfl HD8.out.own hw8 HZ8.out rfl rfl hel ?_)
     intro v' w9 hown9 hg9
     have hn9 := row_grownE HD8.out.node HD8.out.own hg9 hz9
     have HD9 := Lib.hid (HD8.out.added hg9 hown9 hz9 (by have := HBN.out; omega))
     have z0 := hn9.cell 0; have z1 := hn9.cell 1; have z2 := hn9.cell 2; have z3 := hn9.cell 3
     have m3 := hn9.free 3
     simp only [List.getElem?_toArray, List.getElem?_cons_zero, List.getElem?_cons_succ] at z0 z1 z2 z3
     obtain ⟨_, va2, vc2, hve, _, _⟩ := hown9.is
     subst hve
     rw [← EIN.out] at HD9 ⊢
     obtain ⟨En2, hEn2⟩ : ∃ En2, En2 = preE c I k t (j + 1) := ⟨_, rfl⟩
     rw [← hEn2] at HD9 ⊢
     have HE2 := Lib.hid hEn2
     clear hg9 hown9 hn9 s0 s1 s2 s3 x0 x1 x2 x3 hEn2
     go_wp2
     go_roundw
     case rel => exact ⟨j + 1, _, by omega, by go_num, by rw [← HL2.out, ← HE2.out]; exact HD9.out⟩
     case measure => simp [intOf]; omega
   ·have f1 : ((dirS x.t) == d.toList) = false := by rw [beq_eq_false_iff_ne, Lib.toList_data, ← HT.out]; exact hd
    have HIN := Lib.hid (hout hd); have EIN := Lib.hid (eout hd)
    clear hin hout ein eout hle hd hxp hxs hpl hll
    go_wp2_with fail
    refine (C.out _).mono ?_
    rintro e w1 ⟨rfl, hb1⟩
    have HD3 := Lib.hid (HD2.out.stays hb1)
    clear c0 c1 c2 c3 hb1 HX HD2 HI2 hB
    go_wp2_with fail
    go_roundw
    case rel => exact ⟨j + 1, vp, by omega, by go_num, by rw [HIN.out, EIN.out]; exact HD3.out⟩
    case measure => simp [intOf]; omega
  ·have hge : decide ((j : Int) < (I.length : Int)) = false := by simp; omega
   obtain ⟨PA1, PA2⟩ := pre_all c I k t (i := j) (by omega)
   have HPA := Lib.hid PA1; have HPB := Lib.hid PA2
   obtain ⟨_, va, vc, hve, _, _⟩ := HD.out.own.is
   have hle := preE_len c I k t j
   obtain ⟨ez, hez⟩ : ∃ ez, ez = (preE c I k t j).length := ⟨_, rfl⟩
   rw [← hez] at hve
   subst hve
   have x0 := HD.out.node.cell 0; have x1 := HD.out.node.cell 1; have x2 := HD.out.node.cell 2; have x3 := HD.out.node.cell 3
   simp only [List.getElem?_toArray, List.getElem?_cons_zero, List.getElem?_cons_succ] at x0 x1 x2 x3
   have CP7 : Hid (Calls Tryz.prog 50 #[u2, .agg #[.int .i64 3, .string ⟨#[]⟩, .slice none 0 0, .slice va ez vc]] wr (RetOK u2 (putsN L (preS c I k t j)) (putN (putsN L (preS c I k t j)) (dirN c I (k + 1) t)) (keyN (dirN c I (k + 1) t)) wr)) := Lib.hid (by
    have := rPut_any u2 _ (dirN c I (k + 1) t) (.slice none 0 0) (.slice va ez vc) wr HD.out.1.is (by have := HLN.out; omega) (parts_nil _) (by rw [HPB.out]; exact HD.out.own.is)
    exact this)
   have HE : Hid (putsN L (seqD c I (k + 1) t) = putN (putsN L (preS c I k t j)) (dirN c I (k + 1) t)) := Lib.hid (by rw [HPA.out, putsN_app]; rfl)
   clear PA1 PA2 hle hez hll hpl hB
   go_wp2_with fail
   with_reducible refine CP7.out.mono ?_
   rintro e w8 ⟨v8, rfl, hs8, hb8, hv8⟩
   have HA8 := Lib.hid (HD.out.1.next hb8 hv8)
   have HS8 := Lib.hid hs8
   have HB8 := Lib.hid (below_step HD.out.below hb8)
   clear hs8 hb8 hv8 x0 x1 x2 x3
   go_wp2
   exact bodyPost_ret (v := .tuple #[v8, .string ⟨(keyN (dirN c I (k + 1) t)).toArray⟩]) (by simp [results, Tryz.results24, go_sem]) rfl ⟨v8, rfl, by rw [HE.out]; exact HS8.out, HB8.out, by rw [HE.out]; exact HA8.out.2.2⟩
set_option maxRecDepth 100000 in
set_option maxHeartbeats 8000000 in
theorem dir_zero (mn av b mx : Nat) (I : List It) : DirAt mn av b mx I 0 := by
 intro dp hdp v iv L d w h hi hL
 obtain ⟨c, hc⟩ : ∃ c, c = cutN mn b mx := ⟨_, rfl⟩
 rw [← hc] at hL ⊢
 obtain ⟨t, ht⟩ : ∃ t, t = d.data.toList := ⟨_, rfl⟩
 rw [← ht] at hL ⊢
 obtain ⟨V, hV⟩ : ∃ V, V = (w.alloc (.cells #[.int .i64 mn, .int .i64 av, .int .i64 mx] 23)).alloc (.cells #[.int .i64 3, .string ⟨#[]⟩, .slice none 0 0, .slice none 0 0] 71) := ⟨_, rfl⟩
 have hbV : Below w.heap.size w V := by rw [hV]; exact ((Below.refl _ _).alloc (Nat.le_refl _) _).alloc (by simp) _
 have hRN : Row V (w.heap.size + 1) #[.int .i64 3, .string ⟨#[]⟩, .slice none 0 0, .slice none 0 0] 71 := by
  have := Row.made (w.alloc (.cells #[.int .i64 mn, .int .i64 av, .int .i64 mx] 23)) #[.int .i64 3, .string ⟨#[]⟩, .slice none 0 0, .slice none 0 0] 71
  rw [hV]; simpa using this
 have x0 := hRN.cell 0; have x1 := hRN.cell 1; have x2 := hRN.cell 2; have x3 := hRN.cell 3
 simp only [List.getElem?_toArray, List.getElem?_cons_zero, List.getElem?_cons_succ] at x0 x1 x2 x3
 have q8 : decide ((dp : Int) ≤ 8) = false := by simp; omega
 have HV := Lib.hid hV; have HB0 := Lib.hid hbV
 have CP : Hid (∀ W, Below V.heap.size V W → Calls Tryz.prog 50 #[v, .agg #[.int .i64 3, .string ⟨#[]⟩, .slice none 0 0, .slice none 0 0]] W (RetOK v L (putN L ⟨3, ⟨#[]⟩, [], []⟩) (keyN ⟨3, ⟨#[]⟩, [], []⟩) W)) := Lib.hid (fun W hb =>
  rPut_any v L ⟨3, ⟨#[]⟩, [], []⟩ (.slice none 0 0) (.slice none 0 0) W (h.stays (below_step hbV hb)) (by omega) (parts_nil _) (entries_nil _))
 obtain ⟨_, a0, cap0, rfl, _, _⟩ := h
 obtain ⟨hm1, a1, cap1, rfl, _, _⟩ := hi
 have hmm : I.length ≤ 9223372036854775807 := by unfold maxLen at hm1; omega
 have HE1 : Hid (putsN L (seqD c I 0 t) = putN L ⟨3, ⟨#[]⟩, [], []⟩) := Lib.hid rfl
 have HE2 : Hid (keyN (dirN c I 0 t) = keyN ⟨3, ⟨#[]⟩, [], []⟩) := Lib.hid rfl
 rw [HE1.out, HE2.out]
 clear hV hbV hRN hc ht hm1 hL HE1 HE2
 rcases h0 : decide ((0 : Int) < (I.length : Int)) with _ | _
 ·have h1 : ¬ 0 < I.length := by simpa using h0
  go_enter Tryz.func24, Tryz.ntmps24
  go_wp2_with fail
  rw [← HV.out]
  refine wp_loop_rounds 1 ?_
  rw [rounds_succ]
  go_wp2_with fail
  with_reducible refine (CP.out _ (Below.refl _ _)).mono ?_
  rintro e w8 ⟨v8, rfl, hs8, hb8, hv8⟩
  have HS8 := Lib.hid hs8; have HV8 := Lib.hid (hv8.imp id fun h => h.low HB0.out.size)
  have HB8 := Lib.hid (below_step HB0.out hb8)
  clear hs8 hb8 hv8 x0 x1 x2 x3
  go_wp2
  exact bodyPost_ret (v := .tuple #[v8, .string ⟨(keyN ⟨3, ⟨#[]⟩, [], []⟩).toArray⟩]) (by simp [results, Tryz.results24, go_sem]) rfl ⟨v8, rfl, HS8.out, HB8.out, HV8.out⟩
 ·have h1 : 0 < I.length := by simpa using h0
  go_enter Tryz.func24, Tryz.ntmps24
  go_wp2_with fail
  rw [← HV.out]
  refine wp_loop_rounds 1 ?_
  rw [rounds_succ]
  go_wp2_with fail
  with_reducible refine (CP.out _ (Below.refl _ _)).mono ?_
  rintro e w8 ⟨v8, rfl, hs8, hb8, hv8⟩
  have HS8 := Lib.hid hs8; have HV8 := Lib.hid (hv8.imp id fun h => h.low HB0.out.size)
  have HB8 := Lib.hid (below_step HB0.out hb8)
  clear hs8 hb8 hv8 x0 x1 x2 x3
  go_wp2
  exact bodyPost_ret (v := .tuple #[v8, .string ⟨(keyN ⟨3, ⟨#[]⟩, [], []⟩).toArray⟩]) (by simp [results, Tryz.results24, go_sem]) rfl ⟨v8, rfl, HS8.out, HB8.out, HV8.out⟩
theorem rDir_any (mn av b mx : Nat) (hF : FitAt mn av mx b) (I : List It) (hp : ∀ x ∈ I, pathB x.t = true) (hs : ∀ x ∈ I, x.p.size ≤ 100000 ∧ x.c.size ≤ 100000) (hI : I.length ≤ 1000) : ∀ k, DirAt mn av b mx I k
 | 0 => dir_zero mn av b mx I
 | k + 1 => dir_step mn av b mx hF I hp hs hI k (rDir_any mn av b mx hF I hp hs hI k)
def RetKO (k : List UInt8) (L : List Ob) (w : World) (e : Ending) (w' : World) : Prop := ∃ v', e = .returned (.tuple #[.string ⟨k.toArray⟩, v']) ∧ IsObs w' v' L ∧ Below w.heap.size w w'
set_option maxRecDepth 100000 in
set_option maxHeartbeats 8000000 in
theorem rBuild_any (mn av b mx : Nat) (hF : FitAt mn av mx b) (iv : Value) (I : List It) (w : World) (hi : IsItems w iv I) (hp : ∀ x ∈ I, pathB x.t = true) (hs : ∀ x ∈ I, x.p.size ≤ 100000 ∧ x.c.size ≤ 100000) (hI : I.length ≤ 1000) (hL : (seqT (cutN mn b mx) I).length ≤ 700000) :
  Calls Tryz.prog 9 #[pV mn av mx, iv] w (RetKO (keyN (topT (cutN mn b mx) I)) (objsT (cutN mn b mx) I) w) := by
 have CK : Hid (∀ W, IsItems W iv I → Calls Tryz.prog 24 #[pV mn av mx, iv, .slice none 0 0, .string ⟨#[]⟩, .int .i64 0] W (RetOK (.slice none 0 0) [] (objsT (cutN mn b mx) I) (keyN (topT (cutN mn b mx) I)) W)) := Lib.hid (fun W h =>
  rDir_any mn av b mx hF I hp hs hI 9 0 rfl (.slice none 0 0) iv [] ⟨#[]⟩ W (obs_nil _) h (by
   have : (seqD (cutN mn b mx) I 9 (⟨#[]⟩ : ByteArray).data.toList).length ≤ 700000 := hL
   simpa using this))
 obtain ⟨V, hV⟩ : ∃ V, V = w.alloc (.cells #[.int .i64 mn, .int .i64 av, .int .i64 mx] 23) := ⟨_, rfl⟩
 have hbV : Below w.heap.size w V := by rw [hV]; exact (Below.refl _ _).alloc (Nat.le_refl _) _
 have hR0 : Row V w.heap.size #[.int .i64 mn, .int .i64 av, .int .i64 mx] 23 := by rw [hV]; exact Row.made _ _ _
 have p0 := hR0.cell 0; have p1 := hR0.cell 1; have p2 := hR0.cell 2
 simp only [List.getElem?_toArray, List.getElem?_cons_zero, List.getElem?_cons_succ] at p0 p1 p2
 have HV := Lib.hid hV; have HB0 := Lib.hid hbV
 have HI := Lib.hid (hi.stays hbV)
 obtain ⟨K, hK⟩ : ∃ K : ByteArray, K = ⟨(keyN (topT (cutN mn b mx) I)).toArray⟩ := ⟨_, rfl⟩
 obtain ⟨_, a1, cap1, rfl, _, _⟩ := hi
 have HK := Lib.hid hK
 clear hF hp hs hL hK hV hbV hR0
 go_enter Tryz.func9, Tryz.ntmps9
 go_wp2_with fail
 rw [← HV.out]
 go_wp2_with fail
 with_reducible refine (CK.out _ HI.out).mono ?_
 rintro e w8 ⟨v8, rfl, hs8, hb8, _⟩
 rw [← HK.out]
 have HS8 := Lib.hid hs8
 have HB8 := Lib.hid (below_step HB0.out hb8)
 clear hs8 hb8 p0 p1 p2
 go_wp2
 exact bodyPost_ret (v := .tuple #[.string K, v8]) (by simp [results, Tryz.results9, go_sem]) rfl ⟨v8, by rw [← HK.out], HS8.out, HB8.out⟩
noncomputable def clashB (T : List (List UInt8)) : Bool := @decide (Clash T) (Classical.propDecidable _)
theorem clashB_yes {T : List (List UInt8)} (h : Clash T) : clashB T = true := @decide_eq_true _ (Classical.propDecidable _) h
theorem clashB_no {T : List (List UInt8)} (h : ¬ Clash T) : clashB T = false := @decide_eq_false _ (Classical.propDecidable _) h
structure ClOn (T : List (List UInt8)) (k : Nat) (O : List Ob) : Prop where
 fit : FitO O
 from_ : ∀ y ∈ O, y.u ∈ T.take k ∧ y.t = shaSum y.u
 all : ∀ t ∈ T.take k, ∃ y ∈ O, y.u = t ∧ y.t = shaSum t
 len : O.length ≤ k
theorem clOn_zero (T : List (List UInt8)) : ClOn T 0 [] := ⟨fitO_nil, fun _ h => (by cases h), fun _ h => (by simp at h), Nat.le_refl _⟩
def sumO (t : List UInt8) : Ob := ⟨⟨(shaSum t).toArray⟩, ⟨t.toArray⟩⟩
theorem sumO_t (t : List UInt8) : (sumO t).t = shaSum t := by unfold sumO Ob.t; simp
theorem sumO_u (t : List UInt8) : (sumO t).u = t := by unfold sumO Ob.u; simp
theorem take_mem {T : List (List UInt8)} {k : Nat} (hk : k < T.length) {t : List UInt8} : t ∈ T.take (k + 1) ↔ t ∈ T.take k ∨ t = T[k] := by
 rw [List.take_succ_eq_append_getElem hk, List.mem_append, List.mem_singleton]
theorem clOn_clash {T : List (List UInt8)} {k : Nat} {O : List Ob} (h : ClOn T k O) (hk : k < T.length) {y : Ob} (hy : getO O (shaSum T[k]) = some y) (hne : y.u ≠ T[k]) : Clash T := by
 obtain ⟨h1, h2⟩ := getO_mem hy
 obtain ⟨h3, h4⟩ := h.from_ y h1
 exact ⟨y.u, List.mem_of_mem_take h3, T[k], List.getElem_mem hk, hne, by rw [← h4, h2]⟩
theorem clOn_step {T : List (List UInt8)} {k : Nat} {O : List Ob} (h : ClOn T k O) (hk : k < T.length) (hy : ∀ y, getO O (shaSum T[k]) = some y → y.u = T[k]) : ClOn T (k + 1) (addO O (sumO T[k])) := by
 refine ⟨addO_fit h.fit _, fun y hm => ?_, fun t ht => ?_, by have := (addO_len_le O (sumO T[k])).2; have := h.len; omega⟩
 ·rcases mem_addO.1 hm with h1 | ⟨rfl, _, _⟩
  ·exact ⟨(take_mem hk).2 (.inl (h.from_ y h1).1), (h.from_ y h1).2⟩
  ·rw [sumO_u, sumO_t]; exact ⟨(take_mem hk).2 (.inr rfl), rfl⟩
 ·rcases (take_mem hk).1 ht with h1 | rfl
  ·obtain ⟨y, h2, h3⟩ := h.all t h1
   exact ⟨y, mem_addO.2 (.inl h2), h3⟩
  ·cases hg : getO O (shaSum T[k]) with
   | some y => exact ⟨y, mem_addO.2 (.inl (getO_mem hg).1), hy y hg, (getO_mem hg).2⟩
   | none => exact ⟨sumO T[k], mem_addO.2 (.inr ⟨rfl, by rw [sumO_t]; exact hg, by rw [sumO_t]; exact shaSum_len _⟩), sumO_u _, sumO_t _⟩
theorem clOn_end {T : List (List UInt8)} {k : Nat} {O : List Ob} (h : ClOn T k O) (hk : T.length ≤ k) : ¬ Clash T := by
 rintro ⟨a, ha, b, hb, hne, e⟩
 rw [← List.take_of_length_le hk] at ha hb
 obtain ⟨y, hy, h1, h2⟩ := h.all a ha
 obtain ⟨z, hz, h3, h4⟩ := h.all b hb
 have := rise_one h.fit.1 hy hz (by rw [h2, h4, e])
 rw [this, h3] at h1
 exact hne h1.symm
set_option maxRecDepth 100000 in
set_option maxHeartbeats 8000000 in
theorem rClash_any (v : Value) (T : List ByteArray) (w : World) (h : IsStrs w v T) (hs : ∀ x ∈ T, x.size ≤ 60000) (hT : T.length ≤ 600000) :
  Calls Tryz.prog 12 #[v] w fun e w' => e = .returned (.bool (clashB (txts T))) ∧ Below w.heap.size w w' := by
 have HI := Lib.hid h
 have HS := Lib.hid hs
 obtain ⟨hm, a, cap, rfl, _, hc⟩ := h
 clear hc hs
 go_enter Tryz.func12, Tryz.ntmps12
 go_wp2
 go_loopw [3, 4] (fun o i wr => ∃ (k : Nat) (O : List Ob), k ≤ T.length ∧ i = .int .i64 k ∧ IsObs wr o O ∧ ClOn (txts T) k O ∧ Below w.heap.size w wr) (fun _ i _ => T.length - (intOf i).toNat)
 case atStart => exact ⟨0, [], Nat.zero_le _, rfl, obs_nil _, clOn_zero _, Below.refl _ _⟩
 case round =>
  obtain ⟨k, O, hk, rfl, hO, hC, hB⟩ := hrel
  have hol := hC.len
  have HO := Lib.hid hO; have HC := Lib.hid hC
  obtain ⟨_, ao, co, rfl, _, _⟩ := hO
  clear hC
  by_cases hlt : k < T.length
  ·obtain ⟨_, _, _, e, _, hc⟩ := HI.out
   cases e
   obtain ⟨b1, o1, rfl, hbl, g⟩ := hc (by omega)
   have q0 := g k hlt
   have q1 := (hB.cell (p := ⟨b1, o1 + k, none⟩) hbl).trans q0
   clear g hc
   have hbk : decide ((k : Int) < (T.length : Int)) = true := by simpa using (show (k : Int) < T.length by omega)
   have hkl : k < (txts T).length := by rw [txts_len]; exact hlt
   have hty := txts_get hlt
   have hsz := HS.out _ (List.getElem_mem hlt)
   have hcl := fun y => clOn_clash (y := y) HC.out hkl
   have hst := clOn_step HC.out hkl
   rw [hty] at hcl hst
   obtain ⟨y, hy⟩ : ∃ y, T[k]'hlt = y := ⟨_, rfl⟩
   rw [hy] at q0 q1 hcl hst hsz
   clear hy hty
   have CS := Lib.hid (refSum_any y (by omega) wr)
   obtain ⟨K, hK⟩ : ∃ K : ByteArray, K = ⟨(shaSum y.data.toList).toArray⟩ := ⟨_, rfl⟩
   rw [← hK] at CS
   have hKl : K.data.toList = shaSum y.data.toList := by rw [hK]
   have HX : Hid ((⟨K, y⟩ : Ob) = sumO y.data.toList) := Lib.hid (by unfold sumO; rw [hK])
   have HCL := Lib.hid hcl; have HST := Lib.hid hst; have HKL := Lib.hid hKl; have HQ := Lib.hid q0
   have hol2 : O.length ≤ 900000 := by omega
   clear hcl hst hK hKl q0
   go_wp2_with fail
   with_reducible refine CS.out.mono ?_
   rintro e w1 ⟨rfl, hb1⟩
   have hB1 := below_step hB hb1
   have HO1 := Lib.hid (HO.out.stays hb1)
   have CG := Lib.hid (rGet_any (.slice ao O.length co) O K w1 HO1.out)
   rw [HKL.out] at CG
   have q1 := (hB1.cell (p := ⟨b1, o1 + k, none⟩) hbl).trans HQ.out
   clear hb1
   cases hg : getO O (shaSum y.data.toList) with
   | none =>
    rw [hg, gotO_none hg] at CG
    have hgn : ∀ z, getO O (shaSum y.data.toList) = some z → z.u = y.data.toList := fun z hz => by rw [hg] at hz; cases hz
    have HST2 := Lib.hid (HST.out hgn)
    clear hg hgn
    go_wp2_with fail
    with_reducible refine CG.out.mono ?_
    rintro e w2 ⟨rfl, hb2⟩
    have hB2 := below_step hB1 hb2
    have CA := Lib.hid (rAdd_any (.slice ao O.length co) O ⟨K, y⟩ w2 (HO1.out.stays hb2) hol2)
    have q1 := (hB2.cell (p := ⟨b1, o1 + k, none⟩) hbl).trans HQ.out
    clear hb2
    go_wp2_with fail
    with_reducible refine CA.out.mono ?_
    rintro e w3 ⟨v3, rfl, hs3, hb3, _⟩
    have HS3 := Lib.hid hs3
    have hB3 := below_step hB2 hb3
    clear hs3 hb3
    go_wp2_with fail
    go_roundw
    case rel => exact ⟨k + 1, _, by omega, by go_num, by rw [← HX.out]; exact HS3.out, HST2.out, hB3⟩
    case measure => simp [intOf]; omega
   | some z =>
    rw [hg, gotO_some hg] at CG
    by_cases hz : z.r = y
    ·have hb0 : (z.r.toList == y.toList) = true := beq_true hz
     have hgn : ∀ u, getO O (shaSum y.data.toList) = some u → u.u = y.data.toList := fun u hu => by rw [hg] at hu; cases hu; unfold Ob.u; rw [hz]
     have HST2 := Lib.hid (HST.out hgn)
     have hre : z.r = y := hz
     clear hg hgn hz
     go_wp2_with fail
     with_reducible refine CG.out.mono ?_
     rintro e w2 ⟨rfl, hb2⟩
     have hB2 := below_step hB1 hb2
     have CA := Lib.hid (rAdd_any (.slice ao O.length co) O ⟨K, y⟩ w2 (HO1.out.stays hb2) hol2)
     have q1 := (hB2.cell (p := ⟨b1, o1 + k, none⟩) hbl).trans HQ.out
     clear hb2 hre
     go_wp2_with fail
     with_reducible refine CA.out.mono ?_
     rintro e w3 ⟨v3, rfl, hs3, hb3, _⟩
     have HS3 := Lib.hid hs3
     have hB3 := below_step hB2 hb3
     clear hs3 hb3
     go_wp2_with fail
     go_roundw
     case rel => exact ⟨k + 1, _, by omega, by go_num, by rw [← HX.out]; exact HS3.out, HST2.out, hB3⟩
     case measure => simp [intOf]; omega
    ·have hb0 : (z.r.toList == y.toList) = false := beq_false hz
     have HN := Lib.hid (clashB_yes (HCL.out z hg (fun e => hz (str_eq' e))))
     clear hg hz
     go_wp2_with fail
     with_reducible refine CG.out.mono ?_
     rintro e w2 ⟨rfl, hb2⟩
     have hB2 := below_step hB1 hb2
     have q1 := (hB2.cell (p := ⟨b1, o1 + k, none⟩) hbl).trans HQ.out
     clear hb2
     go_wp2
     go_ret
     exact ⟨by rw [HN.out]; rfl, hB2⟩
  ·have HN := Lib.hid (clashB_no (clOn_end HC.out (by rw [txts_len]; omega)))
   have hge : decide ((k : Int) < (T.length : Int)) = false := by simp; omega
   go_wp2
   go_ret
   exact ⟨by rw [HN.out]; rfl, hB⟩
end Go.Proofs.YtjpjpmkadoaipaaGreatDoor
set_option linter.unusedVariables false
namespace Go.Proofs.YtjpjpmkadoaipaaGreatDoor
open Go.RowKit
structure Kept (B : Nat) (w w' : World) : Prop where
 os : w'.os = w.os
 tape : w'.tape = w.tape
 output : w'.output = w.output
 size : w.heap.size ≤ w'.heap.size
 block : ∀ b, b < w.heap.size → (b < B ∨ ∃ xs T, Row w b xs T ∧ T ≠ 9) → w'.heap[b]? = w.heap[b]?
theorem Kept.refl (B : Nat) (w : World) : Kept B w w := ⟨rfl, rfl, rfl, Nat.le_refl _, fun _ _ _ => rfl⟩
theorem Kept.of_below {B : Nat} {w w' : World} (h : Below w.heap.size w w') : Kept B w w' := ⟨h.os, h.tape, h.output, h.size, fun b hb _ => h.block b hb⟩
theorem row_kept {B b : Nat} {w w' : World} {xs : Array Value} {T : TypeId} (hr : Row w b xs T) (hT : T ≠ 9) (h : Kept B w w') : Row w' b xs T := (h.block b hr.lt (.inr ⟨xs, T, hr, hT⟩)).trans hr
theorem Kept.trans {B : Nat} {a b c : World} (h : Kept B a b) (k : Kept B b c) : Kept B a c :=
 ⟨k.os.trans h.os, k.tape.trans h.tape, k.output.trans h.output, Nat.le_trans h.size k.size, fun i hi hp => by
  refine (k.block i (Nat.lt_of_lt_of_le hi h.size) ?_).trans (h.block i hi hp)
  rcases hp with hp | ⟨xs, T, hr, hT⟩
  ·exact .inl hp
  ·exact .inr ⟨xs, T, row_kept hr hT h, hT⟩⟩
theorem Kept.step {B : Nat} {a b c : World} (h : Kept B a b) (k : Below b.heap.size b c) : Kept B a c := h.trans (Kept.of_below k)
theorem Kept.grown {B : Nat} {w w' : World} {row : Option Nat} (hg : w.grownBy w' row) (hr : ∀ g, row = some g → B ≤ g ∧ ∃ xs, Row w g xs 9) : Kept B w w' :=
 ⟨hg.os, hg.tape, hg.output, hg.size, fun b hb hp => hg.block b hb (fun e => by
  obtain ⟨h1, xs, h2⟩ := hr b e.symm
  rcases hp with hp | ⟨ys, T, h3, hT⟩
  ·omega
  ·have h4 := (show w.heap[b]? = _ from h2).symm.trans (show w.heap[b]? = _ from h3)
   cases h4; exact hT rfl)⟩
theorem Kept.later {B : Nat} {a w w' : World} {row : Option Nat} (h : Kept B a w) (hg : w.grownBy w' row) (hr : ∀ g, row = some g → a.heap.size ≤ g) : Kept B a w' :=
 ⟨hg.os.trans h.os, hg.tape.trans h.tape, hg.output.trans h.output, Nat.le_trans h.size hg.size, fun b hb hp =>
  (hg.block b (Nat.lt_of_lt_of_le hb h.size) (fun e => by have := hr b e.symm; omega)).trans (h.block b hb hp)⟩
theorem Kept.below {B : Nat} {a w w' : World} (h : Kept B w w') (hb : Below B a w) (hs : B ≤ w.heap.size) : Below B a w' :=
 hb.trans ⟨h.os, h.tape, h.output, h.size, fun k hk => h.block k (Nat.lt_of_lt_of_le hk hs) (.inl hk)⟩
theorem OwnE.kept {B C : Nat} {w w' : World} {v : Value} {L : List En} (h : OwnE C w v L) (hk : Kept B w w') : OwnE C w' v L := by
 refine ⟨h.1, ?_⟩
 rcases h.2 with h2 | ⟨g, cap, cur, h3, h4, h5, h6⟩
 ·exact .inl h2
 ·exact .inr ⟨g, cap, cur, h3, h4, row_kept (B := B) (xs := cur) (T := 89) h5 (by decide) hk, h6⟩
theorem OwnP.kept {B C : Nat} {w w' : World} {v : Value} {L : List Pt} (h : OwnP C w v L) (hk : Kept B w w') : OwnP C w' v L := by
 refine ⟨h.1, ?_⟩
 rcases h.2 with h2 | ⟨g, cap, cur, h3, h4, h5, h6⟩
 ·exact .inl h2
 ·exact .inr ⟨g, cap, cur, h3, h4, row_kept (B := B) (xs := cur) (T := 109) h5 (by decide) hk, h6⟩
theorem OwnTxt.row {W w : World} {v : Value} {M : List (List UInt8)} (h : OwnTxt W w v M) {g : Nat} (hg : v.ownBlock = some g) : W.heap.size ≤ g ∧ ∃ xs, Row w g xs 9 := by
 rcases h.2 with ⟨rfl, _⟩ | ⟨g', cap, cur, rfl, h4, h5, _⟩
 ·cases hg
 ·cases hg; exact ⟨h4, _, h5⟩
theorem OwnTxt.turn {W w w' : World} {v : Value} {M : List (List UInt8)} (h : OwnTxt W w v M) {b : Nat} {xs : Array Value} {T : TypeId} (hr : Row w b xs T) (hT : T ≠ 9) (hg : w.grownBy w' (some b)) : OwnTxt W w' v M :=
 World.ownsRow.kept h hg (by
  cases hv : v.ownBlock with
  | none => exact .inl rfl
  | some k =>
   refine .inr fun e => ?_
   cases e
   obtain ⟨_, ys, h2⟩ := h.row hv
   have h4 := (show w.heap[b]? = _ from h2).symm.trans (show w.heap[b]? = _ from hr)
   cases h4; exact hT rfl)
theorem wpList_append_txt_at {ops : Array Oper} {rest : List Oper} {o : Oper} {a : Act} {W w0 : World} {z : Nat} {Q : Exit → Act → World → Prop} (hgd : o.guard = none) (s x : Operand)
  (ho : o.op = .call { callee := .builtin .append, args := #[s, x], argTypes := #[33, 33] })
  {v : Value} {M : List (List UInt8)} {y : ByteArray} (hown : OwnTxt W w0 v M) (hbs : W.heap.size ≤ w0.heap.size) (hz : z = w0.heap.size) (hs : a.eval s = v)
  (hx : a.eval x = .slice (some ⟨z, 0, none⟩) 1 1) (hlen : M.length ≤ 1000000)
  (h : ∀ v' w', OwnTxt W w' v' (M ++ [y.data.toList]) → w0.grownBy w' v.ownBlock → (v'.ownBlock = v.ownBlock ∨ ∃ g, v'.ownBlock = some g ∧ w0.heap.size ≤ g) → wpList Tryz.prog ops Q rest (a.put o.dst v') w') :
  wpList Tryz.prog ops Q (o :: rest) a (w0.alloc (.cells #[.string y] 9)) := by
 subst hz
 obtain ⟨i0, hi, hz0, hz1, hz2⟩ := info_parts infoStr
 refine wpList_plain hgd fun K hK => ?_
 obtain ⟨v', w', hr, h2, h3, _, h5⟩ := run_append_own_at (P := Tryz.prog) (w0.alloc (.cells #[.string y] 9)) W.heap.size 33 o.type 9 i0 (.string ⟨#[]⟩) 1 16 Tryz.underlying33 hi hz0 hz1 hz2 rfl (by decide) v (strsOf M).length (strCells (strsOf M)) (World.ownsRow.alloc hown _) ⟨w0.heap.size, 0, none⟩ 1 1 [.string y] rfl cell_one
  (fun u hu => by simp at hu; subst hu; rfl) (by rw [strsOf_len]; unfold maxLen; omega) (by rw [strsOf_len]; omega) (by simp; omega)
 unfold Oper.wp execOp
 simp only [ho, resolve, invoke, builtin, Sem.run_bind, Sem.run_pure, Result.andThen_ok, List.map_toArray, List.map_cons, List.map_nil, hs, hx, hr]
 refine hK _ _ (h v' w' ?_ (grown_after (grownBy_alloc w0 _) h3) ?_)
 ·unfold OwnTxt
  rw [strsOf_snoc, txt_str, List.length_append, strCells_app]; exact h2
 ·refine h5.imp id fun e => ⟨_, e, ?_⟩
  simp
def RetRaw (W0 : World) (M : List (List UInt8)) (w : World) (e : Ending) (w' : World) : Prop := ∃ v', e = .returned v' ∧ OwnTxt W0 w' v' M ∧ Kept W0.heap.size w w'
def RawAt (mn av b mx : Nat) (I : List It) (k : Nat) : Prop := ∀ (dp : Nat), dp + k = 9 → ∀ (W0 : World) (v iv : Value) (M : List (List UInt8)) (d : ByteArray) (w : World), Below W0.heap.size W0 w → OwnTxt W0 w v M → IsItems W0 iv I → M.length + (seqD (cutN mn b mx) I k d.data.toList).length ≤ 700000 →
 Calls Tryz.prog 37 #[pV mn av mx, iv, v, .string d, .int .i64 dp] w (RetRaw W0 (M ++ (seqD (cutN mn b mx) I k d.data.toList).map wrN) w)
structure RawIn (w W0 : World) (P : Array Value) (bn Bs : Nat) (wr : World) (lv : Value) (MM : List (List UInt8)) (vp : Value) (es : List En) : Prop where
 txt : OwnTxt W0 wr lv MM
 node : Row wr bn #[.int .i64 3, .string ⟨#[]⟩, .slice none 0 0, vp] 71
 own : OwnE Bs wr vp es
 params : Row wr w.heap.size P 23
 kept : Kept W0.heap.size w wr
 size : Bs ≤ wr.heap.size
 below : Below W0.heap.size W0 wr
theorem RawIn.stays {w W0 : World} {P : Array Value} {bn Bs : Nat} {wr : World} {lv : Value} {MM : List (List UInt8)} {vp : Value} {es : List En} (h : RawIn w W0 P bn Bs wr lv MM vp es) {w' : World} (hb : Below wr.heap.size wr w') : RawIn w W0 P bn Bs w' lv MM vp es :=
 ⟨h.txt.stays hb, h.node.step hb, h.own.stays hb, h.params.step hb, h.kept.step hb, Nat.le_trans h.size hb.size, below_step h.below hb⟩
theorem RawIn.call {w W0 : World} {P : Array Value} {bn Bs : Nat} {wr : World} {lv : Value} {MM : List (List UInt8)} {vp : Value} {es : List En} (h : RawIn w W0 P bn Bs wr lv MM vp es) {w' : World} (hk : Kept W0.heap.size wr w') {lv' : Value} {MM' : List (List UInt8)} (ho : OwnTxt W0 w' lv' MM') : RawIn w W0 P bn Bs w' lv' MM' vp es :=
 ⟨ho, row_kept h.node (by decide) hk, h.own.kept hk, row_kept h.params (by decide) hk, h.kept.trans hk, Nat.le_trans h.size hk.size, hk.below h.below h.below.size⟩
theorem RawIn.text {w W0 : World} {P : Array Value} {bn Bs : Nat} {wr : World} {lv : Value} {MM : List (List UInt8)} {vp : Value} {es : List En} (h : RawIn w W0 P bn Bs wr lv MM vp es) {w' : World} (hg : wr.grownBy w' lv.ownBlock) {lv' : Value} {MM' : List (List UInt8)} (ho : OwnTxt W0 w' lv' MM') : RawIn w W0 P bn Bs w' lv' MM' vp es :=
 h.call (Kept.grown hg fun g e => h.txt.row e) ho
theorem RawIn.other {w W0 : World} {P : Array Value} {bn Bs : Nat} {wr : World} {lv : Value} {MM : List (List UInt8)} {vp : Value} {es : List En} (h : RawIn w W0 P bn Bs wr lv MM vp es) {w' : World} {row : Option Nat} (hg : wr.grownBy w' row) (hw : W0.heap.size ≤ w.heap.size)
  (hr : ∀ g, row = some g → w.heap.size < g ∧ bn ≠ g ∧ vp.ownBlock ≠ some g ∧ ∃ xs T, Row wr g xs T ∧ T ≠ 9) : RawIn w W0 P bn Bs w' lv MM vp es := by
 refine ⟨?_, ?_, ?_, ?_, h.kept.later hg (fun g e => Nat.le_of_lt (hr g e).1), Nat.le_trans h.size hg.size, h.below.grown hg h.below.size (fun g e => by have := (hr g e).1; omega)⟩
 ·cases row with
  | none => exact World.ownsRow.kept h.txt hg (by
    cases hv : lv.ownBlock with
    | none => exact .inl rfl
    | some k => exact .inr (fun e => by cases e))
  | some g =>
   obtain ⟨_, _, _, xs, T, h4, h5⟩ := hr g rfl
   exact h.txt.turn h4 h5 hg
 ·exact (hg.block bn h.node.lt (fun e => (hr bn e.symm).2.1 rfl)).trans h.node
 ·exact World.ownsRow.kept h.own hg (by
   cases hv : vp.ownBlock with
   | none => exact .inl rfl
   | some k => exact .inr (fun e => (hr k e.symm).2.2.1 hv))
 ·exact (hg.block w.heap.size h.params.lt (fun e => by have := (hr _ e.symm).1; omega)).trans h.params
theorem RawIn.added {w W0 : World} {P : Array Value} {bn Bs : Nat} {wr w' : World} {lv : Value} {MM : List (List UInt8)} {vp v' : Value} {es es' : List En} (h : RawIn w W0 P bn Bs wr lv MM vp es) (hg : wr.grownBy w' vp.ownBlock) (ho : OwnE Bs w' v' es') (hbn : bn < Bs) (hw : w.heap.size < bn) (hW : W0.heap.size ≤ w.heap.size) :
  RawIn w W0 P bn Bs (w'.setCell ⟨bn, 3, none⟩ v') lv MM v' es' := by
 have hlt := fun g (e : vp.ownBlock = some g) => (World.ownsRow.lt h.own g e).1
 have hn := row_grownE h.node h.own hg hbn
 have ht : OwnTxt W0 w' lv MM := by
  cases hv : vp.ownBlock with
  | none =>
   rw [hv] at hg
   exact World.ownsRow.kept h.txt hg (by
    cases hv2 : lv.ownBlock with
    | none => exact .inl rfl
    | some k => exact .inr (fun e => by cases e))
  | some g =>
   rw [hv] at hg
   obtain ⟨xs, hx⟩ := h.own.row hv
   exact h.txt.turn hx (by decide) hg
 refine ⟨ht.turn hn (by decide) (grownBy_set w' bn 3 v'), by simpa using hn.set 3 v', ho.setBelow (a := ⟨bn, 3, none⟩) hbn v', ?_, ?_, ?_, ?_⟩
 ·exact (row_grownE h.params h.own hg (by omega)).other ⟨bn, 3, none⟩ v' (show w.heap.size ≠ bn by omega)
 ·exact (h.kept.later hg (fun g e => by have := hlt g e; omega)).later (grownBy_set w' bn 3 v') (fun g e => by cases e; omega)
 ·have := h.size; have := hg.size; simp [World.setCell]; omega
 ·exact (h.below.grown hg h.below.size (fun g e => by have := hlt g e; omega)).setCell (p := ⟨bn, 3, none⟩) (show W0.heap.size ≤ bn by omega) v'
end Go.Proofs.YtjpjpmkadoaipaaGreatDoor
set_option linter.unusedVariables false
namespace Go.Proofs.YtjpjpmkadoaipaaGreatDoor
open Go.RowKit
attribute [local go_sem] Oper.semAt_some
def rwR (w0 W0 : World) (bn bf : Nat) (fp : Value) (i : Nat) (w w' : World) : Prop :=
 if i = 11 then w.grownBy w' fp.ownBlock ∧ ∀ g, fp.ownBlock = some g → w0.heap.size < g ∧ bn ≠ g ∧ W0.heap.size ≤ g ∧ ∃ xs, Row w g xs 109
 else ∃ u a n c, W0.heap.size ≤ bf ∧ Row w bf #[.int .i64 2, .string ⟨#[]⟩, .slice a n c, .slice none 0 0] 71 ∧ w0.heap.size < bf ∧ bn ≠ bf ∧ w' = w.setCell ⟨bf, 2, none⟩ u
theorem rwR_app {w0 W0 : World} {bn bf : Nat} {fp : Value} {w w' : World} (h : rwR w0 W0 bn bf fp 11 w w') : w.grownBy w' fp.ownBlock := by unfold rwR at h; rw [if_pos rfl] at h; exact h.1
theorem rwR_app' {w0 W0 : World} {bn bf B : Nat} {fp : Value} {Lp : List Pt} {w w' : World} (h : w.grownBy w' fp.ownBlock) (ho : OwnP B w fp Lp) (h1 : w0.heap.size < B) (h2 : bn < B) (h3 : W0.heap.size ≤ w0.heap.size) : rwR w0 W0 bn bf fp 11 w w' := by
 unfold rwR; rw [if_pos rfl]
 exact ⟨h, fun g hg => ⟨by have := (World.ownsRow.lt ho g hg).1; omega, by have := (World.ownsRow.lt ho g hg).1; omega, by have := (World.ownsRow.lt ho g hg).1; omega, ho.row hg⟩⟩
theorem rwR_set {w0 W0 : World} {bn bf : Nat} {fp : Value} {w w' : World} (h : rwR w0 W0 bn bf fp 13 w w') : ∃ u a n c, W0.heap.size ≤ bf ∧ Row w bf #[.int .i64 2, .string ⟨#[]⟩, .slice a n c, .slice none 0 0] 71 ∧ w0.heap.size < bf ∧ bn ≠ bf ∧ w' = w.setCell ⟨bf, 2, none⟩ u := by unfold rwR at h; rwa [if_neg (by decide)] at h
theorem rwR_set' {w0 W0 : World} {bn bf : Nat} {fp : Value} {w : World} (hr : Row w bf #[.int .i64 2, .string ⟨#[]⟩, fp, .slice none 0 0] 71) (hv : ∃ a n c, fp = .slice a n c) (h1 : w0.heap.size < bf) (h2 : bn ≠ bf) (h3 : W0.heap.size ≤ w0.heap.size) (u : Value) : rwR w0 W0 bn bf fp 13 w (w.setCell ⟨bf, 2, none⟩ u) := by
 obtain ⟨a, n, c, rfl⟩ := hv
 unfold rwR; rw [if_neg (by decide)]; exact ⟨u, a, n, c, by omega, hr, h1, h2, rfl⟩
theorem rwR_own {w0 W0 : World} {bn bf B : Nat} {fp v : Value} {w w' : World} {L : List Pt} (h : rwR w0 W0 bn bf fp 13 w w') (hU : OwnP B w v L) (hb : bf < B) : OwnP B w' v L := by
 obtain ⟨u, _, _, _, _, _, _, _, rfl⟩ := rwR_set h
 exact hU.setBelow (a := ⟨bf, 2, none⟩) hb u
theorem rwR_lt {w0 W0 : World} {bn bf b : Nat} {fp : Value} {w w' : World} (h : rwR w0 W0 bn bf fp 13 w w') (hb : b < w.heap.size) : b < w'.heap.size := by
 obtain ⟨u, _, _, _, _, _, _, _, rfl⟩ := rwR_set h
 simpa [World.setCell] using hb
theorem rwR_txt {w0 W0 : World} {bn bf : Nat} {fp : Value} {w w' : World} {tb to : Nat} {Ps : List (List UInt8)} (h : rwR w0 W0 bn bf fp 13 w w') (hU : TxtC w tb to Ps) : TxtC w' tb to Ps := by
 obtain ⟨u, a, n, c, _, hr, _, _, rfl⟩ := rwR_set h
 have hc := hr.cell 2
 simp only [List.getElem?_toArray, List.getElem?_cons_zero, List.getElem?_cons_succ] at hc
 exact hU.set hc u
theorem two_kinds {w : World} {g : Nat} {xs ys : Array Value} {T S : TypeId} (h1 : Row w g xs T) (h2 : Row w g ys S) (hne : T ≠ S) : False := by
 have h3 := (show w.heap[g]? = _ from h1).symm.trans (show w.heap[g]? = _ from h2)
 cases h3; exact hne rfl
theorem RawIn.wide {w W0 : World} {P : Array Value} {bn Bs : Nat} {wr : World} {lv : Value} {MM : List (List UInt8)} {vp : Value} {es : List En} (h : RawIn w W0 P bn Bs wr lv MM vp es) {w' : World} {row : Option Nat} (hg : wr.grownBy w' row)
  (hr : ∀ g, row = some g → w.heap.size < g ∧ bn ≠ g ∧ W0.heap.size ≤ g ∧ ∃ xs T, Row wr g xs T ∧ T ≠ 9 ∧ T ≠ 89) : RawIn w W0 P bn Bs w' lv MM vp es := by
 refine ⟨?_, ?_, ?_, ?_, h.kept.later hg (fun g e => Nat.le_of_lt (hr g e).1), Nat.le_trans h.size hg.size, h.below.grown hg h.below.size (fun g e => (hr g e).2.2.1)⟩
 ·cases row with
  | none => exact World.ownsRow.kept h.txt hg (by
    cases hv : lv.ownBlock with
    | none => exact .inl rfl
    | some k => exact .inr (fun e => by cases e))
  | some g =>
   obtain ⟨_, _, _, xs, T, h4, h5, _⟩ := hr g rfl
   exact h.txt.turn h4 h5 hg
 ·exact (hg.block bn h.node.lt (fun e => (hr bn e.symm).2.1 rfl)).trans h.node
 ·exact World.ownsRow.kept h.own hg (by
   cases hv : vp.ownBlock with
   | none => exact .inl rfl
   | some k =>
    refine .inr (fun e => ?_)
    obtain ⟨_, _, _, xs, T, h4, _, h6⟩ := hr k e.symm
    obtain ⟨ys, h7⟩ := h.own.row hv
    exact two_kinds h4 h7 h6)
 ·exact (hg.block w.heap.size h.params.lt (fun e => by have := (hr _ e.symm).1; omega)).trans h.params
theorem rwR_raw {w0 W0 : World} {P : Array Value} {bn Bs bf : Nat} {fp lv vp : Value} {MM : List (List UInt8)} {es : List En} {w w' : World} (h : rwR w0 W0 bn bf fp 11 w w') (hU : RawIn w0 W0 P bn Bs w lv MM vp es) : RawIn w0 W0 P bn Bs w' lv MM vp es := by
 unfold rwR at h; rw [if_pos rfl] at h
 refine hU.wide h.1 fun g hg => ?_
 obtain ⟨h1, h2, h4, xs, h3⟩ := h.2 g hg
 exact ⟨h1, h2, h4, xs, _, h3, by decide, by decide⟩
theorem rwR_raw2 {w0 W0 : World} {P : Array Value} {bn Bs bf : Nat} {fp lv vp : Value} {MM : List (List UInt8)} {es : List En} {w w' : World} (h : rwR w0 W0 bn bf fp 13 w w') (hU : RawIn w0 W0 P bn Bs w lv MM vp es) : RawIn w0 W0 P bn Bs w' lv MM vp es := by
 obtain ⟨u, a, n, c, h4, hr, h1, h2, rfl⟩ := rwR_set h
 exact hU.wide (grownBy_set w bf 2 u) fun g hg => by cases hg; exact ⟨h1, h2, h4, _, _, hr, by decide, by decide⟩
theorem rwR_row {w0 W0 : World} {bn bf b : Nat} {fp : Value} {xs : Array Value} {w w' : World} (h : rwR w0 W0 bn bf fp 11 w w') (hU : Row w b xs 89) : Row w' b xs 89 := by
 unfold rwR at h; rw [if_pos rfl] at h
 exact (h.1.block b hU.lt (fun e => by obtain ⟨_, _, _, ys, h3⟩ := h.2 b e.symm; exact two_kinds hU h3 (by decide))).trans hU
theorem rwR_row2 {w0 W0 : World} {bn bf b : Nat} {fp : Value} {xs : Array Value} {w w' : World} (h : rwR w0 W0 bn bf fp 13 w w') (hU : Row w b xs 89) : Row w' b xs 89 := by
 obtain ⟨u, a, n, c, _, hr, h1, h2, rfl⟩ := rwR_set h
 exact hU.other ⟨bf, 2, none⟩ u (fun e => two_kinds hU (show Row w b _ _ by rw [show b = bf from e]; exact hr) (by decide))
def draU (w0 W0 : World) (Pm : Array Value) (bn Bs bf sb eb tb to tl tcap kc Bf : Nat) (fp lv vp : Value) (Lp : List Pt) (MM Ps : List (List UInt8)) (es : List En) (kk t z : ByteArray) (xe : Bool) : Nat → Value → Value → World → Prop
 | 0 => fun v _ _ => v = .pointer (some ⟨bf, 2, none⟩)
 | 1 => fun v _ _ => v = fp
 | 2 => fun v _ _ => v = .agg #[.int .i64 1, .string t, .slice none 0 0, .slice none 0 0]
 | 3 => fun v _ _ => v = .string kk
 | 4 => fun v _ _ => v = .slice (some ⟨tb, to, none⟩) tl tcap
 | 5 => fun v _ _ => v = .int .i64 kc
 | 6 => fun v _ _ => v = .pointer (some ⟨tb, to + kc, none⟩)
 | 7 => fun v _ _ => v = .string t
 | 8 => fun v _ _ => v = .int .i64 t.size
 | 9 => fun v _ _ => v = .agg #[.string kk, .int .i64 t.size]
 | 10 => fun v _ w => OnePt w v (⟨kk, (t.size : Int)⟩ : Pt)
 | 11 => fun v _ w => OwnP Bf w v (Lp ++ [(⟨kk, (t.size : Int)⟩ : Pt)]) ∧ bf < Bf
 | 12 => fun v _ _ => v = .pointer (some ⟨bf, 2, none⟩)
 | 13 => fun _ e w => Row w bf #[.int .i64 2, .string ⟨#[]⟩, e, .slice none 0 0] 71
 | 14 => fun _ _ w => Row w bf #[.int .i64 2, .string ⟨#[]⟩, fp, .slice none 0 0] 71 ∧ fp.ownBlock ≠ some bf
 | 15 => fun _ _ w => Row w sb #[.int .i64 1, .string t, .slice none 0 0, .slice none 0 0] 71
 | 16 => fun _ _ w => TxtC w tb to Ps ∧ tb < w.heap.size ∧ fp.ownBlock ≠ some tb
 | 17 => fun _ _ w => OwnP Bf w fp Lp
 | 18 => fun _ _ w => RawIn w0 W0 Pm bn Bs w lv MM vp es
 | 19 => fun _ _ w => Row w eb #[.string z, .int .i64 2, .bool xe, .string ⟨#[]⟩] 89
 | _ => fun _ _ _ => True
def draN : List (List Nat) := [[], [0, 14], [15], [2], [], [], [4, 5], [6, 16], [7], [3, 8], [9], [1, 10, 17], [], [12, 11, 14]]
def draE : Nat → Option Tmp
 | 13 => some 95
 | _ => none
def draB : List (Nat × Nat) := [(11, 10), (11, 13), (11, 15), (11, 17), (13, 10), (13, 14), (13, 15), (13, 17)]
theorem dra_T (w0 W0 : World) (Pm : Array Value) (bn Bs bf sb eb tb to tl tcap kc Bf : Nat) (fp lv vp : Value) (Lp : List Pt) (MM Ps : List (List UInt8)) (es : List En) (kk t z : ByteArray) (xe : Bool) (ix kx : Nat) (v e : Value) (w w' : World) (hk : kx < 20) (hne : kx ≠ ix) (hbd : (ix, kx) ∉ draB) (hU : (draU w0 W0 Pm bn Bs bf sb eb tb to tl tcap kc Bf fp lv vp Lp MM Ps es kk t z xe) kx v e w) (hT : (appTs [11, 13] (rwR w0 W0 bn bf fp)) ix w w') : (draU w0 W0 Pm bn Bs bf sb eb tb to tl tcap kc Bf fp lv vp Lp MM Ps es kk t z xe) kx v e w' := by
 by_cases hi11 : ix = 11
 ·subst hi11
  have hR := appTs_in (by decide) hT
  rcases (show kx = 0 ∨ kx = 1 ∨ kx = 2 ∨ kx = 3 ∨ kx = 4 ∨ kx = 5 ∨ kx = 6 ∨ kx = 7 ∨ kx = 8 ∨ kx = 9 ∨ kx = 10 ∨ kx = 11 ∨ kx = 12 ∨ kx = 13 ∨ kx = 14 ∨ kx = 15 ∨ kx = 16 ∨ kx = 17 ∨ kx = 18 ∨ kx = 19 by omega) with rfl | rfl | rfl | rfl | rfl | rfl | rfl | rfl | rfl | rfl | rfl | rfl | rfl | rfl | rfl | rfl | rfl | rfl | rfl | rfl
  iterate 10 exact hU
  ·exact absurd (by decide) hbd
  ·exact absurd rfl hne
  ·exact hU
  ·exact absurd (by decide) hbd
  ·exact ⟨((rwR_app hR).block bf hU.1.lt (fun e => hU.2 e.symm)).trans hU.1, hU.2⟩
  ·exact absurd (by decide) hbd
  ·exact ⟨hU.1.grown hU.2.1 (rwR_app hR) hU.2.2, Nat.lt_of_lt_of_le hU.2.1 (rwR_app hR).size, hU.2.2⟩
  ·exact absurd (by decide) hbd
  ·exact rwR_raw hR hU
  ·exact rwR_row hR hU
 by_cases hi13 : ix = 13
 ·subst hi13
  have hR := appTs_in (by decide) hT
  rcases (show kx = 0 ∨ kx = 1 ∨ kx = 2 ∨ kx = 3 ∨ kx = 4 ∨ kx = 5 ∨ kx = 6 ∨ kx = 7 ∨ kx = 8 ∨ kx = 9 ∨ kx = 10 ∨ kx = 11 ∨ kx = 12 ∨ kx = 13 ∨ kx = 14 ∨ kx = 15 ∨ kx = 16 ∨ kx = 17 ∨ kx = 18 ∨ kx = 19 by omega) with rfl | rfl | rfl | rfl | rfl | rfl | rfl | rfl | rfl | rfl | rfl | rfl | rfl | rfl | rfl | rfl | rfl | rfl | rfl | rfl
  iterate 10 exact hU
  ·exact absurd (by decide) hbd
  ·exact ⟨rwR_own hR hU.1 hU.2, hU.2⟩
  ·exact hU
  ·exact absurd rfl hne
  ·exact absurd (by decide) hbd
  ·exact absurd (by decide) hbd
  ·exact ⟨rwR_txt hR hU.1, rwR_lt hR hU.2.1, hU.2.2⟩
  ·exact absurd (by decide) hbd
  ·exact rwR_raw2 hR hU
  ·exact rwR_row2 hR hU
 have hi : ix ∉ [11, 13] := by simp [hi11, hi13]
 have hb : Below w.heap.size w w' := appTs_out hi hT
 rcases (show kx = 0 ∨ kx = 1 ∨ kx = 2 ∨ kx = 3 ∨ kx = 4 ∨ kx = 5 ∨ kx = 6 ∨ kx = 7 ∨ kx = 8 ∨ kx = 9 ∨ kx = 10 ∨ kx = 11 ∨ kx = 12 ∨ kx = 13 ∨ kx = 14 ∨ kx = 15 ∨ kx = 16 ∨ kx = 17 ∨ kx = 18 ∨ kx = 19 by omega) with rfl | rfl | rfl | rfl | rfl | rfl | rfl | rfl | rfl | rfl | rfl | rfl | rfl | rfl | rfl | rfl | rfl | rfl | rfl | rfl
 iterate 10 exact hU
 ·exact OnePt.stays hU hb
 ·exact ⟨OwnP.stays hU.1 hb, hU.2⟩
 ·exact hU
 ·exact Row.step hU hb
 ·exact ⟨Row.step hU.1 hb, hU.2⟩
 ·exact Row.step hU hb
 ·exact ⟨hU.1.stays hU.2.1 hb, Nat.lt_of_lt_of_le hU.2.1 hb.size, hU.2.2⟩
 ·exact OwnP.stays hU hb
 ·exact RawIn.stays hU hb
 ·exact Row.step hU hb
theorem last_of {w : World} {v : Value} {MM : List (List UInt8)} {Mi : List (List UInt8)} {l : List UInt8} (h : IsStrs w v (strsOf MM)) (e : MM = Mi ++ [l]) : ∃ (L7 : List ByteArray) (b o cap : Nat), v = .slice (some ⟨b, o, none⟩) L7.length cap ∧ 0 < L7.length ∧ L7.length ≤ 9223372036854775807 ∧ w.cell? ⟨b, o + (L7.length - 1), none⟩ = some (.string ⟨l.toArray⟩) := by
 obtain ⟨hm, a, cap, hv, _, hc⟩ := h
 have hl : (strsOf MM).length = Mi.length + 1 := by rw [strsOf_len, e, List.length_append]; rfl
 obtain ⟨b, off, rfl, hb, g⟩ := hc (by omega)
 refine ⟨strsOf MM, b, off, cap, hv, by omega, by unfold maxLen at hm; omega, ?_⟩
 have h1 := g ((strsOf MM).length - 1) (by omega)
 have h2 : (strsOf MM)[(strsOf MM).length - 1]'(by omega) = ⟨l.toArray⟩ := by
  rw [strsOf_get (by rw [strsOf_len] at hl ⊢; omega)]
  congr 2
  subst e
  simp [strsOf_len]
 rw [h2] at h1; exact h1
theorem wrN_len {n : Nd} (h : fitN n = true) : (wrN n).length ≤ 50000 := by rw [wrN_fit h]; exact (wrL_len h).2
theorem own_txt {W w : World} {v : Value} {Ps : List (List UInt8)} (h : OwnTxt W w v Ps) : ∃ (a : Option Addr) (cap tb to : Nat), v = .slice a Ps.length cap ∧ (0 < Ps.length → a = some ⟨tb, to, none⟩ ∧ W.heap.size ≤ tb ∧ tb < w.heap.size) ∧ TxtC w tb to Ps := by
 obtain ⟨_, a, cap, hv, _, hc⟩ := h.strs
 by_cases h0 : 0 < Ps.length
 ·obtain ⟨b, off, rfl, hbl, g⟩ := hc (by rw [strsOf_len]; exact h0)
  refine ⟨_, cap, b, off, by rw [hv, strsOf_len], fun _ => ⟨rfl, (h.row (g := b) (by rw [hv]; rfl)).1, hbl⟩, fun i hi => ?_⟩
  have := g i (by rw [strsOf_len]; exact hi)
  rwa [strsOf_get hi] at this
 ·exact ⟨a, cap, 0, 0, by rw [hv, strsOf_len], fun h => absurd h h0, fun i hi => absurd (Nat.lt_of_le_of_lt (Nat.zero_le _) hi) h0⟩
set_option maxRecDepth 100000 in
set_option maxHeartbeats 32000000 in
theorem raw_step (mn av b mx : Nat) (hF : FitAt mn av mx b) (I : List It) (R : ReadyT (cutN mn b mx) I) (hs : ∀ x ∈ I, x.p.size ≤ 100000 ∧ x.c.size ≤ 100000) (k : Nat) (ih : RawAt mn av b mx I k) : RawAt mn av b mx I (k + 1) := by
 intro dp hdp W0 v iv M d w0 hbw ho hi hL
 have hI : I.length ≤ 60 := R.fit.len
 have CD := Lib.hid refDir_any
 have CS := Lib.hid refSplit_any
 have CPC := Lib.hid (fun s hs W => refPiecesO_any mn av b mx hF s hs W)
 have OK := Lib.hid (cutN_ok (mn := mn) (b := b) (mx := mx) (by have := hF.h1; omega) (by have := hF.h2; have := hF.h3; omega))
 have IH := Lib.hid ih
 have HP := Lib.hid R.fit.path; have HS := Lib.hid hs
 obtain ⟨c, hc⟩ : ∃ c, c = cutN mn b mx := ⟨_, rfl⟩
 have HCC := Lib.hid hc
 rw [← hc] at CPC hL R OK ⊢
 have HRD := Lib.hid R
 obtain ⟨td, ht⟩ : ∃ td, td = d.data.toList := ⟨_, rfl⟩
 rw [← ht] at hL ⊢
 have HT := Lib.hid ht
 obtain ⟨V, hV⟩ : ∃ V, V = (w0.alloc (.cells #[.int .i64 mn, .int .i64 av, .int .i64 mx] 23)).alloc (.cells #[.int .i64 3, .string ⟨#[]⟩, .slice none 0 0, .slice none 0 0] 71) := ⟨_, rfl⟩
 have hbV : Below w0.heap.size w0 V := by rw [hV]; exact ((Below.refl _ _).alloc (Nat.le_refl _) _).alloc (by simp) _
 have hR0 : Row V w0.heap.size #[.int .i64 mn, .int .i64 av, .int .i64 mx] 23 := by rw [hV]; exact (Row.made _ _ _).alloc _
 have hRN : Row V (w0.heap.size + 1) #[.int .i64 3, .string ⟨#[]⟩, .slice none 0 0, .slice none 0 0] 71 := by
  have := Row.made (w0.alloc (.cells #[.int .i64 mn, .int .i64 av, .int .i64 mx] 23)) #[.int .i64 3, .string ⟨#[]⟩, .slice none 0 0, .slice none 0 0] 71
  rw [hV]; simpa using this
 have hz1 := hRN.lt
 obtain ⟨bn, hbn⟩ : ∃ bn, bn = w0.heap.size + 1 := ⟨_, rfl⟩
 have HBN := Lib.hid hbn
 have HWW := Lib.hid hbw.size
 have HD0 : Hid (RawIn w0 W0 #[.int .i64 mn, .int .i64 av, .int .i64 mx] bn V.heap.size V v (M ++ (preS c I k td 0).map wrN) (.slice none 0 0) (preE c I k td 0)) := Lib.hid (by
  rw [hbn]
  have e1 : preS c I k td 0 = [] := rfl
  have e2 : preE c I k td 0 = [] := rfl
  rw [e1, e2, List.map_nil, List.append_nil]
  exact ⟨ho.stays hbV, hRN, entries_own_nil _ _, hR0, Kept.of_below hbV, Nat.le_refl _, below_step hbw hbV⟩)
 have HV := Lib.hid hV; have HI0 := Lib.hid hi
 have HLN := Lib.hid hL
 obtain ⟨_, a1, cap1, rfl, _, _⟩ := hi
 have q8 : decide ((dp : Int) ≤ 8) = true := decide_eq_true (by omega)
 clear hV hbV hRN hR0 hc ht hF hs ih hL R ho
 go_enter Tryz.func37, Tryz.ntmps37
 go_wp2_with fail
 rw [← HV.out, ← HBN.out]
 clear hbn
 go_loopw [2, 12] (fun lv i wr => ∃ (j : Nat) (vp : Value), j ≤ I.length ∧ i = .int .i64 j ∧ RawIn w0 W0 #[.int .i64 mn, .int .i64 av, .int .i64 mx] bn V.heap.size wr lv (M ++ (preS c I k td j).map wrN) vp (preE c I k td j)) (fun _ i _ => I.length - (intOf i).toNat)
 case atStart => exact ⟨0, _, Nat.zero_le _, rfl, HD0.out⟩
 case round =>
  obtain ⟨j, vp, hj, rfl, hD⟩ := hrel
  have HD := Lib.hid hD
  have hB := hD.below
  have hpl := pre_le c I k td hj
  clear hD
  by_cases hlt : j < I.length
  ·obtain ⟨_, _, _, e, _, hc⟩ := HI0.out.stays hB
   cases e
   obtain ⟨b1, off, rfl, hbl, g⟩ := hc (by omega)
   obtain ⟨c0, c1, c2, c3⟩ := g j hlt
   clear g hc
   have hbk : decide ((j : Int) < (I.length : Int)) = true := by simpa using (show (j : Int) < I.length by omega)
   have hin := preS_in (c := c) (k := k) (d := td) hlt
   have hout := preS_out (c := c) (k := k) (d := td) hlt
   have ein := preE_in (c := c) (k := k) (d := td) hlt
   have eout := preE_out (c := c) (k := k) (d := td) hlt
   have hle := pre_less (c := c) (k := k) (d := td) hlt
   have hmem : I[j]'hlt ∈ I := List.getElem_mem hlt
   have hxp := HP.out _ (List.getElem_mem hlt)
   have hxs := HS.out _ (List.getElem_mem hlt)
   obtain ⟨x, hx⟩ : ∃ x, I[j]'hlt = x := ⟨_, rfl⟩
   rw [hx] at c0 c1 c2 c3 hin hout ein eout hle hxp hxs hmem
   clear hx
   have HMEM := Lib.hid hmem
   have C := Lib.hid (CD.out x.p hxs.1)
   rw [show x.p.data.toList = x.t from rfl] at C
   have hba := (Below.refl wr.heap.size wr).alloc (Nat.le_refl _) (.cells #[.string x.p, .bool x.d, .bool x.e, .string x.c] 52)
   have HX := Lib.hid (inBox_new wr x 52)
   have HD2 := Lib.hid (HD.out.stays hba)
   clear hba HD hmem
   by_cases hd : dirS x.t = td
   ·have f1 : ((dirS x.t) == d.toList) = true := by rw [beq_iff_eq, Lib.toList_data, ← HT.out]; exact hd
    have HIN := Lib.hid (hin hd); have EIN := Lib.hid (ein hd); have HLE := Lib.hid (hle hd)
    have S := Lib.hid (CS.out x.p hxs.1)
    rw [show x.p.data.toList = x.t from rfl] at S
    have HL := Lib.hid (last_at hxp)
    have HXS := Lib.hid hxs; have HPL := Lib.hid hpl
    clear hin hout ein eout hle hd hxp hxs hpl
    go_wp2_with fail
    refine (C.out _).mono ?_
    rintro e w1 ⟨rfl, hb1⟩
    have HX1 := Lib.hid (HX.out.stays hb1)
    have HD3 := Lib.hid (HD2.out.stays hb1)
    obtain ⟨e0, e1, e2, e3⟩ := HX1.out.cells
    clear c0 c1 c2 c3 hb1 HX HD2 hB
    go_wp2_with fail
    refine (S.out _).mono ?_
    rintro e w2 ⟨v2, rfl, hv2, hb2⟩
    have HX2 := Lib.hid (HX1.out.stays hb2)
    have HD4 := Lib.hid (HD3.out.stays hb2)
    clear e0 e1 e2 e3 hb2 HX1 HD3
    obtain ⟨e0, e1, e2, e3⟩ := HX2.out.cells
    obtain ⟨Mn, hMn⟩ : ∃ Mn, Mn = strsOf (splitS x.t) := ⟨_, rfl⟩
    rw [← hMn] at HL hv2
    clear hMn
    obtain ⟨hm2, a2, cap2, rfl, _, hc2⟩ := hv2
    have hmm2 : Mn.length ≤ 9223372036854775807 := by unfold maxLen at hm2; omega
    have hpos := HL.out.1
    obtain ⟨b2, o2, rfl, _, g2⟩ := hc2 hpos
    have q := g2 (Mn.length - 1) (by omega)
    have HZ := Lib.hid (HL.out.2 (by omega))
    obtain ⟨z, hz⟩ : ∃ z, z = Mn[Mn.length - 1] := ⟨_, rfl⟩
    rw [← hz] at q HZ
    clear hz g2 hc2
    have hw1 : IntKind.i64.wrap ((Mn.length : Int) - 1) = ((Mn.length - 1 : Nat) : Int) := (IntWalk.i64_in _ (by omega)).trans (by omega)
    have hlt2 : Mn.length - 1 < Mn.length := by omega
    have hlx := HX2.out.2
    have htn : ((Mn.length - 1 : Nat) : Int).toNat = Mn.length - 1 := by omega
    go_wp2_with fail
    go_region
    obtain ⟨W5, hW5⟩ : ∃ W5, W5 = (w2.alloc (.cells #[.string z, .int .i64 2, .bool x.e, .string ⟨#[]⟩] 89)).drew := ⟨_, rfl⟩
    obtain ⟨eb, heb⟩ : ∃ eb, eb = w2.heap.size := ⟨_, rfl⟩
    have hbe : Below w2.heap.size w2 W5 := by rw [hW5]; exact ((Below.refl _ _).alloc (Nat.le_refl _) _).drew
    have hRE : Row W5 eb #[.string z, .int .i64 2, .bool x.e, .string ⟨#[]⟩] 89 := by rw [hW5, heb]; exact (Row.made w2 _ _).drew
    rw [← hW5, ← heb]
    have HX5 := Lib.hid (HX2.out.stays hbe)
    have HD5 := Lib.hid (HD4.out.stays hbe)
    have HRE := Lib.hid hRE
    have hge : vp.ownBlock ≠ some eb := fun e => by have := (World.ownsRow.lt HD4.out.own eb e).2; omega
    have HGE := Lib.hid hge
    have hsz4 := HD4.out.size
    have hbeb : bn < eb := by have := HBN.out; omega
    have hz9 : bn < V.heap.size := by have := HBN.out; omega
    have hweb : w0.heap.size < eb := by have := HBN.out; omega
    have hxe : wr.heap.size ≠ eb := by omega
    have hz5 : eb < W5.heap.size := hRE.lt
    clear hW5 hRE hge e0 e1 e2 e3 q hbe heb hlt2 htn hw1 hlx hpos hmm2 hm2
    obtain ⟨e0, e1, e2, e3⟩ := HX5.out.cells
    have HEN : Hid (z = ⟨(lastN x.t).toArray⟩) := Lib.hid (str_list HZ.out)
    rcases hxd : x.d with _ | _
    ·rw [hxd] at e1
     obtain ⟨W6, hW6⟩ : ∃ W6, W6 = W5.alloc (.cells #[.int .i64 2, .string ⟨#[]⟩, .slice none 0 0, .slice none 0 0] 71) := ⟨_, rfl⟩
     have hb6 : Below W5.heap.size W5 W6 := by rw [hW6]; exact (Below.refl _ _).alloc (Nat.le_refl _) _
     obtain ⟨bf, hbf⟩ : ∃ bf, bf = W5.heap.size := ⟨_, rfl⟩
     have hRF : Row W6 bf #[.int .i64 2, .string ⟨#[]⟩, .slice none 0 0, .slice none 0 0] 71 := by rw [hW6, hbf]; exact Row.made _ _ _
     have HWF := Lib.hid hW6; have HBFE := Lib.hid hbf
     have HRF6 := Lib.hid hRF
     have HD6 := Lib.hid (HD5.out.stays hb6)
     have HRE6 := Lib.hid (HRE.out.step hb6)
     have CP := Lib.hid (CPC.out x.c HXS.out.2 W6)
     rw [show x.c.data.toList = x.b from rfl] at CP
     obtain ⟨Ps, hPs⟩ : ∃ Ps, Ps = pcs c x.b := ⟨_, rfl⟩
     have HPS := Lib.hid hPs
     have hxb : x.b.length = x.c.size := by unfold It.b; rw [Lib.size_eq]
     have hpl2 : Ps.length ≤ 100000 := by
      have h1 := pcs_len OK.out.pos x.b.length x.b (Nat.le_refl _)
      have h2 := HXS.out.2
      rw [hPs]; omega
     have p0 := HD5.out.params.cell 0; have p1 := HD5.out.params.cell 1; have p2 := HD5.out.params.cell 2
     simp only [List.getElem?_toArray, List.getElem?_cons_zero, List.getElem?_cons_succ] at p0 p1 p2
     have hlp5 := HD5.out.params.lt
     have hlx5 := HX5.out.2
     have hq : sqT c I k x = seqF c x.b := by unfold sqT; rw [if_neg (by rw [hxd]; decide)]
     have hsub : subN c I k x = fileN c x.b := by unfold subN; rw [if_neg (by rw [hxd]; decide)]
     rw [hq] at HIN HLE; rw [hsub] at EIN
     have HFS : Hid (fitN (fileN c x.b) = true) := Lib.hid (file_fit HRD.out HMEM.out)
     have hbf1 : w0.heap.size < bf := by omega
     have hbf2 : bn < bf := by omega
     have hebf : eb < bf := by omega
     clear hq hsub hPs hW6 hRF hbf
     go_wp2_with fail
     rw [← HWF.out, ← HBFE.out]
     with_reducible refine CP.out.mono ?_
     rintro e w7 ⟨v7, rfl, ho7, hb7⟩
     rw [← HPS.out] at ho7
     obtain ⟨a7, cap7, tb, to, hv7, hab, hT7⟩ := own_txt ho7
     subst hv7
     have HAB := Lib.hid hab; have HT7 := Lib.hid hT7
     have HD7 := Lib.hid (HD6.out.stays hb7)
     have HRF7 := Lib.hid (HRF6.out.step hb7)
     have HRE7 := Lib.hid (HRE6.out.step hb7)
     have hbf7 := HRF7.out.lt
     have HNT7 : Hid (0 < Ps.length → u2.ownBlock ≠ some tb) := Lib.hid (fun h e => by have h1 := (World.ownsRow.lt HD6.out.txt tb e).2; have h2 := (hab h).2.1; omega)
     have HLW := Lib.hid hbw
     clear hab hT7 ho7 hb6 hb7 e0 e1 e2 e3 p0 p1 p2 hlp5 hlx5
     go_wp2
     go_loopw [2, 18] (fun lv i ws => ∃ (q : Nat) (fp : Value), q ≤ Ps.length ∧ i = .int .i64 q ∧ RawIn w0 W0 #[.int .i64 mn, .int .i64 av, .int .i64 mx] bn V.heap.size ws lv (M ++ (preS c I k td j ++ (Ps.take q).map pieceN).map wrN) vp (preE c I k td j) ∧ Row ws bf #[.int .i64 2, .string ⟨#[]⟩, fp, .slice none 0 0] 71 ∧ OwnP w7.heap.size ws fp ((Ps.take q).map partP) ∧ Row ws eb #[.string z, .int .i64 2, .bool x.e, .string ⟨#[]⟩] 89 ∧ TxtC ws tb to Ps ∧ (0 < Ps.length → lv.ownBlock ≠ some tb) ∧ w7.heap.size ≤ ws.heap.size) (fun _ i _ => Ps.length - (intOf i).toNat)
     case atStart => exact ⟨0, _, Nat.zero_le _, rfl, by rw [List.take_zero, List.map_nil, List.append_nil]; exact HD7.out, HRF7.out, parts_own_nil _ _, HRE7.out, HT7.out, HNT7.out, Nat.le_refl _⟩
     case round =>
      obtain ⟨q, fp, hq, rfl, hD, hRf, hO, hRe, hT, hN, hz⟩ := hrel
      have HDq := Lib.hid hD; have HRq := Lib.hid hRf; have HOq := Lib.hid hO; have HEq := Lib.hid hRe; have HTq := Lib.hid hT; have HNq := Lib.hid hN
      have hml : (M ++ (preS c I k td j ++ (Ps.take q).map pieceN).map wrN).length ≤ 900000 := by
       rw [List.length_append, List.length_map, List.length_append, List.length_map, List.length_take]
       have := HLN.out; have := HPL.out; omega
      clear hD hRf hO hRe hT hN
      obtain ⟨Mq, hMq⟩ : ∃ Mq, Mq = M ++ (preS c I k td j ++ (Ps.take q).map pieceN).map wrN := ⟨_, rfl⟩
      rw [← hMq] at HDq hml
      have HMQ := Lib.hid hMq
      by_cases hlq : q < Ps.length
      ·obtain ⟨rfl, htl, htb⟩ := HAB.out (by omega)
       have hbq : decide ((q : Int) < (Ps.length : Int)) = true := by simpa using (show (q : Int) < Ps.length by omega)
       have hst : M ++ (preS c I k td j ++ (Ps.take (q + 1)).map pieceN).map wrN = Mq ++ [wrN (pieceN (Ps[q]'hlq))] := by rw [hMq, List.take_succ_eq_append_getElem hlq]; simp only [List.map_append, List.map_cons, List.map_nil, List.append_assoc]
       have hsp : (Ps.take (q + 1)).map partP = (Ps.take q).map partP ++ [partP (Ps[q]'hlq)] := by rw [List.take_succ_eq_append_getElem hlq, List.map_append]; rfl
       have c0 := HTq.out q hlq
       obtain ⟨pk, hpk⟩ : ∃ pk, Ps[q]'hlq = pk := ⟨_, rfl⟩
       rw [hpk] at hst hsp c0
       have HPK := Lib.hid hpk
       obtain ⟨tp, htp⟩ : ∃ tp : ByteArray, tp = ⟨pk.toArray⟩ := ⟨_, rfl⟩
       have hts : tp.size = pk.length := by rw [htp, Lib.size_eq]
       obtain ⟨kk, hkk⟩ : ∃ kk : ByteArray, kk = ⟨(keyN (pieceN pk)).toArray⟩ := ⟨_, rfl⟩
       obtain ⟨S1, hS1⟩ : ∃ S1 : ByteArray, S1 = ⟨(wrN (pieceN pk)).toArray⟩ := ⟨_, rfl⟩
       have hx9 : partP pk = ⟨kk, (tp.size : Int)⟩ := by unfold partP; rw [hkk, hts]
       rw [hx9] at hsp
       have hS1l : wrN (pieceN pk) = S1.data.toList := by rw [hS1]
       rw [hS1l] at hst
       have CW1 : Hid (∀ W, Calls Tryz.prog 66 #[.agg #[.int .i64 1, .string tp, .slice none 0 0, .slice none 0 0]] W fun e w' => e = .returned (.string S1) ∧ Below W.heap.size W w') := Lib.hid (fun W => by
        rw [htp, hS1]; exact rWrite_any (pieceN pk) (.slice none 0 0) (.slice none 0 0) W (parts_nil _) (entries_nil _))
       have CK1 : Hid (∀ W, Calls Tryz.prog 67 #[.agg #[.int .i64 1, .string tp, .slice none 0 0, .slice none 0 0]] W fun e w' => e = .returned (.string kk) ∧ Below W.heap.size W w') := Lib.hid (fun W => by
        rw [htp, hkk]; exact rKey_any (pieceN pk) (.slice none 0 0) (.slice none 0 0) W (parts_nil _) (entries_nil _))
       obtain ⟨MM, hMM⟩ : ∃ MM, MM = Mq ++ [S1.data.toList] := ⟨_, rfl⟩
       rw [← hMM] at hst
       obtain ⟨Lp, hLp⟩ : ∃ Lp, Lp = (Ps.take q).map partP := ⟨_, rfl⟩
       have HLP : Hid (Lp.length ≤ 1000000) := Lib.hid (by rw [hLp, List.length_map, List.length_take]; omega)
       rw [← hLp] at HOq hsp
       have HST := Lib.hid hst; have HSP := Lib.hid hsp; have HMM := Lib.hid hMM; have HTT := Lib.hid htp
       rw [← htp] at c0
       obtain ⟨Wa, hWa⟩ : ∃ Wa, Wa = wr.alloc (.cells #[.int .i64 1, .string tp, .slice none 0 0, .slice none 0 0] 71) := ⟨_, rfl⟩
       obtain ⟨sb, hsb⟩ : ∃ sb, sb = wr.heap.size := ⟨_, rfl⟩
       have hba : Below wr.heap.size wr Wa := by rw [hWa]; exact (Below.refl _ _).alloc (Nat.le_refl _) _
       have hRS : Row Wa sb #[.int .i64 1, .string tp, .slice none 0 0, .slice none 0 0] 71 := by rw [hWa, hsb]; exact Row.made _ _ _
       have HWA := Lib.hid hWa; have HSB := Lib.hid hsb; have HBA := Lib.hid hba; have HRSA := Lib.hid hRS
       clear hst hsp hMM hLp htp hts hkk hS1 hx9 hS1l hpk hMq hWa hsb hba hRS
       go_wp2_with fail
       rw [← HWA.out, ← HSB.out]
       with_reducible refine (CW1.out _).mono ?_
       rintro e wb ⟨rfl, hbb⟩
       have hbab := below_step HBA.out hbb
       have HDb := Lib.hid (HDq.out.stays hbab)
       have HRb := Lib.hid (HRq.out.step hbab); have HOb := Lib.hid (HOq.out.stays hbab); have HEb := Lib.hid (HEq.out.step hbab)
       have htw : tb < wr.heap.size := by omega
       have HTb := Lib.hid (HTq.out.stays htw hbab)
       have htwb : tb < wb.heap.size := Nat.lt_of_lt_of_le htw hbab.size
       have hsb2 : wr.heap.size ≤ wb.heap.size := hbab.size
       have hRSb := HRSA.out.step hbb
       have HRSB := Lib.hid hRSb
       have sc0 := hRSb.cell 0; have sc1 := hRSb.cell 1; have sc2 := hRSb.cell 2; have sc3 := hRSb.cell 3
       simp only [List.getElem?_toArray, List.getElem?_cons_zero, List.getElem?_cons_succ] at sc0 sc1 sc2 sc3
       have hzb : W0.heap.size ≤ wb.heap.size := HDb.out.below.size
       have hol : Mq.length ≤ 1000000 := by omega
       clear hbb hbab c0 hRSb
       go_wp2_with (at_builtin; refine wpList_append_txt_at rfl _ _ rfl HDb.out.txt hzb rfl rfl rfl hol ?_)
       intro v9 wc hown9 hgc hat
       rw [← HMM.out] at hown9
       have kc : Kept W0.heap.size wb wc := Kept.grown hgc fun g e => HDb.out.txt.row e
       have HD := Lib.hid (HDb.out.text hgc hown9)
       have HRF := Lib.hid (row_kept HRb.out (by decide) kc); have HRS := Lib.hid (row_kept HRSB.out (by decide) kc); have HRE9 := Lib.hid (row_kept HEb.out (by decide) kc)
       have HO := Lib.hid (HOb.out.kept kc)
       have hNv : u2.ownBlock ≠ some tb := HNq.out (by omega)
       have HNT : Hid (0 < Ps.length → v9.ownBlock ≠ some tb) := Lib.hid (fun _ e => by
        rcases hat with h | ⟨g, h, hg⟩
        ·exact hNv (h.symm.trans e)
        ·rw [h] at e; cases e; omega)
       have HC : Hid (TxtC wc tb to Ps ∧ tb < wc.heap.size) := Lib.hid ⟨HTb.out.grown htwb hgc hNv, Nat.lt_of_lt_of_le htwb hgc.size⟩
       have HNE : Hid (fp.ownBlock ≠ some bf ∧ fp.ownBlock ≠ some tb) := Lib.hid ⟨fun e => by have := (World.ownsRow.lt HO.out bf e).1; omega, fun e => by have := (World.ownsRow.lt HO.out tb e).1; omega⟩
       have HVP : Hid (∃ a n c, fp = .slice a n c) := Lib.hid (by obtain ⟨_, a, c, e, _⟩ := HO.out.is; exact ⟨a, _, c, e⟩)
       have hww := HWW.out
       have HBS : Hid (bf < w7.heap.size ∧ w0.heap.size < w7.heap.size ∧ bn < w7.heap.size ∧ W0.heap.size ≤ w0.heap.size) := Lib.hid ⟨hbf7, by omega, by omega, hww⟩
       have HBF : Hid (w0.heap.size < bf ∧ bn ≠ bf ∧ W0.heap.size ≤ bf) := Lib.hid ⟨hbf1, by omega, by omega⟩
       have HKT : Hid (q < Ps.length) := Lib.hid hlq
       have HG0 : Hid (HeldM W0 w7.heap.size { wc with drawn := wc.drawn + 1 }) := Lib.hid ⟨HD.out.below.drew, by have := hgc.size; show w7.heap.size ≤ wc.heap.size; omega⟩
       clear hown9 hgc hat kc sc0 sc1 sc2 sc3 htw htwb hsb2 hzb hNv
       go_wp2_with fail
       refine wp_region_wordsG (by kernel_rfl) (by kernel_rfl) (appTs [11, 13] (rwR w0 W0 bn bf fp)) (HeldM W0 w7.heap.size) draE (draU w0 W0 #[.int .i64 mn, .int .i64 av, .int .i64 mx] bn V.heap.size bf sb eb tb to Ps.length cap7 q w7.heap.size fp v9 vp Lp MM Ps (preE c I k td j) kk tp z x.e) 20 draN [11, 13, 16, 18, 19] (by kernel_rfl) (by kernel_rfl) (by kernel_rfl)
        draB (by kernel_rfl) (fun ix kx v e w w' hi hk hne hb hU hT => dra_T _ _ _ _ _ _ _ _ _ _ _ _ _ _ _ _ _ _ _ _ _ _ _ _ _  ix kx v e w w' hk hne hb hU hT) (by decide) (HG0.out) (fun kx hk hge => ?hv0)
        [84, 85, 86, 87, 88, 89, 90, 91, 92, 93, 94, 95, 96] (by kernel_rfl) (forall_ops ?steps) ?behind
       case hv0 =>
        have hge' : 14 ≤ kx := hge
        rcases (show kx = 14 ∨ kx = 15 ∨ kx = 16 ∨ kx = 17 ∨ kx = 18 ∨ kx = 19 by omega) with rfl | rfl | rfl | rfl | rfl | rfl
        ·exact ⟨HRF.out.drew, HNE.out.1⟩
        ·exact HRS.out.drew
        ·exact ⟨HC.out.1.stays HC.out.2 ((Below.refl _ _).drew), HC.out.2, HNE.out.2⟩
        ·exact HO.out.stays ((Below.refl _ _).drew)
        ·exact HD.out.stays ((Below.refl _ _).drew)
        ·exact HRE9.out.drew
       case steps =>
        refine ⟨?_, ?_, ?_, ?_, ?_, ?_, ?_, ?_, ?_, ?_, ?_, ?_, ?_, ?_, trivial⟩
        ·refine stepG_of rfl ?_
         exact stepR_value (t := 84) (.pointer (some ⟨bf, 2, none⟩)) rfl (fun _ => appTs_other (by decide) (Below.refl _ _)) (fun ac w hG hN hO => by
          have e16 : slot ac 16 = .pointer (some ⟨bf, 0, none⟩) := hO 16 (by kernel_rfl)
          have f16 := slot_at e16
          unfold execOp; go_simp) (fun ac w hG hN => rfl)
        ·refine stepG_of rfl ?_
         exact stepR_value (t := 85) fp rfl (fun _ => appTs_other (by decide) (Below.refl _ _)) (fun ac w hG hN hO => by
          have e84 : slot ac 84 = .pointer (some ⟨bf, 2, none⟩) := hN 0 (by decide)
          have hx : Row w bf #[.int .i64 2, .string ⟨#[]⟩, fp, .slice none 0 0] 71 ∧ _ := hN 14 (by decide)
          have c2 := hx.1.cell 2
          simp only [List.getElem?_toArray, List.getElem?_cons_zero, List.getElem?_cons_succ] at c2
          have f := slot_at e84
          unfold execOp; go_simp) (fun ac w hG hN => rfl)
        ·refine stepG_of rfl ?_
         exact stepR_value (t := 86) (.agg #[.int .i64 1, .string tp, .slice none 0 0, .slice none 0 0]) rfl (fun _ => appTs_other (by decide) (Below.refl _ _)) (fun ac w hG hN hO => by
          have e19 : slot ac 19 = .pointer (some ⟨sb, 0, none⟩) := hO 19 (by kernel_rfl)
          have hx : Row w sb #[.int .i64 1, .string tp, .slice none 0 0, .slice none 0 0] 71 := hN 15 (by decide)
          have c0 := hx.cell 0; have c1 := hx.cell 1; have c2 := hx.cell 2; have c3 := hx.cell 3
          simp only [List.getElem?_toArray, List.getElem?_cons_zero, List.getElem?_cons_succ] at c0 c1 c2 c3
          have f := slot_at e19
          unfold execOp; go_simp) (fun ac w hG hN => rfl)
        ·refine stepG_of rfl ?_
         intro ac w hG hN hO
         have e86 : slot ac 86 = .agg #[.int .i64 1, .string tp, .slice none 0 0, .slice none 0 0] := hN 2 (by decide)
         refine wp_callx 67 _ _ rfl (enters_of Tryz.func67 (by kernel_rfl) rfl) #[.agg #[.int .i64 1, .string tp, .slice none 0 0, .slice none 0 0]] (by simp [eval_slot, e86]) (calls_valN (CK1.out w)) ?_
         rintro v w'' ⟨hv, hb⟩
         exact ⟨v, rfl, (appTs_other (by decide) hb), hG.on hb, hv⟩
        ·refine stepG_of rfl ?_
         exact stepR_value (t := 88) (.slice (some ⟨tb, to, none⟩) Ps.length cap7) rfl (fun _ => appTs_other (by decide) (Below.refl _ _)) (fun ac w hG hN hO => by
          have e17 : slot ac 17 = .slice (some ⟨tb, to, none⟩) Ps.length cap7 := hO 17 (by kernel_rfl)
          exact run_move_slot (.inl rfl) e17) (fun ac w hG hN => rfl)
        ·refine stepG_of rfl ?_
         exact stepR_value (t := 89) (.int .i64 q) rfl (fun _ => appTs_other (by decide) (Below.refl _ _)) (fun ac w hG hN hO => by
          have e18 : slot ac 18 = .int .i64 q := hO 18 (by kernel_rfl)
          exact run_move_slot (.inl rfl) e18) (fun ac w hG hN => rfl)
        ·refine stepG_of rfl ?_
         exact stepR_value (t := 90) (.pointer (some ⟨tb, to + q, none⟩)) rfl (fun _ => appTs_other (by decide) (Below.refl _ _)) (fun ac w hG hN hO => by
          have e88 : slot ac 88 = .slice (some ⟨tb, to, none⟩) Ps.length cap7 := hN 4 (by decide)
          have e89 : slot ac 89 = .int .i64 q := hN 5 (by decide)
          have f35 := slot_at e88; have f36 := slot_at e89
          have hkt := HKT.out
          unfold execOp; go_simp) (fun ac w hG hN => rfl)
        ·refine stepG_of rfl ?_
         exact stepR_value (t := 91) (.string tp) rfl (fun _ => appTs_other (by decide) (Below.refl _ _)) (fun ac w hG hN hO => by
          have e90 : slot ac 90 = .pointer (some ⟨tb, to + q, none⟩) := hN 6 (by decide)
          have hx : TxtC w tb to Ps ∧ _ := hN 16 (by decide)
          have c : w.cell? ⟨tb, to + q, none⟩ = some (.string tp) := by rw [HTT.out, ← HPK.out]; exact hx.1 q HKT.out
          have f := slot_at e90
          unfold execOp; go_simp) (fun ac w hG hN => rfl)
        ·refine stepG_of rfl ?_
         exact stepR_value (t := 92) (.int .i64 tp.size) rfl (fun _ => appTs_other (by decide) (Below.refl _ _)) (fun ac w hG hN hO => by
          have e91 : slot ac 91 = .string tp := hN 7 (by decide)
          have f91 := slot_at e91
          unfold execOp; go_simp) (fun ac w hG hN => rfl)
        ·refine stepG_of rfl ?_
         exact stepR_value (t := 93) (.agg #[.string kk, .int .i64 tp.size]) rfl (fun _ => appTs_other (by decide) (Below.refl _ _)) (fun ac w hG hN hO => by
          have e87 : slot ac 87 = .string kk := hN 3 (by decide)
          have e92 : slot ac 92 = .int .i64 tp.size := hN 8 (by decide)
          have f87 := slot_at e87
          have f92 := slot_at e92
          unfold execOp; go_simp) (fun ac w hG hN => rfl)
        ·refine stepG_of rfl ?_
         intro ac w hG hN hO
         have e93 : slot ac 93 = .agg #[.string kk, .int .i64 tp.size] := hN 9 (by decide)
         refine wp_build_part 93 rfl (x := (⟨kk, (tp.size : Int)⟩ : Pt)) e93 ?_
         exact ⟨_, rfl, appTs_other (by decide) ((Below.refl _ _).alloc (Nat.le_refl _) _), hG.on ((Below.refl _ _).alloc (Nat.le_refl _) _), onePt_new w (⟨kk, (tp.size : Int)⟩ : Pt)⟩
        ·refine stepG_of rfl ?_
         intro ac w hG hN hO
         have e85 : slot ac 85 = fp := hN 1 (by decide)
         have e94 : OnePt w (slot ac 94) (⟨kk, (tp.size : Int)⟩ : Pt) := hN 10 (by decide)
         have hown : OwnP w7.heap.size w fp Lp := hN 17 (by decide)
         have hbs := HBS.out
         refine wp_append_one_part 85 94 rfl hown hG.size (slotE e85) e94 HLP.out ?_
         intro v' w' hown' hg
         exact ⟨v', rfl, appTs_at (by decide) (rwR_app' hg hown hbs.2.1 hbs.2.2.1 HWW.out), ⟨hG.below.grown hg hG.below.size (fun g hj => by have h1 := (World.ownsRow.lt hown g hj).1; have h2 := hbs.2.1; have h3 := hbs.2.2.2; omega), Nat.le_trans hG.size hg.size⟩, hown', hbs.1⟩
        ·refine stepG_of rfl ?_
         exact stepR_value (t := 96) (.pointer (some ⟨bf, 2, none⟩)) rfl (fun _ => appTs_other (by decide) (Below.refl _ _)) (fun ac w hG hN hO => by
          have e16 : slot ac 16 = .pointer (some ⟨bf, 0, none⟩) := hO 16 (by kernel_rfl)
          have f16 := slot_at e16
          unfold execOp; go_simp) (fun ac w hG hN => rfl)
        ·refine stepG_of rfl ?_
         intro ac w hG hN hO
         have e96 : slot ac 96 = .pointer (some ⟨bf, 2, none⟩) := hN 12 (by decide)
         have hrow : Row w bf #[.int .i64 2, .string ⟨#[]⟩, fp, .slice none 0 0] 71 ∧ _ := hN 14 (by decide)
         have hc := hrow.1.cell 2
         have hf := hrow.1.free 2
         simp only [List.getElem?_toArray, List.getElem?_cons_zero, List.getElem?_cons_succ] at hc
         have f1 := slot_at e96
         have hbs := HBS.out
         have hbf := HBF.out
         obtain ⟨u, hu⟩ : ∃ u, u = slot ac 95 := ⟨_, rfl⟩
         have f2 := slot_at hu.symm
         have hown : OwnP w7.heap.size w (slot ac 95) (Lp ++ [(⟨kk, (tp.size : Int)⟩ : Pt)]) ∧ _ := hN 11 (by decide)
         rw [← hu] at hown
         obtain ⟨_, ua, uc, hue, _, _⟩ := hown.1.is
         subst hue
         have hs := hrow.1.set 2 (.slice ua (Lp ++ [(⟨kk, (tp.size : Int)⟩ : Pt)]).length uc)
         exact wp_skip (w' := w.setCell ⟨bf, 2, none⟩ (.slice ua (Lp ++ [(⟨kk, (tp.size : Int)⟩ : Pt)]).length uc)) (by unfold execOp; go_simp) ⟨undef, rfl, appTs_at (by decide) (rwR_set' hrow.1 HVP.out hbf.1 hbf.2.1 HWW.out _), ⟨hG.below.setCell (p := ⟨bf, 2, none⟩) hbf.2.2 _, by have := hG.size; simpa [World.setCell] using this⟩, by
          show Row _ bf #[.int .i64 2, .string ⟨#[]⟩, exV _ 13 ac, .slice none 0 0] _
          rw [show exV draE 13 ac = slot ac 95 from rfl, ← hu]
          exact hs⟩
       case behind =>
        intro ac w5 hG hV hS ha
        have h11 : OwnP w7.heap.size w5 (slot ac 95) (Lp ++ [(⟨kk, (tp.size : Int)⟩ : Pt)]) ∧ bf < w7.heap.size := hV 11 (by decide) (by decide)
        have h13 : Row w5 bf #[.int .i64 2, .string ⟨#[]⟩, (slot ac 95), .slice none 0 0] 71 := hV 13 (by decide) (by decide)
        have h16 : TxtC w5 tb to Ps ∧ tb < w5.heap.size ∧ fp.ownBlock ≠ some tb := hV 16 (by decide) (by decide)
        have h18 : RawIn w0 W0 #[.int .i64 mn, .int .i64 av, .int .i64 mx] bn V.heap.size w5 v9 MM vp (preE c I k td j) := hV 18 (by decide) (by decide)
        have h19 : Row w5 eb #[.string z, .int .i64 2, .bool x.e, .string ⟨#[]⟩] 89 := hV 19 (by decide) (by decide)
        generalize slot ac = sl at ha h13 h11
        subst ha
        simp only [patchL, List.contains_cons, List.contains_nil, Nat.reduceBEq, Bool.or_false, Bool.or_true, if_true, Bool.false_eq_true, if_false, Nat.reduceAdd]
        generalize sl 84 = s84
        generalize sl 85 = s85
        generalize sl 86 = s86
        generalize sl 87 = s87
        generalize sl 88 = s88
        generalize sl 89 = s89
        generalize sl 90 = s90
        generalize sl 91 = s91
        generalize sl 92 = s92
        generalize sl 93 = s93
        generalize sl 94 = s94
        generalize sl 95 = s95 at h13 h11 ⊢
        generalize sl 96 = s96
        clear hV hS
        have HR9 := Lib.hid h13; have HO9 := Lib.hid h11.1; have HT9 := Lib.hid h16; have HD9 := Lib.hid h18; have HE9 := Lib.hid h19
        have HZ9 := Lib.hid hG.size
        clear hG h11 h13 h16 h18 h19
        obtain ⟨_, ua, uc, hue, _, _⟩ := HO9.out.is
        subst hue
        go_wp2
        go_roundw
        case rel => exact ⟨q + 1, _, by omega, by go_num, by rw [HST.out]; exact HD9.out, HR9.out, by rw [HSP.out]; exact HO9.out, HE9.out, HT9.out.1, HNT.out, HZ9.out⟩
        case measure => simp [intOf]; omega
      ·have hke : Ps.take q = Ps := List.take_of_length_le (by omega)
       have hge : decide ((q : Int) < (Ps.length : Int)) = false := by simp; omega
       rw [hke] at HOq hMq
       have hml2 : (Ps.map partP).length = Ps.length := List.length_map ..
       obtain ⟨_, va, vc, hve, _, _⟩ := HOq.out.is
       rw [hml2] at hve
       subst hve
       have x0 := HRq.out.cell 0; have x1 := HRq.out.cell 1; have x2 := HRq.out.cell 2; have x3 := HRq.out.cell 3
       simp only [List.getElem?_toArray, List.getElem?_cons_zero, List.getElem?_cons_succ] at x0 x1 x2 x3
       obtain ⟨S2, hS2⟩ : ∃ S2 : ByteArray, S2 = ⟨(wrN (fileN c x.b)).toArray⟩ := ⟨_, rfl⟩
       have CW2 : Hid (Calls Tryz.prog 66 #[.agg #[.int .i64 2, .string ⟨#[]⟩, .slice va Ps.length vc, .slice none 0 0]] wr fun e w' => e = .returned (.string S2) ∧ Below wr.heap.size wr w') := Lib.hid (by
        rw [hS2]; exact rWrite_any (fileN c x.b) (.slice va Ps.length vc) (.slice none 0 0) wr (by unfold fileN; rw [← HPS.out]; exact HOq.out.is) (entries_nil _))
       have hS2l : S2.data.toList = wrN (fileN c x.b) := by rw [hS2]
       have HLI : Hid (M ++ (preS c I k td (j + 1)).map wrN = Mq ++ [wrN (fileN c x.b)]) := Lib.hid (by rw [hMq, HIN.out]; unfold seqF; rw [← HPS.out]; simp)
       have HS2 := Lib.hid hS2l
       have hol : Mq.length ≤ 1000000 := by omega
       clear hke hMq hml2 hS2 hS2l
       go_wp2_with fail
       with_reducible refine CW2.out.mono ?_
       rintro e wf ⟨rfl, hbf8⟩
       have HDf := Lib.hid (HDq.out.stays hbf8); have HREf := Lib.hid (HEq.out.step hbf8)
       have hzf : W0.heap.size ≤ wf.heap.size := HDf.out.below.size
       clear hbf8 x0 x1 x2 x3
       go_wp2_with (at_builtin; refine wpList_append_txt_at rfl _ _ rfl HDf.out.txt hzf rfl rfl rfl hol ?_)
       intro v9 wt hown9 hgt _
       rw [HS2.out, ← HLI.out] at hown9
       have kt : Kept W0.heap.size wf wt := Kept.grown hgt fun g e => HDf.out.txt.row e
       have HDt := Lib.hid (HDf.out.text hgt hown9)
       have HREt := Lib.hid (row_kept HREf.out (by decide) kt)
       have HMI := HLI
       clear hown9 hgt kt hzf
       obtain ⟨L7, b7, o7, cp7, hv7, hpos7, hmm7, q7⟩ := last_of HDt.out.txt.strs HMI.out
       subst hv7
       obtain ⟨zz, hzz⟩ : ∃ zz : ByteArray, zz = ⟨(wrN (fileN c x.b)).toArray⟩ := ⟨_, rfl⟩
       rw [← hzz] at q7
       have CSM := Lib.hid (fun W => refSum_any zz (by rw [Lib.size_eq, hzz]; have := wrN_len HFS.out; show (wrN (fileN c x.b)).length ≤ _; omega) W)
       obtain ⟨K, hK⟩ : ∃ K : ByteArray, K = ⟨(keyN (fileN c x.b)).toArray⟩ := ⟨_, rfl⟩
       rw [show (⟨(shaSum zz.data.toList).toArray⟩ : ByteArray) = K by rw [hK, hzz, keyN_fit HFS.out, wrN_fit HFS.out]] at CSM
       have hEN : entE x (keyN (fileN c x.b)) = ⟨z, 2, x.e, K⟩ := by unfold entE; rw [HEN.out, hK, hxd]; rfl
       rw [hEN] at EIN
       have hw7 : IntKind.i64.wrap ((L7.length : Int) - 1) = ((L7.length - 1 : Nat) : Int) := (IntWalk.i64_in _ (by omega)).trans (by omega)
       clear hK hEN hzz hxd
       go_wp2_with fail
       refine (CSM.out _).mono ?_
       rintro e w8 ⟨rfl, hb8⟩
       have hR7 := HREt.out.step hb8
       have HD7 := Lib.hid (HDt.out.stays hb8)
       have hge7 : eb < w8.heap.size := hR7.lt
       clear hb8 q7 hpos7 hmm7 hw7
       have r0 := hR7.cell 0; have r1 := hR7.cell 1; have r2 := hR7.cell 2; have r3 := hR7.cell 3
       have n3 := hR7.free 3
       simp only [List.getElem?_toArray, List.getElem?_cons_zero, List.getElem?_cons_succ] at r0 r1 r2 r3
       have hR8 : Row (w8.setCell ⟨eb, 3, none⟩ (.string K)) eb #[.string z, .int .i64 2, .bool x.e, .string K] 89 := by simpa using hR7.set 3 (.string K)
       have HD8 := Lib.hid (HD7.out.other (grownBy_set w8 eb 3 (.string K)) HWW.out (fun g e => by cases e; exact ⟨hweb, by omega, HGE.out, _, _, hR7, by decide⟩))
       have s0 := hR8.cell 0; have s1 := hR8.cell 1; have s2 := hR8.cell 2; have s3 := hR8.cell 3
       have x0 := HD8.out.node.cell 0; have x1 := HD8.out.node.cell 1; have x2 := HD8.out.node.cell 2; have x3 := HD8.out.node.cell 3
       simp only [List.getElem?_toArray, List.getElem?_cons_zero, List.getElem?_cons_succ] at s0 s1 s2 s3 x0 x1 x2 x3
       have hw8 := HD8.out.size
       have HZ8 : Hid (w8.heap.size = (w8.setCell ⟨eb, 3, none⟩ (.string K)).heap.size) := Lib.hid (by simp [World.setCell])
       have hel : (preE c I k td j).length ≤ 1000000 := by have := preE_len c I k td j; omega
       clear hR7 hR8
       go_wp2_with (at_builtin; refine wpList_append_entries2 (y := ⟨z, 2, x.e, K⟩) rfl _ _ rfl HD8.out.own hw8 HZ8.out rfl rfl hel ?_)
       intro v' w9 hown9 hg9
       have hn9 := row_grownE HD8.out.node HD8.out.own hg9 hz9
       have HD9 := Lib.hid (HD8.out.added hg9 hown9 hz9 (by have := HBN.out; omega) HWW.out)
       have z0 := hn9.cell 0; have z1 := hn9.cell 1; have z2 := hn9.cell 2; have z3 := hn9.cell 3
       have m3 := hn9.free 3
       simp only [List.getElem?_toArray, List.getElem?_cons_zero, List.getElem?_cons_succ] at z0 z1 z2 z3
       obtain ⟨_, va2, vc2, hve, _, _⟩ := hown9.is
       subst hve
       rw [← EIN.out] at HD9 ⊢
       obtain ⟨En2, hEn2⟩ : ∃ En2, En2 = preE c I k td (j + 1) := ⟨_, rfl⟩
       rw [← hEn2] at HD9 ⊢
       have HE2 := Lib.hid hEn2
       clear hg9 hown9 hn9 s0 s1 s2 s3 x0 x1 x2 x3 hEn2
       go_wp2
       go_roundw
       case rel => exact ⟨j + 1, _, by omega, by go_num, by rw [← HE2.out]; exact HD9.out⟩
       case measure => simp [intOf]; omega
    ·rw [hxd] at e1
     have HD6 := Lib.hid (HD5.out.other (grownBy_set W5 eb 1 (.int .i64 3)) HWW.out (fun g e => by cases e; exact ⟨hweb, by omega, HGE.out, _, _, HRE.out, by decide⟩))
     have hR6 := HRE.out.set 1 (.int .i64 3)
     have HRE6 : Hid (Row (W5.setCell ⟨eb, 1, none⟩ (.int .i64 3)) eb #[.string z, .int .i64 3, .bool x.e, .string ⟨#[]⟩] 89) := Lib.hid (by simpa using hR6)
     have r0 := HRE.out.cell 0; have r1 := HRE.out.cell 1; have r2 := HRE.out.cell 2; have r3 := HRE.out.cell 3
     have n1 := HRE.out.free 1
     simp only [List.getElem?_toArray, List.getElem?_cons_zero, List.getElem?_cons_succ] at r0 r1 r2 r3
     clear hR6
     have i0 : (W5.setCell ⟨eb, 1, none⟩ (.int .i64 3)).cell? ⟨wr.heap.size, 0, none⟩ = some (.string x.p) := (World.cell?_setCell_other _ _ _ _ (fun e => hxe (by cases e))).trans e0
     have hq : sqT c I k x = seqD c I k x.t := by unfold sqT; rw [if_pos hxd]
     have hsub : subN c I k x = dirN c I k x.t := by unfold subN; rw [if_pos hxd]
     rw [hq] at HIN HLE; rw [hsub] at EIN
     have HFS : Hid (fitN (dirN c I k x.t) = true) := Lib.hid (dir_fit HRD.out k x.t)
     have CKK := Lib.hid (IH.out (dp + 1) (by omega) W0 u2 (.slice (some ⟨b1, off, none⟩) I.length cap1) (M ++ (preS c I k td j).map wrN) x.p (W5.setCell ⟨eb, 1, none⟩ (.int .i64 3)) HD6.out.below HD6.out.txt HI0.out (by
      rw [← HCC.out, show x.p.data.toList = x.t from rfl, List.length_append, List.length_map]
      have := HLN.out; have := HLE.out; omega))
     rw [← HCC.out, show x.p.data.toList = x.t from rfl, List.append_assoc, ← List.map_append, ← HIN.out] at CKK
     have HMI : Hid (∃ Mi, M ++ (preS c I k td (j + 1)).map wrN = Mi ++ [wrN (dirN c I k x.t)]) := Lib.hid (by
      rw [HIN.out]
      obtain ⟨S0, hS0⟩ : ∃ S0, seqD c I k x.t = S0 ++ [dirN c I k x.t] := by cases k with
       | zero => exact ⟨[], rfl⟩
       | succ k => exact ⟨_, rfl⟩
      exact ⟨M ++ ((preS c I k td j) ++ S0).map wrN, by rw [hS0]; simp⟩)
     have HMI := Lib.hid HMI.out.choose_spec
     have p0 := HD6.out.params.cell 0; have p1 := HD6.out.params.cell 1; have p2 := HD6.out.params.cell 2
     simp only [List.getElem?_toArray, List.getElem?_cons_zero, List.getElem?_cons_succ] at p0 p1 p2
     clear hq hsub
     go_wp2_with fail
     refine CKK.out.mono ?_
     rintro e w7 ⟨v7, rfl, ho7, hk7⟩
     have HREt := Lib.hid (row_kept HRE6.out (by decide) hk7)
     have HDt := Lib.hid (HD6.out.call hk7 ho7)
     clear ho7 hk7 p0 p1 p2 e0 e1 e2 e3 r0 r1 r2 r3 n1 i0
     obtain ⟨L7, b7, o7, cp7, hv7, hpos7, hmm7, q7⟩ := last_of HDt.out.txt.strs HMI.out
     subst hv7
     obtain ⟨zz, hzz⟩ : ∃ zz : ByteArray, zz = ⟨(wrN (dirN c I k x.t)).toArray⟩ := ⟨_, rfl⟩
     rw [← hzz] at q7
     have CSM := Lib.hid (fun W => refSum_any zz (by rw [Lib.size_eq, hzz]; have := wrN_len HFS.out; show (wrN (dirN c I k x.t)).length ≤ _; omega) W)
     obtain ⟨K, hK⟩ : ∃ K : ByteArray, K = ⟨(keyN (dirN c I k x.t)).toArray⟩ := ⟨_, rfl⟩
     rw [show (⟨(shaSum zz.data.toList).toArray⟩ : ByteArray) = K by rw [hK, hzz, keyN_fit HFS.out, wrN_fit HFS.out]] at CSM
     have hEN : entE x (keyN (dirN c I k x.t)) = ⟨z, 3, x.e, K⟩ := by unfold entE; rw [HEN.out, hK, hxd]; rfl
     rw [hEN] at EIN
     have hw7 : IntKind.i64.wrap ((L7.length : Int) - 1) = ((L7.length - 1 : Nat) : Int) := (IntWalk.i64_in _ (by omega)).trans (by omega)
     clear hK hEN hzz hxd
     go_wp2_with fail
     refine (CSM.out _).mono ?_
     rintro e w8 ⟨rfl, hb8⟩
     have hR7 := HREt.out.step hb8
     have HD7 := Lib.hid (HDt.out.stays hb8)
     have hge7 : eb < w8.heap.size := hR7.lt
     clear hb8 q7 hpos7 hmm7 hw7
     have r0 := hR7.cell 0; have r1 := hR7.cell 1; have r2 := hR7.cell 2; have r3 := hR7.cell 3
     have n3 := hR7.free 3
     simp only [List.getElem?_toArray, List.getElem?_cons_zero, List.getElem?_cons_succ] at r0 r1 r2 r3
     have hR8 : Row (w8.setCell ⟨eb, 3, none⟩ (.string K)) eb #[.string z, .int .i64 3, .bool x.e, .string K] 89 := by simpa using hR7.set 3 (.string K)
     have HD8 := Lib.hid (HD7.out.other (grownBy_set w8 eb 3 (.string K)) HWW.out (fun g e => by cases e; exact ⟨hweb, by omega, HGE.out, _, _, hR7, by decide⟩))
     have s0 := hR8.cell 0; have s1 := hR8.cell 1; have s2 := hR8.cell 2; have s3 := hR8.cell 3
     have x0 := HD8.out.node.cell 0; have x1 := HD8.out.node.cell 1; have x2 := HD8.out.node.cell 2; have x3 := HD8.out.node.cell 3
     simp only [List.getElem?_toArray, List.getElem?_cons_zero, List.getElem?_cons_succ] at s0 s1 s2 s3 x0 x1 x2 x3
     have hw8 := HD8.out.size
     have HZ8 : Hid (w8.heap.size = (w8.setCell ⟨eb, 3, none⟩ (.string K)).heap.size) := Lib.hid (by simp [World.setCell])
     have hel : (preE c I k td j).length ≤ 1000000 := by have := preE_len c I k td j; omega
     clear hR7 hR8
     go_wp2_with (at_builtin; refine wpList_append_entries2 (y := ⟨z, 3, x.e, K⟩) rfl _ _ rfl HD8.out.own hw8 HZ8.out rfl rfl hel ?_)
     intro v' w9 hown9 hg9
     have hn9 := row_grownE HD8.out.node HD8.out.own hg9 hz9
     have HD9 := Lib.hid (HD8.out.added hg9 hown9 hz9 (by have := HBN.out; omega) HWW.out)
     have z0 := hn9.cell 0; have z1 := hn9.cell 1; have z2 := hn9.cell 2; have z3 := hn9.cell 3
     have m3 := hn9.free 3
     simp only [List.getElem?_toArray, List.getElem?_cons_zero, List.getElem?_cons_succ] at z0 z1 z2 z3
     obtain ⟨_, va2, vc2, hve, _, _⟩ := hown9.is
     subst hve
     rw [← EIN.out] at HD9 ⊢
     obtain ⟨En2, hEn2⟩ : ∃ En2, En2 = preE c I k td (j + 1) := ⟨_, rfl⟩
     rw [← hEn2] at HD9 ⊢
     have HE2 := Lib.hid hEn2
     clear hg9 hown9 hn9 s0 s1 s2 s3 x0 x1 x2 x3 hEn2
     go_wp2
     go_roundw
     case rel => exact ⟨j + 1, _, by omega, by go_num, by rw [← HE2.out]; exact HD9.out⟩
     case measure => simp [intOf]; omega
   ·have f1 : ((dirS x.t) == d.toList) = false := by rw [beq_eq_false_iff_ne, Lib.toList_data, ← HT.out]; exact hd
    have HIN := Lib.hid (hout hd); have EIN := Lib.hid (eout hd)
    clear hin hout ein eout hle hd hxp hxs hpl
    go_wp2_with fail
    refine (C.out _).mono ?_
    rintro e w1 ⟨rfl, hb1⟩
    have HD3 := Lib.hid (HD2.out.stays hb1)
    clear c0 c1 c2 c3 hb1 HX HD2 hB
    go_wp2_with fail
    go_roundw
    case rel => exact ⟨j + 1, vp, by omega, by go_num, by rw [HIN.out, EIN.out]; exact HD3.out⟩
    case measure => simp [intOf]; omega
  ·have hge : decide ((j : Int) < (I.length : Int)) = false := by simp; omega
   obtain ⟨PA1, PA2⟩ := pre_all c I k td (i := j) (by omega)
   have HPA := Lib.hid PA1; have HPB := Lib.hid PA2
   obtain ⟨_, va, vc, hve, _, _⟩ := HD.out.own.is
   obtain ⟨ez, hez⟩ : ∃ ez, ez = (preE c I k td j).length := ⟨_, rfl⟩
   rw [← hez] at hve
   subst hve
   have x0 := HD.out.node.cell 0; have x1 := HD.out.node.cell 1; have x2 := HD.out.node.cell 2; have x3 := HD.out.node.cell 3
   simp only [List.getElem?_toArray, List.getElem?_cons_zero, List.getElem?_cons_succ] at x0 x1 x2 x3
   obtain ⟨S2, hS2⟩ : ∃ S2 : ByteArray, S2 = ⟨(wrN (dirN c I (k + 1) td)).toArray⟩ := ⟨_, rfl⟩
   have CW2 : Hid (Calls Tryz.prog 66 #[.agg #[.int .i64 3, .string ⟨#[]⟩, .slice none 0 0, .slice va ez vc]] wr fun e w' => e = .returned (.string S2) ∧ Below wr.heap.size wr w') := Lib.hid (by
    rw [hS2]; exact rWrite_any (dirN c I (k + 1) td) (.slice none 0 0) (.slice va ez vc) wr (parts_nil _) (by rw [HPB.out]; exact HD.out.own.is))
   have HS2 : Hid (S2.data.toList = wrN (dirN c I (k + 1) td)) := Lib.hid (by rw [hS2])
   have hol : (M ++ (preS c I k td j).map wrN).length ≤ 1000000 := by rw [List.length_append, List.length_map]; have := HLN.out; omega
   have hb0 := HD.out.kept
   clear PA1 PA2 hez hpl hB hS2
   go_wp2_with fail
   with_reducible refine CW2.out.mono ?_
   rintro e w8 ⟨rfl, hb8⟩
   have HD8 := Lib.hid (HD.out.stays hb8)
   have hz8 := HD8.out.below.size
   clear hb8 x0 x1 x2 x3 hb0
   go_wp2_with (at_builtin; refine wpList_append_txt_at rfl _ _ rfl HD8.out.txt hz8 rfl rfl rfl hol ?_)
   intro v' w9 hown9 hg9 _
   have HD9 := Lib.hid (HD8.out.text hg9 hown9)
   have HS9 := Lib.hid hown9
   clear hown9 hg9
   go_wp2
   go_ret
   exact ⟨v', rfl, by
    have e : M ++ (seqD c I (k + 1) td).map wrN = M ++ (preS c I k td j).map wrN ++ [S2.data.toList] := by rw [HPA.out, HS2.out]; simp
    rw [e, List.append_assoc]; exact HS9.out, HD9.out.kept⟩
set_option maxRecDepth 100000 in
set_option maxHeartbeats 8000000 in
theorem raw_zero (mn av b mx : Nat) (I : List It) : RawAt mn av b mx I 0 := by
 intro dp hdp W0 v iv M d w hbw ho hi hL
 obtain ⟨V, hV⟩ : ∃ V, V = (w.alloc (.cells #[.int .i64 mn, .int .i64 av, .int .i64 mx] 23)).alloc (.cells #[.int .i64 3, .string ⟨#[]⟩, .slice none 0 0, .slice none 0 0] 71) := ⟨_, rfl⟩
 have hbV : Below w.heap.size w V := by rw [hV]; exact ((Below.refl _ _).alloc (Nat.le_refl _) _).alloc (by simp) _
 have hRN : Row V (w.heap.size + 1) #[.int .i64 3, .string ⟨#[]⟩, .slice none 0 0, .slice none 0 0] 71 := by
  have := Row.made (w.alloc (.cells #[.int .i64 mn, .int .i64 av, .int .i64 mx] 23)) #[.int .i64 3, .string ⟨#[]⟩, .slice none 0 0, .slice none 0 0] 71
  rw [hV]; simpa using this
 have x0 := hRN.cell 0; have x1 := hRN.cell 1; have x2 := hRN.cell 2; have x3 := hRN.cell 3
 simp only [List.getElem?_toArray, List.getElem?_cons_zero, List.getElem?_cons_succ] at x0 x1 x2 x3
 have q8 : decide ((dp : Int) ≤ 8) = false := by simp; omega
 have HV := Lib.hid hV; have HB0 := Lib.hid hbV
 have HO := Lib.hid (ho.stays hbV); have HBW := Lib.hid (below_step hbw hbV)
 obtain ⟨S, hS⟩ : ∃ S : ByteArray, S = ⟨(wrN ⟨3, ⟨#[]⟩, [], []⟩).toArray⟩ := ⟨_, rfl⟩
 have CW : Hid (∀ W, Calls Tryz.prog 66 #[.agg #[.int .i64 3, .string ⟨#[]⟩, .slice none 0 0, .slice none 0 0]] W fun e w' => e = .returned (.string S) ∧ Below W.heap.size W w') := Lib.hid (fun W => by
  rw [hS]; exact rWrite_any ⟨3, ⟨#[]⟩, [], []⟩ (.slice none 0 0) (.slice none 0 0) W (parts_nil _) (entries_nil _))
 have HE : Hid (M ++ (seqD (cutN mn b mx) I 0 d.data.toList).map wrN = M ++ [S.data.toList]) := Lib.hid (by rw [hS]; rfl)
 rw [HE.out]
 obtain ⟨hm1, a1, cap1, rfl, _, _⟩ := hi
 have hmm : I.length ≤ 9223372036854775807 := by unfold maxLen at hm1; omega
 have hol : M.length ≤ 1000000 := by omega
 clear hV hbV hRN hm1 hL HE hS
 rcases h0 : decide ((0 : Int) < (I.length : Int)) with _ | _
 ·have h1 : ¬ 0 < I.length := by simpa using h0
  go_enter Tryz.func37, Tryz.ntmps37
  go_wp2_with fail
  rw [← HV.out]
  refine wp_loop_rounds 1 ?_
  rw [rounds_succ]
  go_wp2_with fail
  with_reducible refine (CW.out _).mono ?_
  rintro e w8 ⟨rfl, hb8⟩
  have HO8 := Lib.hid (HO.out.stays hb8)
  have hz8 : W0.heap.size ≤ w8.heap.size := (below_step HBW.out hb8).size
  have hk8 := Kept.of_below (B := W0.heap.size) (below_step HB0.out hb8)
  have HK8 := Lib.hid hk8
  clear hb8 x0 x1 x2 x3 hk8
  go_wp2_with (at_builtin; refine wpList_append_txt_at rfl _ _ rfl HO8.out hz8 rfl rfl rfl hol ?_)
  intro v' w9 hown9 hg9 _
  have HK9 := Lib.hid (HK8.out.trans (Kept.grown hg9 fun g e => HO8.out.row e))
  have HS9 := Lib.hid hown9
  clear hown9 hg9
  go_wp2
  go_ret
  exact ⟨v', rfl, HS9.out, HK9.out⟩
 ·have h1 : 0 < I.length := by simpa using h0
  go_enter Tryz.func37, Tryz.ntmps37
  go_wp2_with fail
  rw [← HV.out]
  refine wp_loop_rounds 1 ?_
  rw [rounds_succ]
  go_wp2_with fail
  with_reducible refine (CW.out _).mono ?_
  rintro e w8 ⟨rfl, hb8⟩
  have HO8 := Lib.hid (HO.out.stays hb8)
  have hz8 : W0.heap.size ≤ w8.heap.size := (below_step HBW.out hb8).size
  have hk8 := Kept.of_below (B := W0.heap.size) (below_step HB0.out hb8)
  have HK8 := Lib.hid hk8
  clear hb8 x0 x1 x2 x3 hk8
  go_wp2_with (at_builtin; refine wpList_append_txt_at rfl _ _ rfl HO8.out hz8 rfl rfl rfl hol ?_)
  intro v' w9 hown9 hg9 _
  have HK9 := Lib.hid (HK8.out.trans (Kept.grown hg9 fun g e => HO8.out.row e))
  have HS9 := Lib.hid hown9
  clear hown9 hg9
  go_wp2
  go_ret
  exact ⟨v', rfl, HS9.out, HK9.out⟩
theorem rawAt_all (mn av b mx : Nat) (hF : FitAt mn av mx b) (I : List It) (R : ReadyT (cutN mn b mx) I) (hs : ∀ x ∈ I, x.p.size ≤ 100000 ∧ x.c.size ≤ 100000) : ∀ k, RawAt mn av b mx I k
 | 0 => raw_zero mn av b mx I
 | k + 1 => raw_step mn av b mx hF I R hs k (rawAt_all mn av b mx hF I R hs k)
set_option maxRecDepth 100000 in
set_option maxHeartbeats 8000000 in
theorem rRaws_any (mn av b mx : Nat) (hF : FitAt mn av mx b) (iv : Value) (I : List It) (w : World) (hi : IsItems w iv I) (R : ReadyT (cutN mn b mx) I) (hs : ∀ x ∈ I, x.p.size ≤ 100000 ∧ x.c.size ≤ 100000) :
  Calls Tryz.prog 13 #[pV mn av mx, iv] w fun e w' => ∃ v', e = .returned v' ∧ OwnTxt w w' v' (rawsT (cutN mn b mx) I) ∧ Below w.heap.size w w' := by
 have hlen := seqT_len R
 obtain ⟨V, hV⟩ : ∃ V, V = w.alloc (.cells #[.int .i64 mn, .int .i64 av, .int .i64 mx] 23) := ⟨_, rfl⟩
 have hbV : Below w.heap.size w V := by rw [hV]; exact (Below.refl _ _).alloc (Nat.le_refl _) _
 have hR0 : Row V w.heap.size #[.int .i64 mn, .int .i64 av, .int .i64 mx] 23 := by rw [hV]; exact Row.made _ _ _
 have p0 := hR0.cell 0; have p1 := hR0.cell 1; have p2 := hR0.cell 2
 simp only [List.getElem?_toArray, List.getElem?_cons_zero, List.getElem?_cons_succ] at p0 p1 p2
 have CK : Hid (Calls Tryz.prog 37 #[pV mn av mx, iv, .slice none 0 0, .string ⟨#[]⟩, .int .i64 0] V (RetRaw w (rawsT (cutN mn b mx) I) V)) := Lib.hid
  (rawAt_all mn av b mx hF I R hs 9 0 rfl w (.slice none 0 0) iv [] ⟨#[]⟩ V hbV ((ownTxt_nil w).stays hbV) hi (by
   have : (seqD (cutN mn b mx) I 9 (⟨#[]⟩ : ByteArray).data.toList).length ≤ 70000 := hlen
   have h7 : (seqD (cutN mn b mx) I 9 (⟨#[]⟩ : ByteArray).data.toList).length ≤ 700000 := by omega
   simpa using h7))
 have HV := Lib.hid hV; have HB0 := Lib.hid hbV
 obtain ⟨_, a1, cap1, rfl, _, _⟩ := hi
 clear hF hs hlen hV hbV hR0 R
 go_enter Tryz.func13, Tryz.ntmps13
 go_wp2_with fail
 rw [← HV.out]
 go_wp2_with fail
 with_reducible refine CK.out.mono ?_
 rintro e w8 ⟨v8, rfl, ho8, hk8⟩
 have HO8 := Lib.hid ho8
 have HB8 := Lib.hid (hk8.below HB0.out HB0.out.size)
 clear ho8 hk8 p0 p1 p2
 go_wp2
 go_ret
 exact ⟨v8, rfl, HO8.out, HB8.out⟩
end Go.Proofs.YtjpjpmkadoaipaaGreatDoor
namespace Go.Proofs.YtjpjpmkadoaipaaGreatDoor
theorem inP_iff {A B : List (List UInt8)} : inP A B = true ↔ ∃ r, r ≠ [] ∧ B = A ++ r := by
 unfold inP
 rw [decide_eq_true_eq]
 constructor
 ·rintro ⟨h1, h2⟩
  refine ⟨B.drop A.length, fun e => ?_, ?_⟩
  ·have := congrArg List.length e
   rw [List.length_drop] at this
   simp at this; omega
  ·conv => lhs; rw [← List.take_append_drop A.length B, h2]
 ·rintro ⟨r, hr, rfl⟩
  refine ⟨?_, by simp⟩
  rw [List.length_append]
  have := List.length_pos_iff.2 hr
  omega
def blkT (L : List It) (d : List UInt8) : List It := L.filter fun y => inP (cs d) (cs y.t)
theorem mem_blk {L : List It} {d : List UInt8} {y : It} : y ∈ blkT L d ↔ y ∈ L ∧ inP (cs d) (cs y.t) = true := by unfold blkT; simp
theorem order_cs {L : List It} (F : TFit L) {x y : It} (hx : x ∈ L) (hy : y ∈ L) : orderS x.t y.t = cmpP (cs x.t) (cs y.t) := by
 rw [(path_ok (F.path x hx)).pts, (path_ok (F.path y hy)).pts]; rfl
theorem it_one {L : List It} (F : TFit L) {x y : It} (hx : x ∈ L) (hy : y ∈ L) (e : x.t = y.t) : x = y := by
 have key : ∀ L : List It, Rise L → ∀ x ∈ L, ∀ y ∈ L, x.t = y.t → x = y := by
  intro L
  induction L with
  | nil => intro _ x hx; cases hx
  | cons a L ih =>
   intro h x hx y hy e
   obtain ⟨h1, h2⟩ := List.pairwise_cons.1 h
   rcases List.mem_cons.1 hx with rfl | hx' <;> rcases List.mem_cons.1 hy with rfl | hy'
   ·rfl
   ·exact absurd e (order_ne (h1 y hy'))
   ·exact absurd e.symm (order_ne (h1 x hx'))
   ·exact ih h2 x hx' y hy' e
 exact key L F.rise x hx y hy e
theorem rise_ext_it : ∀ {L M : List It}, Rise L → Rise M → (∀ y, y ∈ L ↔ y ∈ M) → L = M
 | [], [], _, _, _ => rfl
 | [], y :: M, _, _, h => absurd ((h y).2 (by simp)) (by simp)
 | x :: L, [], _, _, h => absurd ((h x).1 (by simp)) (by simp)
 | x :: L, y :: M, hL, hM, h => by
  obtain ⟨a1, a2⟩ := List.pairwise_cons.1 hL
  obtain ⟨b1, b2⟩ := List.pairwise_cons.1 hM
  have irr : ∀ z : It, orderS z.t z.t ≠ -1 := fun z e => by rw [order_self] at e; cases e
  have hxy : x = y := by
   rcases List.mem_cons.1 ((h x).1 (by simp)) with e | e
   ·exact e
   ·rcases List.mem_cons.1 ((h y).2 (by simp)) with e' | e'
    ·exact e'.symm
    ·exact absurd (order_trans (b1 x e) (a1 y e')) (irr y)
  subst hxy
  congr 1
  refine rise_ext_it a2 b2 (fun z => ⟨fun hz => ?_, fun hz => ?_⟩)
  ·rcases List.mem_cons.1 ((h z).1 (List.mem_cons_of_mem _ hz)) with e | e
   ·exact absurd (e ▸ a1 z hz) (irr _)
   ·exact e
  ·rcases List.mem_cons.1 ((h z).2 (List.mem_cons_of_mem _ hz)) with e | e
   ·exact absurd (e ▸ b1 z hz) (irr _)
   ·exact e
theorem in_cs {L : List It} (F : TFit L) {d : List UInt8} {x : It} (hx : x ∈ inD L d) : cs x.t = cs d ++ [lastN x.t] := (dir_iff (F.path x (mem_inD.1 hx).1)).1 (mem_inD.1 hx).2
theorem in_blk {L : List It} (F : TFit L) {d : List UInt8} {x : It} (hx : x ∈ inD L d) : inP (cs d) (cs x.t) = true := inP_iff.2 ⟨_, by simp, in_cs F hx⟩
theorem sub_blk {L : List It} (F : TFit L) {d : List UInt8} {x y : It} (hx : x ∈ inD L d) (hy : inP (cs x.t) (cs y.t) = true) : inP (cs d) (cs y.t) = true := by
 obtain ⟨r, hr, e⟩ := inP_iff.1 hy
 exact inP_iff.2 ⟨[lastN x.t] ++ r, by simp, by rw [e, in_cs F hx, List.append_assoc]⟩
theorem blk_eq {L : List It} (F : TFit L) (d : List UInt8) : blkT L d = (inD L d).flatMap fun x => x :: blkT L x.t := by
 refine rise_ext_it (F.rise.sublist List.filter_sublist) ?_ (fun y => ?_)
 ·unfold Rise
  rw [List.pairwise_flatMap]
  refine ⟨fun x hx => List.pairwise_cons.2 ⟨fun y hy => ?_, F.rise.sublist List.filter_sublist⟩, ?_⟩
  ·obtain ⟨h1, h2⟩ := mem_blk.1 hy
   obtain ⟨r, hr, e⟩ := inP_iff.1 h2
   rw [order_cs F (mem_inD.1 hx).1 h1, e]
   exact cmp_below _ hr
  ·have hs : (inD L d).Pairwise fun a b => orderS a.t b.t = -1 := F.rise.sublist List.filter_sublist
   refine hs.imp_of_mem fun {x1 x2} m1 m2 ho a ha b hb => ?_
   have hl : ∀ {x z : It}, x ∈ inD L d → z ∈ x :: blkT L x.t → z ∈ L ∧ ∃ r, cs z.t = cs d ++ lastN x.t :: r := fun {x z} hx hz => by
    rcases List.mem_cons.1 hz with e | hz
    ·subst e; exact ⟨(mem_inD.1 hx).1, [], in_cs F hx⟩
    ·obtain ⟨h1, h2⟩ := mem_blk.1 hz
     obtain ⟨r, hr, e⟩ := inP_iff.1 h2
     exact ⟨h1, r, by rw [e, in_cs F hx, List.append_assoc]; rfl⟩
   obtain ⟨ha1, ra, ea⟩ := hl m1 ha
   obtain ⟨hb1, rb, eb⟩ := hl m2 hb
   rw [order_cs F (mem_inD.1 m1).1 (mem_inD.1 m2).1, in_cs F m1, in_cs F m2, cmp_app] at ho
   rw [order_cs F ha1 hb1, ea, eb, cmp_app, cmp_cons, if_pos (cmp_names ho)]
 ·rw [mem_blk, List.mem_flatMap]
  constructor
  ·rintro ⟨h1, h2⟩
   obtain ⟨r, hr, e⟩ := inP_iff.1 h2
   cases r with
   | nil => exact absurd rfl hr
   | cons n r =>
    cases r with
    | nil =>
     refine ⟨y, mem_inD.2 ⟨h1, (dir_of (F.path y h1) e).1⟩, by simp⟩
    | cons m r =>
     have e' : cs y.t = (cs d ++ [n]) ++ (m :: r) := by rw [e]; simp
     obtain ⟨z, hz, hzc, _⟩ := above_dir F (cs d ++ [n]) (by simp) r.length (m :: r) y rfl h1 e'
     refine ⟨z, mem_inD.2 ⟨hz, (dir_of (F.path z hz) hzc).1⟩, List.mem_cons_of_mem _ (mem_blk.2 ⟨h1, inP_iff.2 ⟨m :: r, by simp, by rw [e', hzc]⟩⟩)⟩
  ·rintro ⟨x, hx, hy⟩
   rcases List.mem_cons.1 hy with e | hy
   ·subst e; exact ⟨(mem_inD.1 hx).1, in_blk F hx⟩
   ·obtain ⟨h1, h2⟩ := mem_blk.1 hy
    exact ⟨h1, sub_blk F hx h2⟩
theorem file_blk {L : List It} (F : TFit L) {x : It} (hx : x ∈ L) (hd : x.d = false) : blkT L x.t = [] := by
 refine List.filter_eq_nil_iff.2 fun y hy hp => ?_
 obtain ⟨r, hr, e⟩ := inP_iff.1 hp
 obtain ⟨m, r', rfl⟩ := List.exists_cons_of_ne_nil hr
 obtain ⟨z, hz, hzc, hzd⟩ := above_dir F (cs x.t) (path_ok (F.path x hx)).nil r'.length (m :: r') y rfl hy e
 have := it_one F hz hx (cs_inj hzc)
 rw [this, hd] at hzd; cases hzd
theorem blk_top {L : List It} (F : TFit L) : blkT L [] = L := by
 refine List.filter_eq_self.2 fun y hy => inP_iff.2 ⟨cs y.t, (path_ok (F.path y hy)).nil, rfl⟩
end Go.Proofs.YtjpjpmkadoaipaaGreatDoor
set_option linter.unusedVariables false
namespace Go.Proofs.YtjpjpmkadoaipaaGreatDoor
open Classical in
noncomputable def readN (s : List UInt8) : Option Nd := if h : ∃ n, fitN n = true ∧ wrL n = s then some h.choose else none
theorem readN_wr {n : Nd} (h : fitN n = true) : readN (wrL n) = some n := by
 have hx : ∃ m, fitN m = true ∧ wrL m = wrL n := ⟨n, h, rfl⟩
 unfold readN
 rw [dif_pos hx]
 exact congrArg some (wrL_inj hx.choose_spec.1 h hx.choose_spec.2)
theorem readN_some {s : List UInt8} {n : Nd} (h : readN s = some n) : fitN n = true ∧ wrL n = s := by
 unfold readN at h
 by_cases hx : ∃ n, fitN n = true ∧ wrL n = s
 ·rw [dif_pos hx] at h
  rw [← Option.some.inj h]
  exact hx.choose_spec
 ·rw [dif_neg hx] at h; cases h
theorem readN_rd {s : List UInt8} {n : Nd} {e : Int} (h : RdOk s n e) : (e = 0 ∧ readN s = some n) ∨ (e = 2 ∧ n = zeroNd ∧ readN s = none) := by
 rcases h with ⟨h1, h2, h3⟩ | ⟨h1, h2, h3⟩
 ·exact .inl ⟨h1, by rw [← h3]; exact readN_wr h2⟩
 ·refine .inr ⟨h1, h2, ?_⟩
  cases hr : readN s with
  | none => rfl
  | some m => exact absurd (readN_some hr).2 (h3 m (readN_some hr).1)
noncomputable def loadE (O : List Ob) (t : List UInt8) (kd : Int) : Except Int Nd :=
 match getO O t with
 | none => .error 5
 | some y => if shaSum y.u = t then (match readN y.u with
  | none => .error 2
  | some n => if n.kd = kd then .ok n else .error 10) else .error 11
noncomputable def partsE (O : List Ob) : List Pt → Int → List UInt8 → Except Int (List UInt8)
 | [], _, s => .ok s
 | p :: P, room, s => match loadE O p.k.data.toList 1 with
  | .error e => .error e
  | .ok n => if (n.d.size : Int) = p.n ∧ (n.d.size : Int) ≤ room - s.length then partsE O P room (s ++ n.d.data.toList) else .error 4
noncomputable def fileE (O : List Ob) (t : List UInt8) (room : Int) : Except Int (List UInt8) :=
 match loadE O t 2 with
 | .error e => .error e
 | .ok n => partsE O n.ps room []
noncomputable def ent1E (O : List Ob) (sub : List UInt8 → List UInt8 → List It → Except Int (List It)) (dp : List UInt8) (out : List It) (e : En) : Except Int (List It) :=
 if 60 ≤ out.length then .error 9 else
 if e.kd = 3 then sub e.k.data.toList (dp ++ e.m.data.toList ++ [47]) (out ++ [⟨⟨(dp ++ e.m.data.toList).toArray⟩, true, false, ⟨#[]⟩⟩])
 else match fileE O e.k.data.toList (65536 - (sizeT out : Int)) with
  | .error x => .error x
  | .ok s => .ok (out ++ [⟨⟨(dp ++ e.m.data.toList).toArray⟩, false, e.x, ⟨s.toArray⟩⟩])
noncomputable def entsE (f : List It → En → Except Int (List It)) : List En → List It → Except Int (List It)
 | [], out => .ok out
 | e :: E, out => match f out e with
  | .error x => .error x
  | .ok out' => entsE f E out'
noncomputable def dirE (O : List Ob) : Nat → List UInt8 → List UInt8 → List It → Except Int (List It)
 | 0, key, dp, out => match loadE O key 3 with
  | .error x => .error x
  | .ok n => entsE (fun _ _ => .error 8) n.es out
 | k + 1, key, dp, out => match loadE O key 3 with
  | .error x => .error x
  | .ok n => entsE (ent1E O (dirE O k) dp) n.es out
noncomputable def treeE (O : List Ob) (key : List UInt8) : Except Int (List It) := dirE O 8 key [] []
theorem entsE_ok {f : List It → En → Except Int (List It)} {e : En} {E : List En} {out o : List It} (h : f out e = .ok o) : entsE f (e :: E) out = entsE f E o := by
 conv => lhs; unfold entsE
 rw [h]
theorem entsE_err {f : List It → En → Except Int (List It)} {e : En} {E : List En} {out : List It} {x : Int} (h : f out e = .error x) : entsE f (e :: E) out = .error x := by
 unfold entsE
 rw [h]
theorem ent1_dir {O : List Ob} {sub : List UInt8 → List UInt8 → List It → Except Int (List It)} {dp : List UInt8} {out : List It} {e : En} (h : out.length < 60) (hk : e.kd = 3) :
  ent1E O sub dp out e = sub e.k.data.toList (dp ++ e.m.data.toList ++ [47]) (out ++ [⟨⟨(dp ++ e.m.data.toList).toArray⟩, true, false, ⟨#[]⟩⟩]) := by
 unfold ent1E
 rw [if_neg (by omega), if_pos hk]
theorem ent1_file {O : List Ob} {sub : List UInt8 → List UInt8 → List It → Except Int (List It)} {dp : List UInt8} {out : List It} {e : En} (h : out.length < 60) (hk : e.kd ≠ 3) {s : List UInt8} (hf : fileE O e.k.data.toList (65536 - (sizeT out : Int)) = .ok s) :
  ent1E O sub dp out e = .ok (out ++ [⟨⟨(dp ++ e.m.data.toList).toArray⟩, false, e.x, ⟨s.toArray⟩⟩]) := by
 unfold ent1E
 rw [if_neg (by omega), if_neg hk, hf]
theorem ent1_err {O : List Ob} {sub : List UInt8 → List UInt8 → List It → Except Int (List It)} {dp : List UInt8} {out : List It} {e : En} (h : out.length < 60) (hk : e.kd ≠ 3) {x : Int} (hf : fileE O e.k.data.toList (65536 - (sizeT out : Int)) = .error x) :
  ent1E O sub dp out e = .error x := by
 unfold ent1E
 rw [if_neg (by omega), if_neg hk, hf]
def HasN (O : List Ob) (n : Nd) : Prop := ∃ y, getO O (keyN n) = some y ∧ y.u = wrN n
theorem load_has {O : List Ob} {n : Nd} (h : HasN O n) (hf : fitN n = true) {kd : Int} (hk : n.kd = kd) : loadE O (keyN n) kd = .ok n := by
 obtain ⟨y, h1, h2⟩ := h
 unfold loadE
 rw [h1]
 show (if shaSum y.u = keyN n then _ else _) = _
 rw [h2, wrN_fit hf, if_pos (keyN_fit hf).symm, readN_wr hf]
 exact if_pos hk
def BadN (O : List Ob) (err : Int) (n : Nd) : Prop := ∀ kd, loadE O (keyN n) kd = .error err
theorem parts_ok {O : List Ob} {room : Int} : ∀ (P : List (List UInt8)) (s : List UInt8), (∀ t ∈ P, HasN O (pieceN t) ∧ fitN (pieceN t) = true) → (s.length + P.flatten.length : Int) ≤ room → partsE O (P.map partP) room s = .ok (s ++ P.flatten)
 | [], s, _, _ => by simp [partsE]
 | t :: P, s, h, hr => by
  obtain ⟨h1, h2⟩ := h t (by simp)
  have hk : (partP t).k.data.toList = keyN (pieceN t) := by simp [partP]
  have hd : (pieceN t).d.size = t.length := by unfold pieceN; rw [Lib.size_eq]
  have hl : (pieceN t).d.data.toList = t := by simp [pieceN]
  rw [List.flatten_cons, List.length_append] at hr
  rw [List.map_cons]
  unfold partsE
  rw [hk, load_has h1 h2 (kd := 1) rfl]
  show (if _ then _ else _) = _
  rw [if_pos ⟨by rw [hd]; rfl, by rw [hd]; omega⟩, hl, parts_ok P (s ++ t) (fun u hu => h u (List.mem_cons_of_mem _ hu)) (by rw [List.length_append]; omega)]
  rw [List.flatten_cons, List.append_assoc]
theorem file_flat {c : List UInt8 → Nat} {L : List It} (R : ReadyT c L) (l : List UInt8) : (pcs c l).flatten = l := by
 obtain ⟨mn, mx, H, _⟩ := R.cut
 exact pcs_flat H.pos l.length l (Nat.le_refl _)
theorem file_ok {c : List UInt8 → Nat} {L : List It} (R : ReadyT c L) {O : List Ob} {x : It} (hx : x ∈ L) {room : Int} (h : ∀ n ∈ seqF c x.b, HasN O n) (hr : (x.b.length : Int) ≤ room) :
  fileE O (keyN (fileN c x.b)) room = .ok x.b := by
 unfold fileE
 rw [load_has (h _ (file_mem _ _)) (file_fit R hx) (kd := 2) rfl]
 show partsE O ((pcs c x.b).map partP) room [] = _
 rw [parts_ok _ _ (fun t ht => ⟨h _ (piece_mem ht), by have := pcs_sizes R x.b t ht; exact piece_fit this.1 this.2⟩) (by rw [file_flat R]; simpa using hr), file_flat R, List.nil_append]
theorem parts_bad {O : List Ob} {room err : Int} : ∀ (P : List (List UInt8)) (s : List UInt8), (∀ t ∈ P, (HasN O (pieceN t) ∨ BadN O err (pieceN t)) ∧ fitN (pieceN t) = true) → (∃ t ∈ P, BadN O err (pieceN t)) → (s.length + P.flatten.length : Int) ≤ room → partsE O (P.map partP) room s = .error err
 | [], s, _, h, _ => by obtain ⟨t, ht, _⟩ := h; cases ht
 | t :: P, s, h, hb, hr => by
  have hk : (partP t).k.data.toList = keyN (pieceN t) := by simp [partP]
  have hd : (pieceN t).d.size = t.length := by unfold pieceN; rw [Lib.size_eq]
  have hl : (pieceN t).d.data.toList = t := by simp [pieceN]
  rw [List.flatten_cons, List.length_append] at hr
  rw [List.map_cons]
  unfold partsE
  rw [hk]
  by_cases hbt : BadN O err (pieceN t)
  ·rw [hbt 1]
  ·obtain ⟨h1, h2⟩ := h t (by simp)
   have h1 := h1.resolve_right hbt
   rw [load_has h1 h2 (kd := 1) rfl]
   show (if _ then _ else _) = _
   rw [if_pos ⟨by rw [hd]; rfl, by rw [hd]; omega⟩, hl]
   refine parts_bad P (s ++ t) (fun u hu => h u (List.mem_cons_of_mem _ hu)) ?_ (by rw [List.length_append]; omega)
   obtain ⟨u, hu, hbu⟩ := hb
   rcases List.mem_cons.1 hu with rfl | hu
   ·exact absurd hbu hbt
   ·exact ⟨u, hu, hbu⟩
theorem file_bad {c : List UInt8 → Nat} {L : List It} (R : ReadyT c L) {O : List Ob} {x : It} (hx : x ∈ L) {room err : Int} (h : ∀ n ∈ seqF c x.b, HasN O n ∨ BadN O err n) (hb : ∃ n ∈ seqF c x.b, BadN O err n) (hr : (x.b.length : Int) ≤ room) :
  fileE O (keyN (fileN c x.b)) room = .error err := by
 unfold fileE
 by_cases hbf : BadN O err (fileN c x.b)
 ·rw [hbf 2]
 ·rw [load_has ((h _ (file_mem _ _)).resolve_right hbf) (file_fit R hx) (kd := 2) rfl]
  show partsE O ((pcs c x.b).map partP) room [] = _
  refine parts_bad _ _ (fun t ht => ⟨h _ (piece_mem ht), by have := pcs_sizes R x.b t ht; exact piece_fit this.1 this.2⟩) ?_ (by rw [file_flat R]; simpa using hr)
  obtain ⟨n, hn, hbn⟩ := hb
  rcases List.mem_append.1 hn with h1 | h1
  ·obtain ⟨t, ht, rfl⟩ := List.mem_map.1 h1
   exact ⟨t, ht, hbn⟩
  ·rw [List.mem_singleton.1 h1] at hbn; exact absurd hbn hbf
def preD (d : List UInt8) : List UInt8 := if d = [] then [] else d ++ [47]
theorem pre_name {L : List It} (F : TFit L) {d : List UInt8} {x : It} (hx : x ∈ inD L d) : preD d ++ lastN x.t = x.t := by
 have hp := F.path x (mem_inD.1 hx).1
 have h1 := in_cs F hx
 rw [(path_ok hp).pts] at h1
 have h2 := joinS_pts x.t
 rw [h1] at h2
 unfold preD
 by_cases hd : d = []
 ·rw [if_pos hd]
  subst hd
  rw [cs_nil] at h2
  exact h2
 ·rw [if_neg hd]
  have h3 : cs d = pts d := if_neg hd
  rw [h3, joinS_snoc (pts_ne d), joinS_pts] at h2
  rw [List.append_assoc]; exact h2
theorem it_made {L : List It} (F : TFit L) {d : List UInt8} {x : It} (hx : x ∈ inD L d) :
  (x.d = true → (⟨⟨(preD d ++ lastN x.t).toArray⟩, true, false, ⟨#[]⟩⟩ : It) = x) ∧ (x.d = false → (⟨⟨(preD d ++ lastN x.t).toArray⟩, false, x.e, ⟨x.b.toArray⟩⟩ : It) = x) := by
 have hb := F.form x (mem_inD.1 hx).1
 rw [pre_name F hx]
 refine ⟨fun hd => ?_, fun hd => ?_⟩
 ·unfold badI at hb
  rw [hd] at hb
  simp at hb
  refine it_ext (by simp [It.t]) hd.symm hb.2.symm (ba_ext ?_)
  rw [hb.1]; rfl
 ·exact it_ext (by simp [It.t]) hd.symm rfl (ba_ext (by simp [It.b]))
theorem no_deep {L : List It} (F : TFit L) {d : List UInt8} (h : (cs d).length = 8) : inD L d = [] := by
 refine List.eq_nil_iff_forall_not_mem.2 fun x hx => ?_
 have h1 := in_cs F hx
 have h2 := (path_ok (F.path x (mem_inD.1 hx).1)).len
 rw [h1, List.length_append, h] at h2
 simp at h2
theorem dir_ok {c : List UInt8 → Nat} {L : List It} (R : ReadyT c L) {O : List Ob} : ∀ (k : Nat) (d : List UInt8) (out : List It), (cs d).length + k = 8 → (∀ n ∈ seqD c L (k + 1) d, HasN O n) →
  out.length + (blkT L d).length ≤ 60 → sizeT out + sizeT (blkT L d) ≤ 65536 → dirE O k (keyN (dirN c L (k + 1) d)) (preD d) out = .ok (out ++ blkT L d)
 | 0, d, out, hk, h, _, _ => by
  have h0 := no_deep R.fit hk
  have hb : blkT L d = [] := by rw [blk_eq R.fit, h0]; rfl
  unfold dirE
  rw [load_has (h _ (top_mem _ _ _ _)) (dir_fit R _ _) (dirN_kd ..)]
  show entsE _ (dirN c L (0 + 1) d).es out = _
  rw [dirN_es, h0, hb]
  simp [entsE]
 | k + 1, d, out, hk, h, hl, hs => by
  unfold dirE
  rw [load_has (h _ (top_mem _ _ _ _)) (dir_fit R _ _) (dirN_kd ..)]
  show entsE _ (dirN c L (k + 1 + 1) d).es out = _
  rw [dirN_es]
  have step : ∀ (C : List It) (out : List It), (∀ x ∈ C, x ∈ inD L d) → out.length + (C.flatMap fun x => x :: blkT L x.t).length ≤ 60 → sizeT out + sizeT (C.flatMap fun x => x :: blkT L x.t) ≤ 65536 →
    entsE (ent1E O (dirE O k) (preD d)) (C.map fun x => entE x (keyN (subN c L (k + 1) x))) out = .ok (out ++ C.flatMap fun x => x :: blkT L x.t) := by
   intro C
   induction C with
   | nil => intro out _ _ _; simp [entsE]
   | cons x C ih =>
    intro out hC hl hs
    have hx := hC x (by simp)
    have hm := (mem_inD.1 hx).1
    rw [List.flatMap_cons, List.cons_append, List.length_cons, List.length_append] at hl
    rw [List.flatMap_cons, List.cons_append, sizeT_cons, sizeT_app] at hs
    obtain ⟨m1, m2⟩ := it_made R.fit hx
    have e1 : (entE x (keyN (subN c L (k + 1) x))).k.data.toList = keyN (subN c L (k + 1) x) := by simp [entE]
    have e2 : (entE x (keyN (subN c L (k + 1) x))).m.data.toList = lastN x.t := by simp [entE]
    have e5 : (entE x (keyN (subN c L (k + 1) x))).x = x.e := rfl
    have hsz0 : sizeT [] = 0 := rfl
    rw [List.map_cons, List.flatMap_cons]
    have h60 : out.length < 60 := by omega
    cases hd : x.d
    ·have e3 : (entE x (keyN (subN c L (k + 1) x))).kd ≠ 3 := by show (if x.d then (3 : Int) else 2) ≠ 3; rw [hd]; decide
     have e4 : subN c L (k + 1) x = fileN c x.b := by unfold subN; rw [hd]; rfl
     have hb := file_blk R.fit hm hd
     have hfl := file_ok R hm (O := O) (room := 65536 - (sizeT out : Int)) (fun n hn => h n (sub_file hx hd hn)) (by
      have : x.b.length = x.c.size := by unfold It.b; rw [Lib.size_eq]
      omega)
     rw [← e4, ← e1] at hfl
     rw [entsE_ok (ent1_file h60 e3 hfl), e2, e5, m2 hd]
     rw [hb] at hl hs ⊢
     rw [ih (out ++ [x]) (fun y hy => hC y (List.mem_cons_of_mem _ hy)) (by rw [List.length_append]; simp at hl ⊢; omega) (by rw [sizeT_app, sizeT_cons]; omega)]
     simp
    ·have e3 : (entE x (keyN (subN c L (k + 1) x))).kd = 3 := by show (if x.d then (3 : Int) else 2) = 3; rw [hd]; rfl
     have e4 : subN c L (k + 1) x = dirN c L (k + 1) x.t := by unfold subN; rw [hd]; rfl
     have hp : preD d ++ lastN x.t ++ [47] = preD x.t := by
      rw [pre_name R.fit hx]
      unfold preD
      rw [if_neg (fun e => (path_ok (R.fit.path x hm)).nil (by rw [e, cs_nil]))]
     have hcl : (cs x.t).length + k = 8 := by rw [in_cs R.fit hx, List.length_append]; simp; omega
     have hsub := dir_ok R (O := O) k x.t (out ++ [x]) hcl (fun n hn => h n (sub_dir hx hd hn)) (by rw [List.length_append]; simp; omega) (by rw [sizeT_app, sizeT_cons]; have : sizeT [] = 0 := rfl; omega)
     rw [entsE_ok ((ent1_dir h60 e3).trans (by rw [e1, e2, e4, hp, m1 hd]; exact hsub))]
     rw [ih (out ++ [x] ++ blkT L x.t) (fun y hy => hC y (List.mem_cons_of_mem _ hy)) (by rw [List.length_append, List.length_append, List.length_singleton]; omega) (by rw [sizeT_app, sizeT_app, sizeT_cons]; have : sizeT [] = 0 := rfl; omega)]
     simp
  have hb := blk_eq R.fit d
  rw [hb] at hl hs ⊢
  exact step (inD L d) out (fun _ hx => hx) hl hs
theorem dir_bad {c : List UInt8 → Nat} {L : List It} (R : ReadyT c L) {O : List Ob} {err : Int} : ∀ (k : Nat) (d : List UInt8) (out : List It), (cs d).length + k = 8 → (∀ n ∈ seqD c L (k + 1) d, HasN O n ∨ BadN O err n) → (∃ n ∈ seqD c L (k + 1) d, BadN O err n) →
  out.length + (blkT L d).length ≤ 60 → sizeT out + sizeT (blkT L d) ≤ 65536 → dirE O k (keyN (dirN c L (k + 1) d)) (preD d) out = .error err
 | 0, d, out, hk, h, hb, _, _ => by
  have h0 := no_deep R.fit hk
  obtain ⟨n, hn, hbn⟩ := hb
  have e : n = dirN c L (0 + 1) d := by
   unfold seqD at hn
   rw [h0] at hn
   simpa using hn
  subst e
  unfold dirE
  rw [hbn 3]
 | k + 1, d, out, hk, h, hb, hl, hs => by
  unfold dirE
  by_cases hbt : BadN O err (dirN c L (k + 1 + 1) d)
  ·rw [hbt 3]
  rw [load_has ((h _ (top_mem _ _ _ _)).resolve_right hbt) (dir_fit R _ _) (dirN_kd ..)]
  show entsE _ (dirN c L (k + 1 + 1) d).es out = _
  rw [dirN_es]
  have step : ∀ (C : List It) (out : List It), (∀ x ∈ C, x ∈ inD L d) → (∃ x ∈ C, ∃ n ∈ (if x.d then seqD c L (k + 1) x.t else seqF c x.b), BadN O err n) → out.length + (C.flatMap fun x => x :: blkT L x.t).length ≤ 60 → sizeT out + sizeT (C.flatMap fun x => x :: blkT L x.t) ≤ 65536 →
    entsE (ent1E O (dirE O k) (preD d)) (C.map fun x => entE x (keyN (subN c L (k + 1) x))) out = .error err := by
   intro C
   induction C with
   | nil => intro out _ h _ _; obtain ⟨x, hx, _⟩ := h; cases hx
   | cons x C ih =>
    intro out hC hB hl hs
    have hx := hC x (by simp)
    have hm := (mem_inD.1 hx).1
    rw [List.flatMap_cons, List.cons_append, List.length_cons, List.length_append] at hl
    rw [List.flatMap_cons, List.cons_append, sizeT_cons, sizeT_app] at hs
    obtain ⟨m1, m2⟩ := it_made R.fit hx
    have e1 : (entE x (keyN (subN c L (k + 1) x))).k.data.toList = keyN (subN c L (k + 1) x) := by simp [entE]
    have e2 : (entE x (keyN (subN c L (k + 1) x))).m.data.toList = lastN x.t := by simp [entE]
    have hsz0 : sizeT [] = 0 := rfl
    have e5 : (entE x (keyN (subN c L (k + 1) x))).x = x.e := rfl
    rw [List.map_cons]
    have h60 : out.length < 60 := by omega
    cases hd : x.d
    ·have e3 : (entE x (keyN (subN c L (k + 1) x))).kd ≠ 3 := by show (if x.d then (3 : Int) else 2) ≠ 3; rw [hd]; decide
     have e4 : subN c L (k + 1) x = fileN c x.b := by unfold subN; rw [hd]; rfl
     have hbl := file_blk R.fit hm hd
     have hroom : (x.b.length : Int) ≤ 65536 - (sizeT out : Int) := by
      have : x.b.length = x.c.size := by unfold It.b; rw [Lib.size_eq]
      omega
     by_cases hbx : ∃ n ∈ seqF c x.b, BadN O err n
     ·refine entsE_err (ent1_err h60 e3 ?_)
      rw [e1, e4]
      exact file_bad R hm (fun n hn => h n (sub_file hx hd hn)) hbx hroom
     ·have hfl := file_ok R hm (O := O) (room := 65536 - (sizeT out : Int)) (fun n hn => (h n (sub_file hx hd hn)).resolve_right fun hq => hbx ⟨n, hn, hq⟩) hroom
      rw [← e4, ← e1] at hfl
      rw [entsE_ok (ent1_file h60 e3 hfl), e2, e5, m2 hd]
      rw [hbl] at hl hs
      refine ih (out ++ [x]) (fun y hy => hC y (List.mem_cons_of_mem _ hy)) ?_ (by rw [List.length_append]; simp at hl ⊢; omega) (by rw [sizeT_app, sizeT_cons]; omega)
      obtain ⟨z, hz, n, hn, hq⟩ := hB
      rcases List.mem_cons.1 hz with e | hz
      ·subst e
       rw [hd] at hn
       exact absurd ⟨n, hn, hq⟩ hbx
      ·exact ⟨z, hz, n, hn, hq⟩
    ·have e3 : (entE x (keyN (subN c L (k + 1) x))).kd = 3 := by show (if x.d then (3 : Int) else 2) = 3; rw [hd]; rfl
     have e4 : subN c L (k + 1) x = dirN c L (k + 1) x.t := by unfold subN; rw [hd]; rfl
     have hp : preD d ++ lastN x.t ++ [47] = preD x.t := by
      rw [pre_name R.fit hx]
      unfold preD
      rw [if_neg (fun e => (path_ok (R.fit.path x hm)).nil (by rw [e, cs_nil]))]
     have hcl : (cs x.t).length + k = 8 := by rw [in_cs R.fit hx, List.length_append]; simp; omega
     by_cases hbx : ∃ n ∈ seqD c L (k + 1) x.t, BadN O err n
     ·refine entsE_err ((ent1_dir h60 e3).trans ?_)
      rw [e1, e2, e4, hp, m1 hd]
      exact dir_bad R (O := O) k x.t (out ++ [x]) hcl (fun n hn => h n (sub_dir hx hd hn)) hbx (by rw [List.length_append]; simp; omega) (by rw [sizeT_app, sizeT_cons]; omega)
     ·have hsub := dir_ok R (O := O) k x.t (out ++ [x]) hcl (fun n hn => (h n (sub_dir hx hd hn)).resolve_right fun hq => hbx ⟨n, hn, hq⟩) (by rw [List.length_append]; simp; omega) (by rw [sizeT_app, sizeT_cons]; omega)
      rw [entsE_ok ((ent1_dir h60 e3).trans (by rw [e1, e2, e4, hp, m1 hd]; exact hsub))]
      refine ih (out ++ [x] ++ blkT L x.t) (fun y hy => hC y (List.mem_cons_of_mem _ hy)) ?_ (by rw [List.length_append, List.length_append, List.length_singleton]; omega) (by rw [sizeT_app, sizeT_app, sizeT_cons]; omega)
      obtain ⟨z, hz, n, hn, hq⟩ := hB
      rcases List.mem_cons.1 hz with e | hz
      ·subst e
       rw [hd] at hn
       exact absurd ⟨n, hn, hq⟩ hbx
      ·exact ⟨z, hz, n, hn, hq⟩
  have hbk := blk_eq R.fit d
  rw [hbk] at hl hs
  refine step (inD L d) out (fun _ hx => hx) ?_ hl hs
  obtain ⟨n, hn, hq⟩ := hb
  unfold seqD at hn
  rcases List.mem_append.1 hn with h1 | h1
  ·obtain ⟨x, hx, h2⟩ := List.mem_flatMap.1 h1
   exact ⟨x, hx, n, h2, hq⟩
  ·rw [List.mem_singleton.1 h1] at hq
   exact absurd hq hbt
theorem tree_ok {c : List UInt8 → Nat} {L : List It} (R : ReadyT c L) {O : List Ob} (h : ∀ n ∈ seqT c L, HasN O n) : treeE O (keyN (topT c L)) = .ok L := by
 have hb := blk_top R.fit
 have := dir_ok R (O := O) 8 [] [] (by rw [cs_nil]; rfl) h (by rw [hb]; simpa using R.fit.len) (by rw [hb]; have := R.fit.size; have h0 : sizeT [] = 0 := rfl; omega)
 rw [hb, List.nil_append] at this
 exact this
theorem tree_bad {c : List UInt8 → Nat} {L : List It} (R : ReadyT c L) {O : List Ob} {err : Int} (h : ∀ n ∈ seqT c L, HasN O n ∨ BadN O err n) (hq : ∃ n ∈ seqT c L, BadN O err n) : treeE O (keyN (topT c L)) = .error err := by
 have hb := blk_top R.fit
 exact dir_bad R (O := O) 8 [] [] (by rw [cs_nil]; rfl) h hq (by rw [hb]; simpa using R.fit.len) (by rw [hb]; have := R.fit.size; have h0 : sizeT [] = 0 := rfl; omega)
theorem objs_has {c : List UInt8 → Nat} {L : List It} (R : ReadyT c L) (hc : ¬ Clash (rawsT c L)) {n : Nd} (hn : n ∈ seqT c L) : HasN (objsT c L) n ∧ obN n ∈ objsT c L := by
 obtain ⟨y, hy, e⟩ := objs_key R hn
 obtain ⟨m, hm, rfl⟩ := objs_mem hy
 rw [obN_t] at e
 have := same_node hc (seqT_fit R m hm) (seqT_fit R n hn) (raw_mem hm) (raw_mem hn) e
 subst this
 exact ⟨⟨obN m, (getO_some (objs_fit c L).1).2 ⟨hy, obN_t m⟩, obN_u m⟩, hy⟩
end Go.Proofs.YtjpjpmkadoaipaaGreatDoor
set_option linter.unusedVariables false
namespace Go.Proofs.YtjpjpmkadoaipaaGreatDoor
open Go.RowKit
attribute [local go_sem] Oper.semAt_some
abbrev zeroNV : Value := .agg #[.int .i64 0, .string ⟨#[]⟩, .slice none 0 0, .slice none 0 0]
def RetLd (r : Except Int Nd) (w : World) (e : Ending) (w' : World) : Prop :=
 (∃ n pv ev, r = .ok n ∧ e = .returned (.tuple #[ndV n pv ev, .nilIface]) ∧ OwnP w.heap.size w' pv n.ps ∧ OwnE w.heap.size w' ev n.es ∧ Below w.heap.size w w')
 ∨ ∃ k s, r = .error k ∧ k ∈ wrongs ∧ e = .returned (.tuple #[zeroNV, faultV s k]) ∧ Below w.heap.size w w'
theorem RetLd.bad {r : Except Int Nd} {k : Int} {s : ByteArray} {w w' : World} (h : r = .error k) (hk : k ∈ wrongs) (hb : Below w.heap.size w w') :
  RetLd r w (.returned (.tuple #[zeroNV, faultV s k])) w' := .inr ⟨k, s, h, hk, rfl, hb⟩
noncomputable def readE (O : List Ob) (t : List UInt8) : Except Int Nd := match getO O t with
 | none => .error 5
 | some y => match readN y.u with
  | none => .error 2
  | some n => .ok n
theorem readE_none {O : List Ob} {t : List UInt8} (h : getO O t = none) : readE O t = .error 5 := by unfold readE; rw [h]
theorem readE_bad {O : List Ob} {t : List UInt8} {y : Ob} (h : getO O t = some y) (hn : readN y.u = none) : readE O t = .error 2 := by unfold readE; rw [h]; simp only [hn]
theorem readE_ok {O : List Ob} {t : List UInt8} {y : Ob} {n : Nd} (h : getO O t = some y) (hn : readN y.u = some n) : readE O t = .ok n := by unfold readE; rw [h]; simp only [hn]
set_option maxRecDepth 100000 in
set_option maxHeartbeats 4000000 in
theorem read_any (v : Value) (L : List Ob) (s : ByteArray) (w : World) (h : IsObs w v L) (hr : RiseO L) (hl : L.length ≤ 1000000) (hz : ∀ y ∈ L, y.r.size ≤ 1000000) (hT : ErrT w) :
  Calls Tryz.prog 30 #[v, .string s] w (RetLd (readE L s.data.toList) w) := by
 have hb0 := (Below.refl w.heap.size w).alloc (Nat.le_refl _) (.cells #[.int .i64 0, .string ⟨#[]⟩, .slice none 0 0, .slice none 0 0] 71)
 have HX := Lib.hid (Row.made w #[.int .i64 0, .string ⟨#[]⟩, .slice none 0 0, .slice none 0 0] 71)
 have HT := Lib.hid (hT.stays hb0)
 have CG := Lib.hid (pGet_any v L s _ (h.stays hb0) hr hl)
 have HLT : Hid (w.heap.size < (w.alloc (.cells #[.int .i64 0, .string ⟨#[]⟩, .slice none 0 0, .slice none 0 0] 71)).heap.size) := Lib.hid (by simp)
 have HB0 := Lib.hid hb0
 clear h hT hb0
 cases hg : getO L s.data.toList with
 | none =>
  have HE := Lib.hid (readE_none hg)
  rw [hg] at CG
  simp only [Option.isSome_none] at CG
  obtain ⟨x, hx⟩ : ∃ x, x = gotO L s.data.toList := ⟨_, rfl⟩
  rw [← hx] at CG
  clear hg hx hr hz
  go_enter Tryz.func30, Tryz.ntmps30
  go_wp2_with fail
  refine CG.out.mono ?_
  rintro e w1 ⟨rfl, hb1⟩
  have HB1 := Lib.hid (below_step HB0.out hb1)
  have hX1 := HX.out.step hb1
  have HX1 := Lib.hid hX1
  have p0 := hX1.cell 0; have p1 := hX1.cell 1; have p2 := hX1.cell 2; have p3 := hX1.cell 3
  have f0 := hX1.free 0; have f1 := hX1.free 1; have f2 := hX1.free 2; have f3 := hX1.free 3
  simp only [List.getElem?_toArray, List.getElem?_cons_zero, List.getElem?_cons_succ] at p0 p1 p2 p3
  have hlx := hX1.lt
  clear hb1 hX1
  go_wp2
  have hR4 := row4_row HX1.out (.int .i64 0) (.string ⟨#[]⟩) (.slice none 0 0) (.slice none 0 0)
  have d0 := hR4.cell 0; have d1 := hR4.cell 1; have d2 := hR4.cell 2; have d3 := hR4.cell 3
  simp only [List.getElem?_toArray, List.getElem?_cons_zero, List.getElem?_cons_succ] at d0 d1 d2 d3
  have hbe := ((((HB1.out.setCell (p := ⟨w.heap.size, 0, none⟩) (Nat.le_refl _) (.int .i64 0)).setCell (p := ⟨w.heap.size, 1, none⟩) (Nat.le_refl _) (.string ⟨#[]⟩)).setCell (p := ⟨w.heap.size, 2, none⟩) (Nat.le_refl _) (.slice none 0 0)).setCell (p := ⟨w.heap.size, 3, none⟩) (Nat.le_refl _) (.slice none 0 0))
  refine bodyPost_ret (v := .tuple #[.agg #[.int .i64 0, .string ⟨#[]⟩, .slice none 0 0, .slice none 0 0], faultV s 5]) (by simp [results, Tryz.results30, go_sem, d0, d1, d2, d3]) rfl ?_
  exact RetLd.bad HE.out (by decide) hbe
 | some y =>
  have hy := (getO_some hr).1 hg
  have HZ := Lib.hid (hz y hy.1)
  have hgo : gotO L s.data.toList = y.r := by unfold gotO; rw [hg]; rfl
  have HG := Lib.hid hg
  rw [hg, hgo] at CG
  simp only [Option.isSome_some] at CG
  clear hr hz hg hgo hy
  go_enter Tryz.func30, Tryz.ntmps30
  go_wp2_with fail
  refine CG.out.mono ?_
  rintro e w1 ⟨rfl, hb1⟩
  have HB1 := Lib.hid (below_step HB0.out hb1)
  have HX1 := Lib.hid (HX.out.step hb1)
  have HL1 := Lib.hid (Nat.lt_of_lt_of_le HLT.out hb1.size)
  have CR := Lib.hid (pReadO_any y.r HZ.out w1 (HT.out.stays hb1))
  clear hb1
  go_wp2_with fail
  refine CR.out.mono ?_
  rintro e w2 ⟨n, k, hrd, pv, ev, rfl, hpv, hev, hb2⟩
  have HB2 := Lib.hid (below_step HB1.out hb2)
  have hX2 := HX1.out.step hb2
  obtain ⟨_, a1, cap1, hv1, _, _⟩ := hpv.is
  obtain ⟨_, a2, cap2, hv2, _, _⟩ := hev.is
  have HP := Lib.hid hpv; have HV := Lib.hid hev
  clear hpv hev
  obtain ⟨z1, hz1⟩ : ∃ z, z = n.ps.length := ⟨_, rfl⟩
  obtain ⟨z2, hz2⟩ : ∃ z, z = n.es.length := ⟨_, rfl⟩
  rw [← hz1] at hv1; rw [← hz2] at hv2
  clear hz1 hz2
  subst hv1 hv2
  rcases readN_rd hrd with ⟨rfl, hn⟩ | ⟨rfl, rfl, hn⟩
  ·have HE := Lib.hid (readE_ok HG.out hn)
   have HX2 := Lib.hid hX2
   have p0 := hX2.cell 0; have p1 := hX2.cell 1; have p2 := hX2.cell 2; have p3 := hX2.cell 3
   have f0 := hX2.free 0; have f1 := hX2.free 1; have f2 := hX2.free 2; have f3 := hX2.free 3
   simp only [List.getElem?_toArray, List.getElem?_cons_zero, List.getElem?_cons_succ] at p0 p1 p2 p3
   have hlx := hX2.lt
   have HL1S := Lib.hid (show w.heap.size < w1.heap.size from HL1.out)
   clear hrd hn hb2 hX2
   go_wp2
   have hR4 := (row4_row HX2.out (.int .i64 n.kd) (.string n.d) (.slice a1 z1 cap1) (.slice a2 z2 cap2)).alloc (.cells #[.int .i64 n.kd, .string n.d, .slice a1 z1 cap1, .slice a2 z2 cap2] 71)
   have d0 := hR4.cell 0; have d1 := hR4.cell 1; have d2 := hR4.cell 2; have d3 := hR4.cell 3
   simp only [List.getElem?_toArray, List.getElem?_cons_zero, List.getElem?_cons_succ] at d0 d1 d2 d3
   have hbe := (((((HB2.out.setCell (p := ⟨w.heap.size, 0, none⟩) (Nat.le_refl _) (.int .i64 n.kd)).setCell (p := ⟨w.heap.size, 1, none⟩) (Nat.le_refl _) (.string n.d)).setCell (p := ⟨w.heap.size, 2, none⟩) (Nat.le_refl _) (.slice a1 z1 cap1)).setCell (p := ⟨w.heap.size, 3, none⟩) (Nat.le_refl _) (.slice a2 z2 cap2))).alloc (by have := HB2.out.size; simpa [World.setCell] using this) (.cells #[.int .i64 n.kd, .string n.d, .slice a1 z1 cap1, .slice a2 z2 cap2] 71)
   refine bodyPost_ret (v := .tuple #[.agg #[.int .i64 n.kd, .string n.d, .slice a1 z1 cap1, .slice a2 z2 cap2], .nilIface]) (by simp [results, Tryz.results30, go_sem, d0, d1, d2, d3]) rfl ?_
   refine .inl ⟨n, _, _, HE.out, rfl, ?_, ?_, hbe⟩
   ·exact World.ownsRow.alloc (((((HP.out.setBelow (a := ⟨w.heap.size, 0, none⟩) HL1S.out _).setBelow (a := ⟨w.heap.size, 1, none⟩) HL1S.out _).setBelow (a := ⟨w.heap.size, 2, none⟩) HL1S.out _).setBelow (a := ⟨w.heap.size, 3, none⟩) HL1S.out _).low (Nat.le_of_lt HL1S.out)) _
   ·exact World.ownsRow.alloc (((((HV.out.setBelow (a := ⟨w.heap.size, 0, none⟩) HL1S.out _).setBelow (a := ⟨w.heap.size, 1, none⟩) HL1S.out _).setBelow (a := ⟨w.heap.size, 2, none⟩) HL1S.out _).setBelow (a := ⟨w.heap.size, 3, none⟩) HL1S.out _).low (Nat.le_of_lt HL1S.out)) _
  ·have HE := Lib.hid (readE_bad HG.out hn)
   have HX2 := Lib.hid hX2
   have p0 := hX2.cell 0; have p1 := hX2.cell 1; have p2 := hX2.cell 2; have p3 := hX2.cell 3
   have f0 := hX2.free 0; have f1 := hX2.free 1; have f2 := hX2.free 2; have f3 := hX2.free 3
   simp only [List.getElem?_toArray, List.getElem?_cons_zero, List.getElem?_cons_succ] at p0 p1 p2 p3
   have hlx := hX2.lt
   clear hrd hn hb2 hX2
   go_wp2
   have hR4 := (row4_row HX2.out (.int .i64 0) (.string ⟨#[]⟩) (.slice none 0 0) (.slice none 0 0)).alloc (.cells #[.int .i64 zeroNd.kd, .string zeroNd.d, .slice a1 z1 cap1, .slice a2 z2 cap2] 71)
   have d0 := hR4.cell 0; have d1 := hR4.cell 1; have d2 := hR4.cell 2; have d3 := hR4.cell 3
   simp only [List.getElem?_toArray, List.getElem?_cons_zero, List.getElem?_cons_succ] at d0 d1 d2 d3
   have hbe := (((((HB2.out.setCell (p := ⟨w.heap.size, 0, none⟩) (Nat.le_refl _) (.int .i64 0)).setCell (p := ⟨w.heap.size, 1, none⟩) (Nat.le_refl _) (.string ⟨#[]⟩)).setCell (p := ⟨w.heap.size, 2, none⟩) (Nat.le_refl _) (.slice none 0 0)).setCell (p := ⟨w.heap.size, 3, none⟩) (Nat.le_refl _) (.slice none 0 0))).alloc (by have := HB2.out.size; simpa [World.setCell] using this) (.cells #[.int .i64 zeroNd.kd, .string zeroNd.d, .slice a1 z1 cap1, .slice a2 z2 cap2] 71)
   refine bodyPost_ret (v := .tuple #[.agg #[.int .i64 0, .string ⟨#[]⟩, .slice none 0 0, .slice none 0 0], faultV s 2]) (by simp [results, Tryz.results30, go_sem, d0, d1, d2, d3]) rfl ?_
   exact RetLd.bad HE.out (by decide) hbe
theorem txt_ne {l : List UInt8} {s : ByteArray} : (⟨l.toArray⟩ : ByteArray) = s ↔ l = s.data.toList := by
 constructor
 ·rintro rfl; simp
 ·rintro rfl; simp
def loadR (r : Except Int Nd) (kd : Int) : Except Int Nd := match r with
 | .error x => .error x
 | .ok n => if n.kd = kd then .ok n else .error 10
theorem loadR_ok {r : Except Int Nd} {n : Nd} {kd : Int} (h : r = .ok n) (hk : n.kd = kd) : loadR r kd = .ok n := by subst h; unfold loadR; simp only; rw [if_pos hk]
theorem loadR_kind {r : Except Int Nd} {n : Nd} {kd : Int} (h : r = .ok n) (hk : n.kd ≠ kd) : loadR r kd = .error 10 := by subst h; unfold loadR; simp only; rw [if_neg hk]
theorem loadR_bad {r : Except Int Nd} {x : Int} {kd : Int} (h : r = .error x) : loadR r kd = .error x := by subst h; rfl
theorem loadE_none {O : List Ob} {t : List UInt8} {kd : Int} (h : getO O t = none) : loadE O t kd = loadR (readE O t) kd := by unfold loadE readE; rw [h]; rfl
theorem loadE_sum {O : List Ob} {t : List UInt8} {kd : Int} {y : Ob} (h : getO O t = some y) (hs : shaSum y.u = t) : loadE O t kd = loadR (readE O t) kd := by
 unfold loadE readE; rw [h]
 simp only
 rw [if_pos hs]
 cases readN y.u <;> rfl
theorem loadE_key {O : List Ob} {t : List UInt8} {kd : Int} {y : Ob} (h : getO O t = some y) (hs : shaSum y.u ≠ t) : loadE O t kd = .error 11 := by
 unfold loadE; rw [h]
 simp only
 rw [if_neg hs]
theorem str_ne_Fgd {x y : ByteArray} (h : x ≠ y) : (x.toList == y.toList) = false ∧ (x.toList != y.toList) = true := by
 have := beq_false h
 exact ⟨this, by simp [bne, this]⟩
set_option maxRecDepth 100000 in
set_option maxHeartbeats 8000000 in
theorem load_any (v : Value) (L : List Ob) (s : ByteArray) (kd : Int) (w : World) (h : IsObs w v L) (hr : RiseO L) (hl : L.length ≤ 1000000) (hz : ∀ y ∈ L, y.r.size ≤ 1000000) (hT : ErrT w) :
  Calls Tryz.prog 51 #[v, .string s, .int .i64 kd] w (RetLd (loadE L s.data.toList kd) w) := by
 have hb0 := (Below.refl w.heap.size w).alloc (Nat.le_refl _) (.cells #[.int .i64 0, .string ⟨#[]⟩, .slice none 0 0, .slice none 0 0] 71)
 have HX0 := Lib.hid (Row.made w #[.int .i64 0, .string ⟨#[]⟩, .slice none 0 0, .slice none 0 0] 71)
 have HT0 := Lib.hid (hT.stays hb0)
 have CG := Lib.hid (pGet_any v L s _ (h.stays hb0) hr hl)
 have HO0 := Lib.hid (h.stays hb0)
 have HB0 := Lib.hid hb0
 have HR := Lib.hid hr; have HZ := Lib.hid hz
 clear h hT hb0 hr hz
 cases hg : getO L s.data.toList with
 | none =>
  have HRE := Lib.hid (loadE_none (kd := kd) hg)
  rw [hg] at CG
  simp only [Option.isSome_none] at CG
  obtain ⟨x, hx⟩ : ∃ x, x = gotO L s.data.toList := ⟨_, rfl⟩
  rw [← hx] at CG
  clear hg hx
  go_enter Tryz.func51, Tryz.ntmps51
  go_wp2_with fail
  with_reducible refine CG.out.mono ?_
  rintro e w1 ⟨rfl, hb1⟩
  have HB := Lib.hid (below_step HB0.out hb1)
  have HX := Lib.hid (HX0.out.step hb1)
  have HT := Lib.hid (HT0.out.stays hb1); have HO := Lib.hid (HO0.out.stays hb1)
  clear hb1
  have CR := Lib.hid (read_any v L s w1 HO.out HR.out hl HZ.out HT.out)
  clear hl
  go_wp2_with fail
  with_reducible refine CR.out.mono ?_
  rintro e w3 (⟨n, pv, ev, hok, rfl, hpv, hev, hb3⟩ | ⟨k, s', hbad, hk, rfl, hb3⟩)
  ·have HB3 := Lib.hid (below_step HB.out hb3)
   have HX3 := Lib.hid (HX.out.step hb3)
   have HLS := Lib.hid (show w.heap.size < w1.heap.size from HX.out.lt)
   obtain ⟨_, a1, cap1, hv1, _, _⟩ := hpv.is
   obtain ⟨_, a2, cap2, hv2, _, _⟩ := hev.is
   have HP := Lib.hid hpv; have HV := Lib.hid hev
   clear hpv hev hb3
   obtain ⟨z1, hz1⟩ : ∃ z, z = n.ps.length := ⟨_, rfl⟩
   obtain ⟨z2, hz2⟩ : ∃ z, z = n.es.length := ⟨_, rfl⟩
   rw [← hz1] at hv1; rw [← hz2] at hv2
   clear hz1 hz2
   subst hv1 hv2
   have p0 := HX3.out.cell 0; have p1 := HX3.out.cell 1; have p2 := HX3.out.cell 2; have p3 := HX3.out.cell 3
   have f0 := HX3.out.free 0; have f1 := HX3.out.free 1; have f2 := HX3.out.free 2; have f3 := HX3.out.free 3
   simp only [List.getElem?_toArray, List.getElem?_cons_zero, List.getElem?_cons_succ] at p0 p1 p2 p3
   have hlx := HX3.out.lt
   by_cases hkd : n.kd = kd
   ·have hkb : (n.kd == kd) = true := beq_iff_eq.2 hkd
    have HE := Lib.hid (HRE.out.trans (loadR_ok hok hkd))
    clear hok
    subst hkd
    go_wp2
    have hR4 := (row4_row HX3.out (.int .i64 n.kd) (.string n.d) (.slice a1 z1 cap1) (.slice a2 z2 cap2)).alloc (.cells #[.int .i64 n.kd, .string n.d, .slice a1 z1 cap1, .slice a2 z2 cap2] 71)
    have d0 := hR4.cell 0; have d1 := hR4.cell 1; have d2 := hR4.cell 2; have d3 := hR4.cell 3
    simp only [List.getElem?_toArray, List.getElem?_cons_zero, List.getElem?_cons_succ] at d0 d1 d2 d3
    have hbe := (((((HB3.out.setCell (p := ⟨w.heap.size, 0, none⟩) (Nat.le_refl _) (.int .i64 n.kd)).setCell (p := ⟨w.heap.size, 1, none⟩) (Nat.le_refl _) (.string n.d)).setCell (p := ⟨w.heap.size, 2, none⟩) (Nat.le_refl _) (.slice a1 z1 cap1)).setCell (p := ⟨w.heap.size, 3, none⟩) (Nat.le_refl _) (.slice a2 z2 cap2))).alloc (by have := HB3.out.size; simpa [World.setCell] using this) (.cells #[.int .i64 n.kd, .string n.d, .slice a1 z1 cap1, .slice a2 z2 cap2] 71)
    refine bodyPost_ret (v := .tuple #[.agg #[.int .i64 n.kd, .string n.d, .slice a1 z1 cap1, .slice a2 z2 cap2], .nilIface]) (by simp [results, Tryz.results51, go_sem, d0, d1, d2, d3]) rfl ?_
    exact .inl ⟨n, _, _, HE.out, rfl, World.ownsRow.alloc (((((HP.out.setBelow (a := ⟨w.heap.size, 0, none⟩) HLS.out _).setBelow (a := ⟨w.heap.size, 1, none⟩) HLS.out _).setBelow (a := ⟨w.heap.size, 2, none⟩) HLS.out _).setBelow (a := ⟨w.heap.size, 3, none⟩) HLS.out _).low (Nat.le_of_lt HLS.out)) _, World.ownsRow.alloc (((((HV.out.setBelow (a := ⟨w.heap.size, 0, none⟩) HLS.out _).setBelow (a := ⟨w.heap.size, 1, none⟩) HLS.out _).setBelow (a := ⟨w.heap.size, 2, none⟩) HLS.out _).setBelow (a := ⟨w.heap.size, 3, none⟩) HLS.out _).low (Nat.le_of_lt HLS.out)) _, hbe⟩
   ·have hkb : (n.kd == kd) = false := beq_eq_false_iff_ne.2 hkd
    have hkb2 : (n.kd != kd) = true := bne_iff_ne.2 hkd
    have HE := Lib.hid (HRE.out.trans (loadR_kind hok hkd))
    clear hok hkd
    go_wp2
    have hR4 := (row4_row HX3.out (.int .i64 0) (.string ⟨#[]⟩) (.slice none 0 0) (.slice none 0 0)).alloc (.cells #[.int .i64 n.kd, .string n.d, .slice a1 z1 cap1, .slice a2 z2 cap2] 71)
    have d0 := hR4.cell 0; have d1 := hR4.cell 1; have d2 := hR4.cell 2; have d3 := hR4.cell 3
    simp only [List.getElem?_toArray, List.getElem?_cons_zero, List.getElem?_cons_succ] at d0 d1 d2 d3
    have hbe := (((((HB3.out.setCell (p := ⟨w.heap.size, 0, none⟩) (Nat.le_refl _) (.int .i64 0)).setCell (p := ⟨w.heap.size, 1, none⟩) (Nat.le_refl _) (.string ⟨#[]⟩)).setCell (p := ⟨w.heap.size, 2, none⟩) (Nat.le_refl _) (.slice none 0 0)).setCell (p := ⟨w.heap.size, 3, none⟩) (Nat.le_refl _) (.slice none 0 0))).alloc (by have := HB3.out.size; simpa [World.setCell] using this) (.cells #[.int .i64 n.kd, .string n.d, .slice a1 z1 cap1, .slice a2 z2 cap2] 71)
    refine bodyPost_ret (v := .tuple #[.agg #[.int .i64 0, .string ⟨#[]⟩, .slice none 0 0, .slice none 0 0], faultV s 10]) (by simp [results, Tryz.results51, go_sem, d0, d1, d2, d3]) rfl ?_
    exact RetLd.bad HE.out (by decide) hbe
  ·have HB3 := Lib.hid (below_step HB.out hb3)
   have HX3 := Lib.hid (HX.out.step hb3)
   have HE := Lib.hid (HRE.out.trans (loadR_bad hbad))
   have HK := Lib.hid hk
   clear hbad hk hb3
   have p0 := HX3.out.cell 0; have p1 := HX3.out.cell 1; have p2 := HX3.out.cell 2; have p3 := HX3.out.cell 3
   have f0 := HX3.out.free 0; have f1 := HX3.out.free 1; have f2 := HX3.out.free 2; have f3 := HX3.out.free 3
   simp only [List.getElem?_toArray, List.getElem?_cons_zero, List.getElem?_cons_succ] at p0 p1 p2 p3
   have hlx := HX3.out.lt
   go_wp2
   have hR4 := (row4_row HX3.out (.int .i64 0) (.string ⟨#[]⟩) (.slice none 0 0) (.slice none 0 0)).alloc (.cells #[.int .i64 0, .string ⟨#[]⟩, .slice none 0 0, .slice none 0 0] 71)
   have d0 := hR4.cell 0; have d1 := hR4.cell 1; have d2 := hR4.cell 2; have d3 := hR4.cell 3
   simp only [List.getElem?_toArray, List.getElem?_cons_zero, List.getElem?_cons_succ] at d0 d1 d2 d3
   have hbe := (((((HB3.out.setCell (p := ⟨w.heap.size, 0, none⟩) (Nat.le_refl _) (.int .i64 0)).setCell (p := ⟨w.heap.size, 1, none⟩) (Nat.le_refl _) (.string ⟨#[]⟩)).setCell (p := ⟨w.heap.size, 2, none⟩) (Nat.le_refl _) (.slice none 0 0)).setCell (p := ⟨w.heap.size, 3, none⟩) (Nat.le_refl _) (.slice none 0 0))).alloc (by have := HB3.out.size; simpa [World.setCell] using this) (.cells #[.int .i64 0, .string ⟨#[]⟩, .slice none 0 0, .slice none 0 0] 71)
   refine bodyPost_ret (v := .tuple #[.agg #[.int .i64 0, .string ⟨#[]⟩, .slice none 0 0, .slice none 0 0], faultV s' k]) (by simp [results, Tryz.results51, go_sem, d0, d1, d2, d3]) rfl ?_
   exact RetLd.bad HE.out HK.out hbe
 | some y =>
  have hy := (getO_some HR.out).1 hg
  have HZy := Lib.hid (HZ.out y hy.1)
  have hgo : gotO L s.data.toList = y.r := by unfold gotO; rw [hg]; rfl
  rw [hg, hgo] at CG
  simp only [Option.isSome_some] at CG
  have CS := Lib.hid (fun W => Sum_any y.r (Nat.le_trans HZy.out (by decide)) W)
  rw [show y.r.data.toList = y.u from rfl] at CS
  have HG := Lib.hid hg
  clear hg hgo hy
  obtain ⟨x, hx⟩ : ∃ x : ByteArray, x = ⟨(shaSum y.u).toArray⟩ := ⟨_, rfl⟩
  rw [← hx] at CS
  by_cases hs : x = s
  ·have HRE := Lib.hid (loadE_sum (kd := kd) HG.out (txt_ne.1 (hx.symm.trans hs)))
   have q1 := beq_true hs
   clear hs hx
   go_enter Tryz.func51, Tryz.ntmps51
   go_wp2_with fail
   with_reducible refine CG.out.mono ?_
   rintro e w1 ⟨rfl, hb1⟩
   have HB1 := Lib.hid (below_step HB0.out hb1)
   have HX1 := Lib.hid (HX0.out.step hb1)
   have HT1 := Lib.hid (HT0.out.stays hb1); have HO1 := Lib.hid (HO0.out.stays hb1)
   clear hb1
   go_wp2_with fail
   with_reducible refine (CS.out _).mono ?_
   rintro e w2 ⟨rfl, hb2⟩
   have HB := Lib.hid (below_step HB1.out hb2)
   have HX := Lib.hid (HX1.out.step hb2)
   have HT := Lib.hid (HT1.out.stays hb2); have HO := Lib.hid (HO1.out.stays hb2)
   clear hb2
   have CR := Lib.hid (read_any v L s w2 HO.out HR.out hl HZ.out HT.out)
   clear hl
   go_wp2_with fail
   with_reducible refine CR.out.mono ?_
   rintro e w3 (⟨n, pv, ev, hok, rfl, hpv, hev, hb3⟩ | ⟨k, s', hbad, hk, rfl, hb3⟩)
   ·have HB3 := Lib.hid (below_step HB.out hb3)
    have HX3 := Lib.hid (HX.out.step hb3)
    have HLS := Lib.hid (show w.heap.size < w2.heap.size from HX.out.lt)
    obtain ⟨_, a1, cap1, hv1, _, _⟩ := hpv.is
    obtain ⟨_, a2, cap2, hv2, _, _⟩ := hev.is
    have HP := Lib.hid hpv; have HV := Lib.hid hev
    clear hpv hev hb3
    obtain ⟨z1, hz1⟩ : ∃ z, z = n.ps.length := ⟨_, rfl⟩
    obtain ⟨z2, hz2⟩ : ∃ z, z = n.es.length := ⟨_, rfl⟩
    rw [← hz1] at hv1; rw [← hz2] at hv2
    clear hz1 hz2
    subst hv1 hv2
    have p0 := HX3.out.cell 0; have p1 := HX3.out.cell 1; have p2 := HX3.out.cell 2; have p3 := HX3.out.cell 3
    have f0 := HX3.out.free 0; have f1 := HX3.out.free 1; have f2 := HX3.out.free 2; have f3 := HX3.out.free 3
    simp only [List.getElem?_toArray, List.getElem?_cons_zero, List.getElem?_cons_succ] at p0 p1 p2 p3
    have hlx := HX3.out.lt
    by_cases hkd : n.kd = kd
    ·have hkb : (n.kd == kd) = true := beq_iff_eq.2 hkd
     have HE := Lib.hid (HRE.out.trans (loadR_ok hok hkd))
     clear hok
     subst hkd
     go_wp2
     have hR4 := (row4_row HX3.out (.int .i64 n.kd) (.string n.d) (.slice a1 z1 cap1) (.slice a2 z2 cap2)).alloc (.cells #[.int .i64 n.kd, .string n.d, .slice a1 z1 cap1, .slice a2 z2 cap2] 71)
     have d0 := hR4.cell 0; have d1 := hR4.cell 1; have d2 := hR4.cell 2; have d3 := hR4.cell 3
     simp only [List.getElem?_toArray, List.getElem?_cons_zero, List.getElem?_cons_succ] at d0 d1 d2 d3
     have hbe := (((((HB3.out.setCell (p := ⟨w.heap.size, 0, none⟩) (Nat.le_refl _) (.int .i64 n.kd)).setCell (p := ⟨w.heap.size, 1, none⟩) (Nat.le_refl _) (.string n.d)).setCell (p := ⟨w.heap.size, 2, none⟩) (Nat.le_refl _) (.slice a1 z1 cap1)).setCell (p := ⟨w.heap.size, 3, none⟩) (Nat.le_refl _) (.slice a2 z2 cap2))).alloc (by have := HB3.out.size; simpa [World.setCell] using this) (.cells #[.int .i64 n.kd, .string n.d, .slice a1 z1 cap1, .slice a2 z2 cap2] 71)
     refine bodyPost_ret (v := .tuple #[.agg #[.int .i64 n.kd, .string n.d, .slice a1 z1 cap1, .slice a2 z2 cap2], .nilIface]) (by simp [results, Tryz.results51, go_sem, d0, d1, d2, d3]) rfl ?_
     exact .inl ⟨n, _, _, HE.out, rfl, World.ownsRow.alloc (((((HP.out.setBelow (a := ⟨w.heap.size, 0, none⟩) HLS.out _).setBelow (a := ⟨w.heap.size, 1, none⟩) HLS.out _).setBelow (a := ⟨w.heap.size, 2, none⟩) HLS.out _).setBelow (a := ⟨w.heap.size, 3, none⟩) HLS.out _).low (Nat.le_of_lt HLS.out)) _, World.ownsRow.alloc (((((HV.out.setBelow (a := ⟨w.heap.size, 0, none⟩) HLS.out _).setBelow (a := ⟨w.heap.size, 1, none⟩) HLS.out _).setBelow (a := ⟨w.heap.size, 2, none⟩) HLS.out _).setBelow (a := ⟨w.heap.size, 3, none⟩) HLS.out _).low (Nat.le_of_lt HLS.out)) _, hbe⟩
    ·have hkb : (n.kd == kd) = false := beq_eq_false_iff_ne.2 hkd
     have hkb2 : (n.kd != kd) = true := bne_iff_ne.2 hkd
     have HE := Lib.hid (HRE.out.trans (loadR_kind hok hkd))
     clear hok hkd
     go_wp2
     have hR4 := (row4_row HX3.out (.int .i64 0) (.string ⟨#[]⟩) (.slice none 0 0) (.slice none 0 0)).alloc (.cells #[.int .i64 n.kd, .string n.d, .slice a1 z1 cap1, .slice a2 z2 cap2] 71)
     have d0 := hR4.cell 0; have d1 := hR4.cell 1; have d2 := hR4.cell 2; have d3 := hR4.cell 3
     simp only [List.getElem?_toArray, List.getElem?_cons_zero, List.getElem?_cons_succ] at d0 d1 d2 d3
     have hbe := (((((HB3.out.setCell (p := ⟨w.heap.size, 0, none⟩) (Nat.le_refl _) (.int .i64 0)).setCell (p := ⟨w.heap.size, 1, none⟩) (Nat.le_refl _) (.string ⟨#[]⟩)).setCell (p := ⟨w.heap.size, 2, none⟩) (Nat.le_refl _) (.slice none 0 0)).setCell (p := ⟨w.heap.size, 3, none⟩) (Nat.le_refl _) (.slice none 0 0))).alloc (by have := HB3.out.size; simpa [World.setCell] using this) (.cells #[.int .i64 n.kd, .string n.d, .slice a1 z1 cap1, .slice a2 z2 cap2] 71)
     refine bodyPost_ret (v := .tuple #[.agg #[.int .i64 0, .string ⟨#[]⟩, .slice none 0 0, .slice none 0 0], faultV s 10]) (by simp [results, Tryz.results51, go_sem, d0, d1, d2, d3]) rfl ?_
     exact RetLd.bad HE.out (by decide) hbe
   ·have HB3 := Lib.hid (below_step HB.out hb3)
    have HX3 := Lib.hid (HX.out.step hb3)
    have HE := Lib.hid (HRE.out.trans (loadR_bad hbad))
    have HK := Lib.hid hk
    clear hbad hk hb3
    have p0 := HX3.out.cell 0; have p1 := HX3.out.cell 1; have p2 := HX3.out.cell 2; have p3 := HX3.out.cell 3
    have f0 := HX3.out.free 0; have f1 := HX3.out.free 1; have f2 := HX3.out.free 2; have f3 := HX3.out.free 3
    simp only [List.getElem?_toArray, List.getElem?_cons_zero, List.getElem?_cons_succ] at p0 p1 p2 p3
    have hlx := HX3.out.lt
    go_wp2
    have hR4 := (row4_row HX3.out (.int .i64 0) (.string ⟨#[]⟩) (.slice none 0 0) (.slice none 0 0)).alloc (.cells #[.int .i64 0, .string ⟨#[]⟩, .slice none 0 0, .slice none 0 0] 71)
    have d0 := hR4.cell 0; have d1 := hR4.cell 1; have d2 := hR4.cell 2; have d3 := hR4.cell 3
    simp only [List.getElem?_toArray, List.getElem?_cons_zero, List.getElem?_cons_succ] at d0 d1 d2 d3
    have hbe := (((((HB3.out.setCell (p := ⟨w.heap.size, 0, none⟩) (Nat.le_refl _) (.int .i64 0)).setCell (p := ⟨w.heap.size, 1, none⟩) (Nat.le_refl _) (.string ⟨#[]⟩)).setCell (p := ⟨w.heap.size, 2, none⟩) (Nat.le_refl _) (.slice none 0 0)).setCell (p := ⟨w.heap.size, 3, none⟩) (Nat.le_refl _) (.slice none 0 0))).alloc (by have := HB3.out.size; simpa [World.setCell] using this) (.cells #[.int .i64 0, .string ⟨#[]⟩, .slice none 0 0, .slice none 0 0] 71)
    refine bodyPost_ret (v := .tuple #[.agg #[.int .i64 0, .string ⟨#[]⟩, .slice none 0 0, .slice none 0 0], faultV s' k]) (by simp [results, Tryz.results51, go_sem, d0, d1, d2, d3]) rfl ?_
    exact RetLd.bad HE.out HK.out hbe
  ·have HE := Lib.hid (loadE_key (kd := kd) HG.out (fun e => hs (hx.trans (txt_ne.2 e))))
   obtain ⟨q1, q2⟩ := str_ne_Fgd hs
   clear hs hx hl
   go_enter Tryz.func51, Tryz.ntmps51
   go_wp2_with fail
   with_reducible refine CG.out.mono ?_
   rintro e w1 ⟨rfl, hb1⟩
   have HB1 := Lib.hid (below_step HB0.out hb1)
   have HX1 := Lib.hid (HX0.out.step hb1)
   clear hb1
   go_wp2_with fail
   with_reducible refine (CS.out _).mono ?_
   rintro e w2 ⟨rfl, hb2⟩
   have HB2 := Lib.hid (below_step HB1.out hb2)
   have HX2 := Lib.hid (HX1.out.step hb2)
   clear hb2
   have p0 := HX2.out.cell 0; have p1 := HX2.out.cell 1; have p2 := HX2.out.cell 2; have p3 := HX2.out.cell 3
   have f0 := HX2.out.free 0; have f1 := HX2.out.free 1; have f2 := HX2.out.free 2; have f3 := HX2.out.free 3
   simp only [List.getElem?_toArray, List.getElem?_cons_zero, List.getElem?_cons_succ] at p0 p1 p2 p3
   have hlx := HX2.out.lt
   go_wp2
   have hR4 := (row4_row HX2.out (.int .i64 0) (.string ⟨#[]⟩) (.slice none 0 0) (.slice none 0 0))
   have d0 := hR4.cell 0; have d1 := hR4.cell 1; have d2 := hR4.cell 2; have d3 := hR4.cell 3
   simp only [List.getElem?_toArray, List.getElem?_cons_zero, List.getElem?_cons_succ] at d0 d1 d2 d3
   have hbe := ((((HB2.out.setCell (p := ⟨w.heap.size, 0, none⟩) (Nat.le_refl _) (.int .i64 0)).setCell (p := ⟨w.heap.size, 1, none⟩) (Nat.le_refl _) (.string ⟨#[]⟩)).setCell (p := ⟨w.heap.size, 2, none⟩) (Nat.le_refl _) (.slice none 0 0)).setCell (p := ⟨w.heap.size, 3, none⟩) (Nat.le_refl _) (.slice none 0 0))
   refine bodyPost_ret (v := .tuple #[.agg #[.int .i64 0, .string ⟨#[]⟩, .slice none 0 0, .slice none 0 0], faultV s 11]) (by simp [results, Tryz.results51, go_sem, d0, d1, d2, d3]) rfl ?_
   exact RetLd.bad HE.out (by decide) hbe
structure Wf (N Bw : Nat) (w w' : World) : Prop where
 os : w'.os = w.os
 tape : w'.tape = w.tape
 output : w'.output = w.output
 size : w.heap.size ≤ w'.heap.size
 block : ∀ b, b < N → b ≠ Bw → w'.heap[b]? = w.heap[b]?
theorem Wf.refl (N Bw : Nat) (w : World) : Wf N Bw w w := ⟨rfl, rfl, rfl, Nat.le_refl _, fun _ _ _ => rfl⟩
theorem Wf.of_below {N M Bw : Nat} {w w' : World} (h : Below M w w') (hN : N ≤ M) (hs : w.heap.size ≤ w'.heap.size) : Wf N Bw w w' := ⟨h.os, h.tape, h.output, hs, fun b hb _ => h.block b (Nat.lt_of_lt_of_le hb hN)⟩
theorem Wf.trans {N Bw : Nat} {a b c : World} (h : Wf N Bw a b) (k : Wf N Bw b c) : Wf N Bw a c :=
 ⟨k.os.trans h.os, k.tape.trans h.tape, k.output.trans h.output, Nat.le_trans h.size k.size, fun i hi hn => (k.block i hi hn).trans (h.block i hi hn)⟩
theorem Wf.set {N Bw i : Nat} {w : World} (u : Value) : Wf N Bw w (w.setCell ⟨Bw, i, none⟩ u) := ⟨rfl, rfl, rfl, by simp [World.setCell], fun b hb hn => heap_setCell_other _ _ _ _ hn⟩
theorem Wf.low {N M Bw : Nat} {w w' : World} (h : Wf M Bw w w') (hN : N ≤ M) : Wf N Bw w w' := ⟨h.os, h.tape, h.output, h.size, fun b hb hn => h.block b (Nat.lt_of_lt_of_le hb hN) hn⟩
theorem Wf.row {N Bw b : Nat} {w w' : World} {xs : Array Value} {T : TypeId} (h : Wf N Bw w w') (hr : Row w b xs T) (hb : b < N) (hn : b ≠ Bw) : Row w' b xs T := (h.block b hb hn).trans hr
theorem Wf.below {N B Bw : Nat} {a w w' : World} (h : Wf N Bw w w') (hb : Below B a w) (hN : B ≤ N) (hB : B ≤ Bw) : Below B a w' :=
 hb.trans ⟨h.os, h.tape, h.output, h.size, fun k hk => h.block k (Nat.lt_of_lt_of_le hk hN) (by omega)⟩
theorem Wf.owns {N Bw C : Nat} {w w' : World} {T : TypeId} {k n : Nat} {v : Value} {xs : List Value} (h : Wf N Bw w w') (ho : w.ownsRow C T k v n xs) (hN : ∀ g, v.ownBlock = some g → g < N) (hn : v.ownBlock ≠ some Bw) : w'.ownsRow C T k v n xs := by
 refine ⟨ho.1, ?_⟩
 rcases ho.2 with h2 | ⟨g, cap, cur, h3, h4, h5, h6⟩
 ·exact .inl h2
 ·exact .inr ⟨g, cap, cur, h3, h4, (h.block g (hN g (by rw [h3]; rfl)) (fun e => hn (by rw [h3, e]; rfl))).trans h5, h6⟩
theorem owns_apart {w : World} {C : Nat} {T U : TypeId} {k n : Nat} {v : Value} {xs : List Value} (ho : w.ownsRow C T k v n xs) {A : Nat} {ys : Array Value} (hA : Row w A ys U) (hT : U ≠ T) : v.ownBlock ≠ some A := fun e => by
 rcases ho.2 with ⟨rfl, _⟩ | ⟨g, cap, cur, rfl, _, hg, _⟩
 ·cases e
 ·cases e
  rw [show w.heap[g]? = _ from hA] at hg
  cases hg; exact hT rfl
structure Wlk (W0 : World) (Bw : Nat) (vO : Value) (O : List Ob) (w : World) (M : List It) (sz : Nat) (vI : Value) : Prop where
 row : Row w Bw #[vO, vI, .int .i64 sz] 57
 objs : IsObs W0 vO O
 items : OwnI W0.heap.size w vI M
 from_ : W0.heap.size ≤ Bw
 below : Below W0.heap.size W0 w
 err : ErrT W0
section
variable {W0 : World} {Bw : Nat} {vO : Value} {O : List Ob} {w w' : World} {M : List It} {sz : Nat} {vI : Value}
theorem Wlk.stays (h : Wlk W0 Bw vO O w M sz vI) (hb : Below w.heap.size w w') : Wlk W0 Bw vO O w' M sz vI :=
 ⟨h.row.step hb, h.objs, h.items.stays hb, h.from_, below_step h.below hb, h.err⟩
theorem Wlk.apart (h : Wlk W0 Bw vO O w M sz vI) : vI.ownBlock ≠ some Bw := owns_apart h.items h.row (by decide)
theorem Wlk.lt (h : Wlk W0 Bw vO O w M sz vI) : Bw < w.heap.size := h.row.lt
theorem Wlk.above {N : Nat} (h : Wlk W0 Bw vO O w M sz vI) (hb : Below N w w') (hB : Bw < N) (hI : ∀ g, vI.ownBlock = some g → g < N) : Wlk W0 Bw vO O w' M sz vI := by
 have hs := h.row
 refine ⟨(hb.block Bw hB).trans hs, h.objs, ?_, h.from_, h.below.trans (hb.mono (Nat.le_trans h.from_ (Nat.le_of_lt hB))), h.err⟩
 refine ⟨h.items.1, ?_⟩
 rcases h.items.2 with h2 | ⟨g, cap, cur, h3, h4, h5, h6⟩
 ·exact .inl h2
 ·exact .inr ⟨g, cap, cur, h3, h4, (hb.block g (hI g (by rw [h3]; rfl))).trans h5, h6⟩
theorem Wlk.size (h : Wlk W0 Bw vO O w M sz vI) (n : Nat) : Wlk W0 Bw vO O (w.setCell ⟨Bw, 2, none⟩ (.int .i64 n)) M n vI :=
 ⟨h.row.set 2 (.int .i64 n), h.objs, (Wf.set (N := w.heap.size) (.int .i64 n)).owns h.items (fun g hg => (World.ownsRow.lt h.items g hg).2) h.apart, h.from_, h.below.setCell (p := ⟨Bw, 2, none⟩) h.from_ _, h.err⟩
theorem Wlk.cells (h : Wlk W0 Bw vO O w M sz vI) : w.cell? ⟨Bw, 0, none⟩ = some vO ∧ w.cell? ⟨Bw, 1, none⟩ = some vI ∧ w.cell? ⟨Bw, 2, none⟩ = some (.int .i64 sz) := ⟨h.row.cell 0, h.row.cell 1, h.row.cell 2⟩
theorem Wlk.load (h : Wlk W0 Bw vO O w M sz vI) (hr : RiseO O) (hl : O.length ≤ 1000000) (hz : ∀ y ∈ O, y.r.size ≤ 1000000) (s : ByteArray) (kd : Int) :
  Calls Tryz.prog 51 #[vO, .string s, .int .i64 kd] w (RetLd (loadE O s.data.toList kd) w) := load_any vO O s kd w (h.objs.stays h.below) hr hl hz (h.err.stays h.below)
end
theorem names_any (s : ByteArray) (hs : s.size ≤ 1000000) (w : World) : Calls Tryz.prog 77 #[.string s] w fun e w' => e = .returned (.int .i64 ((s.data.toList.count 47 : Nat) + 1 : Int)) ∧ w = w' := by
 have hc : Lib.countB s ⟨#[47]⟩ = s.data.toList.count 47 := Lib.count_one 47 _
 have hl : s.data.toList.count 47 ≤ s.size := by rw [Lib.size_eq]; exact List.count_le_length
 have hC : Hid (Calls Tryz.prog 98 #[.string s, .string ⟨#[47]⟩] w fun e w' => e = .returned (.int .i64 (s.data.toList.count 47 : Nat)) ∧ w' = w) := Lib.hid (by
  have C := Any.strings_Count_one Tryz.lays138 s 47 w
  change Calls Tryz.prog 98 _ _ _ at C
  refine C.mono ?_
  rintro e w' ⟨rfl, rfl⟩
  exact ⟨rfl, rfl⟩)
 obtain ⟨n, hn⟩ : ∃ n, n = s.data.toList.count 47 := ⟨_, rfl⟩
 rw [← hn] at hC hl ⊢
 clear hn hc
 go_enter Tryz.func77, Tryz.ntmps77
 go_wp2_with fail
 with_reducible refine hC.out.mono ?_
 rintro e w1 ⟨rfl, rfl⟩
 go_wp2
 go_ret
 exact ⟨rfl, rfl⟩
end Go.Proofs.YtjpjpmkadoaipaaGreatDoor
set_option linter.unusedVariables false
namespace Go.Proofs.YtjpjpmkadoaipaaGreatDoor
theorem load_fit {O : List Ob} {t : List UInt8} {kd : Int} {n : Nd} (h : loadE O t kd = .ok n) : fitN n = true ∧ n.kd = kd := by
 unfold loadE at h
 cases hg : getO O t with
 | none => rw [hg] at h; cases h
 | some y =>
  rw [hg] at h
  change (if shaSum y.u = t then _ else _) = _ at h
  by_cases hs : shaSum y.u = t
  ·rw [if_pos hs] at h
   cases hr : readN y.u with
   | none => rw [hr] at h; cases h
   | some m =>
    rw [hr] at h
    change (if m.kd = kd then _ else _) = _ at h
    by_cases hk : m.kd = kd
    ·rw [if_pos hk] at h
     cases h
     exact ⟨(readN_some hr).1, hk⟩
    ·rw [if_neg hk] at h; cases h
  ·rw [if_neg hs] at h; cases h
theorem sumPt_cons (p : Pt) (P : List Pt) : sumPt (p :: P) = p.n + sumPt P := rfl
theorem parts_len {O : List Ob} {room : Int} : ∀ (P : List Pt) (s r : List UInt8), partsE O P room s = .ok r → (s.length : Int) ≤ room → (r.length : Int) ≤ room ∧ (r.length : Int) = s.length + sumPt P
 | [], s, r, h, hr => by
  unfold partsE at h
  cases h
  exact ⟨hr, by show _ = _ + (0 : Int); omega⟩
 | p :: P, s, r, h, hr => by
  unfold partsE at h
  cases hl : loadE O p.k.data.toList 1 with
  | error e => rw [hl] at h; cases h
  | ok n =>
   rw [hl] at h
   change (if _ then _ else _) = _ at h
   by_cases hc : (n.d.size : Int) = p.n ∧ (n.d.size : Int) ≤ room - s.length
   ·rw [if_pos hc] at h
    have hz := Lib.size_eq n.d
    obtain ⟨h1, h2⟩ := parts_len P _ r h (by rw [List.length_append]; omega)
    refine ⟨h1, ?_⟩
    rw [h2, sumPt_cons, List.length_append]; omega
   ·rw [if_neg hc] at h; cases h
theorem file_len {O : List Ob} {t s : List UInt8} {room : Int} (h : fileE O t room = .ok s) (hr : 0 ≤ room) : (s.length : Int) ≤ room ∧ s.length ≤ 32768 := by
 unfold fileE at h
 cases hl : loadE O t 2 with
 | error e => rw [hl] at h; cases h
 | ok n =>
  rw [hl] at h
  obtain ⟨h1, h2⟩ := load_fit hl
  obtain ⟨g1, g2⟩ := parts_len n.ps [] s h hr
  have := (fitFile_iff.1 (fit2 h2 h1).2.2.2).2
  refine ⟨g1, ?_⟩
  simp at g2; omega
def preL (D : List (List UInt8)) : List UInt8 := if D = [] then [] else joinS D ++ [47]
theorem free_name {n : List UInt8} (h : nameB n = true) : (47 : UInt8) ∉ n := (nameB_iff.1 h).2.2.2.2.2
theorem pre_pts {D : List (List UInt8)} {n : List UInt8} (hD : ∀ p ∈ D, nameB p = true) (hn : nameB n = true) : pts (preL D ++ n) = D ++ [n] ∧ preL D ++ n ++ [47] = preL (D ++ [n]) := by
 have hj : joinS (D ++ [n]) = preL D ++ n := by
  unfold preL
  by_cases h : D = []
  ·rw [if_pos h]; subst h; rfl
  ·rw [if_neg h, joinS_snoc h, List.append_assoc]; rfl
 refine ⟨?_, ?_⟩
 ·rw [← hj]
  exact pts_joinS (by simp) fun p hp => by
   rcases List.mem_append.1 hp with h | h
   ·exact free_name (hD p h)
   ·rw [List.mem_singleton.1 h]; exact free_name hn
 ·rw [← hj]
  have h2 : preL (D ++ [n]) = joinS (D ++ [n]) ++ [47] := if_neg (by simp)
  exact h2.symm
end Go.Proofs.YtjpjpmkadoaipaaGreatDoor
set_option linter.unusedVariables false
namespace Go.Proofs.YtjpjpmkadoaipaaGreatDoor
open Go Go.RowKit
attribute [local go_sem] Oper.semAt_some
def LdV (r : Except Int Nd) (v : Value) : Prop := (∃ n pv ev, r = .ok n ∧ v = .tuple #[ndV n pv ev, .nilIface] ∧ (∃ a k c, pv = .slice a k c) ∧ ∃ a k c, ev = .slice a k c) ∨ ∃ k s, r = .error k ∧ k ∈ wrongs ∧ v = .tuple #[zeroNV, faultV s k]
def NdV (r : Except Int Nd) (v : Value) : Prop := (∃ n pv ev, r = .ok n ∧ v = ndV n pv ev ∧ (∃ a k c, pv = .slice a k c) ∧ ∃ a k c, ev = .slice a k c) ∨ ∃ k, r = .error k ∧ v = zeroNV
def EvV (r : Except Int Nd) (v : Value) : Prop := (∃ n, r = .ok n ∧ v = .nilIface) ∨ ∃ k s, r = .error k ∧ k ∈ wrongs ∧ v = faultV s k
theorem NdV.shape {r : Except Int Nd} {v : Value} (h : NdV r v) : ∃ kd d pa pn pc ea en ec, v = .agg #[.int .i64 kd, .string d, .slice pa pn pc, .slice ea en ec] := by
 rcases h with ⟨n, _, _, _, rfl, ⟨a, k, c, rfl⟩, a', k', c', rfl⟩ | ⟨k, _, rfl⟩
 ·exact ⟨_, _, _, _, _, _, _, _, rfl⟩
 ·exact ⟨_, _, _, _, _, _, _, _, rfl⟩
theorem NdV.of_ok {r : Except Int Nd} {m : Nd} {kd d pv ev : Value} (h : NdV r (.agg #[kd, d, pv, ev])) (hm : r = .ok m) : kd = .int .i64 m.kd ∧ d = .string m.d := by
 rcases h with ⟨n, _, _, hr, he, _⟩ | ⟨k, hr, _⟩
 ·rw [hm] at hr; cases hr; cases he; exact ⟨rfl, rfl⟩
 ·rw [hm] at hr; cases hr
theorem calls_ld {f : FuncId} {args : Array Value} {r : Except Int Nd} {w : World} (h : Calls Tryz.prog f args w (RetLd r w)) : Calls Tryz.prog f args w fun e w' => ∃ u, e = .returned u ∧ (LdV r u ∧ Below w.heap.size w w') :=
 h.mono fun e w' hh => by
  rcases hh with ⟨n, pv, ev, h1, h2, h3, h4, h5⟩ | ⟨k, s, h1, h2, h3, h4⟩
  ·obtain ⟨_, a, c, ha, _⟩ := h3.is
   obtain ⟨_, a', c', ha', _⟩ := h4.is
   exact ⟨_, h2, .inl ⟨n, pv, ev, h1, rfl, ⟨_, _, _, ha⟩, _, _, _, ha'⟩, h5⟩
  ·exact ⟨_, h3, .inr ⟨k, s, h1, h2, rfl⟩, h4⟩
def NewN (N : Nat) (w : World) (v : Value) (xs : Array Value) : Prop := ∃ b, v = .pointer (some ⟨b, 0, none⟩) ∧ N ≤ b ∧ Row w b xs 71
theorem NewN.stays {N : Nat} {w w' : World} {v : Value} {xs : Array Value} (h : NewN N w v xs) (hb : Below w.heap.size w w') : NewN N w' v xs := by
 obtain ⟨b, h1, h2, h3⟩ := h
 exact ⟨b, h1, h2, h3.step hb⟩
def filR (wz : World) (i : Nat) (w w' : World) : Prop := ∃ b p q r s, wz.heap.size ≤ b ∧ w' = (((w.setCell ⟨b, 0, none⟩ p).setCell ⟨b, 1, none⟩ q).setCell ⟨b, 2, none⟩ r).setCell ⟨b, 3, none⟩ s
theorem builder_set {T e : TypeId} {B b A i : Nat} {bs : List Value} {w : World} {u : Value} (h : Lib.IsBuilderF T e B b bs w) (hA : A < B) : Lib.IsBuilderF T e B b bs (w.setCell ⟨A, i, none⟩ u) := by
 have key : ∀ p, Lib.BuilderAtF T e B b p bs w → Lib.BuilderAtF T e B b p bs (w.setCell ⟨A, i, none⟩ u) := by
  rintro p ⟨hB, v, hbk, hown, hne⟩
  refine ⟨hB, v, ?_, hown.kept (grownBy_set w A i u) ?_, hne⟩
  ·rw [heap_setCell_other _ _ _ _ (by show b ≠ A; omega)]; exact hbk
  ·cases hv : v.ownBlock with
   | none => exact .inl rfl
   | some g => exact .inr (fun e => by have := (hown.lt g hv).1; cases e; omega)
 exact h.imp (key _) (key _)
theorem fit_piece_size {n : Nd} (h : fitN n = true) (hk : n.kd = 1) : 1 ≤ n.d.size ∧ n.d.size ≤ 4096 := by
 rw [fit_piece hk] at h
 simp at h
 exact h.1.1
theorem below_regrown_drewN (w : World) (n : Nat) : Below w.heap.size w (w.drewN n) := ⟨rfl, rfl, rfl, Nat.le_refl _, fun _ _ => rfl⟩
theorem fileE_bad {O : List Ob} {t : List UInt8} {room k : Int} (h : loadE O t 2 = .error k) : fileE O t room = .error k := by unfold fileE; rw [h]
theorem fileE_ok {O : List Ob} {t : List UInt8} {room : Int} {n : Nd} (h : loadE O t 2 = .ok n) : fileE O t room = partsE O n.ps room [] := by unfold fileE; rw [h]
theorem parts_step {O : List Ob} {P : List Pt} {room : Int} {s : List UInt8} {j : Nat} (hj : j < P.length) : partsE O (P.drop j) room s = match loadE O P[j].k.data.toList 1 with
  | .error e => .error e
  | .ok n => if (n.d.size : Int) = P[j].n ∧ (n.d.size : Int) ≤ room - s.length then partsE O (P.drop (j + 1)) room (s ++ n.d.data.toList) else .error 4 := by
 rw [List.drop_eq_getElem_cons hj]; rfl
def RetFile (W0 : World) (Bw : Nat) (vO : Value) (O : List Ob) (M : List It) (sz : Nat) (vI : Value) (r : Except Int (List UInt8)) (w : World) (e : Ending) (w' : World) : Prop :=
 (∃ s, r = .ok s ∧ e = .returned (.tuple #[.string ⟨s.toArray⟩, .nilIface]) ∧ Wlk W0 Bw vO O w' M (sz + s.length) vI ∧ Wf w.heap.size Bw w w')
 ∨ ∃ k x, r = .error k ∧ k ∈ wrongs ∧ e = .returned (.tuple #[.string ⟨#[]⟩, faultV x k]) ∧ (∃ sz', Wlk W0 Bw vO O w' M sz' vI) ∧ Wf w.heap.size Bw w w'
structure FileL (W0 : World) (Bw : Nat) (vO : Value) (O : List Ob) (M : List It) (sz : Nat) (vI : Value) (w1 : World) (bb : Nat) (n : Nd) (room : Int) (j : Nat) (acc : List UInt8) (wr : World) : Prop where
 parts : partsE O (n.ps.drop j) room acc = partsE O n.ps room []
 few : sz + acc.length ≤ 65536
 bld : Lib.IsBuilderF 168 5 bb bb (Lib.byteCells acc) wr
 none : acc = [] → wr.heap[bb]? = some (.cells #[.pointer none, .slice none 0 0] 168 (0, 0))
 wlk : Wlk W0 Bw vO O wr M (sz + acc.length) vI
 wf : Wf w1.heap.size Bw w1 wr
 size : bb < wr.heap.size
def fflU (W0 wz : World) (Bw bx : Nat) (vO vI : Value) (O : List Ob) (M : List It) (sz : Nat) (x : Pt) (r : Except Int Nd) : Nat → Value → Value → World → Prop
 | 0 => fun v _ _ => v = .pointer (some ⟨Bw, 0, none⟩)
 | 1 => fun v _ _ => v = .pointer (some ⟨Bw, 0, none⟩)
 | 2 => fun v _ _ => v = .pointer (some ⟨Bw, 0, none⟩)
 | 3 => fun v _ _ => v = vO
 | 4 => fun v _ _ => v = .pointer (some ⟨bx, 0, none⟩)
 | 5 => fun v _ _ => v = .string x.k
 | 6 => fun v _ _ => LdV r v
 | 7 => fun v _ _ => LdV r v
 | 8 => fun v _ _ => NdV r v
 | 9 => fun v _ _ => EvV r v
 | 10 => fun v _ w => NewN wz.heap.size w v #[.int .i64 0, .string ⟨#[]⟩, .slice none 0 0, .slice none 0 0]
 | 11 => fun _ e w => ∃ kd d pv ev, NewN wz.heap.size w e #[kd, d, pv, ev] ∧ NdV r (.agg #[kd, d, pv, ev])
 | 12 => fun v _ _ => EvV r v
 | 13 => fun _ _ w => Wlk W0 Bw vO O w M sz vI
 | 14 => fun _ _ w => Row w bx #[.string x.k, .int .i64 x.n] 109
 | _ => fun _ _ _ => True
def fflN : List (List Nat) := [[], [0], [1], [2, 13], [], [4, 14], [3, 5, 13], [6], [7], [7], [], [10, 8], [9]]
def fflE : Nat → Option Tmp
 | 11 => some 11
 | _ => none
def fflB : List (Nat × Nat) := [(11, 10), (11, 13), (11, 14)]
theorem ffl_T (W0 wz : World) (Bw bx : Nat) (vO vI : Value) (O : List Ob) (M : List It) (sz : Nat) (x : Pt) (r : Except Int Nd) (ix kx : Nat) (v e : Value) (w w' : World) (hk : kx < 15) (hne : kx ≠ ix) (hbd : (ix, kx) ∉ fflB) (hU : (fflU W0 wz Bw bx vO vI O M sz x r) kx v e w) (hT : (appTs [11] (filR wz)) ix w w') : (fflU W0 wz Bw bx vO vI O M sz x r) kx v e w' := by
 by_cases hi11 : ix = 11
 ·subst hi11
  have hR := appTs_in (by decide) hT
  rcases (show kx = 0 ∨ kx = 1 ∨ kx = 2 ∨ kx = 3 ∨ kx = 4 ∨ kx = 5 ∨ kx = 6 ∨ kx = 7 ∨ kx = 8 ∨ kx = 9 ∨ kx = 10 ∨ kx = 11 ∨ kx = 12 ∨ kx = 13 ∨ kx = 14 by omega) with rfl | rfl | rfl | rfl | rfl | rfl | rfl | rfl | rfl | rfl | rfl | rfl | rfl | rfl | rfl
  iterate 10 exact hU
  ·exact absurd (by decide) hbd
  ·exact absurd rfl hne
  ·exact hU
  ·exact absurd (by decide) hbd
  ·exact absurd (by decide) hbd
 have hi : ix ∉ [11] := by simp [hi11]
 have hb : Below w.heap.size w w' := appTs_out hi hT
 rcases (show kx = 0 ∨ kx = 1 ∨ kx = 2 ∨ kx = 3 ∨ kx = 4 ∨ kx = 5 ∨ kx = 6 ∨ kx = 7 ∨ kx = 8 ∨ kx = 9 ∨ kx = 10 ∨ kx = 11 ∨ kx = 12 ∨ kx = 13 ∨ kx = 14 by omega) with rfl | rfl | rfl | rfl | rfl | rfl | rfl | rfl | rfl | rfl | rfl | rfl | rfl | rfl | rfl
 iterate 10 exact hU
 ·exact NewN.stays hU hb
 ·exact by obtain ⟨kd, d, pv, ev, h1, h2⟩ := hU; exact ⟨kd, d, pv, ev, h1.stays hb, h2⟩
 ·exact hU
 ·exact Wlk.stays hU hb
 ·exact Row.step hU hb
set_option maxRecDepth 100000 in
set_option maxHeartbeats 16000000 in
theorem file_any (W0 : World) (Bw : Nat) (vO : Value) (O : List Ob) (hr : RiseO O) (hl : O.length ≤ 1000000) (hz : ∀ y ∈ O, y.r.size ≤ 1000000) (key : ByteArray) (w : World) (M : List It) (sz : Nat) (vI : Value) (h : Wlk W0 Bw vO O w M sz vI) (hsz : sz ≤ 65536) :
  Calls Tryz.prog 78 #[.pointer (some ⟨Bw, 0, none⟩), .string key] w (RetFile W0 Bw vO O M sz vI (fileE O key.data.toList (65536 - (sz : Int))) w) := by
 have CL := Lib.hid (h.load hr hl hz key 2)
 obtain ⟨c0, c1, c2⟩ := h.cells
 have HW := Lib.hid h
 have HRR := Lib.hid hr; have HZZ := Lib.hid hz
 clear h hr hz
 go_enter Tryz.func78, Tryz.ntmps78
 go_wp2_with fail
 with_reducible refine CL.out.mono ?_
 rintro e w1 (⟨n, pv, ev, hok, rfl, hpv, hev, hb1⟩ | ⟨k, s', hbad, hk, rfl, hb1⟩)
 ·have HW1 := Lib.hid (HW.out.stays hb1)
  have HB1 := Lib.hid hb1
  obtain ⟨hml, a1, cap1, hv1, _, _⟩ := hpv.is
  have hmm0 : n.ps.length ≤ 9223372036854775807 := by unfold maxLen at hml; omega
  obtain ⟨_, a2, cap2, hv2, _, _⟩ := hev.is
  have HP := Lib.hid hpv
  have HE := Lib.hid (fileE_ok (room := 65536 - (sz : Int)) hok)
  clear hpv hev hb1 hok
  obtain ⟨z1, hz1⟩ : ∃ z, z = n.ps.length := ⟨_, rfl⟩
  obtain ⟨z2, hz2⟩ : ∃ z, z = n.es.length := ⟨_, rfl⟩
  rw [← hz1] at hv1; rw [← hz2] at hv2
  have HZ1 := Lib.hid hz1
  have hmm : z1 ≤ 9223372036854775807 := by omega
  clear hmm0 hml
  clear hz1 hz2
  subst hv1 hv2
  have hb2 : Below w1.heap.size w1 ((w1.alloc (.cells #[.int .i64 n.kd, .string n.d, .slice a1 z1 cap1, .slice a2 z2 cap2] 71)).alloc (.cells #[.pointer none, .slice none 0 0] 168)) := ((Below.refl _ _).alloc (Nat.le_refl _) _).alloc (by simp) _
  have HPL := Lib.hid (fun g hg => (World.ownsRow.lt (show w1.ownsRow w.heap.size 109 2 (.slice a1 z1 cap1) n.ps.length (ptCells n.ps) from HP.out) g hg).2)
  have HL0 : Hid (FileL W0 Bw vO O M sz vI w1 (w1.heap.size + 1) n (65536 - (sz : Int)) 0 [] ((w1.alloc (.cells #[.int .i64 n.kd, .string n.d, .slice a1 z1 cap1, .slice a2 z2 cap2] 71)).alloc (.cells #[.pointer none, .slice none 0 0] 168))) := Lib.hid (by
   have hh : ((w1.alloc (.cells #[.int .i64 n.kd, .string n.d, .slice a1 z1 cap1, .slice a2 z2 cap2] 71)).alloc (.cells #[.pointer none, .slice none 0 0] 168)).heap[w1.heap.size + 1]? = some (.cells #[.pointer none, .slice none 0 0] 168 (0, 0)) := by
    have := heap_alloc_new (w1.alloc (.cells #[.int .i64 n.kd, .string n.d, .slice a1 z1 cap1, .slice a2 z2 cap2] 71)) (.cells #[.pointer none, .slice none 0 0] 168)
    rwa [World.size_alloc] at this
   refine ⟨rfl, by simpa using hsz, Lib.IsBuilderF.of (by
    have := Lib.fresh_isBuilder 168 5 (w1.alloc (.cells #[.int .i64 n.kd, .string n.d, .slice a1 z1 cap1, .slice a2 z2 cap2] 71))
    rwa [World.size_alloc] at this), fun _ => hh, by simpa using HW1.out.stays hb2, Wf.of_below hb2 (Nat.le_refl _) hb2.size, by simp⟩)
  have hBw1 := HW1.out.lt
  have HBW := Lib.hid hBw1
  have HIL := Lib.hid (fun g hg => (World.ownsRow.lt HW1.out.items g hg).2)
  have HPA := Lib.hid (owns_apart (show w1.ownsRow w.heap.size 109 2 (.slice a1 z1 cap1) n.ps.length (ptCells n.ps) from HP.out) HW1.out.row (by decide))
  clear hb2 c0 c1 c2 hBw1
  go_wp2_with fail
  go_loopw [28] (fun i wr => ∃ (j : Nat) (acc : List UInt8), j ≤ z1 ∧ i = .int .i64 j ∧ FileL W0 Bw vO O M sz vI w1 (w1.heap.size + 1) n (65536 - (sz : Int)) j acc wr) (fun i _ => z1 - (intOf i).toNat)
  case atStart => exact ⟨0, [], Nat.zero_le _, rfl, HL0.out⟩
  case round =>
   obtain ⟨j, acc, hj, rfl, hL⟩ := hrel
   have HL := Lib.hid hL
   clear hL
   by_cases hlt : j < z1
   ·have hjp : j < n.ps.length := by have := HZ1.out; omega
    have hown : wr.ownsRow w.heap.size 109 2 (.slice a1 z1 cap1) n.ps.length (ptCells n.ps) := HL.out.wf.owns HP.out HPL.out HPA.out
    obtain ⟨_, _, _, hev, _, hc⟩ := (show OwnP w.heap.size wr _ _ from hown).is
    cases hev
    obtain ⟨b, off, rfl, hbl, g⟩ := hc (by omega)
    obtain ⟨u0, u1⟩ := g j hjp
    have HST := Lib.hid (parts_step (O := O) (room := 65536 - (sz : Int)) (s := acc) hjp)
    obtain ⟨x, hx⟩ : ∃ x, x = n.ps[j] := ⟨_, rfl⟩
    rw [← hx] at u0 u1 HST
    clear hx g hc hown
    have hbk : decide ((j : Int) < (n.ps.length : Int)) = true := by simpa using (show (j : Int) < n.ps.length by omega)
    obtain ⟨Wz, hWz⟩ : ∃ Wz, Wz = wr.alloc (.cells #[.string x.k, .int .i64 x.n] 109) := ⟨_, rfl⟩
    have hbz : Below wr.heap.size wr Wz := by rw [hWz]; exact (Below.refl _ _).alloc (Nat.le_refl _) _
    have HBX : Hid (Row Wz wr.heap.size #[.string x.k, .int .i64 x.n] 109) := Lib.hid (by rw [hWz]; exact Row.made _ _ _)
    have HWZ := Lib.hid (HL.out.wlk.stays hbz)
    have HIZ := Lib.hid (builder_step HL.out.bld hbz)
    have HFZ := Lib.hid (HL.out.wf.trans (Wf.of_below (N := w1.heap.size) (Bw := Bw) hbz HL.out.wf.size hbz.size))
    have HBZ := Lib.hid hbz
    have HZN := Lib.hid (Nat.le_trans HL.out.wf.size hbz.size)
    have HWZN : Hid (wr.heap.size < Wz.heap.size ∧ Bw < wr.heap.size) := Lib.hid ⟨by rw [hWz]; simp, HL.out.wlk.lt⟩
    have HFEW := Lib.hid HL.out.few
    have HBB : Hid (Bw < w1.heap.size + 1) := Lib.hid (Nat.lt_succ_of_lt HBW.out)
    obtain ⟨r, hre⟩ : ∃ r, r = loadE O x.k.data.toList 1 := ⟨_, rfl⟩
    have HRV : Hid (loadE O x.k.data.toList 1 = r) := Lib.hid hre.symm
    have HWZE := Lib.hid hWz
    clear hbz hre
    go_wp2_with fail
    rw [← HWZE.out]
    clear hWz
    refine wp_region_wordsG (by kernel_rfl) (by kernel_rfl) (appTs [11] (filR Wz)) (HeldN Wz) fflE (fflU W0 Wz Bw wr.heap.size vO vI O M (sz + acc.length) x r) 15 fflN [11, 12] (by kernel_rfl) (by kernel_rfl) (by kernel_rfl)
     fflB (by kernel_rfl) (fun ix kx v e w w' hi hk hne hb hU hT => ffl_T _ _ _ _ _ _ _ _ _ _ _  ix kx v e w w' hk hne hb hU hT) (by decide) (HeldN.drew _) (fun kx hk hge => ?hv0)
     [33, 34, 35, 36, 37, 38, 39, 32, 40, 41, 11, 12] (by kernel_rfl) (forall_ops ?steps) ?behind
    case hv0 =>
     have hge' : 13 ≤ kx := hge
     rcases (show kx = 13 ∨ kx = 14 by omega) with rfl | rfl
     ·exact HWZ.out.stays ((Below.refl _ _).drew)
     ·exact HBX.out.drew
    case steps =>
     refine ⟨?_, ?_, ?_, ?_, ?_, ?_, ?_, ?_, ?_, ?_, ?_, ?_, ?_, trivial⟩
     ·refine stepG_of rfl ?_
      exact stepR_value (t := 33) (.pointer (some ⟨Bw, 0, none⟩)) rfl (fun _ => appTs_other (by decide) (Below.refl _ _)) (fun ac w hG hN hO => by
       have e0 : slot ac 0 = .pointer (some ⟨Bw, 0, none⟩) := hO 0 (by kernel_rfl)
       exact run_move_slot (.inl rfl) e0) (fun ac w hG hN => rfl)
     ·refine stepG_of rfl ?_
      exact stepR_value (t := 34) (.pointer (some ⟨Bw, 0, none⟩)) rfl (fun _ => appTs_other (by decide) (Below.refl _ _)) (fun ac w hG hN hO => by
       have e33 : slot ac 33 = .pointer (some ⟨Bw, 0, none⟩) := hN 0 (by decide)
       have f33 := slot_at e33
       unfold execOp; go_simp) (fun ac w hG hN => rfl)
     ·refine stepG_of rfl ?_
      exact stepR_value (t := 35) (.pointer (some ⟨Bw, 0, none⟩)) rfl (fun _ => appTs_other (by decide) (Below.refl _ _)) (fun ac w hG hN hO => by
       have e34 : slot ac 34 = .pointer (some ⟨Bw, 0, none⟩) := hN 1 (by decide)
       have f34 := slot_at e34
       unfold execOp; go_simp) (fun ac w hG hN => rfl)
     ·refine stepG_of rfl ?_
      exact stepR_value (t := 36) vO rfl (fun _ => appTs_other (by decide) (Below.refl _ _)) (fun ac w9 hG hN hO => by
       have e35 : slot ac 35 = .pointer (some ⟨Bw, 0, none⟩) := hN 2 (by decide)
       have hx : Wlk W0 Bw vO O w9 M (sz + acc.length) vI := hN 13 (by decide)
       have c0 := hx.cells.1
       have f := slot_at e35
       unfold execOp; go_simp) (fun ac w9 hG hN => rfl)
     ·refine stepG_of rfl ?_
      exact stepR_value (t := 37) (.pointer (some ⟨wr.heap.size, 0, none⟩)) rfl (fun _ => appTs_other (by decide) (Below.refl _ _)) (fun ac w hG hN hO => by
       have e10 : slot ac 10 = .pointer (some ⟨wr.heap.size, 0, none⟩) := hO 10 (by kernel_rfl)
       have f10 := slot_at e10
       unfold execOp; go_simp) (fun ac w hG hN => rfl)
     ·refine stepG_of rfl ?_
      exact stepR_value (t := 38) (.string x.k) rfl (fun _ => appTs_other (by decide) (Below.refl _ _)) (fun ac w9 hG hN hO => by
       have e37 : slot ac 37 = .pointer (some ⟨wr.heap.size, 0, none⟩) := hN 4 (by decide)
       have hx : Row w9 wr.heap.size #[.string x.k, .int .i64 x.n] 109 := hN 14 (by decide)
       have c0 : w9.cell? ⟨wr.heap.size, 0, none⟩ = some (.string x.k) := hx.cell 0
       have f := slot_at e37
       unfold execOp; go_simp) (fun ac w9 hG hN => rfl)
     ·refine stepG_of rfl ?_
      intro ac w9 hG hN hO
      have e36 : slot ac 36 = vO := hN 3 (by decide)
      have e38 : slot ac 38 = .string x.k := hN 5 (by decide)
      have hx : Wlk W0 Bw vO O w9 M (sz + acc.length) vI := hN 13 (by decide)
      refine wp_callx 51 _ _ rfl (enters_of Tryz.func51 (by kernel_rfl) rfl) #[vO, .string x.k, .int .i64 1] (by simp [eval_slot, e36, e38]; rfl) (by have := calls_ld (hx.load HRR.out hl HZZ.out x.k 1); rw [HRV.out] at this; exact this) ?_
      rintro v w'' ⟨hv, hb⟩
      exact ⟨v, rfl, appTs_other (by decide) hb, hG.on hb, hv⟩
     ·refine stepG_of rfl ?_
      intro ac w hG hN hO
      have e39 : LdV r (slot ac 39) := hN 6 (by decide)
      exact wp_value (run_move_slot (v := slot ac 39) (.inl rfl) rfl) ⟨_, rfl, (fun _ => appTs_other (by decide) (Below.refl _ _)) w, hG, e39⟩
     ·refine stepG_of rfl ?_
      intro ac w9 hG hN hO
      have e32 : LdV r (slot ac 32) := hN 7 (by decide)
      rcases e32 with ⟨m, pv, ev, hm, he, h1, h2⟩ | ⟨k, s, hk, hk2, he⟩
      ·have f := slot_at he
       exact wp_value (v := ndV m pv ev) (by unfold execOp; go_simp) ⟨_, rfl, appTs_other (by decide) (Below.refl _ _), hG, .inl ⟨m, pv, ev, hm, rfl, h1, h2⟩⟩
      ·have f := slot_at he
       exact wp_value (v := zeroNV) (by unfold execOp; go_simp) ⟨_, rfl, appTs_other (by decide) (Below.refl _ _), hG, .inr ⟨k, hk, rfl⟩⟩
     ·refine stepG_of rfl ?_
      intro ac w9 hG hN hO
      have e32 : LdV r (slot ac 32) := hN 7 (by decide)
      rcases e32 with ⟨m, pv, ev, hm, he, h1, h2⟩ | ⟨k, s, hk, hk2, he⟩
      ·have f := slot_at he
       exact wp_value (v := .nilIface) (by unfold execOp; go_simp) ⟨_, rfl, appTs_other (by decide) (Below.refl _ _), hG, .inl ⟨m, hm, rfl⟩⟩
      ·have f := slot_at he
       exact wp_value (v := faultV s k) (by unfold execOp; go_simp) ⟨_, rfl, appTs_other (by decide) (Below.refl _ _), hG, .inr ⟨k, s, hk, hk2, rfl⟩⟩
     ·refine stepG_of rfl ?_
      intro ac w9 hG hN hO
      exact wp_value (v := .pointer (some ⟨w9.heap.size, 0, none⟩)) (w' := w9.alloc (.cells #[.int .i64 0, .string ⟨#[]⟩, .slice none 0 0, .slice none 0 0] 71)) (by unfold execOp; go_simp) ⟨_, rfl, appTs_other (by decide) ((Below.refl _ _).alloc (Nat.le_refl _) _), hG.on ((Below.refl _ _).alloc (Nat.le_refl _) _), _, rfl, hG.below.size, Row.made _ _ _⟩
     ·refine stepG_of rfl ?_
      intro ac w9 hG hN hO
      have e40 : NdV r (slot ac 40) := hN 8 (by decide)
      obtain ⟨bn, e11, hbn, hrow⟩ : NewN Wz.heap.size w9 (slot ac 11) #[.int .i64 0, .string ⟨#[]⟩, .slice none 0 0, .slice none 0 0] := hN 10 (by decide)
      obtain ⟨kd, d, pa, pn, pc, ea, en, ec, e40b⟩ := e40.shape
      have f1 := slot_at e11
      have f2 := slot_at e40b
      have c0 := hrow.cell 0; have c1 := hrow.cell 1; have c2 := hrow.cell 2; have c3 := hrow.cell 3
      have g0 := hrow.free 0; have g1 := hrow.free 1; have g2 := hrow.free 2; have g3 := hrow.free 3
      simp only [List.getElem?_toArray, List.getElem?_cons_zero, List.getElem?_cons_succ] at c0 c1 c2 c3
      have h4 := row4_row hrow (.int .i64 kd) (.string d) (.slice pa pn pc) (.slice ea en ec)
      rw [e40b] at e40
      exact wp_skip (w' := (((w9.setCell ⟨bn, 0, none⟩ (.int .i64 kd)).setCell ⟨bn, 1, none⟩ (.string d)).setCell ⟨bn, 2, none⟩ (.slice pa pn pc)).setCell ⟨bn, 3, none⟩ (.slice ea en ec)) (by unfold execOp; go_simp) ⟨undef, rfl, appTs_at (by decide) ⟨bn, _, _, _, _, hbn, rfl⟩, ⟨(((hG.below.setCell (p := ⟨bn, 0, none⟩) hbn _).setCell (p := ⟨bn, 1, none⟩) hbn _).setCell (p := ⟨bn, 2, none⟩) hbn _).setCell (p := ⟨bn, 3, none⟩) hbn _⟩, by
       show ∃ kd d pv ev, NewN _ _ (exV fflE 11 ac) #[kd, d, pv, ev] ∧ _
       rw [show exV fflE 11 ac = slot ac 11 from rfl]
       exact ⟨_, _, _, _, ⟨bn, e11, hbn, h4⟩, e40⟩⟩
     ·refine stepG_of rfl ?_
      intro ac w hG hN hO
      have e41 : EvV r (slot ac 41) := hN 9 (by decide)
      exact wp_value (run_move_slot (v := slot ac 41) (.inr rfl) rfl) ⟨_, rfl, (fun _ => appTs_other (by decide) (Below.refl _ _)) w, hG, e41⟩
    case behind =>
     intro ac w5 hG hV hS ha
     have h11 : ∃ kd d pv ev, NewN Wz.heap.size w5 (slot ac 11) #[kd, d, pv, ev] ∧ NdV r (.agg #[kd, d, pv, ev]) := hV 11 (by decide) (by decide)
     have h12 : EvV r (slot ac 12) := hV 12 (by decide) (by decide)
     generalize slot ac = sl at ha h11 h12
     subst ha
     simp only [patchL, List.contains_cons, List.contains_nil, Nat.reduceBEq, Bool.or_false, Bool.or_true, if_true, Bool.false_eq_true, if_false, Nat.reduceAdd]
     generalize sl 33 = s33
     generalize sl 34 = s34
     generalize sl 35 = s35
     generalize sl 36 = s36
     generalize sl 37 = s37
     generalize sl 38 = s38
     generalize sl 39 = s39
     generalize sl 32 = s32
     generalize sl 40 = s40
     generalize sl 41 = s41
     generalize sl 11 = s11 at h11 ⊢
     generalize sl 12 = s12 at h12 ⊢
     clear hV hS
     have HB5 := Lib.hid (below_step HBZ.out hG.below)
     have HW5 := Lib.hid (HWZ.out.stays hG.below)
     have HX5 := Lib.hid (HBX.out.step hG.below)
     have HI5 := Lib.hid (builder_step HIZ.out hG.below)
     have HF5 := Lib.hid (HFZ.out.trans (Wf.of_below (N := w1.heap.size) (Bw := Bw) hG.below HZN.out hG.below.size))
     have hz5 := hG.below.size
     have HS5 := Lib.hid hz5
     rcases h12 with ⟨m, hm, rfl⟩ | ⟨k, s', hk1, hk2, rfl⟩
     ·obtain ⟨kd, d, pv, ev, hnew, hnd⟩ := h11
      obtain ⟨bn, rfl, hbn, hrow⟩ := hnew
      obtain ⟨hkd, hd⟩ := hnd.of_ok hm
      subst hkd hd
      obtain ⟨hfit, hk1⟩ := load_fit (HRV.out.trans hm)
      have hms := (fit_piece_size hfit hk1).2
      have HM1 := Lib.hid (fit_piece_size hfit hk1).1
      have HM := Lib.hid (HRV.out.trans hm)
      obtain ⟨c0, c1, c2⟩ := HW5.out.cells
      have p1 : w5.cell? ⟨bn, 1, none⟩ = some (.string m.d) := hrow.cell 1
      have x0 : w5.cell? ⟨wr.heap.size, 0, none⟩ = some (.string x.k) := HX5.out.cell 0
      have x1 : w5.cell? ⟨wr.heap.size, 1, none⟩ = some (.int .i64 x.n) := HX5.out.cell 1
      have hbw := HBW.out; have hwz := HWZN.out
      have n1 : bn ≠ Bw := by omega
      have n2 : wr.heap.size ≠ Bw := by omega
      obtain ⟨W5, hW5⟩ : ∃ W5, W5 = w5.drew := ⟨_, rfl⟩
      have hdr : Below w5.heap.size w5 W5 := by rw [hW5]; exact (Below.refl _ _).drew
      obtain ⟨u, hu⟩ : ∃ u : Nat, u = sz + acc.length + m.d.size := ⟨_, rfl⟩
      have HROW := Lib.hid ((hrow.step hdr).other ⟨Bw, 2, none⟩ (.int .i64 u) n1)
      have HXR := Lib.hid ((HX5.out.step hdr).other ⟨Bw, 2, none⟩ (.int .i64 u) n2)
      have HW6 := Lib.hid ((HW5.out.stays hdr).size u)
      have HI6 := Lib.hid (builder_set (A := Bw) (i := 2) (u := .int .i64 u) (builder_step HI5.out hdr) HBB.out)
      have HF6 := Lib.hid ((HF5.out.trans (Wf.of_below (N := w1.heap.size) (Bw := Bw) hdr (Nat.le_trans HZN.out hz5) hdr.size)).trans (Wf.set (N := w1.heap.size) (Bw := Bw) (i := 2) (w := W5) (.int .i64 u)))
      have hsz6 : (W5.setCell ⟨Bw, 2, none⟩ (.int .i64 u)).heap.size = w5.heap.size := by rw [hW5]; simp [World.setCell]
      have g2 := (HW5.out.stays hdr).row.free 2
      have d0 := HROW.out.cell 1; have d1 := HXR.out.cell 0; have d2 := HXR.out.cell 1; have d3 := HW6.out.cells.2.2
      simp only [List.getElem?_toArray, List.getElem?_cons_zero, List.getElem?_cons_succ] at d0 d1 d2
      have HS6 := Lib.hid hsz6
      have c2W := (HW5.out.stays hdr).cells.2.2
      clear hm hfit hnd hrow hG hk1 hsz6 hdr hz5
      obtain ⟨q, hq⟩ : ∃ q, q = sz + acc.length := ⟨_, rfl⟩
      rw [← hq] at c2 c2W hu
      have hu64 : ((q : Int) + (m.d.size : Int)) = (u : Int) := by omega
      have hub : u ≤ 100000 := by have := HFEW.out; omega
      have HU := Lib.hid hu; have HQ := Lib.hid hq
      have HW5D := Lib.hid hW5
      clear hu hq hW5 n1 n2
      have HEQ : Hid (∀ b : Bool, ((decide ((m.d.size : Int) = x.n ∧ (m.d.size : Int) ≤ 65536 - (sz : Int) - (acc.length : Int))) = b) → (b = true → partsE O (n.ps.drop (j + 1)) (65536 - (sz : Int)) (acc ++ m.d.data.toList) = partsE O n.ps (65536 - (sz : Int)) []) ∧ (b = false → partsE O n.ps (65536 - (sz : Int)) [] = .error 4)) := Lib.hid (by
       intro b hb
       rw [← HL.out.parts, HST.out, HM.out]
       simp only
       constructor
       ·rintro rfl
        rw [if_pos (of_decide_eq_true hb)]
       ·rintro rfl
        rw [if_neg (of_decide_eq_false hb)])
      by_cases e1 : (m.d.size : Int) = x.n
      ·by_cases e2 : u ≤ 65536
       ·have HOK := Lib.hid ((HEQ.out true (decide_eq_true ⟨e1, by have := HU.out; have := HQ.out; omega⟩)).1 rfl)
        have q1 : ((m.d.size : Int) == x.n) = true := beq_iff_eq.2 e1
        have q2 : ((m.d.size : Int) != x.n) = false := by simp [bne, q1]
        have q3 : decide ((65536 : Int) < (u : Int)) = false := decide_eq_false (by omega)
        have E2 := Lib.hid e2
        clear e1 e2
        go_wp2_with fail
        go_still_tail 8, (by kernel_rfl)
        change wpList _ _ _ _ _ w5.drew
        rw [← HW5D.out]
        go_wp2_with fail
        have HWS := Lib.hid (WriteString_k_Bus (w1.heap.size + 1) (w1.heap.size + 1) (Lib.byteCells acc) m.d _ HI6.out (by have := HFEW.out; rw [show (Lib.byteCells acc).length = acc.length by simp [Lib.byteCells]]; omega) (by have := HS6.out; have := HS5.out; have := HL.out.size; have := HWZN.out; omega))
        with_reducible refine HWS.out.mono ?_
        rintro e w7 ⟨rfl, h7, hb7, _⟩
        have HI7 : Hid (Lib.IsBuilderF 168 5 (w1.heap.size + 1) (w1.heap.size + 1) (Lib.byteCells (acc ++ m.d.data.toList)) w7) := Lib.hid (by
         rw [Lib.strCells_eq] at h7
         rw [Lib.byteCells_append]
         exact Or.inr h7)
        have HW7 := Lib.hid (HW6.out.above hb7 HBB.out (fun g hg => Nat.lt_succ_of_lt (HIL.out g hg)))
        have HF7 := Lib.hid (HF6.out.trans (Wf.of_below (N := w1.heap.size) (Bw := Bw) hb7 (Nat.le_succ _) hb7.size))
        have HS7 := Lib.hid hb7.size
        clear h7 hb7
        go_wp2
        go_roundw
        case rel =>
         clear d0 d1 d2 d3 c0 c1 c2 c2W g2 p1 x0 x1 q1 q2 q3
         have hlen : (acc ++ m.d.data.toList).length = acc.length + m.d.size := by rw [List.length_append, ← Lib.size_eq]
         refine ⟨j + 1, acc ++ m.d.data.toList, by omega, by go_num, ⟨HOK.out, ?_, HI7.out, ?_, ?_, HF7.out, ?_⟩⟩
         ·have := E2.out; have := HU.out; have := HQ.out; omega
         ·intro e
          have := congrArg List.length e
          rw [hlen, List.length_nil] at this
          have := HM1.out; omega
         ·have e : sz + (acc ++ m.d.data.toList).length = u := by have := HU.out; have := HQ.out; omega
          rw [e]; exact HW7.out
         ·have := HS7.out; have := HS6.out; have := HS5.out; have := HL.out.size; have := HWZN.out; omega
        case measure => simp [intOf]; omega
       ·have HNO := Lib.hid ((HEQ.out false (decide_eq_false (fun e => by have := HU.out; have := HQ.out; omega))).2 rfl)
        have q1 : ((m.d.size : Int) == x.n) = true := beq_iff_eq.2 e1
        have q2 : ((m.d.size : Int) != x.n) = false := by simp [bne, q1]
        have q3 : decide ((65536 : Int) < (u : Int)) = true := decide_eq_true (by omega)
        clear e1 e2
        go_wp2_with fail
        go_still_tail 8, (by kernel_rfl)
        change wpList _ _ _ _ _ w5.drew
        rw [← HW5D.out]
        go_wp2_with fail
        go_quiet (fail)
        go_wp2
        go_ret2
        have hbq := below_regrown_drewN (W5.setCell ⟨Bw, 2, none⟩ (.int .i64 u)) nq
        exact .inr ⟨4, x.k, HE.out.trans HNO.out, by decide, rfl, ⟨u, HW6.out.stays hbq⟩, Wf.trans (Wf.of_below HB1.out (Nat.le_refl _) HB1.out.size) ((HF6.out.trans (Wf.of_below hbq (by have := HS6.out; have := HS5.out; have := HZN.out; omega) hbq.size)).low HB1.out.size)⟩
      ·have HNO := Lib.hid ((HEQ.out false (decide_eq_false (fun e => e1 e.1))).2 rfl)
       have q1 : ((m.d.size : Int) == x.n) = false := beq_eq_false_iff_ne.2 e1
       have q2 : ((m.d.size : Int) != x.n) = true := by simp [bne, q1]
       clear e1
       go_wp2_with fail
       go_still_tail 8, (by kernel_rfl)
       change wpList _ _ _ _ _ w5.drew
       rw [← HW5D.out]
       go_wp2_with fail
       go_quiet (fail)
       go_wp2
       go_ret2
       have hbq := below_regrown_drewN (W5.setCell ⟨Bw, 2, none⟩ (.int .i64 u)) nq
       exact .inr ⟨4, x.k, HE.out.trans HNO.out, by decide, rfl, ⟨u, HW6.out.stays hbq⟩, Wf.trans (Wf.of_below HB1.out (Nat.le_refl _) HB1.out.size) ((HF6.out.trans (Wf.of_below hbq (by have := HS6.out; have := HS5.out; have := HZN.out; omega) hbq.size)).low HB1.out.size)⟩
     ·go_wp2
      go_ret2
      have hbb := HB5.out
      refine .inr ⟨k, s', ?_, hk2, rfl, ⟨_, HW5.out⟩, Wf.trans (Wf.of_below HB1.out (Nat.le_refl _) HB1.out.size) (HF5.out.low HB1.out.size)⟩
      rw [HE.out, ← HL.out.parts, HST.out, HRV.out, hk1]
   ·obtain rfl : j = z1 := by omega
    have hdone : partsE O n.ps (65536 - (sz : Int)) [] = .ok acc := by
     rw [← HL.out.parts, List.drop_of_length_le (by have := HZ1.out; omega)]; rfl
    have HD := Lib.hid (HE.out.trans hdone)
    have hbk : decide ((j : Int) < (j : Int)) = false := by simp
    clear hdone
    by_cases hacc : acc = []
    ·have CS := Lib.hid (String_nil_k (w1.heap.size + 1) (w1.heap.size + 1) (.pointer none) wr (HL.out.none hacc))
     subst hacc
     go_wp2_with fail
     with_reducible refine CS.out.mono ?_
     rintro e w7 ⟨rfl, hb7⟩
     have HB7 := Lib.hid hb7
     clear hb7
     go_wp2
     go_ret2
     exact .inl ⟨_, HD.out, rfl, HL.out.wlk.above HB7.out (Nat.lt_succ_of_lt HBW.out) (fun g hg => Nat.lt_succ_of_lt (HIL.out g hg)), Wf.trans (Wf.of_below HB1.out (Nat.le_refl _) HB1.out.size) ((HL.out.wf.trans (Wf.of_below (N := w1.heap.size) (Bw := Bw) HB7.out (Nat.le_succ _) HB7.out.size)).low HB1.out.size)⟩
    ·have CS := Lib.hid (String_full_k (w1.heap.size + 1) (w1.heap.size + 1) acc wr HL.out.bld hacc)
     clear hacc
     go_wp2_with fail
     with_reducible refine CS.out.mono ?_
     rintro e w7 ⟨rfl, _, hb7, _⟩
     have HB7 := Lib.hid hb7
     clear hb7
     go_wp2
     go_ret2
     exact .inl ⟨_, HD.out, rfl, HL.out.wlk.above HB7.out (Nat.lt_succ_of_lt HBW.out) (fun g hg => Nat.lt_succ_of_lt (HIL.out g hg)), Wf.trans (Wf.of_below HB1.out (Nat.le_refl _) HB1.out.size) ((HL.out.wf.trans (Wf.of_below (N := w1.heap.size) (Bw := Bw) HB7.out (Nat.le_succ _) HB7.out.size)).low HB1.out.size)⟩
 ·have HB1 := Lib.hid hb1
  have HE := Lib.hid (fileE_bad (room := 65536 - (sz : Int)) hbad)
  have HK := Lib.hid hk
  clear hbad hk hb1 c0 c1 c2
  have HBA := Lib.hid ((Below.refl w1.heap.size w1).alloc (Nat.le_refl _) (.cells #[.int .i64 0, .string ⟨#[]⟩, .slice none 0 0, .slice none 0 0] 71))
  go_wp2
  go_ret2
  have hbb := below_step HB1.out HBA.out
  exact .inr ⟨k, s', HE.out, HK.out, rfl, ⟨sz, HW.out.stays hbb⟩, Wf.of_below hbb (Nat.le_refl _) hbb.size⟩
end Go.Proofs.YtjpjpmkadoaipaaGreatDoor

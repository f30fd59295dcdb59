/-
  Contracts over this translation: the document's set of keys: add, Of.
-/
import Derived.Test.YtohicccbaenegaaGreatDoorYKed
set_option linter.unusedVariables false
namespace Go.Proofs.YtohicccbaenegaaGreatDoor
open Go.RowKit
attribute [local go_sem] Oper.semAt_some

/-! ## add -/
def RetStrs (w : World) (M : List Txt) (e : Ending) (w' : World) : Prop := ∃ v', e = .returned v' ∧ IsStrs w' v' (strsOf M) ∧ Below w.heap.size w w'
/-- What the loop of add holds: what is out, whether the new one is, and how it goes on. -/
def AddTo (l : List Txt) (x : Txt) (k : Nat) (d : Bool) (out : List Txt) : Prop := out.length = k + (if d then 1 else 0) ∧ out ++ (if d then l.drop k else ins (l.drop k) x) = ins l x
theorem addTo_zero (l : List Txt) (x : Txt) : AddTo l x 0 false [] := ⟨by simp, by simp⟩
theorem addTo_len {l : List Txt} {x : Txt} {k : Nat} {d : Bool} {out : List Txt} (h : AddTo l x k d out) : out.length ≤ k + 1 := by have := h.1; split at this <;> omega
theorem addTo_done {l : List Txt} {x : Txt} {k : Nat} {out : List Txt} (h : AddTo l x k true out) (hk : k < l.length) : AddTo l x (k + 1) true (out ++ [l[k]]) :=
  ⟨by have := h.1; simp at this ⊢; omega, by have := h.2; rw [if_pos rfl, List.drop_eq_getElem_cons hk] at this; rw [if_pos rfl, List.append_assoc]; exact this⟩
theorem addTo_here {l : List Txt} {x : Txt} {k : Nat} {out : List Txt} (h : AddTo l x k false out) (hk : k < l.length) (hx : x < l[k]) : AddTo l x (k + 1) true ((out ++ [x]) ++ [l[k]]) :=
  ⟨by have := h.1; simp at this ⊢; omega, by
    have := h.2; rw [if_neg (by simp), List.drop_eq_getElem_cons hk, ins, if_pos hx] at this
    rw [if_pos rfl, List.append_assoc, List.append_assoc]; exact this⟩
theorem addTo_past {l : List Txt} {x : Txt} {k : Nat} {out : List Txt} (h : AddTo l x k false out) (hk : k < l.length) (hx : ¬ x < l[k]) : AddTo l x (k + 1) false (out ++ [l[k]]) :=
  ⟨by have := h.1; simp at this ⊢; omega, by
    have := h.2; rw [if_neg (by simp), List.drop_eq_getElem_cons hk, ins, if_neg hx] at this
    rw [if_neg (by simp), List.append_assoc]; exact this⟩
theorem addTo_end {l : List Txt} {x : Txt} {k : Nat} {d : Bool} {out : List Txt} (h : AddTo l x k d out) (hk : l.length ≤ k) : out ++ (if d then [] else [x]) = ins l x := by
  have := h.2
  rw [List.drop_eq_nil_of_le hk] at this
  cases d <;> simpa [ins] using this

set_option maxRecDepth 100000 in
set_option maxHeartbeats 2000000 in
theorem refAdd_any (v : Value) (L : List ByteArray) (x : ByteArray) (w : World) (hv : IsStrs w v L) (hL : L.length ≤ 900000) :
    Calls Tryz.prog 59 #[v, .string x] w (RetStrs w (addL (txts L) x.data.toList)) := by
  have HV := Lib.hid hv
  obtain ⟨hm, a, cap, rfl, _, hc⟩ := hv
  have HC := Lib.hid hc
  clear hc hm
  have CH := fun W (h : IsStrs W (.slice a L.length cap) L) => refHas_any _ L x W h
  by_cases hin : x.data.toList ∈ txts L
  · rw [show hasB (txts L) x.data.toList = true from decide_eq_true hin] at CH
    have H := Lib.hid (CH w HV.out); clear CH
    have HR : Hid (addL (txts L) x.data.toList = txts L) := Lib.hid (if_pos hin)
    clear hin
    go_enter Tryz.func59, Tryz.ntmps59
    go_wp2_with fail
    refine (H.out).mono ?_
    rintro e w' ⟨rfl, rfl⟩
    go_wp2
    go_ret
    exact ⟨.slice a L.length cap, rfl, by rw [HR.out, strsOf_txts]; exact HV.out, Below.refl _ _⟩
  · rw [show hasB (txts L) x.data.toList = false from decide_eq_false hin] at CH
    have H := Lib.hid (CH w HV.out); clear CH
    have HR : Hid (addL (txts L) x.data.toList = ins (txts L) x.data.toList) := Lib.hid (if_neg hin)
    clear hin
    go_enter Tryz.func59, Tryz.ntmps59
    go_wp2_with fail
    refine (H.out).mono ?_
    rintro e w' ⟨rfl, rfl⟩
    go_wp2
    go_loopw [5, 6, 7] (fun o d i wr => ∃ (k : Nat) (db : Bool) (out : List Txt), k ≤ L.length ∧ i = .int .i64 k ∧ d = .bool db ∧ AddTo (txts L) x.data.toList k db out ∧ OwnTxt w wr o out ∧ Below w.heap.size w wr) (fun _ _ i _ => L.length - (intOf i).toNat)
    case atStart => exact ⟨0, false, [], Nat.zero_le _, rfl, rfl, addTo_zero _ _, ownTxt_nil _, Below.refl _ _⟩
    case round =>
      obtain ⟨k, db, out, hk, rfl, rfl, hA, hO, hB⟩ := hrel
      have hlen := addTo_len hA
      have hol : out.length ≤ 1000000 := by omega
      have HA := Lib.hid hA; have HO := Lib.hid hO
      clear hA hO hlen
      by_cases hlt : k < L.length
      · obtain ⟨b1, o1, rfl, hbl, g1⟩ := HC.out (by omega)
        have q1 := g1 k hlt
        rw [← hB.cell (p := ⟨b1, o1 + k, none⟩) hbl] at q1
        clear g1
        obtain ⟨y, hy⟩ : ∃ y, y = L[k] := ⟨_, rfl⟩
        have hyl : (txts L)[k]'(by rw [txts_len]; exact hlt) = y.data.toList := by rw [hy, txts_get hlt]
        rw [← hy] at q1
        have HY := Lib.hid hyl; clear hy hyl
        have hbk : decide ((k : Int) < (L.length : Int)) = true := by simpa using (show (k : Int) < L.length by omega)
        have hkl : k < (txts L).length := by rw [txts_len]; exact hlt
        cases db with
        | true =>
          have HS := Lib.hid (addTo_done HA.out hkl)
          go_wp2_with (at_builtin; refine wpList_append_txt rfl _ _ rfl HO.out hB rfl rfl hol ?_)
          intro v' w2 hown' hb2
          go_wp2
          go_roundw
          case rel => exact ⟨k + 1, true, _, by omega, by go_num, rfl, HS.out, by rw [HY.out]; exact hown', hb2⟩
          case measure => simp [intOf]; omega
        | false =>
          by_cases hlx : x.data.toList < y.data.toList
          · have HS := Lib.hid (addTo_here HA.out hkl (by rw [HY.out]; exact hlx))
            have l1 : Op.bytesLess y.toList x.toList = false := by rw [less_eq]; exact decide_eq_false (t_asymm hlx)
            have l2 : (y.toList == x.toList) = false := beq_false (fun e => t_irrefl _ (e ▸ hlx))
            clear hlx
            have hol2 : (out ++ [x.data.toList]).length ≤ 1000000 := by have := HA.out.1; simp at this; rw [List.length_append, List.length_singleton]; omega
            go_wp2_with (at_builtin; refine wpList_append_txt rfl _ _ rfl HO.out hB rfl rfl hol ?_)
            intro v1 w1 hown1 hb1
            have q2 := (hb1.cell (p := ⟨b1, o1 + k, none⟩) hbl).trans ((hB.cell (p := ⟨b1, o1 + k, none⟩) hbl).symm.trans q1)
            have HO1 := Lib.hid hown1
            clear hown1
            go_wp2_with (at_builtin; refine wpList_append_txt rfl _ _ rfl HO1.out hb1 rfl rfl hol2 ?_)
            intro v' w2 hown' hb2
            go_wp2
            go_roundw
            case rel => exact ⟨k + 1, true, _, by omega, by go_num, rfl, HS.out, by rw [HY.out]; simpa using hown', hb2⟩
            case measure => simp [intOf]; omega
          · have HS := Lib.hid (addTo_past HA.out hkl (by rw [HY.out]; exact hlx))
            have l0 : (Op.bytesLess y.toList x.toList || (y.toList == x.toList)) = true := by
              rw [less_eq]
              by_cases e : y = x
              · rw [beq_true e, Bool.or_true]
              · rw [decide_eq_true (Classical.byContradiction fun c => e (str_eq' (t_tri _ _ c hlx))), Bool.true_or]
            clear hlx
            go_wp2_with (at_builtin; refine wpList_append_txt rfl _ _ rfl HO.out hB rfl rfl hol ?_)
            intro v' w2 hown' hb2
            go_wp2
            go_roundw
            case rel => exact ⟨k + 1, false, _, by omega, by go_num, rfl, HS.out, by rw [HY.out]; exact hown', hb2⟩
            case measure => simp [intOf]; omega
      · have HE := Lib.hid (addTo_end HA.out (by rw [txts_len]; omega))
        have hge : decide ((k : Int) < (L.length : Int)) = false := by simp; omega
        cases db with
        | true =>
          go_wp2
          go_ret
          exact ⟨u5, rfl, by have h := HO.out.strs; rw [HR.out, ← HE.out]; simpa using h, hB⟩
        | false =>
          go_wp2_with (at_builtin; refine wpList_append_txt rfl _ _ rfl HO.out hB rfl rfl hol ?_)
          intro v' w2 hown' hb2
          go_wp2
          go_ret
          exact ⟨v', rfl, by have h := hown'.strs; rw [HR.out, ← HE.out]; simpa using h, hb2⟩

/-! ## Of -/
def OfTo (l : List Txt) (k : Nat) : List Txt := ((l.take k).filter isK).foldl addL []
theorem ofTo_step {l : List Txt} {k : Nat} (hk : k < l.length) : OfTo l (k + 1) = if l[k].length = 32 then addL (OfTo l k) l[k] else OfTo l k := by
  unfold OfTo
  rw [List.take_succ_eq_append_getElem hk, List.filter_append]
  by_cases h : l[k].length = 32 <;> simp [h, isK]
theorem ofTo_len (l : List Txt) (k : Nat) : (OfTo l k).length ≤ k := by
  have h1 := adds_len ((l.take k).filter isK) []
  have h2 := List.length_filter_le isK (l.take k)
  have h3 := List.length_take_le k l
  unfold OfTo; simp at h1; omega

set_option maxRecDepth 100000 in
set_option maxHeartbeats 2000000 in
theorem refOf_any (v : Value) (L : List ByteArray) (w : World) (hv : IsStrs w v L) (hL : L.length ≤ 800000) :
    Calls Tryz.prog 41 #[v] w (RetStrs w (ofL (txts L))) := by
  obtain ⟨hm, a, cap, rfl, _, hc⟩ := hv
  have HC := Lib.hid hc
  clear hc hm
  go_enter Tryz.func41, Tryz.ntmps41
  go_wp2
  go_loopw [3, 4] (fun o i wr => ∃ k : Nat, k ≤ L.length ∧ i = .int .i64 k ∧ IsStrs wr o (strsOf (OfTo (txts L) k)) ∧ Below w.heap.size w wr) (fun _ i _ => L.length - (intOf i).toNat)
  case atStart => exact ⟨0, Nat.zero_le _, rfl, isStrs_nil _, Below.refl _ _⟩
  case round =>
    obtain ⟨k, hk, rfl, hO, hB⟩ := hrel
    have HO := Lib.hid hO
    clear hO
    by_cases hlt : k < L.length
    · obtain ⟨b1, o1, rfl, hbl, g1⟩ := HC.out (by omega)
      have q1 := g1 k hlt
      rw [← hB.cell (p := ⟨b1, o1 + k, none⟩) hbl] at q1
      clear g1
      have hst := ofTo_step (l := txts L) (k := k) (by rw [txts_len]; exact hlt)
      rw [txts_get hlt] at hst
      obtain ⟨y, hy⟩ : ∃ y, y = L[k] := ⟨_, rfl⟩
      rw [← hy] at q1 hst
      clear hy
      rw [← Lib.size_eq] at hst
      have hbk : decide ((k : Int) < (L.length : Int)) = true := by simpa using (show (k : Int) < L.length by omega)
      by_cases h32 : y.size = 32
      · rw [if_pos h32] at hst
        have h32b : (((y.size : Nat) : Int) == 32) = true := by rw [h32]; rfl
        have CA := refAdd_any _ (strsOf (OfTo (txts L) k)) y wr HO.out (by rw [strsOf_len]; have := ofTo_len (txts L) k; omega)
        rw [txts_strsOf, ← hst] at CA
        have HA := Lib.hid CA; clear CA hst h32
        go_wp2_with fail
        refine (HA.out).mono ?_
        rintro e w1 ⟨v1, rfl, hv1, hb1⟩
        have HV1 := Lib.hid hv1; clear hv1
        go_wp2
        go_roundw
        case rel => exact ⟨k + 1, by omega, by go_num, HV1.out, below_step hB hb1⟩
        case measure => simp [intOf]; omega
      · rw [if_neg h32] at hst
        have HST := Lib.hid hst; clear hst
        have h32b : (((y.size : Nat) : Int) == 32) = false := by simp; omega
        go_wp2
        go_roundw
        case rel => exact ⟨k + 1, by omega, by go_num, by rw [HST.out]; exact HO.out, hB⟩
        case measure => simp [intOf]; omega
    · have hE : OfTo (txts L) k = ofL (txts L) := by
        rw [← refOf_eq]; unfold OfTo refOfL
        rw [List.take_of_length_le (by rw [txts_len]; omega)]
      have HE := Lib.hid hE; clear hE
      have hge : decide ((k : Int) < (L.length : Int)) = false := by simp; omega
      go_wp2
      go_ret
      exact ⟨u3, rfl, by rw [← HE.out]; exact HO.out, hB⟩

end Go.Proofs.YtohicccbaenegaaGreatDoor

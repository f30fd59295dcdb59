/-
  Contracts over this translation: a stream's iterator over its sure pieces.
-/
import Derived.RegionTactic
import Derived.BigRegionIn
import Derived.Sort.CutIn
import Derived.ChangeAlike
import Derived.Outline
import Derived.Test.YtciajgdjddepdaaDoorRgw
import Derived.Test.YtciajgdjddepdaaDoorStw
set_option linter.unusedVariables false
namespace Go.Proofs.YtciajgdjddepdaaDoor
open Go.RowKit Go.Shelf
attribute [local go_sem] Oper.semAt_some

abbrev encP (x : ByteArray) : Array Value := #[.string x]
/-- What a round keeps: all that lay ahead of the loop, but for one block. -/
def KpB (n B0 : Nat) (X Y : World) : Prop := ∀ k, k < n → k ≠ B0 → Y.heap[k]? = X.heap[k]?
theorem KpB.row {n B0 : Nat} {X Y : World} (h : KpB n B0 X Y) {k : Nat} {xs : Array Value} {t : TypeId} (hR : Row X k xs t) (hk : k < n) (hne : k ≠ B0) : Row Y k xs t := (h k hk hne).trans hR
theorem KpB.tabs {n B0 : Nat} {X Y : World} (h : KpB n B0 X Y) (hT : Tabs X) (h1 : 1 < n) (hne : 1 ≠ B0) : Tabs Y := fun j hj => by
  rw [World.cell?_of_block (h 1 h1 hne)]; exact hT j hj
theorem tabs_grown {X Y : World} {B : Nat} (hT : Tabs X) (h : X.grownBy Y (some B)) (hne : 1 ≠ B) : Tabs Y := fun j hj => by
  have hlt : 1 < X.heap.size := World.block_lt_of_cell? _ _ (hT j hj)
  rw [World.cell?_of_block (h.block 1 hlt (fun e => hne (by cases e; rfl)))]; exact hT j hj
theorem row_grown {X Y : World} {B k : Nat} {xs : Array Value} {t : TypeId} (hR : Row X k xs t) (h : X.grownBy Y (some B)) (hne : k ≠ B) : Row Y k xs t :=
  (h.block k hR.lt (fun e => hne (by cases e; rfl))).trans hR

/-- On the way: what has come, and what the worker still has. -/
structure Came (c : List UInt8 → Nat) (mx : Nat) (l : List UInt8) (pre : List ByteArray) (x : ByteArray) : Prop where
  told : txts pre ++ fed c mx x.data.toList = fed c mx l
  rest : left c mx x.data.toList = left c mx l
  small : x.size ≤ l.length
theorem Came.start (c : List UInt8 → Nat) (mx : Nat) (x : ByteArray) : Came c mx x.data.toList [] x := ⟨rfl, rfl, by rw [Lib.size_eq]; exact Nat.le_refl _⟩
theorem Came.step {mn mx : Nat} {c : List UInt8 → Nat} (H : CutSure mn mx c) {l : List UInt8} {pre : List ByteArray} {x : ByteArray} (h : Came c mx l pre x) (hx : mx ≤ x.size) :
    Came c mx l (pre ++ [x.extract 0 (c x.data.toList)]) (x.extract (c x.data.toList) x.size) := by
  obtain ⟨e1, e2⟩ := fed_long H (l := x.data.toList) (by rw [← Lib.size_eq]; exact hx)
  have hl : (x.extract (c x.data.toList) x.size).data.toList = x.data.toList.drop (c x.data.toList) := Lib.extract_to_end _ _
  refine ⟨?_, ?_, ?_⟩
  · rw [hl, ← h.told, e1]
    simp [txts]
  · rw [hl, ← h.rest, e2]
  · have := h.small; rw [ByteArray.size_extract]; omega
theorem Came.fin {mn mx : Nat} {c : List UInt8 → Nat} (H : CutSure mn mx c) {l : List UInt8} {pre : List ByteArray} {x : ByteArray} (h : Came c mx l pre x) (hx : x.size < mx) :
    txts pre = fed c mx l ∧ x = ⟨(left c mx l).toArray⟩ := by
  obtain ⟨e1, e2⟩ := fed_short H (l := x.data.toList) (by rw [← Lib.size_eq]; exact hx)
  have h1 := h.told; have h2 := h.rest
  rw [e1, List.append_nil] at h1
  rw [e2] at h2
  exact ⟨h1, by rw [← h2, txt_str]⟩
theorem Came.len {mn mx : Nat} {c : List UInt8 → Nat} (H : CutSure mn mx c) {l : List UInt8} {pre : List ByteArray} {x : ByteArray} (h : Came c mx l pre x) : pre.length ≤ l.length := by
  have h1 := congrArg List.length h.told
  rw [List.length_append, txts_len] at h1
  have := fed_len H l
  omega
theorem Came.less {mn mx : Nat} {c : List UInt8 → Nat} (H : CutSure mn mx c) {l : List UInt8} {pre : List ByteArray} {x : ByteArray} (h : Came c mx l pre x) (hx : mx ≤ x.size) : pre.length < l.length := by
  have h1 := (h.step H hx).len H
  rw [List.length_append, List.length_singleton] at h1
  omega

/-- How much the worker still has. -/
def restN (W : World) (B : Nat) : Nat := match W.cell? ⟨B, 0, none⟩ with
  | some (.string x) => x.size
  | _ => 0
theorem restN_row {W : World} {B : Nat} {r : ByteArray} {mn av mx : Nat} {T : TypeId} (h : Row W B (wC r mn av mx) T) : restN W B = r.size := by
  unfold restN; rw [h.cell 0]; rfl

/-- Behind the iterator. -/
def AllCame (c : List UInt8 → Nat) (mn av mx : Nat) (l : List UInt8) (B : Nat) (xs : List ByteArray) (W : World) : Prop :=
  txts xs = fed c mx l ∧ Row W B (wC ⟨(left c mx l).toArray⟩ mn av mx) 40

set_option maxHeartbeats 1000000 in
set_option maxRecDepth 100000 in
theorem sure1_all (n : Nat) (hn : 1 ≤ n) (mn av b mx : Nat) (hF : FitAt mn av mx b) (B Bp B0 N0 : Nat) (h1 : 1 < B) (h2 : B < N0) (h3 : Bp < N0) (h4 : B ≠ B0) (h5 : Bp ≠ B0) (h6 : 1 ≠ B0) (h7 : Bp ≠ B)
    (r : ByteArray) (hr : r.size ≤ 1000000) (w : World) (hR : Row w B (wC r mn av mx) 40) (hP : Row w Bp #[.pointer (some ⟨B, 0, none⟩)] 47) (hT : Tabs w) :
    SeqAll Fence.wide n Tryd.prog 22 #[.pointer (some ⟨Bp, 0, none⟩)] encP B (KpB N0 B0) (AllCame (cutN mn b mx) mn av mx r.data.toList B) r.data.toList.length w := fun l J W hW hJ hY h0 => by
  have OK := Lib.hid (cutN_sure (mn := mn) (b := b) (mx := mx) (by have := hF.h1; omega) (by have := hF.h2; have := hF.h3; omega))
  have hro : Fence.wide.round = none := rfl
  refine callsIn_of_wp Tryd.func22 rfl trivial ?_ hro
  simp only [Tryd.ntmps22, List.size_toArray, List.length_cons, List.length_nil, Nat.reduceAdd, Nat.reduceSub, Array.replicate_succ, Array.replicate_zero, List.push_toArray, List.append_toArray, List.nil_append, List.cons_append]
  gi_wp2
  gi_loopw [3] (fun _ wr => ∃ (pre : List ByteArray) (x : ByteArray), Came (cutN mn b mx) mx r.data.toList pre x ∧ J pre wr ∧ Row wr B (wC x mn av mx) 40 ∧ Row wr Bp #[.pointer (some ⟨B, 0, none⟩)] 47 ∧ Tabs wr)
    (fun _ wr => restN wr B)
  case atStart => exact ⟨[], r, Came.start _ _ _, h0, hR.step hW, hP.step hW, hT.stays hW⟩
  case round =>
    obtain ⟨pre, x, hC, hj, hRx, hPx, hTx⟩ := hrel
    have hsm := hC.small
    rw [← Lib.size_eq] at hsm
    have p0 := hPx.cell 0
    simp only [List.getElem?_toArray, List.getElem?_cons_zero] at p0
    have HC := Lib.hid hC; have HRX := Lib.hid hRx; have HPX := Lib.hid hPx; have HTX := Lib.hid hTx
    clear hC hRx hPx hTx
    by_cases hlt : mx ≤ x.size
    · have hless := HC.out.less OK.out hlt
      have HST := Lib.hid (HC.out.step OK.out hlt)
      have I1 := Lib.hid (fun W hR => isSure_any mn av b mx hF x B W hR true (decide_eq_true hlt))
      have I2 := Lib.hid (fun W hR hT => take_any mn av b mx hF x (by omega) B W hR hT)
      have hyl : (x.extract (cutN mn b mx x.data.toList) x.size).size < x.size := by
        have h1 := OK.out.pos x.data.toList (long_ne OK.out (by rw [← Lib.size_eq]; exact hlt))
        have := OK.out.one
        rw [ByteArray.size_extract]; omega
      obtain ⟨t, ht⟩ : ∃ t, t = x.extract 0 (cutN mn b mx x.data.toList) := ⟨_, rfl⟩
      obtain ⟨y, hy0⟩ : ∃ y, y = x.extract (cutN mn b mx x.data.toList) x.size := ⟨_, rfl⟩
      rw [← ht, ← hy0] at HST I2
      rw [← hy0] at hyl
      clear ht hy0
      gi_wp2_with (first
        | (refine ⟨trivial, ?_⟩; gi_at_call 23; refine (callsIn_wide.2 (I1.out _ HRX.out)).mono ?_; rintro e w1 ⟨rfl, hb1⟩
           have hj1 := hJ _ _ _ hj (grown_some hb1); have HR1 := Lib.hid (HRX.out.step hb1); have HP1 := Lib.hid (HPX.out.step hb1); have HT1 := Lib.hid (HTX.out.stays hb1); clear hb1 hj p0
           have p0 := HP1.out.cell 0; simp only [List.getElem?_toArray, List.getElem?_cons_zero] at p0)
        | (refine ⟨trivial, ?_⟩; gi_at_call 24; refine (callsIn_wide.2 (I2.out _ HR1.out HT1.out)).mono ?_; rintro e w2 ⟨rfl, hg2, hR2⟩
           have hj2 := hJ _ _ _ hj1 hg2; have HR2 := Lib.hid hR2; have HP2 := Lib.hid (row_grown HP1.out hg2 h7); have HT2 := Lib.hid (tabs_grown HT1.out hg2 (by omega)); clear hg2 hj1 p0 hR2
           obtain ⟨fn, tmps, assign, body, hy, hRd⟩ := hY pre t _ hj2 hless
           simp only [encP] at hy
           clear hY hj2))
      refine hRd.mono ?_
      rintro e W3 ⟨rfl, hJ3, hk3⟩
      have HR3 := Lib.hid (hk3.row HR2.out h2 h4)
      have HP3 := Lib.hid (hk3.row HP2.out h3 h5)
      have HT3 := Lib.hid (hk3.tabs HT2.out (by omega) h6)
      have HM := Lib.hid (show restN W3 B < restN wr B by rw [restN_row HR3.out, restN_row HRX.out]; exact hyl)
      clear hk3 hyl
      gi_wp2
      go_roundw
      case rel => exact ⟨_, y, HST.out, hJ3, HR3.out, HP3.out, HT3.out⟩
      case measure => exact HM.out
    · obtain ⟨f1, f2⟩ := HC.out.fin OK.out (by omega)
      have I1 := Lib.hid (fun W hR => isSure_any mn av b mx hF x B W hR false (decide_eq_false hlt))
      have F1 := Lib.hid f1; have F2 := Lib.hid f2
      clear f1 f2 hY
      gi_wp2_with (refine ⟨trivial, ?_⟩; gi_at_call 23; refine (callsIn_wide.2 (I1.out _ HRX.out)).mono ?_; rintro e w1 ⟨rfl, hb1⟩)
      have hj1 := hJ _ _ _ hj (grown_some hb1)
      have hR1 := HRX.out.step hb1
      rw [F2.out] at hR1
      go_end0
      exact ⟨⟨_, rfl⟩, pre, ⟨F1.out, hR1⟩, hj1⟩
end Go.Proofs.YtciajgdjddepdaaDoor

/-
  Contracts over this translation: dag's inside, its iterator; lastName.
-/
import Derived.RegionTactic
import Derived.BigRegionIn
import Derived.Sort.CutIn
import Derived.ChangeAlike
import Derived.Outline
import Derived.OwnWalkIn
import Derived.Test.YtlccihidedfemaaGreatDoorQb6
import Derived.Test.YtlccihidedfemaaGreatDoorYbDtn
import Derived.Lib.QuietBelow
set_option linter.unusedVariables false
namespace Go.Proofs.YtlccihidedfemaaGreatDoor
open Go.RowKit Go.Sort
attribute [local go_sem] Oper.semAt_some
abbrev insV (n : Nat) : Value := .func (.func 85) #[] #[.pointer (some ⟨n, 0, none⟩), .pointer (some ⟨n + 1, 0, none⟩)]
def insW (Bb : Nat) (d : ByteArray) (w : World) : World := (w.alloc (.cells #[.pointer (some ⟨Bb, 0, none⟩)] 126)).alloc (.cells #[.string d] 9)
theorem inside_any (Bb : Nat) (d : ByteArray) (w : World) : Calls Tryz.prog 52 #[.pointer (some ⟨Bb, 0, none⟩), .string d] w fun e w' => e = .returned (insV w.heap.size) ∧ insW Bb d w = w' := by
 go_enter Tryz.func52, Tryz.ntmps52
 go_wp2
 go_ret
 exact ⟨rfl, rfl⟩
structure TakeOk (W0 : World) (Bb bt bd : Nat) (dB : ByteArray) (R : List It) (X : World) : Prop where
 rest : ∃ vR, X.cell? ⟨Bb, 0, none⟩ = some vR ∧ IsItems W0 vR R
 below : Below W0.heap.size W0 X
 free : X.frozen? ⟨Bb, 0, none⟩ = false
 pt : X.cell? ⟨bt, 0, none⟩ = some (.pointer (some ⟨Bb, 0, none⟩))
 pd : X.cell? ⟨bd, 0, none⟩ = some (.string dB)
 few : ∀ x ∈ R, x.p.size ≤ 400
theorem items_tail {w : World} {b off n cap : Nat} {x : It} {R : List It} (h : IsItems w (.slice (some ⟨b, off, none⟩) n cap) (x :: R)) : IsItems w (.slice (some ⟨b, off + 4, none⟩) R.length (cap - 1)) R := by
 obtain ⟨h0, a, cp, e, ⟨h1, h2⟩, h3⟩ := h
 cases e
 refine ⟨by simp at h0; unfold maxLen at *; omega, _, _, rfl, ⟨(fun h => by cases h), by simp at h2; omega⟩, fun hR => ⟨b, off + 4, rfl, ?_⟩⟩
 obtain ⟨b', off', e, hlt, hc⟩ := h3 (by simp)
 cases e
 refine ⟨hlt, fun i hi => ?_⟩
 have := hc (i + 1) (by simpa using hi)
 rw [show off + (i + 1) * 4 = off + 4 + i * 4 by omega] at this
 exact this
theorem items_none {w : World} {a : Option Addr} {n cap : Nat} (hn : n = 0) (ha : a = none → cap = 0) : IsItems w (.slice a n cap) [] := by
 subst hn
 exact ⟨Nat.zero_le _, a, cap, rfl, ⟨fun h => ⟨rfl, ha h⟩, Nat.zero_le _⟩, fun h => absurd h (by simp)⟩
def restN (W : World) (Bb : Nat) : Nat := match W.cell? ⟨Bb, 0, none⟩ with
 | some (.slice _ n _) => n
 | _ => 0
theorem restN_of {W0 : World} {Bb bt bd : Nat} {dB : ByteArray} {R : List It} {X : World} (h : TakeOk W0 Bb bt bd dB R X) : restN X Bb = R.length := by
 obtain ⟨vR, h1, _, a, cap, rfl, _⟩ := h.rest
 unfold restN; rw [h1]
theorem str_of_Dtr (l : List UInt8) (x : ByteArray) : (⟨l.toArray⟩ : ByteArray) = x ↔ l = x.data.toList := by
 constructor
 ·rintro rfl; simp
 ·rintro rfl; simp
set_option maxHeartbeats 4000000 in
set_option maxRecDepth 100000 in
theorem inside_take (n : Nat) (hn : 1 ≤ n) (W0 : World) (Bb bt bd : Nat) (dB : ByteArray) (w : World) :
  SeqTake Fence.wide n 85 #[.pointer (some ⟨bt, 0, none⟩), .pointer (some ⟨bd, 0, none⟩)] W0 Bb dB.data.toList (TakeOk W0 Bb bt bd dB) w := fun l J J' W hW hG hB hP hB' hY R0 h0 => by
 have hro : Fence.wide.round = none := rfl
 have DI := Lib.hid (fun (s : ByteArray) (hs : s.size ≤ 400) W => Dir_any s (by omega) W)
 refine callsIn_of_wp Tryz.func85 rfl trivial ?_ hro
 simp only [Tryz.ntmps85, List.size_toArray, List.length_cons, List.length_nil, Nat.reduceAdd, Nat.reduceSub, Array.replicate_succ, Array.replicate_zero, List.push_toArray, List.append_toArray, List.nil_append, List.cons_append]
 have HY := Lib.hid hY; have HG := Lib.hid hG; have HB := Lib.hid hB; have HP := Lib.hid hP; have HB' := Lib.hid hB'; have H0 := Lib.hid h0
 clear hW hG hB hP hB' hY h0
 gi_wp2
 gi_loopw [4] (fun _ wr => ∃ R : List It, J R wr) (fun _ wr => restN wr Bb)
 case atStart => exact ⟨R0, H0.out⟩
 case round =>
  obtain ⟨R, hJ⟩ := hrel
  have HJ := Lib.hid hJ
  have hT := HG.out R wr hJ
  obtain ⟨vR, c0, hI⟩ := hT.rest
  have c1 := hT.pt; have c2 := hT.pd
  have HT := Lib.hid hT
  clear hJ hT
  cases R with
  | nil =>
   obtain ⟨_, a, cap, rfl, _, _⟩ := hI
   have k0 := fun d os => cell_regrown c0 d os
   have k1 := fun d os => cell_regrown c1 d os
   have k2 := fun d os => cell_regrown c2 d os
   gi_wp2_with fail
   refine wpIn_wide.2 ?_
   refine wp_region_quiet_below (by kernel_rfl) (by kernel_rfl) ?_
   repeat (first | go_big_quiet_step (fail) | quiet_step (fail))
   refine wpQuiet_nil ?_
   intro wq hwq
   have hbq : Below wr.heap.size wr wq := by obtain ⟨p, rfl⟩ := hwq; exact below_regrown _ _ _
   clear hwq k0 k1 k2 c0 c1 c2
   have HJ2 := Lib.hid (HB.out _ _ _ HJ.out hbq)
   clear hbq
   gi_wp2
   go_end0
   exact ⟨⟨_, rfl⟩, [], HJ2.out, fun y hy => by cases hy⟩
  | cons x R =>
   have hIT : Hid (∀ b off n cap, vR = .slice (some ⟨b, off, none⟩) n cap → IsItems W0 (.slice (some ⟨b, off + 4, none⟩) R.length (cap - 1)) R) := Lib.hid (fun b off n cap e => by subst e; exact items_tail hI)
   obtain ⟨hml, a, cap, rfl, ⟨_, hcap⟩, hc⟩ := hI
   obtain ⟨b, off, rfl, hbl, g⟩ := hc (by simp)
   have hat := (g 0 (by simp)).stays hbl HT.out.below
   simp only [Nat.zero_mul, Nat.add_zero, List.getElem_cons_zero] at hat
   obtain ⟨e0, e1, e2, e3⟩ := hat
   have HTL := Lib.hid (hIT.out b off _ cap rfl)
   have hxs := HT.out.few x (by simp)
   have D1 := Lib.hid (DI.out x.p hxs)
   rw [show x.p.data.toList = x.t from rfl] at D1
   have hmm : (x :: R).length ≤ 9223372036854775807 := by unfold maxLen at hml; omega
   obtain ⟨m, hm⟩ : ∃ m, m = R.length := ⟨_, rfl⟩
   rw [show (x :: R).length = m + 1 by rw [hm]; rfl] at c0 hmm hcap
   have HM := Lib.hid hm
   rw [← hm] at HTL
   clear g hc hIT hml hm
   obtain ⟨dd, hdd⟩ : ∃ dd : ByteArray, dd = ⟨(dirS x.t).toArray⟩ := ⟨_, rfl⟩
   rw [← hdd] at D1
   have k0 := fun d os => cell_regrown c0 d os
   have k1 := fun d os => cell_regrown c1 d os
   have k2 := fun d os => cell_regrown c2 d os
   have k3 := fun d os => cell_regrown e0 d os
   by_cases heq : dd = dB
   ·have hb := beq_true heq
    have HD : Hid (dirS x.t = dB.data.toList) := Lib.hid ((str_of_Dtr _ _).1 (hdd.symm.trans heq))
    clear heq hdd
    gi_wp2_with fail
    refine wpIn_wide.2 ?_
    refine wp_region_quiet_below (by kernel_rfl) (by kernel_rfl) ?_
    repeat (first | go_big_quiet_step (exact Calls.regrown_of (D1.out _)) | quiet_step (exact Calls.regrown_of (D1.out _)))
    refine wpQuiet_nil ?_
    intro wq hwq
    have hbq : Below wr.heap.size wr wq := by obtain ⟨p, rfl⟩ := hwq; exact below_regrown _ _ _
    clear hwq k0 k1 k2 k3
    have l0 := block_lt_of_cell c0; have l1 := block_lt_of_cell c1; have l2 := block_lt_of_cell c2; have l3 := block_lt_of_cell e0
    have c0' := (hbq.cell (p := ⟨Bb, 0, none⟩) l0).trans c0
    have c1' := (hbq.cell (p := ⟨bt, 0, none⟩) l1).trans c1
    have e0' := (hbq.cell (p := ⟨b, off, none⟩) l3).trans e0
    have e1' := (hbq.cell (p := ⟨b, off + 1, none⟩) l3).trans e1
    have e2' := (hbq.cell (p := ⟨b, off + 2, none⟩) l3).trans e2
    have e3' := (hbq.cell (p := ⟨b, off + 3, none⟩) l3).trans e3
    have f0 := (hbq.frozen (p := ⟨Bb, 0, none⟩) l0).trans HT.out.free
    have q0 : Bb < wq.heap.size := Nat.lt_of_lt_of_le l0 hbq.size
    have q1 : bt < wq.heap.size := Nat.lt_of_lt_of_le l1 hbq.size
    have q3 : b < wq.heap.size := Nat.lt_of_lt_of_le l3 hbq.size
    have HJ2 := Lib.hid (HB.out _ _ _ HJ.out hbq)
    clear hbq c0 c1 c2 e0 e1 e2 e3 l0 l1 l2 l3 HJ
    gi_wp2_with fail
    refine wpIn_wide.2 ?_
    by_cases hc1 : cap = 1
    ·go_region
     have hv : IsItems W0 (.slice (some ⟨b, off, none⟩) m 0) R := by
      have hR0 : R = [] := List.length_eq_zero_iff.1 (by have := HM.out; omega)
      subst hR0
      exact items_none (by have := HM.out; simpa using this) (fun _ => rfl)
     have HJ3 := Lib.hid (HB'.out x R _ _ (HP.out x R wq _ HJ2.out hv) (((Below.refl _ _).alloc (Nat.le_refl _) (.cells #[.string x.p, .bool x.d, .bool x.e, .string x.c] 51)).drew))
     have hrow := (Row.made (wq.setCell ⟨Bb, 0, none⟩ (.slice (some ⟨b, off, none⟩) m 0)) #[.string x.p, .bool x.d, .bool x.e, .string x.c] 51).drew
     have hsz : (wq.setCell ⟨Bb, 0, none⟩ (.slice (some ⟨b, off, none⟩) m 0)).heap.size = wq.heap.size := by simp [World.setCell]
     rw [hsz] at hrow
     obtain ⟨Wy, hWy⟩ : ∃ Wy, Wy = ((wq.setCell ⟨Bb, 0, none⟩ (.slice (some ⟨b, off, none⟩) m 0)).alloc (.cells #[.string x.p, .bool x.d, .bool x.e, .string x.c] 51)).drew := ⟨_, rfl⟩
     rw [← hWy] at HJ3 hrow ⊢
     have y0 := hrow.cell 0; have y1 := hrow.cell 1; have y2 := hrow.cell 2; have y3 := hrow.cell 3
     simp only [List.getElem?_toArray, List.getElem?_cons_zero, List.getElem?_cons_succ] at y0 y1 y2 y3
     clear hWy hrow hsz hv c0' c1' e0' e1' e2' e3' f0 HJ2
     obtain ⟨fn, tmps, assign, body, hy, hRd⟩ := HY.out x R Wy HD.out HJ3.out
     gi_wp2
     refine hRd.mono ?_
     rintro e W3 ⟨rfl, R', hl', hJ3⟩
     have HJ4 := Lib.hid hJ3
     have HLT : Hid (restN W3 Bb < restN wr Bb) := Lib.hid (by rw [restN_of (HG.out _ _ hJ3), restN_of HT.out]; simp; omega)
     clear hJ3 hy hRd
     gi_wp2
     exact ⟨⟨R', HJ4.out⟩, HLT.out⟩
    ·go_region
     have hv : IsItems W0 (.slice (some ⟨b, off + 4, none⟩) m (cap - 1)) R := HTL.out
     have HJ3 := Lib.hid (HB'.out x R _ _ (HP.out x R wq _ HJ2.out hv) (((Below.refl _ _).alloc (Nat.le_refl _) (.cells #[.string x.p, .bool x.d, .bool x.e, .string x.c] 51)).drew))
     have hrow := (Row.made (wq.setCell ⟨Bb, 0, none⟩ (.slice (some ⟨b, off + 4, none⟩) m (cap - 1))) #[.string x.p, .bool x.d, .bool x.e, .string x.c] 51).drew
     have hsz : (wq.setCell ⟨Bb, 0, none⟩ (.slice (some ⟨b, off + 4, none⟩) m (cap - 1))).heap.size = wq.heap.size := by simp [World.setCell]
     rw [hsz] at hrow
     obtain ⟨Wy, hWy⟩ : ∃ Wy, Wy = ((wq.setCell ⟨Bb, 0, none⟩ (.slice (some ⟨b, off + 4, none⟩) m (cap - 1))).alloc (.cells #[.string x.p, .bool x.d, .bool x.e, .string x.c] 51)).drew := ⟨_, rfl⟩
     rw [← hWy] at HJ3 hrow ⊢
     have y0 := hrow.cell 0; have y1 := hrow.cell 1; have y2 := hrow.cell 2; have y3 := hrow.cell 3
     simp only [List.getElem?_toArray, List.getElem?_cons_zero, List.getElem?_cons_succ] at y0 y1 y2 y3
     clear hWy hrow hsz hv c0' c1' e0' e1' e2' e3' f0 HJ2
     obtain ⟨fn, tmps, assign, body, hy, hRd⟩ := HY.out x R Wy HD.out HJ3.out
     gi_wp2
     refine hRd.mono ?_
     rintro e W3 ⟨rfl, R', hl', hJ3⟩
     have HJ4 := Lib.hid hJ3
     have HLT : Hid (restN W3 Bb < restN wr Bb) := Lib.hid (by rw [restN_of (HG.out _ _ hJ3), restN_of HT.out]; simp; omega)
     clear hJ3 hy hRd
     gi_wp2
     exact ⟨⟨R', HJ4.out⟩, HLT.out⟩
   ·have hb := beq_false heq
    have HD : Hid (dirS x.t ≠ dB.data.toList) := Lib.hid (fun e => heq (hdd.trans ((str_of_Dtr _ _).2 e)))
    clear heq hdd
    gi_wp2_with fail
    refine wpIn_wide.2 ?_
    refine wp_region_quiet_below (by kernel_rfl) (by kernel_rfl) ?_
    repeat (first | go_big_quiet_step (exact Calls.regrown_of (D1.out _)) | quiet_step (exact Calls.regrown_of (D1.out _)))
    refine wpQuiet_nil ?_
    intro wq hwq
    have hbq : Below wr.heap.size wr wq := by obtain ⟨p, rfl⟩ := hwq; exact below_regrown _ _ _
    clear hwq k0 k1 k2 k3 c0 c1 c2 e0 e1 e2 e3
    have HJ2 := Lib.hid (HB.out _ _ _ HJ.out hbq)
    clear hbq
    gi_wp2
    go_end0
    exact ⟨⟨_, rfl⟩, x :: R, HJ2.out, fun y hy => by simp at hy; subst hy; exact HD.out⟩
theorem lastName_any (s : ByteArray) (hs : s.size ≤ 400) (hp : pathB s.data.toList = true) (w : World) :
  Calls Tryz.prog 87 #[.string s] w fun e w' => e = .returned (.string ⟨(lastN s.data.toList).toArray⟩) ∧ Below w.heap.size w w' := by
 have C := Lib.hid (Split_any s (by omega) w)
 have P := path_ok hp
 have HL : Hid (∃ (L : List (List UInt8)) (h : 0 < L.length), splitS s.data.toList = L ∧ L.length ≤ 8 ∧ L[L.length - 1] = lastN s.data.toList) := Lib.hid (by
  have hn := P.nil
  refine ⟨cs s.data.toList, List.length_pos_iff.2 hn, P.split, P.len, ?_⟩
  unfold lastN
  rw [P.split, List.getLastD_eq_getLast?, List.getLast?_eq_getElem?, List.getElem?_eq_getElem (by have := List.length_pos_iff.2 hn; omega)]
  rfl)
 obtain ⟨L, h0, e1, h8, e2⟩ := HL.out
 rw [e1] at C
 rw [← e2]
 obtain ⟨x, hx⟩ : ∃ x : ByteArray, x = ⟨(L[L.length - 1]).toArray⟩ := ⟨_, rfl⟩
 rw [← hx]
 have HX := Lib.hid hx
 clear e1 e2 HL P hp hx
 go_enter Tryz.func87, Tryz.ntmps87
 go_wp2_with fail
 with_reducible refine C.out.mono ?_
 rintro e w1 ⟨v, rfl, hv, hb⟩
 have HB := Lib.hid hb
 obtain ⟨_, a, cap, rfl, _, hc⟩ := hv
 obtain ⟨b, off, rfl, hbl, g⟩ := hc (by rw [strsOf_len]; exact h0)
 have c0 := g (L.length - 1) (by rw [strsOf_len]; omega)
 rw [strsOf_get (by omega), ← HX.out] at c0
 rw [strsOf_len]
 obtain ⟨m, hm⟩ : ∃ m, m = L.length := ⟨_, rfl⟩
 rw [← hm] at c0 h0 h8 ⊢
 have q1 : ((m : Int) == 0) = false := beq_eq_false_iff_ne.2 (by omega)
 have q2 : (0 : Int) ≤ (m : Int) - 1 := by omega
 have q3 : ((m : Int) - 1).toNat = m - 1 := by omega
 have q4 : (m : Int) - 1 < (m : Int) := by omega
 clear g hc hb hm
 go_wp2
 go_ret
 exact ⟨rfl, HB.out⟩
end Go.Proofs.YtlccihidedfemaaGreatDoor

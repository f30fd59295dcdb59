/-
  Contracts over this translation: oneByte; the document's Write.
-/
import Derived.Test.YtlccihidedfemaaGreatDoorYbNdc
import Derived.Test.YtlccihidedfemaaGreatDoorQb3
import Derived.Lib.QuietBelow
import Derived.IntWalk
set_option linter.unusedVariables false
namespace Go.Proofs.YtlccihidedfemaaGreatDoor
open Go.RowKit
attribute [local go_sem] Oper.semAt_some
theorem conv_byte (c : UInt8) (w : World) (cap : Nat) : (convert 83 9 (.slice (some ⟨w.heap.size, 0, none⟩) 1 cap)).run Tryz.prog (w.alloc (.cells #[.int .u8 c.toNat] 5)) = .ok (.string ⟨#[c]⟩) (w.alloc (.cells #[.int .u8 c.toNat] 5)) :=
 conv_of (l := [c]) (Row.made w #[.int .u8 c.toNat] 5) 1 cap rfl
theorem ex_str (l : List UInt8) : ∃ S : ByteArray, S = ⟨l.toArray⟩ ∧ S.data.toList = l := ⟨_, rfl, rfl⟩
theorem str_list {S : ByteArray} {l : List UInt8} (h : S.data.toList = l) : S = ⟨l.toArray⟩ := str_eq' h
set_option maxRecDepth 100000 in
set_option maxHeartbeats 2000000 in
theorem oneByte_any (c : UInt8) (w : World) :
  Calls Tryz.prog 104 #[.int .i64 c.toNat] w fun e w' => e = .returned (.string ⟨#[c]⟩) ∧ Below w.heap.size w w' := by
 have hc : c.toNat < 256 := c.toNat_lt
 have HC := conv_byte c w 1
 go_enter Tryz.func104, Tryz.ntmps104
 go_wp2
 go_ret
 exact ⟨rfl, (Below.refl _ _).alloc (Nat.le_refl _) _⟩
theorem psB_step {L : List Pt} {k : Nat} (hk : k < L.length) : psB (L.take (k + 1)) = psB (L.take k) ++ ptB L[k] := by
 rw [List.take_succ_eq_append_getElem hk, psB_app, psB_one]
theorem esB_step {L : List En} {k : Nat} (hk : k < L.length) : esB (L.take (k + 1)) = esB (L.take k) ++ enB L[k] := by
 rw [List.take_succ_eq_append_getElem hk, esB_app, esB_one]
theorem psB_take {L : List Pt} (h : ∀ p ∈ L, p.k.size = 32) (k : Nat) (hl : L.length ≤ 1024) : (psB (L.take k)).length ≤ 50000 := by
 have := psB_len (L.take k) (fun p hp => h p (List.mem_of_mem_take hp))
 rw [List.length_take] at this; omega
theorem esB_take {L : List En} (h : ∀ p ∈ L, okEn p = true) (k : Nat) (hl : L.length ≤ 60) : (esB (L.take k)).length ≤ 50000 := by
 have := esB_len (L.take k) (fun p hp => h p (List.mem_of_mem_take hp))
 rw [List.length_take] at this; omega
def OneB (w : World) (v : Value) (c : UInt8) : Prop := ∃ A, v = .slice (some ⟨A, 0, none⟩) 1 1 ∧ w.heap[A]? = some (.cells #[.int .u8 c.toNat] 5 (0, 0))
theorem OneB.stays {w w' : World} {v : Value} {c : UInt8} (h : OneB w v c) (hb : Below w.heap.size w w') : OneB w' v c := by
 obtain ⟨A, h1, h2⟩ := h
 exact ⟨A, h1, (hb.block A (Array.getElem?_eq_some_iff.1 h2).1).trans h2⟩
theorem oneB_new (w : World) (c : UInt8) : OneB (w.alloc (.cells #[.int .u8 c.toNat] 5)) (.slice (some ⟨w.heap.size, 0, none⟩) 1 1) c := ⟨_, rfl, heap_alloc_new w _⟩
theorem OneB.conv {w : World} {v : Value} {c : UInt8} (h : OneB w v c) : (convert 83 9 v).run Tryz.prog w = .ok (.string ⟨#[c]⟩) w := by
 obtain ⟨A, rfl, h2⟩ := h
 exact conv_of (l := [c]) (B := A) (T := 5) h2 1 1 rfl
theorem wp_build_byte {o : Oper} {a : Act} {K : Act → World → Prop} {Q : Exit → Act → World → Prop} {w : World} (p : Nat) (ho : o.op = .buildSlice 83 1 #[(0, .tmp p)]) {c : UInt8}
  (hx : slot a p = .int .u8 c.toNat) (hk : K (a.put o.dst (.slice (some ⟨w.heap.size, 0, none⟩) 1 1)) (w.alloc (.cells #[.int .u8 c.toNat] 5))) : o.wp Tryz.prog a w K Q := by
 refine wp_value (v := .slice (some ⟨w.heap.size, 0, none⟩) 1 1) (w' := w.alloc (.cells #[.int .u8 c.toNat] 5)) ?_ hk
 have f := slot_at hx
 unfold execOp
 rw [ho]
 go_simp
structure HeldN (W0 : World) (w : World) : Prop where
 below : Below W0.heap.size W0 w
theorem HeldN.on {W0 w w' : World} (h : HeldN W0 w) (hb : Below w.heap.size w w') : HeldN W0 w' := ⟨below_step h.below hb⟩
theorem HeldN.drew (w : World) : HeldN w { w with drawn := w.drawn + 1 } := ⟨(Below.refl _ _).drew⟩
theorem calls_valN {f : FuncId} {args : Array Value} {w : World} {v : Value} (h : Calls Tryz.prog f args w fun e w' => e = .returned v ∧ Below w.heap.size w w') : Calls Tryz.prog f args w fun e w' => ∃ u, e = .returned u ∧ u = v ∧ Below w.heap.size w w' :=
 h.mono fun _ _ ⟨h1, h2⟩ => ⟨v, h1, rfl, h2⟩
def nwrU (W4 : World) (eb : Nat) (x : En) (S P : ByteArray) (c : UInt8) (kI : Int) : Nat → Value → Value → World → Prop
 | 0 => fun v _ _ => v = .string S
 | 1 => fun v _ _ => v = .pointer (some ⟨eb, 0, none⟩)
 | 2 => fun v _ _ => v = .string x.m
 | 3 => fun v _ _ => v = .string P
 | 4 => fun v _ _ => v = .string (S ++ P)
 | 5 => fun v _ _ => v = .int .u8 kI
 | 6 => fun v _ w => OneB w v c
 | 7 => fun v _ _ => v = .string (⟨#[c]⟩ : ByteArray)
 | 8 => fun v _ _ => v = .string (S ++ P ++ (⟨#[c]⟩ : ByteArray))
 | 9 => fun v _ _ => v = .pointer (some ⟨eb, 3, none⟩)
 | 10 => fun v _ _ => v = .string x.k
 | 11 => fun v _ _ => v = .string (S ++ P ++ (⟨#[c]⟩ : ByteArray) ++ x.k)
 | 12 => fun v _ _ => v = .string (S ++ P ++ (⟨#[c]⟩ : ByteArray) ++ x.k)
 | _ => fun _ _ _ => True
def nwrN : List (List Nat) := [[], [], [1], [2], [0, 3], [], [5], [6], [4, 7], [], [9], [8, 10], [11]]
def nwrE : Nat → Option Tmp
 | _ => none
def nwrB : List (Nat × Nat) := []
theorem nwr_T (W4 : World) (eb : Nat) (x : En) (S P : ByteArray) (c : UInt8) (kI : Int) (ix kx : Nat) (v e : Value) (w w' : World) (hk : kx < 13) (hne : kx ≠ ix) (hbd : (ix, kx) ∉ nwrB) (hU : (nwrU W4 eb x S P c kI) kx v e w) (hT : allT ix w w') : (nwrU W4 eb x S P c kI) kx v e w' := by
 have hb : Below w.heap.size w w' := hT
 rcases (show kx = 0 ∨ kx = 1 ∨ kx = 2 ∨ kx = 3 ∨ kx = 4 ∨ kx = 5 ∨ kx = 6 ∨ kx = 7 ∨ kx = 8 ∨ kx = 9 ∨ kx = 10 ∨ kx = 11 ∨ kx = 12 by omega) with rfl | rfl | rfl | rfl | rfl | rfl | rfl | rfl | rfl | rfl | rfl | rfl | rfl
 iterate 6 exact hU
 ·exact OneB.stays hU hb
 iterate 6 exact hU
def NdBox (w : World) (b : Nat) (n : Nd) (pv ev : Value) : Prop := (w.cell? ⟨b, 0, none⟩ = some (.int .i64 n.kd) ∧ w.cell? ⟨b, 1, none⟩ = some (.string n.d) ∧ w.cell? ⟨b, 2, none⟩ = some pv ∧ w.cell? ⟨b, 3, none⟩ = some ev) ∧ b < w.heap.size
theorem NdBox.cells {w : World} {b : Nat} {n : Nd} {pv ev : Value} (h : NdBox w b n pv ev) : w.cell? ⟨b, 0, none⟩ = some (.int .i64 n.kd) ∧ w.cell? ⟨b, 1, none⟩ = some (.string n.d) ∧ w.cell? ⟨b, 2, none⟩ = some pv ∧ w.cell? ⟨b, 3, none⟩ = some ev := h.1
theorem NdBox.stays {w w' : World} {b : Nat} {n : Nd} {pv ev : Value} (h : NdBox w b n pv ev) (hb : Below w.heap.size w w') : NdBox w' b n pv ev :=
 ⟨⟨(hb.cell (p := ⟨b, 0, none⟩) h.2).trans h.1.1, (hb.cell (p := ⟨b, 1, none⟩) h.2).trans h.1.2.1, (hb.cell (p := ⟨b, 2, none⟩) h.2).trans h.1.2.2.1, (hb.cell (p := ⟨b, 3, none⟩) h.2).trans h.1.2.2.2⟩, Nat.lt_of_lt_of_le h.2 hb.size⟩
theorem ndBox_new (w : World) (n : Nd) (pv ev : Value) (t : TypeId) : NdBox (w.alloc (.cells #[.int .i64 n.kd, .string n.d, pv, ev] t)) w.heap.size n pv ev := ⟨⟨by simp, by simp, by simp, by simp⟩, by simp⟩
set_option maxRecDepth 100000 in
set_option maxHeartbeats 40000000 in
theorem rWrite1 (d : ByteArray) (pv ev : Value) (w : World) (hp : IsParts w pv []) (he : IsEntries w ev []) (hf : fitN ⟨1, d, [], []⟩ = true) :
  Calls Tryz.prog 43 #[ndV ⟨1, d, [], []⟩ pv ev] w fun e w' => e = .returned (.string ⟨(wrL ⟨1, d, [], []⟩).toArray⟩) ∧ Below w.heap.size w w' := by
 have RF := Lib.hid (rFit_any ⟨1, d, [], []⟩ pv ev)
 have HP := Lib.hid hp; have HE := Lib.hid he; have HF := Lib.hid hf
 obtain ⟨_, a1, cap1, hv1, _, _⟩ := hp
 obtain ⟨_, a2, cap2, hv2, _, _⟩ := he
 subst hv1 hv2
 clear hf
 have hd := (fit1 rfl HF.out).2.1
 simp only at hd
 have hsum : ¬ 9223372036854775807 < 1 + d.size := by omega
 go_enter Tryz.func43, Tryz.ntmps43
 go_wp2_with fail
 refine (RF.out _ (HP.out.stays ((Below.refl _ _).alloc (Nat.le_refl _) _)) (HE.out.stays ((Below.refl _ _).alloc (Nat.le_refl _) _))).mono ?_
 rintro e w1 ⟨rfl, hb1⟩
 have HB0 : Hid (Below w.heap.size w (w.alloc (.cells #[.int .i64 1, .string d, .slice a1 0 cap1, .slice a2 0 cap2] 44))) := (Below.refl _ _).alloc (Nat.le_refl _) _
 have HBX : Hid (NdBox (w.alloc (.cells #[.int .i64 1, .string d, .slice a1 0 cap1, .slice a2 0 cap2] 44)) w.heap.size ⟨1, d, [], []⟩ (.slice a1 0 cap1) (.slice a2 0 cap2)) := ndBox_new w ⟨1, d, [], []⟩ _ _ _
 have HB1 := Lib.hid (below_step HB0.out hb1)
 have HX1 := Lib.hid (HBX.out.stays hb1)
 have HP1 := Lib.hid (HP.out.stays HB1.out); have HE1 := Lib.hid (HE.out.stays HB1.out)
 clear HB0 HBX hb1
 rw [HF.out]
 obtain ⟨B, hB⟩ : ∃ B, B = w.heap.size := ⟨_, rfl⟩
 rw [← hB] at HX1 ⊢
 have HBE := Lib.hid hB; clear hB
 obtain ⟨qk, qd, qp, qe⟩ := HX1.out.cells
 simp only at qk qd qp qe
 have HC : (convert 83 9 (.slice (some ⟨w1.heap.size, 0, none⟩) 1 1)).run Tryz.prog (w1.alloc (.cells #[.int .u8 1] 5)) = .ok (.string ⟨#[1]⟩) (w1.alloc (.cells #[.int .u8 1] 5)) := conv_byte 1 w1 1
 have hz1 := HX1.out.2
 go_wp2
 refine wp_loop_rounds 1 ?_
 rw [rounds_succ]
 go_wp2
 refine wp_loop_rounds 1 ?_
 rw [rounds_succ]
 go_wp2
 go_ret
 refine ⟨?_, HB1.out.alloc HB1.out.size _⟩
 exact congrArg (fun x => Ending.returned (.string x)) (str_eq' (by rw [bytes_app]; rfl))
set_option maxRecDepth 100000 in
set_option maxHeartbeats 40000000 in
theorem rWrite2 (ps : List Pt) (pv ev : Value) (w : World) (hp : IsParts w pv ps) (he : IsEntries w ev []) (hf : fitN ⟨2, ⟨#[]⟩, ps, []⟩ = true) :
  Calls Tryz.prog 43 #[ndV ⟨2, ⟨#[]⟩, ps, []⟩ pv ev] w fun e w' => e = .returned (.string ⟨(wrL ⟨2, ⟨#[]⟩, ps, []⟩).toArray⟩) ∧ Below w.heap.size w w' := by
 have RF := Lib.hid (rFit_any ⟨2, ⟨#[]⟩, ps, []⟩ pv ev)
 have HP := Lib.hid hp; have HE := Lib.hid he; have HF := Lib.hid hf
 obtain ⟨_, a1, cap1, hv1, _, _⟩ := hp
 obtain ⟨_, a2, cap2, hv2, _, _⟩ := he
 subst hv1 hv2
 clear hf
 have hpl : ps.length ≤ 1024 := (fit2 rfl HF.out).2.2.1
 have HOK := Lib.hid (fitFile_iff.1 (fit2 rfl HF.out).2.2.2).1
 have hu : U64 ps.length := by unfold U64; omega
 have RP0 := Lib.hid (refPut_any ps.length hu)
 have hvl := vput_len ps.length
 have hsum : ¬ 9223372036854775807 < 1 + (vput ps.length).length := by omega
 go_enter Tryz.func43, Tryz.ntmps43
 go_wp2_with fail
 refine (RF.out _ (HP.out.stays ((Below.refl _ _).alloc (Nat.le_refl _) _)) (HE.out.stays ((Below.refl _ _).alloc (Nat.le_refl _) _))).mono ?_
 rintro e w1 ⟨rfl, hb1⟩
 have HB0 : Hid (Below w.heap.size w (w.alloc (.cells #[.int .i64 2, .string ⟨#[]⟩, .slice a1 ps.length cap1, .slice a2 0 cap2] 44))) := (Below.refl _ _).alloc (Nat.le_refl _) _
 have HBX : Hid (NdBox (w.alloc (.cells #[.int .i64 2, .string ⟨#[]⟩, .slice a1 ps.length cap1, .slice a2 0 cap2] 44)) w.heap.size ⟨2, ⟨#[]⟩, ps, []⟩ (.slice a1 ps.length cap1) (.slice a2 0 cap2)) := ndBox_new w ⟨2, ⟨#[]⟩, ps, []⟩ _ _ _
 have HB1 := Lib.hid (below_step HB0.out hb1)
 have HX1 := Lib.hid (HBX.out.stays hb1)
 have HP1 := Lib.hid (HP.out.stays HB1.out); have HE1 := Lib.hid (HE.out.stays HB1.out)
 clear HB0 HBX hb1
 rw [HF.out]
 obtain ⟨B, hB⟩ : ∃ B, B = w.heap.size := ⟨_, rfl⟩
 rw [← hB] at HX1 ⊢
 have HBE := Lib.hid hB; clear hB
 obtain ⟨qk, qd, qp, qe⟩ := HX1.out.cells
 simp only at qk qd qp qe
 have HC : (convert 83 9 (.slice (some ⟨w1.heap.size, 0, none⟩) 1 1)).run Tryz.prog (w1.alloc (.cells #[.int .u8 2] 5)) = .ok (.string ⟨#[2]⟩) (w1.alloc (.cells #[.int .u8 2] 5)) := conv_byte 2 w1 1
 have hz1 := HX1.out.2
 go_wp2_with fail
 refine (RP0.out _).mono ?_
 rintro e w2 ⟨rfl, hb2⟩
 have hb0 := (Below.refl w1.heap.size w1).alloc (Nat.le_refl _) (.cells #[.int .u8 2] 5)
 have hb3 := below_step hb0 hb2
 have HB2 := Lib.hid (below_step HB1.out hb3)
 have HX2 := Lib.hid (HX1.out.stays hb3)
 clear hb0 hb2 hb3 HC
 replace HX1 := HX2
 clear qk qd qp qe
 obtain ⟨qk, qd, qp, qe⟩ := HX2.out.cells
 simp only at qk qd qp qe
 have hz2 := HX2.out.2
 go_wp2
 obtain ⟨S0, hS0⟩ := ex_str ([2] ++ vput ps.length)
 go_loopw [3, 4] (fun s i wr => ∃ (k : Nat) (S : ByteArray), k ≤ ps.length ∧ i = .int .i64 k ∧ s = .string S ∧ S.data.toList = [2] ++ vput ps.length ++ psB (ps.take k) ∧ Below w.heap.size w wr ∧ NdBox wr B ⟨2, ⟨#[]⟩, ps, []⟩ (.slice a1 ps.length cap1) (.slice a2 0 cap2)) (fun _ i _ => ps.length - (intOf i).toNat)
 case atStart => exact ⟨0, S0, Nat.zero_le _, rfl, by rw [hS0.1]; exact congrArg Value.string (str_eq' (by rw [bytes_app, bytes_app]; rfl)), by rw [hS0.2, List.take_zero]; exact (List.append_nil _).symm, HB2.out, HX2.out⟩
 case round =>
  clear qk qd qp qe hz1 HX2 HX1 HP1 HE1
  obtain ⟨k, S, hk, rfl, rfl, hS, hB, hX⟩ := hrel
  have HSL := Lib.hid hS; clear hS
  have HXX := Lib.hid hX; clear hX
  obtain ⟨qk, qd, qp, qe⟩ := HXX.out.cells
  simp only at qk qd qp qe
  have hsz := hB.size
  have hSs : S.size ≤ 60000 := by
   have h1 := Lib.size_eq S; rw [HSL.out, List.length_append, List.length_append] at h1
   have h2 := psB_take (fun p hp => (okPt_iff.1 (HOK.out p hp)).1) k hpl; have h3 := vput_len ps.length
   simp at h1; omega
  by_cases hlt : k < ps.length
  ·obtain ⟨_, _, _, e, _, hc⟩ := HP.out.stays hB
   cases e
   obtain ⟨b, off, rfl, hbl, g⟩ := hc (by omega)
   obtain ⟨c0, c1⟩ := g k hlt
   clear g hc
   have hbk : decide ((k : Int) < (ps.length : Int)) = true := by simpa using (show (k : Int) < ps.length by omega)
   have HST := Lib.hid (psB_step hlt)
   have hx := okPt_iff.1 (HOK.out _ (List.getElem_mem hlt))
   obtain ⟨x, hxe⟩ : ∃ x, x = ps[k] := ⟨_, rfl⟩
   rw [← hxe] at c0 c1 HST hx
   clear hxe
   obtain ⟨hx1, hx2, hx3⟩ := hx
   obtain ⟨m, hm⟩ : ∃ m : Nat, x.n = m := ⟨x.n.toNat, by omega⟩
   rw [hm] at c1 hx2 hx3
   have hmb : m ≤ 4096 := by omega
   have hu : U64 m := by unfold U64; omega
   obtain ⟨P, hP1, hP2⟩ := ex_str (vput m)
   have RP := Lib.hid (refPut_any m hu)
   rw [← hP1] at RP
   have hPs : P.size ≤ 10 := by rw [Lib.size_eq, hP2]; exact vput_len m
   have HPL := Lib.hid hP2; have HM := Lib.hid hm; have HK := Lib.hid hx1
   have hs1 : ¬ 9223372036854775807 < S.size + x.k.size := by omega
   have hs2 : ¬ 9223372036854775807 < S.size + x.k.size + P.size := by omega
   have hs3 : ¬ 9223372036854775807 < (S ++ x.k).size + P.size := by rw [size_of_app]; omega
   clear hP1 hP2 hm hx1 hx2 hx3
   obtain ⟨SK, hSK⟩ : ∃ SK, SK = S ++ x.k := ⟨_, rfl⟩
   have k0 := fun d os => cell_regrown c0 d os
   have k1 := fun d os => cell_regrown c1 d os
   have k2 := fun d os => cell_regrown qp d os
   go_wp2_with fail
   refine wp_region_quiet_below (by kernel_rfl) (by kernel_rfl) ?_
   repeat (first | go_big_quiet_step ((exact Calls.regrown_of (RP.out _))) | quiet_step ((exact Calls.regrown_of (RP.out _))))
   refine wpQuiet_nil ?_
   intro wq hwq
   have hbq : Below wr.heap.size wr wq := by obtain ⟨p, rfl⟩ := hwq; exact below_regrown _ _ _
   clear hwq
   have HBQ := Lib.hid (below_step hB hbq)
   have HXQ := Lib.hid (HXX.out.stays hbq)
   clear k0 k1 k2 qk qd qp qe c0 c1 hbq hB HXX
   go_wp2
   go_roundw
   case rel => exact ⟨k + 1, S ++ x.k ++ P, by omega, by go_num, by rfl, by rw [bytes_app, bytes_app, HSL.out, HST.out, ptB, HPL.out, HM.out]; simp [List.append_assoc], HBQ.out, HXQ.out⟩
   case measure => simp [intOf]; omega
  ·have HS := Lib.hid (show S = ⟨(wrL ⟨2, ⟨#[]⟩, ps, []⟩).toArray⟩ from str_list (by
    rw [HSL.out, List.take_of_length_le (by omega)]; unfold wrL; rw [body_file rfl]; rfl))
   go_wp2
   refine wp_loop_rounds 1 ?_
   rw [rounds_succ]
   go_wp2
   go_ret
   exact ⟨by rw [HS.out]; rfl, hB⟩
set_option maxRecDepth 100000 in
set_option maxHeartbeats 40000000 in
theorem rWrite3 (es : List En) (pv ev : Value) (w : World) (hp : IsParts w pv []) (he : IsEntries w ev es) (hf : fitN ⟨3, ⟨#[]⟩, [], es⟩ = true) :
  Calls Tryz.prog 43 #[ndV ⟨3, ⟨#[]⟩, [], es⟩ pv ev] w fun e w' => e = .returned (.string ⟨(wrL ⟨3, ⟨#[]⟩, [], es⟩).toArray⟩) ∧ Below w.heap.size w w' := by
 have RF := Lib.hid (rFit_any ⟨3, ⟨#[]⟩, [], es⟩ pv ev)
 have HP := Lib.hid hp; have HE := Lib.hid he; have HF := Lib.hid hf
 obtain ⟨_, a1, cap1, hv1, _, _⟩ := hp
 obtain ⟨_, a2, cap2, hv2, _, _⟩ := he
 subst hv1 hv2
 clear hf
 have hpl : es.length ≤ 60 := (fit3 rfl HF.out).2.2.1
 have HOK := Lib.hid (fitDir_iff.1 (fit3 rfl HF.out).2.2.2).1
 have hu : U64 es.length := by unfold U64; omega
 have RP0 := Lib.hid (refPut_any es.length hu)
 have hvl := vput_len es.length
 have hsum : ¬ 9223372036854775807 < 1 + (vput es.length).length := by omega
 go_enter Tryz.func43, Tryz.ntmps43
 go_wp2_with fail
 refine (RF.out _ (HP.out.stays ((Below.refl _ _).alloc (Nat.le_refl _) _)) (HE.out.stays ((Below.refl _ _).alloc (Nat.le_refl _) _))).mono ?_
 rintro e w1 ⟨rfl, hb1⟩
 have HB0 : Hid (Below w.heap.size w (w.alloc (.cells #[.int .i64 3, .string ⟨#[]⟩, .slice a1 0 cap1, .slice a2 es.length cap2] 44))) := (Below.refl _ _).alloc (Nat.le_refl _) _
 have HBX : Hid (NdBox (w.alloc (.cells #[.int .i64 3, .string ⟨#[]⟩, .slice a1 0 cap1, .slice a2 es.length cap2] 44)) w.heap.size ⟨3, ⟨#[]⟩, [], es⟩ (.slice a1 0 cap1) (.slice a2 es.length cap2)) := ndBox_new w ⟨3, ⟨#[]⟩, [], es⟩ _ _ _
 have HB1 := Lib.hid (below_step HB0.out hb1)
 have HX1 := Lib.hid (HBX.out.stays hb1)
 have HP1 := Lib.hid (HP.out.stays HB1.out); have HE1 := Lib.hid (HE.out.stays HB1.out)
 clear HB0 HBX hb1
 rw [HF.out]
 obtain ⟨B, hB⟩ : ∃ B, B = w.heap.size := ⟨_, rfl⟩
 rw [← hB] at HX1 ⊢
 have HBE := Lib.hid hB; clear hB
 obtain ⟨qk, qd, qp, qe⟩ := HX1.out.cells
 simp only at qk qd qp qe
 have HC : (convert 83 9 (.slice (some ⟨w1.heap.size, 0, none⟩) 1 1)).run Tryz.prog (w1.alloc (.cells #[.int .u8 3] 5)) = .ok (.string ⟨#[3]⟩) (w1.alloc (.cells #[.int .u8 3] 5)) := conv_byte 3 w1 1
 have hz1 := HX1.out.2
 go_wp2
 refine wp_loop_rounds 1 ?_
 rw [rounds_succ]
 go_wp2_with fail
 refine (RP0.out _).mono ?_
 rintro e w2 ⟨rfl, hb2⟩
 have hb0 := (Below.refl w1.heap.size w1).alloc (Nat.le_refl _) (.cells #[.int .u8 3] 5)
 have hb3 := below_step hb0 hb2
 have HB2 := Lib.hid (below_step HB1.out hb3)
 have HX2 := Lib.hid (HX1.out.stays hb3)
 clear hb0 hb2 hb3 HC
 replace HX1 := HX2
 clear qk qd qp qe
 obtain ⟨qk, qd, qp, qe⟩ := HX2.out.cells
 simp only at qk qd qp qe
 have hz2 := HX2.out.2
 go_wp2
 obtain ⟨S0, hS0⟩ := ex_str ([3] ++ vput es.length)
 go_loopw [3, 5] (fun s i wr => ∃ (k : Nat) (S : ByteArray), k ≤ es.length ∧ i = .int .i64 k ∧ s = .string S ∧ S.data.toList = [3] ++ vput es.length ++ esB (es.take k) ∧ Below w.heap.size w wr ∧ NdBox wr B ⟨3, ⟨#[]⟩, [], es⟩ (.slice a1 0 cap1) (.slice a2 es.length cap2)) (fun _ i _ => es.length - (intOf i).toNat)
 case atStart => exact ⟨0, S0, Nat.zero_le _, rfl, by rw [hS0.1]; exact congrArg Value.string (str_eq' (by rw [bytes_app, bytes_app]; rfl)), by rw [hS0.2, List.take_zero]; exact (List.append_nil _).symm, HB2.out, HX2.out⟩
 case round =>
  clear qk qd qp qe hz1 HX2 HX1 HP1 HE1
  obtain ⟨k, S, hk, rfl, rfl, hS, hB, hX⟩ := hrel
  have HSL := Lib.hid hS; clear hS
  have HXX := Lib.hid hX; clear hX
  obtain ⟨qk, qd, qp, qe⟩ := HXX.out.cells
  simp only at qk qd qp qe
  have hsz := hB.size
  have hSs : S.size ≤ 60000 := by
   have h1 := Lib.size_eq S; rw [HSL.out, List.length_append, List.length_append] at h1
   have h2 := esB_take HOK.out k hpl; have h3 := vput_len es.length
   simp at h1; omega
  by_cases hlt : k < es.length
  ·obtain ⟨_, _, _, e, _, hc⟩ := HE.out.stays hB
   cases e
   obtain ⟨b, off, rfl, hbl, g⟩ := hc (by omega)
   obtain ⟨c0, c1, c2, c3⟩ := g k hlt
   clear g hc
   have hbk : decide ((k : Int) < (es.length : Int)) = true := by simpa using (show (k : Int) < es.length by omega)
   have HST := Lib.hid (esB_step hlt)
   have hx := okEn_iff.1 (HOK.out _ (List.getElem_mem hlt))
   obtain ⟨x, hxe⟩ : ∃ x, x = es[k] := ⟨_, rfl⟩
   rw [← hxe] at c0 c1 c2 c3 HST hx
   clear hxe
   obtain ⟨hx1, hx2, hx3⟩ := hx
   have hm31 := (nameB_iff.1 hx1).2.1
   have hms : x.m.size ≤ 31 := by rw [Lib.size_eq]; exact hm31
   obtain ⟨P, hP1, hP2⟩ := ex_str (vputText x.m.data.toList)
   have PT := Lib.hid (refPutText_any x.m (by unfold maxLen; omega))
   rw [← hP1] at PT
   have hPs : P.size ≤ 60 := by rw [Lib.size_eq, hP2]; have := vputText_len (l := x.m.data.toList); omega
   have HPL := Lib.hid hP2; have HK := Lib.hid hx2
   have hs1 : ¬ 9223372036854775807 < S.size + P.size := by omega
   have hs2 : ¬ 9223372036854775807 < S.size + P.size + 1 := by omega
   have hs3 : ¬ 9223372036854775807 < S.size + P.size + 1 + x.k.size := by omega
   clear hP1 hP2 hx1 hx2 hm31 hms
   rcases hx3 with hkd | ⟨hkd, hxx⟩
   ·rcases hxx : x.x with _ | _
    ·
     have HCE : Hid (enK x = 2) := show _ = _ by unfold enK; rw [hkd, hxx]; rfl
     rw [hkd] at c1; rw [hxx] at c2
     obtain ⟨c, hc⟩ : ∃ c : UInt8, c = 2 := ⟨_, rfl⟩
     have HCC := Lib.hid hc
     have hcn : (2 : Int) = (c.toNat : Int) := by rw [hc]; rfl
     have HCN := Lib.hid hcn
     clear hkd hxx hc hcn
     go_wp2_with fail
     obtain ⟨W4, hV⟩ : ∃ W4, W4 = wr.alloc (.cells #[.string x.m, .int .i64 2, .bool false, .string x.k] 78) := ⟨_, rfl⟩
     have hbV : Below wr.heap.size wr W4 := by rw [hV]; exact (Below.refl _ _).alloc (Nat.le_refl _) _
     have HX : Hid (EnAt W4 wr.heap.size 0 ⟨x.m, 2, false, x.k⟩) := Lib.hid (by rw [hV]; exact ⟨by simp, by simp, by simp, by simp⟩)
     have HEB : Hid (wr.heap.size < W4.heap.size) := Lib.hid (by rw [hV]; simp)
     obtain ⟨eb, heb⟩ : ∃ eb, eb = wr.heap.size := ⟨_, rfl⟩
     rw [← hV]
     rw [← heb] at HX HEB ⊢
     have HBV := Lib.hid (below_step hB hbV)
     have HXV := Lib.hid (HXX.out.stays hbV)
     clear hV hbV heb c0 c1 c2 c3 qk qd qp qe hB HXX
     refine wp_region_wordsG (by kernel_rfl) (by kernel_rfl) allT (HeldN W4) nwrE (nwrU W4 eb x S P c (2 : Int)) 13 nwrN [12] (by kernel_rfl) (by kernel_rfl) (by kernel_rfl)
      nwrB (by kernel_rfl) (fun ix kx v e w w' hi hk hne hb hU hT => nwr_T _ _ _ _ _ _ _  ix kx v e w w' hk hne hb hU hT) (by decide) (HeldN.drew _) (fun k hk hge => absurd hk (Nat.not_lt.2 (show 13 ≤ k from hge)))
      [82, 83, 84, 85, 86, 87, 88, 89, 90, 91, 92, 93, 3] (by kernel_rfl) (forall_ops ?steps) ?behind
     case steps =>
      refine ⟨?_, ?_, ?_, ?_, ?_, ?_, ?_, ?_, ?_, ?_, ?_, ?_, ?_, trivial⟩
      ·refine stepG_of rfl ?_
       exact stepR_value (t := 82) (.string S) rfl (fun _ => Below.refl _ _) (fun ac w hG hN hO => by
        have e3 : slot ac 3 = .string S := hO 3 (by kernel_rfl)
        exact run_move_slot (.inl rfl) e3) (fun ac w hG hN => rfl)
      ·refine stepG_of rfl ?_
       exact stepR_value (t := 83) (.pointer (some ⟨eb, 0, none⟩)) rfl (fun _ => Below.refl _ _) (fun ac w hG hN hO => by
        have e6 : slot ac 6 = .pointer (some ⟨eb, 0, none⟩) := hO 6 (by kernel_rfl)
        have f6 := slot_at e6
        unfold execOp; go_simp) (fun ac w hG hN => rfl)
      ·refine stepG_of rfl ?_
       exact stepR_value (t := 84) (.string x.m) rfl (fun _ => Below.refl _ _) (fun ac w hG hN hO => by
        have e83 : slot ac 83 = .pointer (some ⟨eb, 0, none⟩) := hN 1 (by decide)
        have q0 := (hG.below.cell (p := ⟨eb, 0, none⟩) HEB.out).trans HX.out.1
        have q3 := (hG.below.cell (p := ⟨eb, 3, none⟩) HEB.out).trans HX.out.2.2.2
        simp only at q0 q3
        have f83 := slot_at e83
        unfold execOp; go_simp) (fun ac w hG hN => rfl)
      ·refine stepG_of rfl ?_
       intro ac w hG hN hO
       have e84 : slot ac 84 = .string x.m := hN 2 (by decide)
       refine wp_callx 72 _ _ rfl (enters_of Tryz.func72 (by kernel_rfl) rfl) #[.string x.m] (by simp [eval_slot, e84]) (calls_valN (PT.out w)) ?_
       rintro v w'' ⟨hv, hb⟩
       exact ⟨v, rfl, hb, hG.on hb, hv⟩
      ·refine stepG_of rfl ?_
       exact stepR_value (t := 86) (.string (S ++ P)) rfl (fun _ => Below.refl _ _) (fun ac w hG hN hO => by
        have e82 : slot ac 82 = .string S := hN 0 (by decide)
        have e85 : slot ac 85 = .string P := hN 3 (by decide)
        have f82 := slot_at e82
        have f85 := slot_at e85
        unfold execOp; go_simp) (fun ac w hG hN => rfl)
      ·refine stepG_of rfl ?_
       exact stepR_value (t := 87) (.int .u8 (2 : Int)) rfl (fun _ => Below.refl _ _) (fun ac w hG hN hO => by
        have e7 : slot ac 7 = .int .u8 (2 : Int) := hO 7 (by kernel_rfl)
        exact run_move_slot (.inl rfl) e7) (fun ac w hG hN => rfl)
      ·refine stepG_of rfl ?_
       intro ac w hG hN hO
       have e87 : slot ac 87 = .int .u8 (2 : Int) := hN 5 (by decide)
       refine wp_build_byte 87 rfl (e87.trans (congrArg (Value.int .u8) HCN.out)) ?_
       exact ⟨_, rfl, (Below.refl _ _).alloc (Nat.le_refl _) _, hG.on ((Below.refl _ _).alloc (Nat.le_refl _) _), oneB_new w c⟩
      ·refine stepG_of rfl ?_
       intro ac w hG hN hO
       have e88 : OneB w (slot ac 88) c := hN 6 (by decide)
       refine wp_value (v := .string ⟨#[c]⟩) (w' := w) ?_ ⟨_, rfl, Below.refl _ _, hG, rfl⟩
       obtain ⟨u, hu⟩ : ∃ u, u = slot ac 88 := ⟨_, rfl⟩
       rw [← hu] at e88
       have f88 := slot_at hu.symm
       have hcv := e88.conv
       clear hu
       unfold execOp; go_simp
      ·refine stepG_of rfl ?_
       exact stepR_value (t := 90) (.string (S ++ P ++ (⟨#[c]⟩ : ByteArray))) rfl (fun _ => Below.refl _ _) (fun ac w hG hN hO => by
        have e86 : slot ac 86 = .string (S ++ P) := hN 4 (by decide)
        have e89 : slot ac 89 = .string (⟨#[c]⟩ : ByteArray) := hN 7 (by decide)
        have f86 := slot_at e86
        have f89 := slot_at e89
        unfold execOp; go_simp) (fun ac w hG hN => rfl)
      ·refine stepG_of rfl ?_
       exact stepR_value (t := 91) (.pointer (some ⟨eb, 3, none⟩)) rfl (fun _ => Below.refl _ _) (fun ac w hG hN hO => by
        have e6 : slot ac 6 = .pointer (some ⟨eb, 0, none⟩) := hO 6 (by kernel_rfl)
        have f6 := slot_at e6
        unfold execOp; go_simp) (fun ac w hG hN => rfl)
      ·refine stepG_of rfl ?_
       exact stepR_value (t := 92) (.string x.k) rfl (fun _ => Below.refl _ _) (fun ac w hG hN hO => by
        have e91 : slot ac 91 = .pointer (some ⟨eb, 3, none⟩) := hN 9 (by decide)
        have q0 := (hG.below.cell (p := ⟨eb, 0, none⟩) HEB.out).trans HX.out.1
        have q3 := (hG.below.cell (p := ⟨eb, 3, none⟩) HEB.out).trans HX.out.2.2.2
        simp only at q0 q3
        have f91 := slot_at e91
        unfold execOp; go_simp) (fun ac w hG hN => rfl)
      ·refine stepG_of rfl ?_
       exact stepR_value (t := 93) (.string (S ++ P ++ (⟨#[c]⟩ : ByteArray) ++ x.k)) rfl (fun _ => Below.refl _ _) (fun ac w hG hN hO => by
        have e90 : slot ac 90 = .string (S ++ P ++ (⟨#[c]⟩ : ByteArray)) := hN 8 (by decide)
        have e92 : slot ac 92 = .string x.k := hN 10 (by decide)
        have f90 := slot_at e90
        have f92 := slot_at e92
        unfold execOp; go_simp) (fun ac w hG hN => rfl)
      ·refine stepG_of rfl ?_
       exact stepR_value (t := 3) (.string (S ++ P ++ (⟨#[c]⟩ : ByteArray) ++ x.k)) rfl (fun _ => Below.refl _ _) (fun ac w hG hN hO => by
        have e93 : slot ac 93 = .string (S ++ P ++ (⟨#[c]⟩ : ByteArray) ++ x.k) := hN 11 (by decide)
        exact run_move_slot (.inr rfl) e93) (fun ac w hG hN => rfl)
     case behind =>
      intro ac w5 hG hV hS ha
      have h12 : slot ac 3 = .string (S ++ P ++ (⟨#[c]⟩ : ByteArray) ++ x.k) := hV 12 (by decide) (by decide)
      generalize slot ac = sl at ha h12
      subst ha
      simp only [patchL, List.contains_cons, List.contains_nil, Nat.reduceBEq, Bool.or_false, Bool.or_true, if_true, Bool.false_eq_true, if_false, Nat.reduceAdd]
      generalize sl 82 = s82
      generalize sl 83 = s83
      generalize sl 84 = s84
      generalize sl 85 = s85
      generalize sl 86 = s86
      generalize sl 87 = s87
      generalize sl 88 = s88
      generalize sl 89 = s89
      generalize sl 90 = s90
      generalize sl 91 = s91
      generalize sl 92 = s92
      generalize sl 93 = s93
      generalize sl 3 = s3 at h12 ⊢
      subst h12
      clear hV hS
      have HBQ := Lib.hid (below_step HBV.out hG.below)
      have HXQ := Lib.hid (HXV.out.stays hG.below)
      clear hG
      go_wp2
      go_roundw
      case rel => exact ⟨k + 1, _, by omega, by go_num, rfl, by rw [bytes_app, bytes_app, bytes_app, HSL.out, HST.out, enB, HPL.out, HCE.out, HCC.out]; simp [List.append_assoc], HBQ.out, HXQ.out⟩
      case measure => simp [intOf]; omega
    ·
     have HCE : Hid (enK x = 6) := show _ = _ by unfold enK; rw [hkd, hxx]; rfl
     rw [hkd] at c1; rw [hxx] at c2
     obtain ⟨c, hc⟩ : ∃ c : UInt8, c = 6 := ⟨_, rfl⟩
     have HCC := Lib.hid hc
     have hcn : (6 : Int) = (c.toNat : Int) := by rw [hc]; rfl
     have HCN := Lib.hid hcn
     clear hkd hxx hc hcn
     go_wp2_with fail
     obtain ⟨W4, hV⟩ : ∃ W4, W4 = wr.alloc (.cells #[.string x.m, .int .i64 2, .bool true, .string x.k] 78) := ⟨_, rfl⟩
     have hbV : Below wr.heap.size wr W4 := by rw [hV]; exact (Below.refl _ _).alloc (Nat.le_refl _) _
     have HX : Hid (EnAt W4 wr.heap.size 0 ⟨x.m, 2, true, x.k⟩) := Lib.hid (by rw [hV]; exact ⟨by simp, by simp, by simp, by simp⟩)
     have HEB : Hid (wr.heap.size < W4.heap.size) := Lib.hid (by rw [hV]; simp)
     obtain ⟨eb, heb⟩ : ∃ eb, eb = wr.heap.size := ⟨_, rfl⟩
     rw [← hV]
     rw [← heb] at HX HEB ⊢
     have HBV := Lib.hid (below_step hB hbV)
     have HXV := Lib.hid (HXX.out.stays hbV)
     clear hV hbV heb c0 c1 c2 c3 qk qd qp qe hB HXX
     refine wp_region_wordsG (by kernel_rfl) (by kernel_rfl) allT (HeldN W4) nwrE (nwrU W4 eb x S P c (6 : Int)) 13 nwrN [12] (by kernel_rfl) (by kernel_rfl) (by kernel_rfl)
      nwrB (by kernel_rfl) (fun ix kx v e w w' hi hk hne hb hU hT => nwr_T _ _ _ _ _ _ _  ix kx v e w w' hk hne hb hU hT) (by decide) (HeldN.drew _) (fun k hk hge => absurd hk (Nat.not_lt.2 (show 13 ≤ k from hge)))
      [82, 83, 84, 85, 86, 87, 88, 89, 90, 91, 92, 93, 3] (by kernel_rfl) (forall_ops ?steps) ?behind
     case steps =>
      refine ⟨?_, ?_, ?_, ?_, ?_, ?_, ?_, ?_, ?_, ?_, ?_, ?_, ?_, trivial⟩
      ·refine stepG_of rfl ?_
       exact stepR_value (t := 82) (.string S) rfl (fun _ => Below.refl _ _) (fun ac w hG hN hO => by
        have e3 : slot ac 3 = .string S := hO 3 (by kernel_rfl)
        exact run_move_slot (.inl rfl) e3) (fun ac w hG hN => rfl)
      ·refine stepG_of rfl ?_
       exact stepR_value (t := 83) (.pointer (some ⟨eb, 0, none⟩)) rfl (fun _ => Below.refl _ _) (fun ac w hG hN hO => by
        have e6 : slot ac 6 = .pointer (some ⟨eb, 0, none⟩) := hO 6 (by kernel_rfl)
        have f6 := slot_at e6
        unfold execOp; go_simp) (fun ac w hG hN => rfl)
      ·refine stepG_of rfl ?_
       exact stepR_value (t := 84) (.string x.m) rfl (fun _ => Below.refl _ _) (fun ac w hG hN hO => by
        have e83 : slot ac 83 = .pointer (some ⟨eb, 0, none⟩) := hN 1 (by decide)
        have q0 := (hG.below.cell (p := ⟨eb, 0, none⟩) HEB.out).trans HX.out.1
        have q3 := (hG.below.cell (p := ⟨eb, 3, none⟩) HEB.out).trans HX.out.2.2.2
        simp only at q0 q3
        have f83 := slot_at e83
        unfold execOp; go_simp) (fun ac w hG hN => rfl)
      ·refine stepG_of rfl ?_
       intro ac w hG hN hO
       have e84 : slot ac 84 = .string x.m := hN 2 (by decide)
       refine wp_callx 72 _ _ rfl (enters_of Tryz.func72 (by kernel_rfl) rfl) #[.string x.m] (by simp [eval_slot, e84]) (calls_valN (PT.out w)) ?_
       rintro v w'' ⟨hv, hb⟩
       exact ⟨v, rfl, hb, hG.on hb, hv⟩
      ·refine stepG_of rfl ?_
       exact stepR_value (t := 86) (.string (S ++ P)) rfl (fun _ => Below.refl _ _) (fun ac w hG hN hO => by
        have e82 : slot ac 82 = .string S := hN 0 (by decide)
        have e85 : slot ac 85 = .string P := hN 3 (by decide)
        have f82 := slot_at e82
        have f85 := slot_at e85
        unfold execOp; go_simp) (fun ac w hG hN => rfl)
      ·refine stepG_of rfl ?_
       exact stepR_value (t := 87) (.int .u8 (6 : Int)) rfl (fun _ => Below.refl _ _) (fun ac w hG hN hO => by
        have e7 : slot ac 7 = .int .u8 (6 : Int) := hO 7 (by kernel_rfl)
        exact run_move_slot (.inl rfl) e7) (fun ac w hG hN => rfl)
      ·refine stepG_of rfl ?_
       intro ac w hG hN hO
       have e87 : slot ac 87 = .int .u8 (6 : Int) := hN 5 (by decide)
       refine wp_build_byte 87 rfl (e87.trans (congrArg (Value.int .u8) HCN.out)) ?_
       exact ⟨_, rfl, (Below.refl _ _).alloc (Nat.le_refl _) _, hG.on ((Below.refl _ _).alloc (Nat.le_refl _) _), oneB_new w c⟩
      ·refine stepG_of rfl ?_
       intro ac w hG hN hO
       have e88 : OneB w (slot ac 88) c := hN 6 (by decide)
       refine wp_value (v := .string ⟨#[c]⟩) (w' := w) ?_ ⟨_, rfl, Below.refl _ _, hG, rfl⟩
       obtain ⟨u, hu⟩ : ∃ u, u = slot ac 88 := ⟨_, rfl⟩
       rw [← hu] at e88
       have f88 := slot_at hu.symm
       have hcv := e88.conv
       clear hu
       unfold execOp; go_simp
      ·refine stepG_of rfl ?_
       exact stepR_value (t := 90) (.string (S ++ P ++ (⟨#[c]⟩ : ByteArray))) rfl (fun _ => Below.refl _ _) (fun ac w hG hN hO => by
        have e86 : slot ac 86 = .string (S ++ P) := hN 4 (by decide)
        have e89 : slot ac 89 = .string (⟨#[c]⟩ : ByteArray) := hN 7 (by decide)
        have f86 := slot_at e86
        have f89 := slot_at e89
        unfold execOp; go_simp) (fun ac w hG hN => rfl)
      ·refine stepG_of rfl ?_
       exact stepR_value (t := 91) (.pointer (some ⟨eb, 3, none⟩)) rfl (fun _ => Below.refl _ _) (fun ac w hG hN hO => by
        have e6 : slot ac 6 = .pointer (some ⟨eb, 0, none⟩) := hO 6 (by kernel_rfl)
        have f6 := slot_at e6
        unfold execOp; go_simp) (fun ac w hG hN => rfl)
      ·refine stepG_of rfl ?_
       exact stepR_value (t := 92) (.string x.k) rfl (fun _ => Below.refl _ _) (fun ac w hG hN hO => by
        have e91 : slot ac 91 = .pointer (some ⟨eb, 3, none⟩) := hN 9 (by decide)
        have q0 := (hG.below.cell (p := ⟨eb, 0, none⟩) HEB.out).trans HX.out.1
        have q3 := (hG.below.cell (p := ⟨eb, 3, none⟩) HEB.out).trans HX.out.2.2.2
        simp only at q0 q3
        have f91 := slot_at e91
        unfold execOp; go_simp) (fun ac w hG hN => rfl)
      ·refine stepG_of rfl ?_
       exact stepR_value (t := 93) (.string (S ++ P ++ (⟨#[c]⟩ : ByteArray) ++ x.k)) rfl (fun _ => Below.refl _ _) (fun ac w hG hN hO => by
        have e90 : slot ac 90 = .string (S ++ P ++ (⟨#[c]⟩ : ByteArray)) := hN 8 (by decide)
        have e92 : slot ac 92 = .string x.k := hN 10 (by decide)
        have f90 := slot_at e90
        have f92 := slot_at e92
        unfold execOp; go_simp) (fun ac w hG hN => rfl)
      ·refine stepG_of rfl ?_
       exact stepR_value (t := 3) (.string (S ++ P ++ (⟨#[c]⟩ : ByteArray) ++ x.k)) rfl (fun _ => Below.refl _ _) (fun ac w hG hN hO => by
        have e93 : slot ac 93 = .string (S ++ P ++ (⟨#[c]⟩ : ByteArray) ++ x.k) := hN 11 (by decide)
        exact run_move_slot (.inr rfl) e93) (fun ac w hG hN => rfl)
     case behind =>
      intro ac w5 hG hV hS ha
      have h12 : slot ac 3 = .string (S ++ P ++ (⟨#[c]⟩ : ByteArray) ++ x.k) := hV 12 (by decide) (by decide)
      generalize slot ac = sl at ha h12
      subst ha
      simp only [patchL, List.contains_cons, List.contains_nil, Nat.reduceBEq, Bool.or_false, Bool.or_true, if_true, Bool.false_eq_true, if_false, Nat.reduceAdd]
      generalize sl 82 = s82
      generalize sl 83 = s83
      generalize sl 84 = s84
      generalize sl 85 = s85
      generalize sl 86 = s86
      generalize sl 87 = s87
      generalize sl 88 = s88
      generalize sl 89 = s89
      generalize sl 90 = s90
      generalize sl 91 = s91
      generalize sl 92 = s92
      generalize sl 93 = s93
      generalize sl 3 = s3 at h12 ⊢
      subst h12
      clear hV hS
      have HBQ := Lib.hid (below_step HBV.out hG.below)
      have HXQ := Lib.hid (HXV.out.stays hG.below)
      clear hG
      go_wp2
      go_roundw
      case rel => exact ⟨k + 1, _, by omega, by go_num, rfl, by rw [bytes_app, bytes_app, bytes_app, HSL.out, HST.out, enB, HPL.out, HCE.out, HCC.out]; simp [List.append_assoc], HBQ.out, HXQ.out⟩
      case measure => simp [intOf]; omega
   ·
    have HCE : Hid (enK x = 3) := show _ = _ by unfold enK; rw [hkd, hxx]; rfl
    rw [hkd] at c1; rw [hxx] at c2
    obtain ⟨c, hc⟩ : ∃ c : UInt8, c = 3 := ⟨_, rfl⟩
    have HCC := Lib.hid hc
    have hcn : (3 : Int) = (c.toNat : Int) := by rw [hc]; rfl
    have HCN := Lib.hid hcn
    clear hkd hxx hc hcn
    go_wp2_with fail
    obtain ⟨W4, hV⟩ : ∃ W4, W4 = wr.alloc (.cells #[.string x.m, .int .i64 3, .bool false, .string x.k] 78) := ⟨_, rfl⟩
    have hbV : Below wr.heap.size wr W4 := by rw [hV]; exact (Below.refl _ _).alloc (Nat.le_refl _) _
    have HX : Hid (EnAt W4 wr.heap.size 0 ⟨x.m, 3, false, x.k⟩) := Lib.hid (by rw [hV]; exact ⟨by simp, by simp, by simp, by simp⟩)
    have HEB : Hid (wr.heap.size < W4.heap.size) := Lib.hid (by rw [hV]; simp)
    obtain ⟨eb, heb⟩ : ∃ eb, eb = wr.heap.size := ⟨_, rfl⟩
    rw [← hV]
    rw [← heb] at HX HEB ⊢
    have HBV := Lib.hid (below_step hB hbV)
    have HXV := Lib.hid (HXX.out.stays hbV)
    clear hV hbV heb c0 c1 c2 c3 qk qd qp qe hB HXX
    refine wp_region_wordsG (by kernel_rfl) (by kernel_rfl) allT (HeldN W4) nwrE (nwrU W4 eb x S P c (3 : Int)) 13 nwrN [12] (by kernel_rfl) (by kernel_rfl) (by kernel_rfl)
     nwrB (by kernel_rfl) (fun ix kx v e w w' hi hk hne hb hU hT => nwr_T _ _ _ _ _ _ _  ix kx v e w w' hk hne hb hU hT) (by decide) (HeldN.drew _) (fun k hk hge => absurd hk (Nat.not_lt.2 (show 13 ≤ k from hge)))
     [82, 83, 84, 85, 86, 87, 88, 89, 90, 91, 92, 93, 3] (by kernel_rfl) (forall_ops ?steps) ?behind
    case steps =>
     refine ⟨?_, ?_, ?_, ?_, ?_, ?_, ?_, ?_, ?_, ?_, ?_, ?_, ?_, trivial⟩
     ·refine stepG_of rfl ?_
      exact stepR_value (t := 82) (.string S) rfl (fun _ => Below.refl _ _) (fun ac w hG hN hO => by
       have e3 : slot ac 3 = .string S := hO 3 (by kernel_rfl)
       exact run_move_slot (.inl rfl) e3) (fun ac w hG hN => rfl)
     ·refine stepG_of rfl ?_
      exact stepR_value (t := 83) (.pointer (some ⟨eb, 0, none⟩)) rfl (fun _ => Below.refl _ _) (fun ac w hG hN hO => by
       have e6 : slot ac 6 = .pointer (some ⟨eb, 0, none⟩) := hO 6 (by kernel_rfl)
       have f6 := slot_at e6
       unfold execOp; go_simp) (fun ac w hG hN => rfl)
     ·refine stepG_of rfl ?_
      exact stepR_value (t := 84) (.string x.m) rfl (fun _ => Below.refl _ _) (fun ac w hG hN hO => by
       have e83 : slot ac 83 = .pointer (some ⟨eb, 0, none⟩) := hN 1 (by decide)
       have q0 := (hG.below.cell (p := ⟨eb, 0, none⟩) HEB.out).trans HX.out.1
       have q3 := (hG.below.cell (p := ⟨eb, 3, none⟩) HEB.out).trans HX.out.2.2.2
       simp only at q0 q3
       have f83 := slot_at e83
       unfold execOp; go_simp) (fun ac w hG hN => rfl)
     ·refine stepG_of rfl ?_
      intro ac w hG hN hO
      have e84 : slot ac 84 = .string x.m := hN 2 (by decide)
      refine wp_callx 72 _ _ rfl (enters_of Tryz.func72 (by kernel_rfl) rfl) #[.string x.m] (by simp [eval_slot, e84]) (calls_valN (PT.out w)) ?_
      rintro v w'' ⟨hv, hb⟩
      exact ⟨v, rfl, hb, hG.on hb, hv⟩
     ·refine stepG_of rfl ?_
      exact stepR_value (t := 86) (.string (S ++ P)) rfl (fun _ => Below.refl _ _) (fun ac w hG hN hO => by
       have e82 : slot ac 82 = .string S := hN 0 (by decide)
       have e85 : slot ac 85 = .string P := hN 3 (by decide)
       have f82 := slot_at e82
       have f85 := slot_at e85
       unfold execOp; go_simp) (fun ac w hG hN => rfl)
     ·refine stepG_of rfl ?_
      exact stepR_value (t := 87) (.int .u8 (3 : Int)) rfl (fun _ => Below.refl _ _) (fun ac w hG hN hO => by
       have e7 : slot ac 7 = .int .u8 (3 : Int) := hO 7 (by kernel_rfl)
       exact run_move_slot (.inl rfl) e7) (fun ac w hG hN => rfl)
     ·refine stepG_of rfl ?_
      intro ac w hG hN hO
      have e87 : slot ac 87 = .int .u8 (3 : Int) := hN 5 (by decide)
      refine wp_build_byte 87 rfl (e87.trans (congrArg (Value.int .u8) HCN.out)) ?_
      exact ⟨_, rfl, (Below.refl _ _).alloc (Nat.le_refl _) _, hG.on ((Below.refl _ _).alloc (Nat.le_refl _) _), oneB_new w c⟩
     ·refine stepG_of rfl ?_
      intro ac w hG hN hO
      have e88 : OneB w (slot ac 88) c := hN 6 (by decide)
      refine wp_value (v := .string ⟨#[c]⟩) (w' := w) ?_ ⟨_, rfl, Below.refl _ _, hG, rfl⟩
      obtain ⟨u, hu⟩ : ∃ u, u = slot ac 88 := ⟨_, rfl⟩
      rw [← hu] at e88
      have f88 := slot_at hu.symm
      have hcv := e88.conv
      clear hu
      unfold execOp; go_simp
     ·refine stepG_of rfl ?_
      exact stepR_value (t := 90) (.string (S ++ P ++ (⟨#[c]⟩ : ByteArray))) rfl (fun _ => Below.refl _ _) (fun ac w hG hN hO => by
       have e86 : slot ac 86 = .string (S ++ P) := hN 4 (by decide)
       have e89 : slot ac 89 = .string (⟨#[c]⟩ : ByteArray) := hN 7 (by decide)
       have f86 := slot_at e86
       have f89 := slot_at e89
       unfold execOp; go_simp) (fun ac w hG hN => rfl)
     ·refine stepG_of rfl ?_
      exact stepR_value (t := 91) (.pointer (some ⟨eb, 3, none⟩)) rfl (fun _ => Below.refl _ _) (fun ac w hG hN hO => by
       have e6 : slot ac 6 = .pointer (some ⟨eb, 0, none⟩) := hO 6 (by kernel_rfl)
       have f6 := slot_at e6
       unfold execOp; go_simp) (fun ac w hG hN => rfl)
     ·refine stepG_of rfl ?_
      exact stepR_value (t := 92) (.string x.k) rfl (fun _ => Below.refl _ _) (fun ac w hG hN hO => by
       have e91 : slot ac 91 = .pointer (some ⟨eb, 3, none⟩) := hN 9 (by decide)
       have q0 := (hG.below.cell (p := ⟨eb, 0, none⟩) HEB.out).trans HX.out.1
       have q3 := (hG.below.cell (p := ⟨eb, 3, none⟩) HEB.out).trans HX.out.2.2.2
       simp only at q0 q3
       have f91 := slot_at e91
       unfold execOp; go_simp) (fun ac w hG hN => rfl)
     ·refine stepG_of rfl ?_
      exact stepR_value (t := 93) (.string (S ++ P ++ (⟨#[c]⟩ : ByteArray) ++ x.k)) rfl (fun _ => Below.refl _ _) (fun ac w hG hN hO => by
       have e90 : slot ac 90 = .string (S ++ P ++ (⟨#[c]⟩ : ByteArray)) := hN 8 (by decide)
       have e92 : slot ac 92 = .string x.k := hN 10 (by decide)
       have f90 := slot_at e90
       have f92 := slot_at e92
       unfold execOp; go_simp) (fun ac w hG hN => rfl)
     ·refine stepG_of rfl ?_
      exact stepR_value (t := 3) (.string (S ++ P ++ (⟨#[c]⟩ : ByteArray) ++ x.k)) rfl (fun _ => Below.refl _ _) (fun ac w hG hN hO => by
       have e93 : slot ac 93 = .string (S ++ P ++ (⟨#[c]⟩ : ByteArray) ++ x.k) := hN 11 (by decide)
       exact run_move_slot (.inr rfl) e93) (fun ac w hG hN => rfl)
    case behind =>
     intro ac w5 hG hV hS ha
     have h12 : slot ac 3 = .string (S ++ P ++ (⟨#[c]⟩ : ByteArray) ++ x.k) := hV 12 (by decide) (by decide)
     generalize slot ac = sl at ha h12
     subst ha
     simp only [patchL, List.contains_cons, List.contains_nil, Nat.reduceBEq, Bool.or_false, Bool.or_true, if_true, Bool.false_eq_true, if_false, Nat.reduceAdd]
     generalize sl 82 = s82
     generalize sl 83 = s83
     generalize sl 84 = s84
     generalize sl 85 = s85
     generalize sl 86 = s86
     generalize sl 87 = s87
     generalize sl 88 = s88
     generalize sl 89 = s89
     generalize sl 90 = s90
     generalize sl 91 = s91
     generalize sl 92 = s92
     generalize sl 93 = s93
     generalize sl 3 = s3 at h12 ⊢
     subst h12
     clear hV hS
     have HBQ := Lib.hid (below_step HBV.out hG.below)
     have HXQ := Lib.hid (HXV.out.stays hG.below)
     clear hG
     go_wp2
     go_roundw
     case rel => exact ⟨k + 1, _, by omega, by go_num, rfl, by rw [bytes_app, bytes_app, bytes_app, HSL.out, HST.out, enB, HPL.out, HCE.out, HCC.out]; simp [List.append_assoc], HBQ.out, HXQ.out⟩
     case measure => simp [intOf]; omega
  ·have HS := Lib.hid (show S = ⟨(wrL ⟨3, ⟨#[]⟩, [], es⟩).toArray⟩ from str_list (by
    rw [HSL.out, List.take_of_length_le (by omega)]; unfold wrL; rw [body_dir rfl]; rfl))
   go_wp2
   go_ret
   exact ⟨by rw [HS.out]; rfl, hB⟩
end Go.Proofs.YtlccihidedfemaaGreatDoor

/-
  Contracts over this translation: node's partBytes, entryBytes, listed, Write.
-/
import Derived.Test.YtlccihidedfemaaGreatDoorYbNdh
import Derived.Test.YtlccihidedfemaaGreatDoorQb4
set_option linter.unusedVariables false
namespace Go.Proofs.YtlccihidedfemaaGreatDoor
open Go.RowKit
attribute [local go_sem] Oper.semAt_some
set_option maxRecDepth 100000 in
set_option maxHeartbeats 2000000 in
theorem partBytes_any (x : Pt) (hx : okPt x = true) (w : World) :
  Calls Tryz.prog 106 #[.agg #[.string x.k, .int .i64 x.n]] w fun e w' => e = .returned (.string ⟨(ptB x).toArray⟩) ∧ Below w.heap.size w w' := by
 obtain ⟨hx1, hx2, hx3⟩ := okPt_iff.1 hx
 obtain ⟨m, hm⟩ : ∃ m : Nat, x.n = m := ⟨x.n.toNat, by omega⟩
 have hu : U64 m := by unfold U64; omega
 obtain ⟨P, hP1, hP2⟩ := ex_str (vput m)
 have RP := Lib.hid (Put_any m hu)
 rw [← hP1] at RP
 have hPs : P.size ≤ 10 := by rw [Lib.size_eq, hP2]; exact vput_len m
 have hs1 : ¬ 9223372036854775807 < x.k.size + P.size := by omega
 have HF : Hid (x.k ++ P = ⟨(ptB x).toArray⟩) := Lib.hid (str_list (by rw [bytes_app, hP2, ptB, hm]; rfl))
 obtain ⟨V, hV⟩ : ∃ V, V = w.alloc (.cells #[.string x.k, .int .i64 (m : Int)] 74) := ⟨_, rfl⟩
 have c0 : V.cell? ⟨w.heap.size, 0, none⟩ = some (.string x.k) := by rw [hV]; simp
 have c1 : V.cell? ⟨w.heap.size, 1, none⟩ = some (.int .i64 (m : Int)) := by rw [hV]; simp
 have HBV : Hid (Below w.heap.size w V) := Lib.hid (by rw [hV]; exact (Below.refl _ _).alloc (Nat.le_refl _) _)
 have HV := Lib.hid hV
 have hm40 : m ≤ 4096 := by omega
 rw [hm]
 clear hV hx1 hx2 hx3 hx hm hP1 hP2 hu
 have k0 := fun d os => cell_regrown c0 d os
 have k1 := fun d os => cell_regrown c1 d os
 go_enter Tryz.func106, Tryz.ntmps106
 go_wp2_with fail
 rw [← HV.out]
 refine wp_region_quiet_below (by kernel_rfl) (by kernel_rfl) ?_
 repeat (first | go_big_quiet_step ((exact Calls.regrown_of (RP.out _))) | quiet_step ((exact Calls.regrown_of (RP.out _))))
 refine wpQuiet_nil ?_
 intro wq hwq
 have hbq : Below V.heap.size V wq := by obtain ⟨p, rfl⟩ := hwq; exact below_regrown _ _ _
 clear hwq k0 k1 c0 c1
 go_wp2
 go_ret
 exact ⟨by rw [← HF.out]; rfl, below_step HBV.out hbq⟩
theorem enK_nat (x : En) (h2 : x.kd = 2 ∨ x.kd = 3) : ((enK x).toNat : Int) = x.kd + if x.x then 4 else 0 := by
 unfold enK
 rcases h2 with h | h <;> rw [h] <;> cases x.x <;> rfl
set_option maxRecDepth 100000 in
set_option maxHeartbeats 4000000 in
theorem entryBytes_any (x : En) (hx : okEn x = true) (w : World) :
  Calls Tryz.prog 108 #[.agg #[.string x.m, .int .i64 x.kd, .bool x.x, .string x.k]] w fun e w' => e = .returned (.string ⟨(enB x).toArray⟩) ∧ Below w.heap.size w w' := by
 obtain ⟨hx1, hx2, hx3⟩ := okEn_iff.1 hx
 have hm31 := (nameB_iff.1 hx1).2.1
 have hms : x.m.size ≤ 31 := by rw [Lib.size_eq]; exact hm31
 obtain ⟨P, hP1, hP2⟩ := ex_str (vputText x.m.data.toList)
 have PT := Lib.hid (PutText_any x.m (by unfold maxLen; omega))
 rw [← hP1] at PT
 have hPs : P.size ≤ 60 := by rw [Lib.size_eq, hP2]; have := vputText_len (l := x.m.data.toList); omega
 obtain ⟨c, hc⟩ : ∃ c : UInt8, c = enK x := ⟨_, rfl⟩
 have OB := Lib.hid (oneByte_any c)
 have hck := enK_nat x (by rcases hx3 with h | ⟨h, _⟩; exact .inl h; exact .inr h)
 rw [← hc] at hck
 rw [hck] at OB
 obtain ⟨C, hC⟩ : ∃ C : ByteArray, C = ⟨#[c]⟩ := ⟨_, rfl⟩
 rw [← hC] at OB
 have hCs : C.size = 1 := by rw [hC]; rfl
 have hs1 : ¬ 9223372036854775807 < P.size + C.size := by omega
 have hs2 : ¬ 9223372036854775807 < P.size + C.size + x.k.size := by omega
 have HF : Hid (P ++ C ++ x.k = ⟨(enB x).toArray⟩) := Lib.hid (str_list (by rw [bytes_app, bytes_app, hP2, enB, hC, hc]))
 have hkd : 2 ≤ x.kd ∧ x.kd ≤ 3 := by rcases hx3 with h | ⟨h, _⟩ <;> omega
 obtain ⟨V, hV⟩ : ∃ V, V = w.alloc (.cells #[.string x.m, .int .i64 x.kd, .bool x.x, .string x.k] 78) := ⟨_, rfl⟩
 have c0 : V.cell? ⟨w.heap.size, 0, none⟩ = some (.string x.m) := by rw [hV]; simp
 have c3 : V.cell? ⟨w.heap.size, 3, none⟩ = some (.string x.k) := by rw [hV]; simp
 have HBV : Hid (Below w.heap.size w V) := Lib.hid (by rw [hV]; exact (Below.refl _ _).alloc (Nat.le_refl _) _)
 have HV := Lib.hid hV
 clear hV hx1 hx2 hx3 hx hP1 hP2 hc hck hC hCs hm31 hms hPs
 have k0 := fun d os => cell_regrown c0 d os
 have k3 := fun d os => cell_regrown c3 d os
 rcases hxx : x.x with _ | _
 ·rw [hxx] at OB HV
  simp only [Bool.false_eq_true, if_false, Int.add_zero] at OB
  clear hxx
  go_enter Tryz.func108, Tryz.ntmps108
  go_wp2_with fail
  rw [← HV.out]
  refine wp_region_quiet_below (by kernel_rfl) (by kernel_rfl) ?_
  repeat (first | go_big_quiet_step ((first | exact Calls.regrown_of (PT.out _) | exact Calls.regrown_of (OB.out _))) | quiet_step ((first | exact Calls.regrown_of (PT.out _) | exact Calls.regrown_of (OB.out _))))
  refine wpQuiet_nil ?_
  intro wq hwq
  have hbq : Below V.heap.size V wq := by obtain ⟨p, rfl⟩ := hwq; exact below_regrown _ _ _
  clear hwq k0 k3 c0 c3
  go_wp2
  go_ret
  exact ⟨by rw [← HF.out]; rfl, below_step HBV.out hbq⟩
 ·rw [hxx] at OB HV
  simp only [if_true] at OB
  clear hxx
  go_enter Tryz.func108, Tryz.ntmps108
  go_wp2_with fail
  rw [← HV.out]
  refine wp_region_quiet_below (by kernel_rfl) (by kernel_rfl) ?_
  repeat (first | go_big_quiet_step ((first | exact Calls.regrown_of (PT.out _) | exact Calls.regrown_of (OB.out _))) | quiet_step ((first | exact Calls.regrown_of (PT.out _) | exact Calls.regrown_of (OB.out _))))
  refine wpQuiet_nil ?_
  intro wq hwq
  have hbq : Below V.heap.size V wq := by obtain ⟨p, rfl⟩ := hwq; exact below_regrown _ _ _
  clear hwq k0 k3 c0 c3
  go_wp2
  go_ret
  exact ⟨by rw [← HF.out]; rfl, below_step HBV.out hbq⟩
theorem strCells_bytes (s : ByteArray) : Lib.strCells s = Lib.byteCells s.data.toList := rfl
set_option maxRecDepth 100000 in
set_option maxHeartbeats 4000000 in
theorem listedP_any (v : Value) (L : List Pt) (w : World) (h : IsParts w v L) (hok : ∀ x ∈ L, okPt x = true) (hl : L.length ≤ 1024) :
  Calls Tryz.prog 105 #[v, .func (.func 106) #[] #[]] w fun e w' => e = .returned (.string ⟨(vput L.length ++ psB L).toArray⟩) ∧ Below w.heap.size w w' := by
 have HI := Lib.hid h
 obtain ⟨hm, a, cap, rfl, _, hc⟩ := h
 clear hc hm
 have HOK := Lib.hid hok
 have HLE := Lib.hid (fun k => psB_take (L := L) (fun p hp => (okPt_iff.1 (hok p hp)).1) k (by omega))
 have hu : U64 L.length := by unfold U64; omega
 have RP := Lib.hid (Put_any L.length hu)
 have BA := Lib.hid partBytes_any
 have hvl := vput_len L.length
 have hI0 : Lib.IsBuilderF 154 5 w.heap.size w.heap.size [] (w.alloc (.cells #[.pointer none, .slice none 0 0] 154)) := Lib.IsBuilderF.of (Lib.fresh_isBuilder 154 5 w)
 have hB0 : Below w.heap.size w (w.alloc (.cells #[.pointer none, .slice none 0 0] 154)) := (Below.refl _ w).alloc (Nat.le_refl _) _
 obtain ⟨P, hP1, hP2⟩ := ex_str (vput L.length)
 rw [← hP1] at RP
 have hPs : P.size ≤ 10 := by rw [Lib.size_eq, hP2]; exact hvl
 have HPL := Lib.hid hP2
 clear hok hP1 hP2 hu
 go_enter Tryz.func105, Tryz.ntmps105
 go_wp2_with fail
 refine (RP.out _).mono ?_
 rintro e w1 ⟨rfl, hb1⟩
 have hI1 := builder_step hI0 hb1
 have hB1 := hB0.trans (hb1.mono hB0.size)
 clear hI0 hB0 hb1
 go_wp2_with fail
 refine (WriteString_k_Bus w.heap.size w.heap.size [] P _ hI1 (by simp only [List.length_nil]; omega) hB1.size).mono ?_
 rintro e w2 ⟨rfl, hI2, hb2, _⟩
 have hB2 := hB1.trans hb2
 have HI2 : Hid (Lib.IsBuilderF 154 5 w.heap.size w.heap.size (Lib.byteCells (vput L.length ++ psB (L.take 0))) w2) := Lib.hid (.inr (by
  have e : ([] : List Value) ++ Lib.strCells P = Lib.byteCells (vput L.length ++ psB (L.take 0)) := by
   rw [List.nil_append, strCells_bytes, HPL.out, List.take_zero]
   exact congrArg Lib.byteCells (List.append_nil _).symm
  rw [← e]; exact hI2))
 clear hI1 hB1 hI2 hb2
 go_wp2
 go_loopw [15] (fun i wr => ∃ k : Nat, k ≤ L.length ∧ i = .int .i64 k ∧ Lib.IsBuilderF 154 5 w.heap.size w.heap.size (Lib.byteCells (vput L.length ++ psB (L.take k))) wr ∧ Below w.heap.size w wr) (fun i _ => L.length - (intOf i).toNat)
 case atStart => exact ⟨0, Nat.zero_le _, rfl, HI2.out, hB2⟩
 case round =>
  clear HI2 hB2
  obtain ⟨k, hk, rfl, hI, hB⟩ := hrel
  have HB := Lib.hid hI; clear hI
  have hsz := hB.size
  by_cases hlt : k < L.length
  ·obtain ⟨_, _, _, e, _, hc⟩ := HI.out.stays hB
   cases e
   obtain ⟨b, off, rfl, hbl, g⟩ := hc (by omega)
   obtain ⟨c0, c1⟩ := g k hlt
   clear g hc
   have hbk : decide ((k : Int) < (L.length : Int)) = true := by simpa using (show (k : Int) < L.length by omega)
   have HST := Lib.hid (psB_step hlt)
   have hox := HOK.out _ (List.getElem_mem hlt)
   have hbl2 := HLE.out k
   obtain ⟨x, hxe⟩ : ∃ x, x = L[k] := ⟨_, rfl⟩
   rw [← hxe] at c0 c1 HST hox
   clear hxe
   obtain ⟨Q, hQ1, hQ2⟩ := ex_str (ptB x)
   have B1 := Lib.hid (BA.out x hox)
   rw [← hQ1] at B1
   have hQs : Q.size ≤ 74 := by rw [Lib.size_eq, hQ2]; have := ptB_len (okPt_iff.1 hox).1; omega
   have HQ := Lib.hid hQ2
   clear hQ1 hQ2 hox
   go_wp2_with fail
   have hb0 := (Below.refl wr.heap.size wr).alloc (Nat.le_refl _) (.cells #[.string x.k, .int .i64 x.n] 74)
   refine (B1.out _).mono ?_
   rintro e w3 ⟨rfl, hb3⟩
   have hb4 := below_step hb0 hb3
   have hB3 := hB.trans (hb4.mono hsz)
   have hI3 := builder_step HB.out hb4
   clear hb0 hb3
   go_wp2_with fail
   refine (WriteString_k_Bus w.heap.size w.heap.size _ Q _ hI3 (by rw [Lib.byteCells_length, List.length_append]; omega) hB3.size).mono ?_
   rintro e w4 ⟨rfl, hI4, hb5, _⟩
   have hB4 := hB3.trans hb5
   have HI4 : Hid (Lib.IsBuilderF 154 5 w.heap.size w.heap.size (Lib.byteCells (vput L.length ++ psB (L.take (k + 1)))) w4) := Lib.hid (.inr (by
    have e : Lib.byteCells (vput L.length ++ psB (L.take k)) ++ Lib.strCells Q = Lib.byteCells (vput L.length ++ psB (L.take (k + 1))) := by
     rw [HST.out, strCells_bytes, HQ.out, ← List.append_assoc]
     exact (Lib.byteCells_append _ _).symm
    rw [← e]; exact hI4))
   clear hI3 hB3 hI4 hb5 hb4
   go_wp2
   go_roundw
   case rel => exact ⟨k + 1, by omega, by go_num, HI4.out, hB4⟩
   case measure => simp [intOf]; omega
  ·have hke : L.take k = L := List.take_of_length_le (by omega)
   rw [hke] at HB
   have hne : vput L.length ++ psB L ≠ [] := fun e => by
    have := congrArg List.length e
    rw [List.length_append, List.length_nil] at this
    have := vput_pos L.length
    omega
   have HNE := Lib.hid hne
   clear hne hke
   go_wp2_with fail
   refine (String_full_k w.heap.size w.heap.size _ _ HB.out HNE.out).mono ?_
   rintro e w3 ⟨rfl, _, hb3, _⟩
   go_wp2
   go_ret
   exact ⟨rfl, hB.trans hb3⟩
set_option maxRecDepth 100000 in
set_option maxHeartbeats 4000000 in
theorem listedE_any (v : Value) (L : List En) (w : World) (h : IsEntries w v L) (hok : ∀ x ∈ L, okEn x = true) (hl : L.length ≤ 60) :
  Calls Tryz.prog 107 #[v, .func (.func 108) #[] #[]] w fun e w' => e = .returned (.string ⟨(vput L.length ++ esB L).toArray⟩) ∧ Below w.heap.size w w' := by
 have HI := Lib.hid h
 obtain ⟨hm, a, cap, rfl, _, hc⟩ := h
 clear hc hm
 have HOK := Lib.hid hok
 have HLE := Lib.hid (fun k => esB_take (L := L) hok k (by omega))
 have hu : U64 L.length := by unfold U64; omega
 have RP := Lib.hid (Put_any L.length hu)
 have BA := Lib.hid entryBytes_any
 have hvl := vput_len L.length
 have hI0 : Lib.IsBuilderF 154 5 w.heap.size w.heap.size [] (w.alloc (.cells #[.pointer none, .slice none 0 0] 154)) := Lib.IsBuilderF.of (Lib.fresh_isBuilder 154 5 w)
 have hB0 : Below w.heap.size w (w.alloc (.cells #[.pointer none, .slice none 0 0] 154)) := (Below.refl _ w).alloc (Nat.le_refl _) _
 obtain ⟨P, hP1, hP2⟩ := ex_str (vput L.length)
 rw [← hP1] at RP
 have hPs : P.size ≤ 10 := by rw [Lib.size_eq, hP2]; exact hvl
 have HPL := Lib.hid hP2
 clear hok hP1 hP2 hu
 go_enter Tryz.func107, Tryz.ntmps107
 go_wp2_with fail
 refine (RP.out _).mono ?_
 rintro e w1 ⟨rfl, hb1⟩
 have hI1 := builder_step hI0 hb1
 have hB1 := hB0.trans (hb1.mono hB0.size)
 clear hI0 hB0 hb1
 go_wp2_with fail
 refine (WriteString_k_Bus w.heap.size w.heap.size [] P _ hI1 (by simp only [List.length_nil]; omega) hB1.size).mono ?_
 rintro e w2 ⟨rfl, hI2, hb2, _⟩
 have hB2 := hB1.trans hb2
 have HI2 : Hid (Lib.IsBuilderF 154 5 w.heap.size w.heap.size (Lib.byteCells (vput L.length ++ esB (L.take 0))) w2) := Lib.hid (.inr (by
  have e : ([] : List Value) ++ Lib.strCells P = Lib.byteCells (vput L.length ++ esB (L.take 0)) := by
   rw [List.nil_append, strCells_bytes, HPL.out, List.take_zero]
   exact congrArg Lib.byteCells (List.append_nil _).symm
  rw [← e]; exact hI2))
 clear hI1 hB1 hI2 hb2
 go_wp2
 go_loopw [15] (fun i wr => ∃ k : Nat, k ≤ L.length ∧ i = .int .i64 k ∧ Lib.IsBuilderF 154 5 w.heap.size w.heap.size (Lib.byteCells (vput L.length ++ esB (L.take k))) wr ∧ Below w.heap.size w wr) (fun i _ => L.length - (intOf i).toNat)
 case atStart => exact ⟨0, Nat.zero_le _, rfl, HI2.out, hB2⟩
 case round =>
  clear HI2 hB2
  obtain ⟨k, hk, rfl, hI, hB⟩ := hrel
  have HB := Lib.hid hI; clear hI
  have hsz := hB.size
  by_cases hlt : k < L.length
  ·obtain ⟨_, _, _, e, _, hc⟩ := HI.out.stays hB
   cases e
   obtain ⟨b, off, rfl, hbl, g⟩ := hc (by omega)
   obtain ⟨c0, c1, c2, c3⟩ := g k hlt
   clear g hc
   have hbk : decide ((k : Int) < (L.length : Int)) = true := by simpa using (show (k : Int) < L.length by omega)
   have HST := Lib.hid (esB_step hlt)
   have hox := HOK.out _ (List.getElem_mem hlt)
   have hbl2 := HLE.out k
   obtain ⟨x, hxe⟩ : ∃ x, x = L[k] := ⟨_, rfl⟩
   rw [← hxe] at c0 c1 c2 c3 HST hox
   clear hxe
   obtain ⟨Q, hQ1, hQ2⟩ := ex_str (enB x)
   have B1 := Lib.hid (BA.out x hox)
   rw [← hQ1] at B1
   have hQs : Q.size ≤ 74 := by rw [Lib.size_eq, hQ2]; have := enB_len hox; omega
   have HQ := Lib.hid hQ2
   clear hQ1 hQ2 hox
   go_wp2_with fail
   have hb0 := (Below.refl wr.heap.size wr).alloc (Nat.le_refl _) (.cells #[.string x.m, .int .i64 x.kd, .bool x.x, .string x.k] 78)
   refine (B1.out _).mono ?_
   rintro e w3 ⟨rfl, hb3⟩
   have hb4 := below_step hb0 hb3
   have hB3 := hB.trans (hb4.mono hsz)
   have hI3 := builder_step HB.out hb4
   clear hb0 hb3
   go_wp2_with fail
   refine (WriteString_k_Bus w.heap.size w.heap.size _ Q _ hI3 (by rw [Lib.byteCells_length, List.length_append]; omega) hB3.size).mono ?_
   rintro e w4 ⟨rfl, hI4, hb5, _⟩
   have hB4 := hB3.trans hb5
   have HI4 : Hid (Lib.IsBuilderF 154 5 w.heap.size w.heap.size (Lib.byteCells (vput L.length ++ esB (L.take (k + 1)))) w4) := Lib.hid (.inr (by
    have e : Lib.byteCells (vput L.length ++ esB (L.take k)) ++ Lib.strCells Q = Lib.byteCells (vput L.length ++ esB (L.take (k + 1))) := by
     rw [HST.out, strCells_bytes, HQ.out, ← List.append_assoc]
     exact (Lib.byteCells_append _ _).symm
    rw [← e]; exact hI4))
   clear hI3 hB3 hI4 hb5 hb4
   go_wp2
   go_roundw
   case rel => exact ⟨k + 1, by omega, by go_num, HI4.out, hB4⟩
   case measure => simp [intOf]; omega
  ·have hke : L.take k = L := List.take_of_length_le (by omega)
   rw [hke] at HB
   have hne : vput L.length ++ esB L ≠ [] := fun e => by
    have := congrArg List.length e
    rw [List.length_append, List.length_nil] at this
    have := vput_pos L.length
    omega
   have HNE := Lib.hid hne
   clear hne hke
   go_wp2_with fail
   refine (String_full_k w.heap.size w.heap.size _ _ HB.out HNE.out).mono ?_
   rintro e w3 ⟨rfl, _, hb3, _⟩
   go_wp2
   go_ret
   exact ⟨rfl, hB.trans hb3⟩
set_option maxRecDepth 100000 in
set_option maxHeartbeats 4000000 in
theorem pWrite_any (n : Nd) (pv ev : Value) (w : World) (hp : IsParts w pv n.ps) (he : IsEntries w ev n.es) (hd : n.d.size ≤ 1000000000) :
  Calls Tryz.prog 90 #[ndV n pv ev] w fun e w' => e = .returned (.string ⟨(wrN n).toArray⟩) ∧ Below w.heap.size w w' := by
 have HP := Lib.hid hp; have HE := Lib.hid he
 obtain ⟨_, a1, cap1, hv1, _, _⟩ := hp
 obtain ⟨_, a2, cap2, hv2, _, _⟩ := he
 subst hv1 hv2
 have hb0 := (Below.refl w.heap.size w).alloc (Nat.le_refl _) (.cells #[.int .i64 n.kd, .string n.d, .slice a1 n.ps.length cap1, .slice a2 n.es.length cap2] 44)
 have HX : Hid (NdBox (w.alloc (.cells #[.int .i64 n.kd, .string n.d, .slice a1 n.ps.length cap1, .slice a2 n.es.length cap2] 44)) w.heap.size n (.slice a1 n.ps.length cap1) (.slice a2 n.es.length cap2)) := Lib.hid (ndBox_new w n _ _ _)
 have FA := Lib.hid (pFit_any n _ _ _ (HP.out.stays hb0) (HE.out.stays hb0))
 rcases hf : fitN n with _ | _
 ·rw [hf] at FA
  have HN := Lib.hid (wrN_un hf)
  clear hf
  go_enter Tryz.func90, Tryz.ntmps90
  go_wp2_with fail
  refine FA.out.mono ?_
  rintro e w1 ⟨rfl, hb1⟩
  go_wp2
  go_ret
  exact ⟨by rw [HN.out]; rfl, below_step hb0 hb1⟩
 ·rw [hf] at FA
  have HN := Lib.hid (wrN_fit hf)
  rcases fit_kinds hf with k1 | k1 | k1
  ·have t1 : (n.kd == 2) = false := (fun h => ie_f (by omega)) k1
   have t2 : (n.kd == 3) = false := (fun h => ie_f (by omega)) k1
   have OB : Hid (∀ w, Calls Tryz.prog 104 #[.int .i64 n.kd] w fun e w' => e = .returned (.string ⟨#[1]⟩) ∧ Below w.heap.size w w') := Lib.hid (by rw [k1]; exact oneByte_any 1)
   have h1 : (⟨#[1]⟩ : ByteArray).size = 1 := rfl
   obtain ⟨C, hC⟩ : ∃ C : ByteArray, C = ⟨#[1]⟩ := ⟨_, rfl⟩
   rw [← hC] at OB h1
   have hs1 : ¬ 9223372036854775807 < C.size + n.d.size := by omega
   have HW : Hid (C ++ n.d = ⟨(wrL n).toArray⟩) := Lib.hid (str_list (by rw [bytes_app, hC, wrL, body_piece k1, k1]; rfl))
   clear k1 hf hC
   go_enter Tryz.func90, Tryz.ntmps90
   go_wp2_with fail
   refine FA.out.mono ?_
   rintro e w1 ⟨rfl, hb1⟩
   have HB1 := Lib.hid (below_step hb0 hb1)
   have HX1 := Lib.hid (HX.out.stays hb1)
   obtain ⟨c0, c1, c2, c3⟩ := HX1.out.cells
   go_wp2_with fail
   refine (OB.out _).mono ?_
   rintro e w2 ⟨rfl, hb2⟩
   have HB2 := Lib.hid (below_step HB1.out hb2)
   have HX2 := Lib.hid (HX1.out.stays hb2)
   clear c0 c1 c2 c3 hb1 hb2 hb0
   obtain ⟨c0, c1, c2, c3⟩ := HX2.out.cells
   go_wp2
   go_ret
   exact ⟨by rw [HN.out, ← HW.out]; rfl, HB2.out⟩
  ·have t1 : (n.kd == 2) = true := (fun h => ie_t h) k1
   have t2 : (n.kd == 3) = false := (fun h => ie_f (by omega)) k1
   have OB : Hid (∀ w, Calls Tryz.prog 104 #[.int .i64 n.kd] w fun e w' => e = .returned (.string ⟨#[2]⟩) ∧ Below w.heap.size w w') := Lib.hid (by rw [k1]; exact oneByte_any 2)
   have h1 : (⟨#[2]⟩ : ByteArray).size = 1 := rfl
   obtain ⟨C, hC⟩ : ∃ C : ByteArray, C = ⟨#[2]⟩ := ⟨_, rfl⟩
   rw [← hC] at OB h1
   obtain ⟨g1, g2, g3, g4⟩ := fit2 k1 hf
   have LA := Lib.hid (fun w h => listedP_any (.slice a1 n.ps.length cap1) n.ps w h (fitFile_iff.1 g4).1 g3)
   have hpl := psB_len n.ps (fun p hp => (okPt_iff.1 ((fitFile_iff.1 g4).1 p hp)).1)
   have hvl := vput_len n.ps.length
   obtain ⟨Q, hQ1, hQ2⟩ := ex_str (vput n.ps.length ++ psB n.ps)
   rw [← hQ1] at LA
   have hQs : Q.size ≤ 60000 := by rw [Lib.size_eq, hQ2, List.length_append]; omega
   have hs1 : ¬ 9223372036854775807 < C.size + Q.size := by omega
   have HW : Hid (C ++ Q = ⟨(wrL n).toArray⟩) := Lib.hid (str_list (by rw [bytes_app, hC, hQ2, wrL, body_file k1, k1]; rfl))
   clear hQ1 hQ2 g1 g2 g3 g4 hpl hvl
   clear k1 hf hC
   go_enter Tryz.func90, Tryz.ntmps90
   go_wp2_with fail
   refine FA.out.mono ?_
   rintro e w1 ⟨rfl, hb1⟩
   have HB1 := Lib.hid (below_step hb0 hb1)
   have HX1 := Lib.hid (HX.out.stays hb1)
   obtain ⟨c0, c1, c2, c3⟩ := HX1.out.cells
   go_wp2_with fail
   refine (OB.out _).mono ?_
   rintro e w2 ⟨rfl, hb2⟩
   have HB2 := Lib.hid (below_step HB1.out hb2)
   have HX2 := Lib.hid (HX1.out.stays hb2)
   clear c0 c1 c2 c3 hb1 hb2 hb0
   obtain ⟨c0, c1, c2, c3⟩ := HX2.out.cells
   go_wp2_with fail
   refine (LA.out _ (HP.out.stays HB2.out)).mono ?_
   rintro e w3 ⟨rfl, hb3⟩
   go_wp2
   go_ret
   exact ⟨by rw [HN.out, ← HW.out]; rfl, below_step HB2.out hb3⟩
  ·have t1 : (n.kd == 2) = false := (fun h => ie_f (by omega)) k1
   have t2 : (n.kd == 3) = true := (fun h => ie_t h) k1
   have OB : Hid (∀ w, Calls Tryz.prog 104 #[.int .i64 n.kd] w fun e w' => e = .returned (.string ⟨#[3]⟩) ∧ Below w.heap.size w w') := Lib.hid (by rw [k1]; exact oneByte_any 3)
   have h1 : (⟨#[3]⟩ : ByteArray).size = 1 := rfl
   obtain ⟨C, hC⟩ : ∃ C : ByteArray, C = ⟨#[3]⟩ := ⟨_, rfl⟩
   rw [← hC] at OB h1
   obtain ⟨g1, g2, g3, g4⟩ := fit3 k1 hf
   have LA := Lib.hid (fun w h => listedE_any (.slice a2 n.es.length cap2) n.es w h (fitDir_iff.1 g4).1 g3)
   have hpl := esB_len n.es (fitDir_iff.1 g4).1
   have hvl := vput_len n.es.length
   obtain ⟨Q, hQ1, hQ2⟩ := ex_str (vput n.es.length ++ esB n.es)
   rw [← hQ1] at LA
   have hQs : Q.size ≤ 60000 := by rw [Lib.size_eq, hQ2, List.length_append]; omega
   have hs1 : ¬ 9223372036854775807 < C.size + Q.size := by omega
   have HW : Hid (C ++ Q = ⟨(wrL n).toArray⟩) := Lib.hid (str_list (by rw [bytes_app, hC, hQ2, wrL, body_dir k1, k1]; rfl))
   clear hQ1 hQ2 g1 g2 g3 g4 hpl hvl
   clear k1 hf hC
   go_enter Tryz.func90, Tryz.ntmps90
   go_wp2_with fail
   refine FA.out.mono ?_
   rintro e w1 ⟨rfl, hb1⟩
   have HB1 := Lib.hid (below_step hb0 hb1)
   have HX1 := Lib.hid (HX.out.stays hb1)
   obtain ⟨c0, c1, c2, c3⟩ := HX1.out.cells
   go_wp2_with fail
   refine (OB.out _).mono ?_
   rintro e w2 ⟨rfl, hb2⟩
   have HB2 := Lib.hid (below_step HB1.out hb2)
   have HX2 := Lib.hid (HX1.out.stays hb2)
   clear c0 c1 c2 c3 hb1 hb2 hb0
   obtain ⟨c0, c1, c2, c3⟩ := HX2.out.cells
   go_wp2_with fail
   refine (LA.out _ (HE.out.stays HB2.out)).mono ?_
   rintro e w3 ⟨rfl, hb3⟩
   go_wp2
   go_ret
   exact ⟨by rw [HN.out, ← HW.out]; rfl, below_step HB2.out hb3⟩
end Go.Proofs.YtlccihidedfemaaGreatDoor

/-
  Texts put together: contracts and laws that this seat's proofs share.
-/
import Derived.Test.YtlccihidedfemaaGreatDoorQc1
import Derived.Test.YtlccihidedfemaaGreatDoorQc0
import Derived.Laws.BitsAllLaws
import Derived.LoopTactic
import Derived.Deep.LoopGhost
import Derived.Outline
import Derived.WalkKit
import Derived.Laws.AppendOwn
import Derived.Laws.IdiomStrings
import Derived.OwnWalk
import Derived.Below
import Derived.Lib.Hide
import Derived.WalkLawsBesides
import Derived.Maps.AppendAt
set_option linter.unusedVariables false
namespace Go.Proofs.YtlccihidedfemaaGreatDoor
open Go.RowKit Go.Shelf
theorem run_min3 {P : Program} {w : World} (ts : Array TypeId) (t : TypeId) (x y z : Int) :
  (Builtin.min_ ts t #[.int .i64 x, .int .i64 y, .int .i64 z]).run P w = .ok (.int .i64 (if z < (if y < x then y else x) then z else (if y < x then y else x))) w := by
 simp [Builtin.min_, Builtin.min2]
set_option maxHeartbeats 2000000 in
set_option maxRecDepth 100000 in
theorem Mul64_one (c : Nat) (hc : c < 4294967296) (w : World) : Calls Tryz.prog 186 #[.int .u64 1, .int .u64 c] w fun e w' => e = .returned (.tuple #[.int .u64 0, .int .u64 c]) ∧ w = w' := by
 have e1 : bits .and .u64 1 4294967295 = 1 := by decide
 have e2 : bits .and .u64 (c : Int) 4294967295 = (c : Int) := by
  have := u64_and_nat c 4294967295 (by omega) (by decide)
  rw [nat_mask32, Nat.mod_eq_of_lt hc] at this
  exact this
 have e3 : (c : Int) / 4294967296 = 0 := by omega
 have e4 : bits .and .u64 0 4294967295 = 0 := by decide
 go_enter Tryz.func186, Tryz.ntmps186
 go_wp2
 go_ret2
 exact ⟨rfl, rfl⟩
set_option maxHeartbeats 2000000 in
set_option maxRecDepth 100000 in
theorem Mul_one (c : Nat) (hc : c < 4294967296) (w : World) : Calls Tryz.prog 173 #[.int .u64 1, .int .u64 c] w fun e w' => e = .returned (.tuple #[.int .u64 0, .int .u64 c]) ∧ w = w' := by
 go_enter Tryz.func173, Tryz.ntmps173
 go_wp2_with fail
 refine (Mul64_one c hc _).mono ?_
 rintro e w1 ⟨rfl, rfl⟩
 go_wp2_with fail
 go_ret2
 exact ⟨rfl, rfl⟩
def zeros (c : Nat) : ByteArray := ⟨(List.replicate c (0 : UInt8)).toArray⟩
set_option maxHeartbeats 4000000 in
set_option maxRecDepth 100000 in
theorem Repeat_zero (c : Nat) (hc : c ≤ 64) (w : World) : Calls Tryz.prog 159 #[.string ⟨#[0]⟩, .int .i64 c] w fun e w' => e = .returned (.string (zeros c)) ∧ Below w.heap.size w w' := by
 by_cases h0 : c = 0
 ·subst h0
  go_enter Tryz.func159, Tryz.ntmps159
  go_wp2
  go_ret
  exact ⟨rfl, Below.refl _ _⟩
 ·by_cases h1 : c = 1
  ·subst h1
   go_enter Tryz.func159, Tryz.ntmps159
   go_wp2
   go_ret
   exact ⟨rfl, Below.refl _ _⟩
  ·have hb0 : ((c : Int) == 0) = false := by rw [beq_eq_false_iff_ne]; omega
   have hb1 : ((c : Int) == 1) = false := by rw [beq_eq_false_iff_ne]; omega
   have hb2 : ¬ (c : Int) < 0 := by omega
   have hb3 : ¬ (9223372036854775807 : Int) < (c : Int) := by omega
   have hb4 : ¬ (8192 : Int) < (c : Int) := by omega
   have hb5 : decide ((9223372036854775807 : Int) < (c : Int)) = false := by simpa using (show ¬ (9223372036854775807 : Int) < (c : Int) by omega)
   have hb6 : decide ((8192 : Int) < (c : Int)) = false := by simpa using (show ¬ (8192 : Int) < (c : Int) by omega)
   have hb7 : decide ((c : Int) < 0) = false := by simp
   have hu : IntKind.u64.wrap (c : Int) = (c : Int) := by show (c : Int) % 18446744073709551616 = _; omega
   have hi : IntKind.i64.wrap (c : Int) = (c : Int) := by rw [IntKind.wrap_i64]; omega
   go_enter Tryz.func159, Tryz.ntmps159
   go_wp2_with fail
   refine (Mul_one c (by omega) _).mono ?_
   rintro e w1 ⟨rfl, rfl⟩
   go_wp2_with fail
   have b0 : Below w.heap.size w (w.alloc (.cells #[.pointer none, .slice none 0 0] 154)) := (Below.refl _ w).alloc (Nat.le_refl _) _
   refine (Grow_fresh_Bum w.heap.size w.heap.size c _ (Nat.le_refl _) (heap_alloc_new _ _) b0.size (by omega) (by omega)).mono ?_
   rintro e W1 ⟨rfl, hA, hbg⟩
   have b1 := b0.trans hbg
   have HA := Lib.hid hA
   clear hA b0 hbg
   go_wp2_with fail
   refine (WriteString_k_Bus w.heap.size w.heap.size [] ⟨#[0]⟩ _ (Lib.IsBuilderF.of (Or.inr HA.out)) (by decide) b1.size).mono ?_
   rintro e W2 ⟨rfl, h2, hb2', _⟩
   have b2 := b1.trans hb2'
   have h2' : Lib.IsBuilderF 154 5 w.heap.size w.heap.size (Lib.byteCells (List.replicate 1 (0 : UInt8))) W2 := Or.inr h2
   have H2 := Lib.hid h2'
   clear HA b1 hb2' h2 h2'
   go_wp2_with fail
   go_loopg [] (c - 1) (fun g wx => ∃ q : Nat, 1 ≤ q ∧ q + g = c ∧ Lib.IsBuilderF 154 5 w.heap.size w.heap.size (Lib.byteCells (List.replicate q (0 : UInt8))) wx ∧ Below w.heap.size w wx)
   case atStart => exact ⟨1, Nat.le_refl _, by omega, H2.out, b2⟩
   case round =>
    obtain ⟨q, hq1, hqg, hB, hbx⟩ := hrel
    clear H2 b2
    have hlen : (Lib.byteCells (List.replicate q (0 : UInt8))).length = q := by rw [Lib.byteCells_length, List.length_replicate]
    have CL := Lib.hid (Len_k w.heap.size w.heap.size _ wr hB)
    rw [hlen] at CL
    have hne : List.replicate q (0 : UInt8) ≠ [] := by
     intro e
     have := congrArg List.length e
     rw [List.length_replicate] at this
     simp at this; omega
    have CS := Lib.hid (String_full_k w.heap.size w.heap.size (List.replicate q (0 : UInt8)) wr hB hne)
    obtain ⟨S, hS⟩ : ∃ S : ByteArray, S = ⟨(List.replicate q (0 : UInt8)).toArray⟩ := ⟨_, rfl⟩
    have hSs : S.size = q := by rw [hS]; simp [ByteArray.size]
    rw [← hS] at CS
    have HS := Lib.hid hS
    have HB := Lib.hid hB
    clear hB hne hlen hS
    cases gk with
    | zero =>
     obtain rfl : q = c := by omega
     have hlt : decide ((q : Int) < (q : Int)) = false := by simp
     go_wp2_with fail
     refine CL.out.mono ?_
     rintro e W3 ⟨rfl, rfl⟩
     go_wp2_with fail
     refine CS.out.mono ?_
     rintro e W4 ⟨rfl, h4, hb4, _⟩
     go_wp2_with fail
     go_ret
     exact ⟨congrArg (fun x => Ending.returned (.string x)) HS.out, hbx.trans hb4⟩
    | succ g =>
     have hqc : q < c := by omega
     have hlt : decide ((q : Int) < (c : Int)) = true := by simpa using hqc
     obtain ⟨k, hk⟩ : ∃ k, k = min (c - q) q := ⟨_, rfl⟩
     have hk1 : 1 ≤ k := by omega
     have hk2 : k ≤ q := by omega
     have hk3 : q + k ≤ c := by omega
     have hmin : ∀ (ts : Array TypeId) (t : TypeId) (W : World), (Builtin.min_ ts t #[.int .i64 ((c : Int) - (q : Int)), .int .i64 (q : Int), .int .i64 (c : Int)]).run Tryz.prog W = .ok (.int .i64 (k : Int)) W := fun ts t W => by
      rw [run_min3]
      congr 2
      split <;> split <;> omega
     have hsub : IntKind.i64.wrap ((c : Int) - (q : Int)) = (c : Int) - (q : Int) := by rw [IntKind.wrap_i64]; omega
     have hd := fun W => run_slice_to (P := Tryz.prog) Tryz.underlying9 S k (by omega) W
     clear hk
     go_wp2_with fail
     refine CL.out.mono ?_
     rintro e W3 ⟨rfl, rfl⟩
     go_wp2_with fail
     refine CL.out.mono ?_
     rintro e W3 ⟨rfl, rfl⟩
     go_wp2_with fail
     refine CL.out.mono ?_
     rintro e W3 ⟨rfl, rfl⟩
     go_wp2_with fail
     refine CS.out.mono ?_
     rintro e W4 ⟨rfl, h4, hb4, _⟩
     go_wp2_with fail
     refine (WriteString_k_Bus w.heap.size w.heap.size _ (S.extract 0 k) _ h4 ?_ (Nat.le_trans hbx.size hb4.size)).mono ?_
     ·rw [Lib.byteCells_length, List.length_replicate, ByteArray.size_extract]; omega
     rintro e W5 ⟨rfl, h5, hb5', _⟩
     go_wp2_with fail
     go_roundg (c - (q + k))
     case measure => omega
     case rel =>
      refine ⟨q + k, by omega, by omega, Or.inr ?_, (hbx.trans hb4).trans hb5'⟩
      have e : Lib.byteCells (List.replicate q (0 : UInt8)) ++ Lib.strCells (S.extract 0 k) = Lib.byteCells (List.replicate (q + k) (0 : UInt8)) := by
       rw [Lib.strCells_eq, ← Lib.byteCells_append, Lib.extract_data, HS.out]
       simp only [List.drop_zero, Nat.sub_zero]
       rw [List.take_replicate, Nat.min_eq_left hk2, List.replicate_append_replicate]
      rw [e] at h5
      exact h5
end Go.Proofs.YtlccihidedfemaaGreatDoor
set_option linter.unusedVariables false
namespace Go.Proofs.YtlccihidedfemaaGreatDoor
open Go.RowKit
def Loose (fz : Nat × Nat) (n : Nat) : Prop := ∀ i, i < n → (decide (fz.1 ≤ i) && decide (i < fz.2)) = false
theorem loose_zero (n : Nat) : Loose (0, 0) n := fun i _ => by simp
theorem loose_edge (n : Nat) : Loose (n, n + 1) n := fun i h => by simp; omega
theorem frozen_loose {w : World} {g i : Nat} {cur : Array Value} {t : TypeId} {fz : Nat × Nat} (hg : w.heap[g]? = some (.cells cur t fz)) (hf : Loose fz cur.size) (hi : i < cur.size) : w.frozen? ⟨g, i, none⟩ = false := by
 have := hf i hi
 simp only [World.frozen?, hg]
 simpa using this
theorem run_storeCells_atE (P : Program) (g o : Nat) (t : TypeId) (fz : Nat × Nat) : ∀ (vs : List Value) (i : Nat) (cur : Array Value) (w : World), w.heap[g]? = some (.cells cur t fz) → Loose fz cur.size → o + i + vs.length ≤ cur.size → (∀ v ∈ vs, v.oneCell' = true) →
  (storeCells ⟨g, o, none⟩ vs i).run P w = .ok () (w.setRow g (cur.toList.take (o + i) ++ vs ++ cur.toList.drop (o + i + vs.length)).toArray)
 | [], i, cur, w, hg, _, _, _ => by
  simp only [storeCells, List.append_nil, List.length_nil, Nat.add_zero, List.take_append_drop, Array.toArray_toList]
  rw [setRow_self w g cur t fz hg]
  rfl
 | v :: rest, i, cur, w, hg, hf, hl, h1 => by
  have hi : o + i < cur.size := by simp at hl; omega
  have hadd : (⟨g, o, none⟩ : Addr).add i = ⟨g, o + i, none⟩ := by unfold Addr.add; split <;> simp_all
  have hcell : w.cell? ⟨g, o + i, none⟩ = some cur[o + i] := by simp [World.cell?, hg, hi]
  have hfro := frozen_loose hg hf hi
  have hst : (store ((⟨g, o, none⟩ : Addr).add i) v).run P w = .ok () (w.setRow g (cur.setIfInBounds (o + i) v)) := by
   rw [hadd, run_store P w _ v _ (h1 v (by simp)), hcell]
   simp [hfro, setCell_eq_setRow w g (o + i) cur t fz v hg]
  have ih := run_storeCells_atE P g o t fz rest (i + 1) (cur.setIfInBounds (o + i) v) (w.setRow g (cur.setIfInBounds (o + i) v)) (setRow_heap w g cur _ t _ hg) (by simpa using hf) (by simp at hl ⊢; omega) (fun x hx => h1 x (by simp [hx]))
  simp only [storeCells, Sem.run_bind, hst, Result.andThen_ok, ih, setRow_setRow]
  congr 3
  have e := list_seg_step cur.toList (o + i) v rest (by simp at hl ⊢; omega)
  simpa [Array.toList_setIfInBounds, Nat.add_assoc] using e
def ownsE (w : World) (base : Nat) (e : TypeId) (v : Value) (n : Nat) (xs : List Value) : Prop :=
 xs.length = n ∧ ∃ g cap cur fz, v = .slice (some ⟨g, 0, none⟩) n cap ∧ base ≤ g ∧ w.heap[g]? = some (.cells cur e fz) ∧ Loose fz cur.size ∧ n ≤ cap ∧ cap ≤ maxLen ∧ cur.size = cap ∧ cur.toList.take n = xs
theorem ownsE.cells {w : World} {base : Nat} {e : TypeId} {v : Value} {n : Nat} {xs : List Value} (h : ownsE w base e v n xs) : ∃ g cap, v = .slice (some ⟨g, 0, none⟩) n cap ∧ base ≤ g ∧ g < w.heap.size ∧ n ≤ cap ∧ ∀ j u, xs[j]? = some u → w.cell? ⟨g, j, none⟩ = some u := by
 obtain ⟨hl, g, cap, cur, fz, rfl, hb, hg, hf, hc, hm, hs, ht⟩ := h
 refine ⟨g, cap, rfl, hb, (Array.getElem?_eq_some_iff.1 hg).1, hc, fun j u hj => ?_⟩
 rw [cell_of_row w g j _ _ _ hg]
 have hjn : j < n := by rw [← hl]; exact (List.getElem?_eq_some_iff.1 hj).1
 rw [← ht, List.getElem?_take, if_pos hjn] at hj
 rw [← hj]; simp
theorem ownsE.step {w w' : World} {base : Nat} {e : TypeId} {v : Value} {n : Nat} {xs : List Value} (h : ownsE w base e v n xs) (hb : Below w.heap.size w w') : ownsE w' base e v n xs := by
 obtain ⟨hl, g, cap, cur, fz, rfl, h1, hg, h2⟩ := h
 exact ⟨hl, g, cap, cur, fz, rfl, h1, by rw [hb.block g (Array.getElem?_eq_some_iff.1 hg).1]; exact hg, h2⟩
theorem ownsE_conv (w : World) (e : TypeId) (s : ByteArray) (hs : s.size ≤ maxLen) (base : Nat) (hb : base ≤ w.heap.size) :
  ownsE (w.drew.alloc (.cells (bytesRow s (grownCap w s.size 0 e)) e ((bytesRow s (grownCap w s.size 0 e)).size, (bytesRow s (grownCap w s.size 0 e)).size + 1))) base e (.slice (some ⟨w.heap.size, 0, none⟩) s.size (grownCap w s.size 0 e)) s.size (s.data.toList.map fun b : UInt8 => Value.int .u8 (b.toNat : Int)) := by
 have hge := grownCap_ge w s.size 0 e
 refine ⟨by rw [List.length_map]; rfl, w.heap.size, _, _, _, rfl, hb, heap_alloc_new w.drew _, loose_edge _, hge, grownCap_le_maxLen w _ _ e hs, ?_, ?_⟩
 ·simp [bytesRow] at hge ⊢; omega
 ·have h1 : s.data.toList.length = s.size := by rw [Array.length_toList]; rfl
  simp [bytesRow]
theorem run_append_ownE {P : Program} (w : World) (base : Nat) (t ty e : TypeId) (i : TypeInfo) (z : Value) (ht : P.underlying t = some (.slice e)) (hi : P.info? e = some i) (hz : i.zero = some z)
  (hsize : i.size = 1) (hby : i.bytes = 1) (hzs : z.cells.size = 1)
  (v : Value) (n : Nat) (xs : List Value) (hown : ownsE w base e v n xs)
  (a : Addr) (m c : Nat) (news : List Value) (hl : news.length = m) (hnews : ∀ j u, news[j]? = some u → w.cell? (a.add j) = some u) (h1 : ∀ u ∈ news, u.oneCell' = true)
  (h63 : n + m ≤ 140737488355328) (hbase : base ≤ w.heap.size) :
  ∃ v' w', (Builtin.append_ #[t, t] ty #[v, .slice (some a) m c]).run P w = .ok v' w' ∧ ownsE w' base e v' (n + m) (xs ++ news) ∧ w.grownBy w' v.ownBlock := by
 obtain ⟨hxl, g, cap, cur, fz, rfl, hbg, hg, hf, hnc, hcm, hcs, htake⟩ := hown
 have hlen : (xs ++ news).length = n + m := by rw [List.length_append, hxl, hl]
 by_cases hroom : n + m ≤ cap
 ·have hfit : n + 0 + news.length ≤ cur.size := by rw [hl, hcs]; omega
  have hfc := run_firstCells_some (P := P) w i.size m a m c news (by rw [hsize, hl, Nat.mul_one]) hnews
  have hst := run_storeCells_atE P g n e fz news 0 cur w hg hf hfit h1
  simp only [Nat.add_zero] at hst
  have hr : (Builtin.append_ #[t, t] ty #[.slice (some ⟨g, 0, none⟩) n cap, .slice (some a) m c]).run P w = .ok (.slice (some ⟨g, 0, none⟩) (n + m) cap) (w.setRow g (cur.toList.take n ++ news ++ cur.toList.drop (n + news.length)).toArray) := by
   rw [hsize] at hfc
   simp [Builtin.append_, run_underlying ht, sizeOf, typeInfo, hi, hsize, Builtin.lenOf, hroom, hfc, Addr.add_lit, hst]
  have hsz : (cur.toList.take n ++ news ++ cur.toList.drop (n + news.length)).toArray.size = cur.size := by
   simp only [List.size_toArray, List.length_append, List.length_take, List.length_drop, Array.length_toList]
   omega
  refine ⟨_, _, hr, ⟨hlen, g, cap, _, fz, rfl, hbg, setRow_heap w g cur _ e _ hg, by rw [hsz]; exact hf, hroom, hcm, by rw [hsz]; exact hcs, ?_⟩, ⟨rfl, rfl, rfl, by simp, fun k _ hk => setRow_other w g k _ (fun e => hk (by simp [Value.ownBlock, e]))⟩⟩
  rw [htake, ← hlen]
  exact List.take_left
 ·have holds : ∀ j u, xs[j]? = some u → w.cell? ((⟨g, 0, none⟩ : Addr).add j) = some u := fun j u hj => by
   have e1 : (⟨g, 0, none⟩ : Addr).add j = ⟨g, j, none⟩ := by unfold Addr.add; split <;> simp_all
   rw [e1, cell_of_row w g j _ _ _ hg]
   have hjn : j < n := by rw [← hxl]; exact (List.getElem?_eq_some_iff.1 hj).1
   rw [← htake, List.getElem?_take, if_pos hjn] at hj
   rw [← hj]; simp
  have hr := run_append_grow (P := P) w t ty e i z ht hi hz ⟨g, 0, none⟩ n cap xs (by rw [hsize, Nat.mul_one]; exact hxl) holds a m c news (by rw [hsize, Nat.mul_one]; exact hl) hnews (by omega) (by omega) (growslice_fits (by omega) (by rw [hby]; omega))
  have hge := grownCap_ge w (n + m) cap e
  have hcm2 : grownCap w (n + m) cap e ≤ maxLen := grownCap_le_maxLen w (n + m) cap e (by unfold maxLen; omega)
  refine ⟨_, _, hr, ⟨hlen, w.heap.size, _, _, _, rfl, hbase, heap_alloc_new w.drew _, loose_zero _, hge, hcm2, ?_, ?_⟩, ⟨rfl, rfl, rfl, by simp, fun k hk _ => by show (w.heap.push _)[k]? = _; rw [Array.getElem?_push, if_neg (Nat.ne_of_lt hk)]⟩⟩
  ·simp only [Array.size_append, List.size_toArray, size_zeroCells, hzs, hxl, hl]
   omega
  ·simp only [Array.toList_append, List.append_assoc]
   rw [← List.append_assoc, ← hlen]
   exact List.take_left
theorem wpList_append_ownE {P : Program} {w : World} {ops : Array Oper} {rest : List Oper} {o : Oper} {a : Act} {Q : Exit → Act → World → Prop} (hgd : o.guard = none) (s x : Operand) (t : TypeId)
  (ho : o.op = .call { callee := .builtin .append, args := #[s, x], argTypes := #[t, t] })
  (base : Nat) (e : TypeId) (i : TypeInfo) (z : Value) (ht : P.underlying t = some (.slice e)) (hi : P.info? e = some i) (hz : i.zero = some z)
  (hsize : i.size = 1) (hby : i.bytes = 1) (hzs : z.cells.size = 1)
  (v : Value) (n : Nat) (xs : List Value) (hs : a.eval s = v) (hown : ownsE w base e v n xs)
  (ad : Addr) (m c : Nat) (news : List Value) (hx : a.eval x = .slice (some ad) m c) (hl : news.length = m) (hnews : ∀ j u, news[j]? = some u → w.cell? (ad.add j) = some u) (h1 : ∀ u ∈ news, u.oneCell' = true)
  (h63 : n + m ≤ 140737488355328) (hbase : base ≤ w.heap.size)
  (h : ∀ v' w', ownsE w' base e v' (n + m) (xs ++ news) → w.grownBy w' v.ownBlock → wpList P ops Q rest (a.put o.dst v') w') : wpList P ops Q (o :: rest) a w :=
 wpList_plain hgd fun _ hK => by
  obtain ⟨v', w', hr, h2, h3⟩ := run_append_ownE (P := P) w base t o.type e i z ht hi hz hsize hby hzs v n xs hown ad m c news hl hnews h1 h63 hbase
  unfold Oper.wp execOp
  simp only [ho, resolve, invoke, builtin, Sem.run_bind, Sem.run_pure, Result.andThen_ok, List.map_toArray, List.map_cons, List.map_nil, hs, hx, hr]
  exact hK _ _ (h v' w' h2 h3)
theorem ownsE.below {w w1 w' : World} {base : Nat} {e : TypeId} {v : Value} {n : Nat} {xs : List Value} (h : ownsE w base e v n xs) (hb : Below base w1 w) (hz : base ≤ w.heap.size) (hg : w.grownBy w' v.ownBlock) : Below base w1 w' := by
 obtain ⟨hl, g, cap, cur, fz, rfl, h1, _⟩ := h
 exact hb.grown hg hz (fun k hk => by simp [Value.ownBlock] at hk; omega)
end Go.Proofs.YtlccihidedfemaaGreatDoor
set_option linter.unusedVariables false
namespace Go.Proofs.YtlccihidedfemaaGreatDoor
open Go.RowKit
attribute [local go_sem] Oper.semAt_some
def RetStrs (w : World) (M : List Txt) (e : Ending) (w' : World) : Prop := ∃ v', e = .returned v' ∧ IsStrs w' v' (strsOf M) ∧ Below w.heap.size w w'
def AddTo (l : List Txt) (x : Txt) (k : Nat) (d : Bool) (out : List Txt) : Prop := out.length = k + (if d then 1 else 0) ∧ out ++ (if d then l.drop k else ins (l.drop k) x) = ins l x
theorem addTo_zero (l : List Txt) (x : Txt) : AddTo l x 0 false [] := ⟨by simp, by simp⟩
theorem addTo_len {l : List Txt} {x : Txt} {k : Nat} {d : Bool} {out : List Txt} (h : AddTo l x k d out) : out.length ≤ k + 1 := by have := h.1; split at this <;> omega
theorem addTo_done {l : List Txt} {x : Txt} {k : Nat} {out : List Txt} (h : AddTo l x k true out) (hk : k < l.length) : AddTo l x (k + 1) true (out ++ [l[k]]) :=
 ⟨by have := h.1; simp at this ⊢; omega, by have := h.2; rw [if_pos rfl, List.drop_eq_getElem_cons hk] at this; rw [if_pos rfl, List.append_assoc]; exact this⟩
theorem addTo_here {l : List Txt} {x : Txt} {k : Nat} {out : List Txt} (h : AddTo l x k false out) (hk : k < l.length) (hx : x < l[k]) : AddTo l x (k + 1) true ((out ++ [x]) ++ [l[k]]) :=
 ⟨by have := h.1; simp at this ⊢; omega, by
  have := h.2; rw [if_neg (by simp), List.drop_eq_getElem_cons hk, ins, if_pos hx] at this
  rw [if_pos rfl, List.append_assoc, List.append_assoc]; exact this⟩
theorem addTo_past {l : List Txt} {x : Txt} {k : Nat} {out : List Txt} (h : AddTo l x k false out) (hk : k < l.length) (hx : ¬ x < l[k]) : AddTo l x (k + 1) false (out ++ [l[k]]) :=
 ⟨by have := h.1; simp at this ⊢; omega, by
  have := h.2; rw [if_neg (by simp), List.drop_eq_getElem_cons hk, ins, if_neg hx] at this
  rw [if_neg (by simp), List.append_assoc]; exact this⟩
theorem addTo_end {l : List Txt} {x : Txt} {k : Nat} {d : Bool} {out : List Txt} (h : AddTo l x k d out) (hk : l.length ≤ k) : out ++ (if d then [] else [x]) = ins l x := by
 have := h.2
 rw [List.drop_eq_nil_of_le hk] at this
 cases d <;> simpa [ins] using this
set_option maxRecDepth 100000 in
set_option maxHeartbeats 2000000 in
theorem refAdd_any (v : Value) (L : List ByteArray) (x : ByteArray) (w : World) (hv : IsStrs w v L) (hL : L.length ≤ 900000) :
  Calls Tryz.prog 78 #[v, .string x] w (RetStrs w (addL (txts L) x.data.toList)) := by
 have HV := Lib.hid hv
 obtain ⟨hm, a, cap, rfl, _, hc⟩ := hv
 have HC := Lib.hid hc
 clear hc hm
 have CH := fun W (h : IsStrs W (.slice a L.length cap) L) => refHas_any _ L x W h
 by_cases hin : x.data.toList ∈ txts L
 ·rw [show hasB (txts L) x.data.toList = true from decide_eq_true hin] at CH
  have H := Lib.hid (CH w HV.out); clear CH
  have HR : Hid (addL (txts L) x.data.toList = txts L) := Lib.hid (if_pos hin)
  clear hin
  go_enter Tryz.func78, Tryz.ntmps78
  go_wp2_with fail
  refine (H.out).mono ?_
  rintro e w' ⟨rfl, rfl⟩
  go_wp2
  go_ret
  exact ⟨.slice a L.length cap, rfl, by rw [HR.out, strsOf_txts]; exact HV.out, Below.refl _ _⟩
 ·rw [show hasB (txts L) x.data.toList = false from decide_eq_false hin] at CH
  have H := Lib.hid (CH w HV.out); clear CH
  have HR : Hid (addL (txts L) x.data.toList = ins (txts L) x.data.toList) := Lib.hid (if_neg hin)
  clear hin
  go_enter Tryz.func78, Tryz.ntmps78
  go_wp2_with fail
  refine (H.out).mono ?_
  rintro e w' ⟨rfl, rfl⟩
  go_wp2
  go_loopw [5, 6, 7] (fun o d i wr => ∃ (k : Nat) (db : Bool) (out : List Txt), k ≤ L.length ∧ i = .int .i64 k ∧ d = .bool db ∧ AddTo (txts L) x.data.toList k db out ∧ OwnTxt w wr o out ∧ Below w.heap.size w wr) (fun _ _ i _ => L.length - (intOf i).toNat)
  case atStart => exact ⟨0, false, [], Nat.zero_le _, rfl, rfl, addTo_zero _ _, ownTxt_nil _, Below.refl _ _⟩
  case round =>
   obtain ⟨k, db, out, hk, rfl, rfl, hA, hO, hB⟩ := hrel
   have hlen := addTo_len hA
   have hol : out.length ≤ 1000000 := by omega
   have HA := Lib.hid hA; have HO := Lib.hid hO
   clear hA hO hlen
   by_cases hlt : k < L.length
   ·obtain ⟨b1, o1, rfl, hbl, g1⟩ := HC.out (by omega)
    have q1 := g1 k hlt
    rw [← hB.cell (p := ⟨b1, o1 + k, none⟩) hbl] at q1
    clear g1
    obtain ⟨y, hy⟩ : ∃ y, y = L[k] := ⟨_, rfl⟩
    have hyl : (txts L)[k]'(by rw [txts_len]; exact hlt) = y.data.toList := by rw [hy, txts_get hlt]
    rw [← hy] at q1
    have HY := Lib.hid hyl; clear hy hyl
    have hbk : decide ((k : Int) < (L.length : Int)) = true := by simpa using (show (k : Int) < L.length by omega)
    have hkl : k < (txts L).length := by rw [txts_len]; exact hlt
    cases db with
    | true =>
     have HS := Lib.hid (addTo_done HA.out hkl)
     go_wp2_with (at_builtin; refine wpList_append_txt rfl _ _ rfl HO.out hB rfl rfl hol ?_)
     intro v' w2 hown' hb2
     go_wp2
     go_roundw
     case rel => exact ⟨k + 1, true, _, by omega, by go_num, rfl, HS.out, by rw [HY.out]; exact hown', hb2⟩
     case measure => simp [intOf]; omega
    | false =>
     by_cases hlx : x.data.toList < y.data.toList
     ·have HS := Lib.hid (addTo_here HA.out hkl (by rw [HY.out]; exact hlx))
      have l1 : Op.bytesLess y.toList x.toList = false := by rw [less_eq]; exact decide_eq_false (t_asymm hlx)
      have l2 : (y.toList == x.toList) = false := beq_false (fun e => t_irrefl _ (e ▸ hlx))
      clear hlx
      have hol2 : (out ++ [x.data.toList]).length ≤ 1000000 := by have := HA.out.1; simp at this; rw [List.length_append, List.length_singleton]; omega
      go_wp2_with (at_builtin; refine wpList_append_txt rfl _ _ rfl HO.out hB rfl rfl hol ?_)
      intro v1 w1 hown1 hb1
      have q2 := (hb1.cell (p := ⟨b1, o1 + k, none⟩) hbl).trans ((hB.cell (p := ⟨b1, o1 + k, none⟩) hbl).symm.trans q1)
      have HO1 := Lib.hid hown1
      clear hown1
      go_wp2_with (at_builtin; refine wpList_append_txt rfl _ _ rfl HO1.out hb1 rfl rfl hol2 ?_)
      intro v' w2 hown' hb2
      go_wp2
      go_roundw
      case rel => exact ⟨k + 1, true, _, by omega, by go_num, rfl, HS.out, by rw [HY.out]; simpa using hown', hb2⟩
      case measure => simp [intOf]; omega
     ·have HS := Lib.hid (addTo_past HA.out hkl (by rw [HY.out]; exact hlx))
      have l0 : (Op.bytesLess y.toList x.toList || (y.toList == x.toList)) = true := by
       rw [less_eq]
       by_cases e : y = x
       ·rw [beq_true e, Bool.or_true]
       ·rw [decide_eq_true (Classical.byContradiction fun c => e (str_eq' (t_tri _ _ c hlx))), Bool.true_or]
      clear hlx
      go_wp2_with (at_builtin; refine wpList_append_txt rfl _ _ rfl HO.out hB rfl rfl hol ?_)
      intro v' w2 hown' hb2
      go_wp2
      go_roundw
      case rel => exact ⟨k + 1, false, _, by omega, by go_num, rfl, HS.out, by rw [HY.out]; exact hown', hb2⟩
      case measure => simp [intOf]; omega
   ·have HE := Lib.hid (addTo_end HA.out (by rw [txts_len]; omega))
    have hge : decide ((k : Int) < (L.length : Int)) = false := by simp; omega
    cases db with
    | true =>
     go_wp2
     go_ret
     exact ⟨u5, rfl, by have h := HO.out.strs; rw [HR.out, ← HE.out]; simpa using h, hB⟩
    | false =>
     go_wp2_with (at_builtin; refine wpList_append_txt rfl _ _ rfl HO.out hB rfl rfl hol ?_)
     intro v' w2 hown' hb2
     go_wp2
     go_ret
     exact ⟨v', rfl, by have h := hown'.strs; rw [HR.out, ← HE.out]; simpa using h, hb2⟩
def OfTo (l : List Txt) (k : Nat) : List Txt := ((l.take k).filter isK).foldl addL []
theorem ofTo_step {l : List Txt} {k : Nat} (hk : k < l.length) : OfTo l (k + 1) = if l[k].length = 32 then addL (OfTo l k) l[k] else OfTo l k := by
 unfold OfTo
 rw [List.take_succ_eq_append_getElem hk, List.filter_append]
 by_cases h : l[k].length = 32 <;> simp [h, isK]
theorem ofTo_len (l : List Txt) (k : Nat) : (OfTo l k).length ≤ k := by
 have h1 := adds_len ((l.take k).filter isK) []
 have h2 := List.length_filter_le isK (l.take k)
 have h3 := List.length_take_le k l
 unfold OfTo; simp at h1; omega
set_option maxRecDepth 100000 in
set_option maxHeartbeats 2000000 in
theorem refOf_any (v : Value) (L : List ByteArray) (w : World) (hv : IsStrs w v L) (hL : L.length ≤ 800000) :
  Calls Tryz.prog 47 #[v] w (RetStrs w (ofL (txts L))) := by
 obtain ⟨hm, a, cap, rfl, _, hc⟩ := hv
 have HC := Lib.hid hc
 clear hc hm
 go_enter Tryz.func47, Tryz.ntmps47
 go_wp2
 go_loopw [3, 4] (fun o i wr => ∃ k : Nat, k ≤ L.length ∧ i = .int .i64 k ∧ IsStrs wr o (strsOf (OfTo (txts L) k)) ∧ Below w.heap.size w wr) (fun _ i _ => L.length - (intOf i).toNat)
 case atStart => exact ⟨0, Nat.zero_le _, rfl, isStrs_nil _, Below.refl _ _⟩
 case round =>
  obtain ⟨k, hk, rfl, hO, hB⟩ := hrel
  have HO := Lib.hid hO
  clear hO
  by_cases hlt : k < L.length
  ·obtain ⟨b1, o1, rfl, hbl, g1⟩ := HC.out (by omega)
   have q1 := g1 k hlt
   rw [← hB.cell (p := ⟨b1, o1 + k, none⟩) hbl] at q1
   clear g1
   have hst := ofTo_step (l := txts L) (k := k) (by rw [txts_len]; exact hlt)
   rw [txts_get hlt] at hst
   obtain ⟨y, hy⟩ : ∃ y, y = L[k] := ⟨_, rfl⟩
   rw [← hy] at q1 hst
   clear hy
   rw [← Lib.size_eq] at hst
   have hbk : decide ((k : Int) < (L.length : Int)) = true := by simpa using (show (k : Int) < L.length by omega)
   by_cases h32 : y.size = 32
   ·rw [if_pos h32] at hst
    have h32b : (((y.size : Nat) : Int) == 32) = true := by rw [h32]; rfl
    have CA := refAdd_any _ (strsOf (OfTo (txts L) k)) y wr HO.out (by rw [strsOf_len]; have := ofTo_len (txts L) k; omega)
    rw [txts_strsOf, ← hst] at CA
    have HA := Lib.hid CA; clear CA hst h32
    go_wp2_with fail
    refine (HA.out).mono ?_
    rintro e w1 ⟨v1, rfl, hv1, hb1⟩
    have HV1 := Lib.hid hv1; clear hv1
    go_wp2
    go_roundw
    case rel => exact ⟨k + 1, by omega, by go_num, HV1.out, below_step hB hb1⟩
    case measure => simp [intOf]; omega
   ·rw [if_neg h32] at hst
    have HST := Lib.hid hst; clear hst
    have h32b : (((y.size : Nat) : Int) == 32) = false := by simp; omega
    go_wp2
    go_roundw
    case rel => exact ⟨k + 1, by omega, by go_num, by rw [HST.out]; exact HO.out, hB⟩
    case measure => simp [intOf]; omega
  ·have hE : OfTo (txts L) k = ofL (txts L) := by
    rw [← refOf_eq]; unfold OfTo refOfL
    rw [List.take_of_length_le (by rw [txts_len]; omega)]
   have HE := Lib.hid hE; clear hE
   have hge : decide ((k : Int) < (L.length : Int)) = false := by simp; omega
   go_wp2
   go_ret
   exact ⟨u3, rfl, by rw [← HE.out]; exact HO.out, hB⟩
theorem grownBy_set (w : World) (b i : Nat) (u : Value) : w.grownBy (w.setCell ⟨b, i, none⟩ u) (some b) :=
 ⟨rfl, rfl, rfl, by simp [World.setCell], fun k hk hr => Below.heap_setCell _ _ _ _ (fun e => hr (by rw [e]))⟩
theorem drop_str (S : ByteArray) (k : Nat) : (S.extract k S.size).data.toList = S.data.toList.drop k := by
 rw [Lib.extract_data, Lib.size_eq]
 exact List.take_of_length_le (by rw [List.length_drop]; omega)
theorem take_str (S : ByteArray) (k : Nat) : (S.extract 0 k).data.toList = S.data.toList.take k := by rw [Lib.extract_data]; simp
theorem Row.turned {w w' : World} {b B : Nat} {xs : Array Value} {T : TypeId} (h : Row w B xs T) (hg : w.grownBy w' (some b)) (hne : B ≠ b) : Row w' B xs T := by
 unfold Row; rw [hg.block B h.lt (fun e => hne (by cases e; rfl))]; exact h
end Go.Proofs.YtlccihidedfemaaGreatDoor
set_option linter.unusedVariables false
namespace Go.Proofs.YtlccihidedfemaaGreatDoor
open Go.RowKit
set_option maxRecDepth 100000 in
set_option maxHeartbeats 2000000 in
theorem refTake_any (s : ByteArray) (hs : s.size ≤ maxLen) (w : World) :
  Calls Tryz.prog 39 #[.string s] w fun e w' => e = .returned (.tuple #[.int .u64 ((vtake s.data.toList).1 : Nat), .int .i64 ((vtake s.data.toList).2.1 : Nat), .int .i64 ((vtake s.data.toList).2.2 : Nat)]) ∧ w' = w := by
 have hsm : s.size ≤ 9223372036854775807 := by unfold maxLen at hs; omega
 have HS := Lib.hid (Lib.size_eq s)
 go_enter Tryz.func39, Tryz.ntmps39
 go_wp2
 go_loop [5, 6] (fun t p => ∃ a i : Nat, t = .int .u64 a ∧ p = .int .i64 i ∧ refI s.data.toList i a) (fun _ p => 10 - (intOf p).toNat)
 case atStart => exact ⟨0, 0, rfl, rfl, refI_zero _⟩
 case round =>
  obtain ⟨a, i, rfl, rfl, hI⟩ := hrel
  have hi9 : i ≤ 9 := hI.1
  by_cases hlt : i < s.size
  ·have hb : s[i].toNat < 256 := s[i].toNat_lt
   have hil : i < s.data.toList.length := by rw [← HS.out]; exact hlt
   have hbe : s.data.toList[i] = s[i] := rfl
   by_cases hA : i = 9 ∧ 1 < s[i].toNat
   ·have h9 : ((i : Int) == 9) = true := by rw [hA.1]; rfl
    have h1 : (1 : Int) < (s[i].toNat : Int) := by omega
    have HV := Lib.hid (refI_range hI hil hA)
    clear hA hbe hI
    go_wp2
    go_ret3
    exact ⟨by rw [HV.out]; rfl, rfl⟩
   ·have hAw : (((i : Nat) : Int) == 9) = false ∨ ((((i : Nat) : Int) == 9) = true ∧ ¬ (1 : Int) < (s[i].toNat : Int)) := by
     by_cases h9 : i = 9
     ·right; exact ⟨by rw [h9]; rfl, by omega⟩
     ·left; exact beq_eq_false_iff_ne.2 (by omega)
    obtain ⟨hsum, hlim⟩ := ref_sum (c := s[i].toNat) hI.2.2.1 hi9 hA hb
    obtain ⟨X, hX⟩ : ∃ X, X = a + s[i].toNat % 128 * 2 ^ (7 * i) := ⟨_, rfl⟩
    rw [← hX] at hsum hlim
    have HX := Lib.hid hX; clear hX hlim
    by_cases hc : s[i].toNat < 128
    ·by_cases hz : s[i].toNat = 0 ∧ 0 < i
     ·have hz1 : ((s[i].toNat : Int) == 0) = true := by rw [hz.1]; rfl
      have hz2 : (0 : Int) < (i : Int) := by omega
      have HV := Lib.hid (refI_form hI hil hA hz)
      clear hz hA hI hbe
      rcases hAw with h9 | ⟨h9, h91⟩
      all_goals
       go_wp2
       go_ret3
       exact ⟨by rw [HV.out]; rfl, rfl⟩
     ·have hzw : (((s[i].toNat : Int) == 0) = false) ∨ (((s[i].toNat : Int) == 0) = true ∧ ¬ (0 : Int) < (i : Int)) := by
       by_cases h0 : s[i].toNat = 0
       ·right; exact ⟨by rw [h0]; rfl, by omega⟩
       ·left; exact beq_eq_false_iff_ne.2 (by omega)
      have hv : vtake s.data.toList = (X, i + 1, 0) := by
       rw [refI_last hI hil hA hz hc, HX.out, hbe, Nat.mod_eq_of_lt hc]
      have HV := Lib.hid hv
      clear hv hz hA hI hbe
      rcases hAw with h9 | ⟨h9, h91⟩ <;> rcases hzw with hz | ⟨hz, hz1⟩
      all_goals
       go_wp2
       go_ret3
       exact ⟨by rw [HV.out]; rfl, rfl⟩
    ·have hc' : ¬ (s[i].toNat : Int) < 128 := by omega
     have hon := refI_on hI hil hA (by rw [hbe]; omega)
     rw [hbe, ← HX.out] at hon
     have hi8 : i ≤ 8 := by have := hon.1; omega
     have h9 : ((i : Int) == 9) = false := beq_eq_false_iff_ne.2 (by omega)
     clear hAw hA hI hbe
     go_wp2
     go_round
     case rel => exact ⟨X, i + 1, rfl, by go_num, hon⟩
     case measure => simp [intOf]; omega
  ·have hge : (s.size : Int) ≤ (i : Int) := by omega
   have HV := Lib.hid (refI_short hI (by rw [← HS.out]; omega))
   clear hI
   go_wp2
   go_ret3
   exact ⟨by rw [HV.out]; rfl, rfl⟩
end Go.Proofs.YtlccihidedfemaaGreatDoor
namespace Go.Proofs.YtlccihidedfemaaGreatDoor
open Go.RowKit
set_option maxRecDepth 100000 in
set_option maxHeartbeats 1000000 in
theorem refTakeText_any (s : ByteArray) (hs : s.size ≤ maxLen) (w : World) :
  Calls Tryz.prog 68 #[.string s] w fun e w' => e = .returned (.tuple #[.string ⟨(vtakeText s.data.toList).1.toArray⟩, .int .i64 ((vtakeText s.data.toList).2.1 : Nat), .int .i64 ((vtakeText s.data.toList).2.2 : Nat)]) ∧ w' = w := by
 have hsm : s.size ≤ 9223372036854775807 := by unfold maxLen at hs; omega
 have HS := Lib.hid (Lib.size_eq s)
 have hc := refTake_any s hs w
 obtain ⟨n, k, e, hv⟩ : ∃ n k e, vtake s.data.toList = (n, k, e) := ⟨_, _, _, rfl⟩
 rw [hv] at hc
 have HV := Lib.hid (takeText_of hv)
 by_cases he : e = 0
 ·subst he
  obtain ⟨h1, h2, h3, h4, h5⟩ := put_take hv
  clear h1
  rw [← HS.out] at h3
  by_cases hn : n ≤ 65536
  ·by_cases hl : s.size < k + n
   ·have HR := Lib.hid (show vtakeText s.data.toList = ([], 0, 1) by rw [HV.out, if_neg (by simp), if_neg (by omega), if_pos (by rw [← HS.out]; exact hl)])
    clear hv
    go_enter Tryz.func68, Tryz.ntmps68
    go_wp2_with (go_at_call 39; refine hc.mono ?_; rintro e w' ⟨rfl, rfl⟩)
    go_ret3
    exact ⟨by rw [HR.out]; rfl, rfl⟩
   ·have HR := Lib.hid (show vtakeText s.data.toList = ((s.data.toList.drop k).take n, k + n, 0) by rw [HV.out, if_neg (by simp), if_neg (by omega), if_neg (by rw [← HS.out]; exact hl)])
    clear hv
    have hsl := fun W => run_slice_nat (P := Tryz.prog) Tryz.underlying9 s k n (by omega) W
    go_enter Tryz.func68, Tryz.ntmps68
    go_wp2_with (go_at_call 39; refine hc.mono ?_; rintro e w' ⟨rfl, rfl⟩)
    go_ret3
    exact ⟨by rw [HR.out]; exact three_of ⟨congrArg (Value.int .i64) (Int.natCast_add k n).symm, rfl⟩ (piece_eq s k n), rfl⟩
  ·have HR := Lib.hid (show vtakeText s.data.toList = ([], 0, 4) by rw [HV.out, if_neg (by simp), if_pos (by omega)])
   clear hv
   have hn' : (65536 : Int) < (n : Int) := by omega
   go_enter Tryz.func68, Tryz.ntmps68
   go_wp2_with (go_at_call 39; refine hc.mono ?_; rintro e w' ⟨rfl, rfl⟩)
   go_ret3
   exact ⟨by rw [HR.out]; rfl, rfl⟩
 ·obtain ⟨rfl, rfl, he4⟩ := vtake_err hv he
  have HR := Lib.hid (show vtakeText s.data.toList = ([], 0, e) by rw [HV.out, if_pos he])
  clear hv
  have he' : (!((e : Int) == 0)) = true := by simp; omega
  have he2 : ((e : Int) != 0) = true := by simp; omega
  go_enter Tryz.func68, Tryz.ntmps68
  go_wp2_with (go_at_call 39; refine hc.mono ?_; rintro e w' ⟨rfl, rfl⟩)
  go_ret3
  exact ⟨by rw [HR.out]; rfl, rfl⟩
end Go.Proofs.YtlccihidedfemaaGreatDoor
set_option linter.unusedVariables false
namespace Go.Proofs.YtlccihidedfemaaGreatDoor
theorem sum_add {α : Type} (f g : α → Nat) : ∀ L : List α, (L.map fun x => f x + g x).sum = (L.map f).sum + (L.map g).sum
 | [] => rfl
 | x :: L => by simp only [List.map_cons, List.sum_cons, sum_add f g L]; omega
theorem sum_le {α : Type} {f g : α → Nat} : ∀ {L : List α}, (∀ x ∈ L, f x ≤ g x) → (L.map f).sum ≤ (L.map g).sum
 | [], _ => Nat.le_refl _
 | x :: L, h => by
  have h1 := h x (by simp)
  have h2 := sum_le fun y hy => h y (List.mem_cons_of_mem x hy)
  simp only [List.map_cons, List.sum_cons]; omega
theorem sum_zero {α : Type} : ∀ L : List α, (L.map fun _ => 0).sum = 0
 | [] => rfl
 | _ :: L => by simp only [List.map_cons, List.sum_cons, sum_zero L]
theorem sum_swap {α β : Type} (f : α → β → Nat) (M : List β) : ∀ L : List α, (L.map fun x => (M.map fun y => f x y).sum).sum = (M.map fun y => (L.map fun x => f x y).sum).sum
 | [] => by simp only [List.map_nil, List.sum_nil]; exact (sum_zero M).symm
 | x :: L => by
  simp only [List.map_cons, List.sum_cons]
  rw [sum_swap f M L, ← sum_add]
theorem sum_mem {α : Type} {f : α → Nat} {x : α} : ∀ {L : List α}, x ∈ L → f x ≤ (L.map f).sum
 | y :: L, h => by
  simp only [List.map_cons, List.sum_cons]
  rcases List.mem_cons.1 h with rfl | h
  ·omega
  ·have := sum_mem (f := f) h; omega
def wI (x : It) : Nat := x.b.length + 1
def inP (A B : List (List UInt8)) : Bool := decide (A.length < B.length ∧ B.take A.length = A)
def beg (A B : List (List UInt8)) : Bool := decide (A.length ≤ B.length ∧ B.take A.length = A)
def wBelow (I : List It) (A : List (List UInt8)) : Nat := (I.map fun y => if inP A (cs y.t) then wI y else 0).sum
theorem below_self {I : List It} {x : It} (hx : x ∈ I) : wI x + wBelow I (cs x.t) ≤ (I.map fun y => if beg (cs x.t) (cs y.t) then wI y else 0).sum := by
 have h1 : (I.map fun y => if beg (cs x.t) (cs y.t) then wI y else 0).sum = (I.map fun y => (if cs y.t = cs x.t then wI y else 0) + if inP (cs x.t) (cs y.t) then wI y else 0).sum := by
  congr 1
  refine List.map_congr_left fun y _ => ?_
  by_cases h2 : cs y.t = cs x.t
  ·have hb : beg (cs x.t) (cs y.t) = true := decide_eq_true ⟨by rw [h2]; exact Nat.le_refl _, by rw [h2, List.take_length]⟩
   have hp : inP (cs x.t) (cs y.t) = false := decide_eq_false fun h => by have := h.1; rw [h2] at this; omega
   rw [hb, hp, if_pos h2]; simp
  ·by_cases h3 : inP (cs x.t) (cs y.t) = true
   ·have h4 := of_decide_eq_true h3
    have hb : beg (cs x.t) (cs y.t) = true := decide_eq_true ⟨Nat.le_of_lt h4.1, h4.2⟩
    rw [hb, h3, if_neg h2]; simp
   ·have hb : beg (cs x.t) (cs y.t) = false := decide_eq_false fun h => by
     rcases Nat.lt_or_ge (cs x.t).length (cs y.t).length with h5 | h5
     ·exact h3 (decide_eq_true ⟨h5, h.2⟩)
     ·have := h.2
      rw [List.take_of_length_le h5] at this
      exact h2 this
    rw [hb, if_neg h2]
    have : inP (cs x.t) (cs y.t) = false := by simpa using h3
    rw [this]; simp
 rw [h1, sum_add]
 have h6 := sum_mem (f := fun y => if cs y.t = cs x.t then wI y else 0) hx
 rw [if_pos rfl] at h6
 unfold wBelow
 omega
theorem one_only {I : List It} (F : TFit I) (d : List UInt8) (y : It) : ((inD I d).map fun x => if beg (cs x.t) (cs y.t) then wI y else 0).sum ≤ if inP (cs d) (cs y.t) then wI y else 0 := by
 have key : ∀ X : List It, (∀ x ∈ X, x ∈ inD I d) → Rise X → (X.map fun x => if beg (cs x.t) (cs y.t) then wI y else 0).sum ≤ if inP (cs d) (cs y.t) then wI y else 0 := by
  intro X
  induction X with
  | nil => intro _ _; exact Nat.zero_le _
  | cons x X ih =>
   intro hX hr
   obtain ⟨hr1, hr2⟩ := rise_cons.1 hr
   have hx := mem_inD.1 (hX x (by simp))
   have ex := (dir_iff (F.path x hx.1)).1 hx.2
   simp only [List.map_cons, List.sum_cons]
   by_cases hb : beg (cs x.t) (cs y.t) = true
   ·have h1 := of_decide_eq_true hb
    have hp : inP (cs d) (cs y.t) = true := decide_eq_true (by
     have h2 := h1.1
     rw [ex, List.length_append] at h2
     refine ⟨by simp at h2; omega, ?_⟩
     have h3 := congrArg (List.take (cs d).length) h1.2
     rw [List.take_take, ex] at h3
     rw [List.length_append, List.take_left] at h3
     rwa [Nat.min_eq_left (by omega)] at h3)
    have hz : (X.map fun x => if beg (cs x.t) (cs y.t) then wI y else 0).sum = 0 := by
     have : X.map (fun x => if beg (cs x.t) (cs y.t) then wI y else 0) = X.map fun _ => 0 := List.map_congr_left fun u hu => by
      refine if_neg fun hbu => ?_
      have hu2 := mem_inD.1 (hX u (List.mem_cons_of_mem _ hu))
      have eu := (dir_iff (F.path u hu2.1)).1 hu2.2
      have h4 := of_decide_eq_true hbu
      have hl : (cs u.t).length = (cs x.t).length := by rw [eu, ex]; simp
      have he : cs u.t = cs x.t := by rw [← h4.2, ← h1.2, hl]
      have := hr1 u hu
      rw [cs_inj he, order_self] at this
      cases this
     rw [this]; exact sum_zero X
    rw [hz, if_pos hb, if_pos hp]; omega
   ·rw [if_neg hb, Nat.zero_add]
    exact ih (fun u hu => hX u (List.mem_cons_of_mem _ hu)) hr2
 exact key _ (fun x hx => hx) (rise_filter F.rise _)
theorem flat_len {α β : Type} (f : α → List β) : ∀ L : List α, (L.flatMap f).length = (L.map fun x => (f x).length).sum
 | [] => rfl
 | x :: L => by rw [List.flatMap_cons, List.length_append, flat_len f L]; simp
theorem seqF_len {c : List UInt8 → Nat} {I : List It} (R : ReadyT c I) (x : It) : (seqF c x.b).length ≤ wI x := by
 obtain ⟨mn, mx, H, _⟩ := R.cut
 unfold seqF wI
 have := pcs_len H.pos x.b.length x.b (Nat.le_refl _)
 simp; omega
theorem seqD_len {c : List UInt8 → Nat} {I : List It} (R : ReadyT c I) : ∀ (k : Nat) (d : List UInt8), (seqD c I k d).length ≤ 1 + wBelow I (cs d)
 | 0, d => by show 1 ≤ _; omega
 | k + 1, d => by
  show (((inD I d).flatMap fun x => if x.d then seqD c I k x.t else seqF c x.b) ++ [dirN c I (k + 1) d]).length ≤ _
  rw [List.length_append, flat_len]
  have h1 : ((inD I d).map fun x => (if x.d then seqD c I k x.t else seqF c x.b).length).sum ≤ ((inD I d).map fun x => (I.map fun y => if beg (cs x.t) (cs y.t) then wI y else 0).sum).sum := sum_le fun x hx => by
   refine Nat.le_trans ?_ (below_self (mem_inD.1 hx).1)
   cases x.d
   ·have := seqF_len R x; simp; omega
   ·have := seqD_len R k x.t
    have h2 : 1 ≤ wI x := by unfold wI; omega
    simp; omega
  rw [sum_swap] at h1
  have h3 : (I.map fun y => ((inD I d).map fun x => if beg (cs x.t) (cs y.t) then wI y else 0).sum).sum ≤ wBelow I (cs d) := sum_le fun y _ => one_only R.fit d y
  simp only [List.length_singleton]
  omega
theorem wBelow_le (I : List It) (A : List (List UInt8)) : wBelow I A ≤ sizeT I + I.length := by
 unfold wBelow sizeT
 have h1 : (I.map fun y => if inP A (cs y.t) then wI y else 0).sum ≤ (I.map fun y => y.c.size + 1).sum := sum_le fun y _ => by
  have : wI y = y.c.size + 1 := by unfold wI It.b; rw [Lib.size_eq]
  split <;> omega
 rw [sum_add] at h1
 have h2 : (I.map fun _ => 1).sum = I.length := by
  have : ∀ L : List It, (L.map fun _ => 1).sum = L.length := fun L => by induction L with
   | nil => rfl
   | cons x L ih => simp only [List.map_cons, List.sum_cons, ih, List.length_cons]; omega
  exact this I
 omega
theorem seqT_len {c : List UInt8 → Nat} {I : List It} (R : ReadyT c I) : (seqT c I).length ≤ 70000 := by
 have h1 := seqD_len R 9 []
 have h2 := wBelow_le I (cs [])
 have h3 := R.fit.size
 have h4 := R.fit.len
 unfold seqT
 omega
end Go.Proofs.YtlccihidedfemaaGreatDoor
namespace Go.Proofs.YtlccihidedfemaaGreatDoor
theorem inP_iff {A B : List (List UInt8)} : inP A B = true ↔ ∃ r, r ≠ [] ∧ B = A ++ r := by
 unfold inP
 rw [decide_eq_true_eq]
 constructor
 ·rintro ⟨h1, h2⟩
  refine ⟨B.drop A.length, fun e => ?_, ?_⟩
  ·have := congrArg List.length e
   rw [List.length_drop] at this
   simp at this; omega
  ·conv => lhs; rw [← List.take_append_drop A.length B, h2]
 ·rintro ⟨r, hr, rfl⟩
  refine ⟨?_, by simp⟩
  rw [List.length_append]
  have := List.length_pos_iff.2 hr
  omega
def blkT (L : List It) (d : List UInt8) : List It := L.filter fun y => inP (cs d) (cs y.t)
theorem mem_blk {L : List It} {d : List UInt8} {y : It} : y ∈ blkT L d ↔ y ∈ L ∧ inP (cs d) (cs y.t) = true := by unfold blkT; simp
theorem order_cs {L : List It} (F : TFit L) {x y : It} (hx : x ∈ L) (hy : y ∈ L) : orderS x.t y.t = cmpP (cs x.t) (cs y.t) := by
 rw [(path_ok (F.path x hx)).pts, (path_ok (F.path y hy)).pts]; rfl
theorem it_one {L : List It} (F : TFit L) {x y : It} (hx : x ∈ L) (hy : y ∈ L) (e : x.t = y.t) : x = y := by
 have key : ∀ L : List It, Rise L → ∀ x ∈ L, ∀ y ∈ L, x.t = y.t → x = y := by
  intro L
  induction L with
  | nil => intro _ x hx; cases hx
  | cons a L ih =>
   intro h x hx y hy e
   obtain ⟨h1, h2⟩ := List.pairwise_cons.1 h
   rcases List.mem_cons.1 hx with rfl | hx' <;> rcases List.mem_cons.1 hy with rfl | hy'
   ·rfl
   ·exact absurd e (order_ne (h1 y hy'))
   ·exact absurd e.symm (order_ne (h1 x hx'))
   ·exact ih h2 x hx' y hy' e
 exact key L F.rise x hx y hy e
theorem rise_ext_it : ∀ {L M : List It}, Rise L → Rise M → (∀ y, y ∈ L ↔ y ∈ M) → L = M
 | [], [], _, _, _ => rfl
 | [], y :: M, _, _, h => absurd ((h y).2 (by simp)) (by simp)
 | x :: L, [], _, _, h => absurd ((h x).1 (by simp)) (by simp)
 | x :: L, y :: M, hL, hM, h => by
  obtain ⟨a1, a2⟩ := List.pairwise_cons.1 hL
  obtain ⟨b1, b2⟩ := List.pairwise_cons.1 hM
  have irr : ∀ z : It, orderS z.t z.t ≠ -1 := fun z e => by rw [order_self] at e; cases e
  have hxy : x = y := by
   rcases List.mem_cons.1 ((h x).1 (by simp)) with e | e
   ·exact e
   ·rcases List.mem_cons.1 ((h y).2 (by simp)) with e' | e'
    ·exact e'.symm
    ·exact absurd (order_trans (b1 x e) (a1 y e')) (irr y)
  subst hxy
  congr 1
  refine rise_ext_it a2 b2 (fun z => ⟨fun hz => ?_, fun hz => ?_⟩)
  ·rcases List.mem_cons.1 ((h z).1 (List.mem_cons_of_mem _ hz)) with e | e
   ·exact absurd (e ▸ a1 z hz) (irr _)
   ·exact e
  ·rcases List.mem_cons.1 ((h z).2 (List.mem_cons_of_mem _ hz)) with e | e
   ·exact absurd (e ▸ b1 z hz) (irr _)
   ·exact e
theorem in_cs {L : List It} (F : TFit L) {d : List UInt8} {x : It} (hx : x ∈ inD L d) : cs x.t = cs d ++ [lastN x.t] := (dir_iff (F.path x (mem_inD.1 hx).1)).1 (mem_inD.1 hx).2
theorem in_blk {L : List It} (F : TFit L) {d : List UInt8} {x : It} (hx : x ∈ inD L d) : inP (cs d) (cs x.t) = true := inP_iff.2 ⟨_, by simp, in_cs F hx⟩
theorem sub_blk {L : List It} (F : TFit L) {d : List UInt8} {x y : It} (hx : x ∈ inD L d) (hy : inP (cs x.t) (cs y.t) = true) : inP (cs d) (cs y.t) = true := by
 obtain ⟨r, hr, e⟩ := inP_iff.1 hy
 exact inP_iff.2 ⟨[lastN x.t] ++ r, by simp, by rw [e, in_cs F hx, List.append_assoc]⟩
theorem blk_eq {L : List It} (F : TFit L) (d : List UInt8) : blkT L d = (inD L d).flatMap fun x => x :: blkT L x.t := by
 refine rise_ext_it (F.rise.sublist List.filter_sublist) ?_ (fun y => ?_)
 ·unfold Rise
  rw [List.pairwise_flatMap]
  refine ⟨fun x hx => List.pairwise_cons.2 ⟨fun y hy => ?_, F.rise.sublist List.filter_sublist⟩, ?_⟩
  ·obtain ⟨h1, h2⟩ := mem_blk.1 hy
   obtain ⟨r, hr, e⟩ := inP_iff.1 h2
   rw [order_cs F (mem_inD.1 hx).1 h1, e]
   exact cmp_below _ hr
  ·have hs : (inD L d).Pairwise fun a b => orderS a.t b.t = -1 := F.rise.sublist List.filter_sublist
   refine hs.imp_of_mem fun {x1 x2} m1 m2 ho a ha b hb => ?_
   have hl : ∀ {x z : It}, x ∈ inD L d → z ∈ x :: blkT L x.t → z ∈ L ∧ ∃ r, cs z.t = cs d ++ lastN x.t :: r := fun {x z} hx hz => by
    rcases List.mem_cons.1 hz with e | hz
    ·subst e; exact ⟨(mem_inD.1 hx).1, [], in_cs F hx⟩
    ·obtain ⟨h1, h2⟩ := mem_blk.1 hz
     obtain ⟨r, hr, e⟩ := inP_iff.1 h2
     exact ⟨h1, r, by rw [e, in_cs F hx, List.append_assoc]; rfl⟩
   obtain ⟨ha1, ra, ea⟩ := hl m1 ha
   obtain ⟨hb1, rb, eb⟩ := hl m2 hb
   rw [order_cs F (mem_inD.1 m1).1 (mem_inD.1 m2).1, in_cs F m1, in_cs F m2, cmp_app] at ho
   rw [order_cs F ha1 hb1, ea, eb, cmp_app, cmp_cons, if_pos (cmp_names ho)]
 ·rw [mem_blk, List.mem_flatMap]
  constructor
  ·rintro ⟨h1, h2⟩
   obtain ⟨r, hr, e⟩ := inP_iff.1 h2
   cases r with
   | nil => exact absurd rfl hr
   | cons n r =>
    cases r with
    | nil =>
     refine ⟨y, mem_inD.2 ⟨h1, (dir_of (F.path y h1) e).1⟩, by simp⟩
    | cons m r =>
     have e' : cs y.t = (cs d ++ [n]) ++ (m :: r) := by rw [e]; simp
     obtain ⟨z, hz, hzc, _⟩ := above_dir F (cs d ++ [n]) (by simp) r.length (m :: r) y rfl h1 e'
     refine ⟨z, mem_inD.2 ⟨hz, (dir_of (F.path z hz) hzc).1⟩, List.mem_cons_of_mem _ (mem_blk.2 ⟨h1, inP_iff.2 ⟨m :: r, by simp, by rw [e', hzc]⟩⟩)⟩
  ·rintro ⟨x, hx, hy⟩
   rcases List.mem_cons.1 hy with e | hy
   ·subst e; exact ⟨(mem_inD.1 hx).1, in_blk F hx⟩
   ·obtain ⟨h1, h2⟩ := mem_blk.1 hy
    exact ⟨h1, sub_blk F hx h2⟩
theorem file_blk {L : List It} (F : TFit L) {x : It} (hx : x ∈ L) (hd : x.d = false) : blkT L x.t = [] := by
 refine List.filter_eq_nil_iff.2 fun y hy hp => ?_
 obtain ⟨r, hr, e⟩ := inP_iff.1 hp
 obtain ⟨m, r', rfl⟩ := List.exists_cons_of_ne_nil hr
 obtain ⟨z, hz, hzc, hzd⟩ := above_dir F (cs x.t) (path_ok (F.path x hx)).nil r'.length (m :: r') y rfl hy e
 have := it_one F hz hx (cs_inj hzc)
 rw [this, hd] at hzd; cases hzd
theorem blk_top {L : List It} (F : TFit L) : blkT L [] = L := by
 refine List.filter_eq_self.2 fun y hy => inP_iff.2 ⟨cs y.t, (path_ok (F.path y hy)).nil, rfl⟩
def OffT (d : List UInt8) (Post : List It) : Prop := ∀ y ∈ Post.head?, inP (cs d) (cs y.t) = false
theorem off_dir {L : List It} (F : TFit L) {d : List UInt8} {Post : List It} (h : OffT d Post) {y : It} (hy : y ∈ Post.head?) (hm : y ∈ L) : dirS y.t ≠ d := fun e => by
 have h1 := h y hy
 rw [inP_iff.2 ⟨[lastN y.t], by simp, (dir_iff (F.path y hm)).1 e⟩] at h1; cases h1
theorem off_next {L : List It} (F : TFit L) {d : List UInt8} {x : It} {C Post : List It} (h : OffT d Post) (hx : x ∈ inD L d) (hC : ∀ y ∈ C, y ∈ inD L d) : OffT x.t ((C.flatMap fun y => y :: blkT L y.t) ++ Post) := by
 cases C with
 | nil =>
  intro y hy
  have h1 := h y hy
  rcases hb : inP (cs x.t) (cs y.t) with _ | _
  ·rfl
  ·rw [sub_blk F hx hb] at h1; cases h1
 | cons z C =>
  intro y hy
  simp at hy
  subst hy
  refine decide_eq_false fun hh => ?_
  have := hh.1
  rw [in_cs F hx, in_cs F (hC z (by simp)), List.length_append, List.length_append] at this
  simp at this
theorem off_nil (d : List UInt8) : OffT d [] := fun y hy => by cases hy
end Go.Proofs.YtlccihidedfemaaGreatDoor
set_option linter.unusedVariables false
namespace Go.Proofs.YtlccihidedfemaaGreatDoor
open Go.RowKit
attribute [local go_sem] Oper.semAt_some
theorem last_at {t : List UInt8} (hp : pathB t = true) : 0 < (strsOf (splitS t)).length ∧ ∀ h : (strsOf (splitS t)).length - 1 < (strsOf (splitS t)).length, (strsOf (splitS t))[(strsOf (splitS t)).length - 1].data.toList = lastN t := by
 have h0 : 0 < (splitS t).length := of_decide_eq_true hp
 refine ⟨by rw [strsOf_len]; exact h0, fun h => ?_⟩
 rw [strsOf_at (splitS t) _ h (by rw [strsOf_len]; omega)]
 unfold lastN
 simp only [strsOf_len]
 rw [List.getLastD_eq_getLast?, List.getLast?_eq_getElem?, List.getElem?_eq_getElem (by omega)]
 rfl
end Go.Proofs.YtlccihidedfemaaGreatDoor
set_option linter.unusedVariables false
namespace Go.Proofs.YtlccihidedfemaaGreatDoor
open Go.RowKit
structure Kept (B : Nat) (w w' : World) : Prop where
 os : w'.os = w.os
 tape : w'.tape = w.tape
 output : w'.output = w.output
 size : w.heap.size ≤ w'.heap.size
 block : ∀ b, b < w.heap.size → (b < B ∨ ∃ xs T, Row w b xs T ∧ T ≠ 9) → w'.heap[b]? = w.heap[b]?
theorem Kept.refl (B : Nat) (w : World) : Kept B w w := ⟨rfl, rfl, rfl, Nat.le_refl _, fun _ _ _ => rfl⟩
theorem Kept.of_below {B : Nat} {w w' : World} (h : Below w.heap.size w w') : Kept B w w' := ⟨h.os, h.tape, h.output, h.size, fun b hb _ => h.block b hb⟩
theorem row_kept {B b : Nat} {w w' : World} {xs : Array Value} {T : TypeId} (hr : Row w b xs T) (hT : T ≠ 9) (h : Kept B w w') : Row w' b xs T := (h.block b hr.lt (.inr ⟨xs, T, hr, hT⟩)).trans hr
theorem Kept.trans {B : Nat} {a b c : World} (h : Kept B a b) (k : Kept B b c) : Kept B a c :=
 ⟨k.os.trans h.os, k.tape.trans h.tape, k.output.trans h.output, Nat.le_trans h.size k.size, fun i hi hp => by
  refine (k.block i (Nat.lt_of_lt_of_le hi h.size) ?_).trans (h.block i hi hp)
  rcases hp with hp | ⟨xs, T, hr, hT⟩
  ·exact .inl hp
  ·exact .inr ⟨xs, T, row_kept hr hT h, hT⟩⟩
theorem Kept.step {B : Nat} {a b c : World} (h : Kept B a b) (k : Below b.heap.size b c) : Kept B a c := h.trans (Kept.of_below k)
theorem Kept.grown {B : Nat} {w w' : World} {row : Option Nat} (hg : w.grownBy w' row) (hr : ∀ g, row = some g → B ≤ g ∧ ∃ xs, Row w g xs 9) : Kept B w w' :=
 ⟨hg.os, hg.tape, hg.output, hg.size, fun b hb hp => hg.block b hb (fun e => by
  obtain ⟨h1, xs, h2⟩ := hr b e.symm
  rcases hp with hp | ⟨ys, T, h3, hT⟩
  ·omega
  ·have h4 := (show w.heap[b]? = _ from h2).symm.trans (show w.heap[b]? = _ from h3)
   cases h4; exact hT rfl)⟩
theorem Kept.later {B : Nat} {a w w' : World} {row : Option Nat} (h : Kept B a w) (hg : w.grownBy w' row) (hr : ∀ g, row = some g → a.heap.size ≤ g) : Kept B a w' :=
 ⟨hg.os.trans h.os, hg.tape.trans h.tape, hg.output.trans h.output, Nat.le_trans h.size hg.size, fun b hb hp =>
  (hg.block b (Nat.lt_of_lt_of_le hb h.size) (fun e => by have := hr b e.symm; omega)).trans (h.block b hb hp)⟩
theorem Kept.below {B : Nat} {a w w' : World} (h : Kept B w w') (hb : Below B a w) (hs : B ≤ w.heap.size) : Below B a w' :=
 hb.trans ⟨h.os, h.tape, h.output, h.size, fun k hk => h.block k (Nat.lt_of_lt_of_le hk hs) (.inl hk)⟩
theorem OwnE.kept {B C : Nat} {w w' : World} {v : Value} {L : List En} (h : OwnE C w v L) (hk : Kept B w w') : OwnE C w' v L := by
 refine ⟨h.1, ?_⟩
 rcases h.2 with h2 | ⟨g, cap, cur, h3, h4, h5, h6⟩
 ·exact .inl h2
 ·exact .inr ⟨g, cap, cur, h3, h4, row_kept (B := B) (xs := cur) (T := 78) h5 (by decide) hk, h6⟩
theorem OwnP.kept {B C : Nat} {w w' : World} {v : Value} {L : List Pt} (h : OwnP C w v L) (hk : Kept B w w') : OwnP C w' v L := by
 refine ⟨h.1, ?_⟩
 rcases h.2 with h2 | ⟨g, cap, cur, h3, h4, h5, h6⟩
 ·exact .inl h2
 ·exact .inr ⟨g, cap, cur, h3, h4, row_kept (B := B) (xs := cur) (T := 74) h5 (by decide) hk, h6⟩
theorem OwnTxt.row {W w : World} {v : Value} {M : List (List UInt8)} (h : OwnTxt W w v M) {g : Nat} (hg : v.ownBlock = some g) : W.heap.size ≤ g ∧ ∃ xs, Row w g xs 9 := by
 rcases h.2 with ⟨rfl, _⟩ | ⟨g', cap, cur, rfl, h4, h5, _⟩
 ·cases hg
 ·cases hg; exact ⟨h4, _, h5⟩
theorem OwnTxt.turn {W w w' : World} {v : Value} {M : List (List UInt8)} (h : OwnTxt W w v M) {b : Nat} {xs : Array Value} {T : TypeId} (hr : Row w b xs T) (hT : T ≠ 9) (hg : w.grownBy w' (some b)) : OwnTxt W w' v M :=
 World.ownsRow.kept h hg (by
  cases hv : v.ownBlock with
  | none => exact .inl rfl
  | some k =>
   refine .inr fun e => ?_
   cases e
   obtain ⟨_, ys, h2⟩ := h.row hv
   have h4 := (show w.heap[b]? = _ from h2).symm.trans (show w.heap[b]? = _ from hr)
   cases h4; exact hT rfl)
theorem wpList_append_txt_at {ops : Array Oper} {rest : List Oper} {o : Oper} {a : Act} {W w0 : World} {z : Nat} {Q : Exit → Act → World → Prop} (hgd : o.guard = none) (s x : Operand)
  (ho : o.op = .call { callee := .builtin .append, args := #[s, x], argTypes := #[38, 38] })
  {v : Value} {M : List (List UInt8)} {y : ByteArray} (hown : OwnTxt W w0 v M) (hbs : W.heap.size ≤ w0.heap.size) (hz : z = w0.heap.size) (hs : a.eval s = v)
  (hx : a.eval x = .slice (some ⟨z, 0, none⟩) 1 1) (hlen : M.length ≤ 1000000)
  (h : ∀ v' w', OwnTxt W w' v' (M ++ [y.data.toList]) → w0.grownBy w' v.ownBlock → (v'.ownBlock = v.ownBlock ∨ ∃ g, v'.ownBlock = some g ∧ w0.heap.size ≤ g) → wpList Tryz.prog ops Q rest (a.put o.dst v') w') :
  wpList Tryz.prog ops Q (o :: rest) a (w0.alloc (.cells #[.string y] 9)) := by
 subst hz
 obtain ⟨i0, hi, hz0, hz1, hz2⟩ := info_parts infoStr
 refine wpList_plain hgd fun K hK => ?_
 obtain ⟨v', w', hr, h2, h3, _, h5⟩ := run_append_own_at (P := Tryz.prog) (w0.alloc (.cells #[.string y] 9)) W.heap.size 38 o.type 9 i0 (.string ⟨#[]⟩) 1 16 Tryz.underlying38 hi hz0 hz1 hz2 rfl (by decide) v (strsOf M).length (strCells (strsOf M)) (World.ownsRow.alloc hown _) ⟨w0.heap.size, 0, none⟩ 1 1 [.string y] rfl cell_one
  (fun u hu => by simp at hu; subst hu; rfl) (by rw [strsOf_len]; unfold maxLen; omega) (by rw [strsOf_len]; omega) (by simp; omega)
 unfold Oper.wp execOp
 simp only [ho, resolve, invoke, builtin, Sem.run_bind, Sem.run_pure, Result.andThen_ok, List.map_toArray, List.map_cons, List.map_nil, hs, hx, hr]
 refine hK _ _ (h v' w' ?_ (grown_after (grownBy_alloc w0 _) h3) ?_)
 ·unfold OwnTxt
  rw [strsOf_snoc, txt_str, List.length_append, strCells_app]; exact h2
 ·refine h5.imp id fun e => ⟨_, e, ?_⟩
  simp
end Go.Proofs.YtlccihidedfemaaGreatDoor

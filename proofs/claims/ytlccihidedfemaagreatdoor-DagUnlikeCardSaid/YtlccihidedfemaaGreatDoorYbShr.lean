/-
  Contracts over this translation: the document's Sum.
-/
import Derived.WalkKit
import Derived.LoopTactic
import Derived.Outline
import Derived.Laws.BitsAllLaws
import Derived.Lib.Hide
import Derived.Below
import Derived.Laws.Rows
import Derived.Laws.CopyOwn
import Derived.Test.YtlccihidedfemaaGreatDoorProg
import Derived.Test.YtlccihidedfemaaGreatDoorQb0
import Derived.Test.YtlccihidedfemaaGreatDoorQb6
import Derived.Test.YtlccihidedfemaaGreatDoorQb4
import Derived.Deep.RegionHeldLaw
import Derived.Deep.AppendLies
import Derived.Great.BuildSlice
import Derived.BigRegion
import Derived.Deep.QuietTactic
import Derived.BigQuiet
import Derived.StillTailTactics
import Derived.IntWalk
import Derived.WalkSmall
import Derived.RegionTactic
set_option linter.unusedVariables false
set_option pp.maxSteps 200000
namespace Go.Proofs.YtlccihidedfemaaGreatDoor
open Go.RowKit
set_option maxRecDepth 100000 in
set_option maxHeartbeats 1000000 in
def slLen : Value → Nat | .slice _ n _ => n | _ => 0
def padL (l : List UInt8) (j : Nat) : List UInt8 := l ++ 128 :: List.replicate j 0
theorem padL_len (l : List UInt8) (j : Nat) : (padL l j).length = l.length + 1 + j := by simp [padL]; omega
theorem padL_succ (l : List UInt8) (j : Nat) : padL l (j + 1) = padL l j ++ [0] := by simp [padL, List.replicate_succ']
def msgL (l : List UInt8) (k : Nat) : List UInt8 := padL l (zerosN_Shn l.length) ++ (be8 (l.length * 8)).take k
theorem msgL_zero (l : List UInt8) : msgL l 0 = padL l (zerosN_Shn l.length) := by simp [msgL]
theorem msgL_len (l : List UInt8) (k : Nat) (hk : k ≤ 8) : (msgL l k).length = l.length + 1 + zerosN_Shn l.length + k := by
 simp [msgL, padL_len, be8_len]; omega
theorem msgL_full (l : List UInt8) : msgL l 8 = l ++ closing l.length := by
 unfold msgL padL closing
 rw [List.take_of_length_le (by rw [be8_len]; exact Nat.le_refl _)]; simp
theorem msgL_succ (l : List UInt8) (k : Nat) (hk : k < 8) : msgL l (k + 1) = msgL l k ++ [UInt8.ofNat (l.length * 8 / 2 ^ (8 * (7 - k)))] := by
 unfold msgL
 rw [be8_take _ _ hk, List.append_assoc]
def xrowL (M : List UInt8) (r q : Nat) : List UInt8 := (M.drop (64 * r)).take q ++ List.replicate (64 - q) 0
theorem xrowL_zero (M : List UInt8) (r : Nat) : xrowL M r 0 = List.replicate 64 0 := by simp [xrowL]
theorem xrowL_len (M : List UInt8) (r q : Nat) (hq : q ≤ 64) (h : 64 * r + 64 ≤ M.length) : (xrowL M r q).length = 64 := by simp [xrowL]; omega
theorem xrowL_full (M : List UInt8) (r : Nat) : xrowL M r 64 = (M.drop (64 * r)).take 64 := by simp [xrowL]
theorem xrowL_set (M : List UInt8) (r q : Nat) (hq : q < 64) (h : 64 * r + 64 ≤ M.length) : (xrowL M r q).set q (M.getD (64 * r + q) 0) = xrowL M r (q + 1) := by
 have hl : ((M.drop (64 * r)).take q).length = q := by simp; omega
 unfold xrowL
 rw [List.set_append_right _ _ (by omega), hl, Nat.sub_self, show 64 - q = (64 - (q + 1)) + 1 by omega, List.replicate_succ, List.set_cons_zero]
 rw [List.take_succ_eq_append_getElem (i := q) (by simp; omega), List.append_assoc]
 congr 1
 simp only [List.getElem_drop, List.singleton_append]
 congr 1
 rw [List.getD_eq_getElem?_getD, List.getElem?_eq_getElem (by omega)]
 rfl
def stateN (M : List UInt8) (r : Nat) : St := (absorb first (M.take (64 * r))).1
theorem stateN_zero (M : List UInt8) : stateN M 0 = first := by unfold stateN; rw [Nat.mul_zero, List.take_zero, absorb_lt _ (by decide)]
theorem stateN_ok (M : List UInt8) (r : Nat) : (stateN M r).ok := absorb_ok _ first_ok
theorem stateN_succ (M : List UInt8) (r : Nat) (h : 64 * r + 64 ≤ M.length) : stateN M (r + 1) = blk (stateN M r) ((M.drop (64 * r)).take 64) := by
 have hr : (absorb first (M.take (64 * r))).2 = [] := by
  have := absorb_len (M.take (64 * r)) first
  rw [List.length_take, Nat.min_eq_left (by omega), Nat.mul_mod_right] at this
  exact List.length_eq_zero_iff.1 this
 unfold stateN
 rw [show 64 * (r + 1) = 64 * r + 64 by omega, List.take_add, ← absorb_append, hr, List.nil_append, absorb_one _ (by simp; omega)]
theorem stateN_full (M : List UInt8) (R : Nat) (h : M.length = 64 * R) : stateN M R = (absorb first M).1 := by
 unfold stateN; rw [← h, List.take_length]
theorem news4 (W : World) (v0 v1 v2 v3 : Value) : ∀ j u, [v0, v1, v2, v3][j]? = some u → (W.alloc (.cells #[v0, v1, v2, v3] 5)).drew.cell? ((⟨W.heap.size, 0, none⟩ : Addr).add j) = some u := by
 intro j u hj
 match j, hj with
 | 0, hj | 1, hj | 2, hj | 3, hj => simp at hj; subst hj; simp [Addr.add]
theorem one4 (k : IntKind) (a b c d : Int) : ∀ u ∈ [Value.int k a, Value.int k b, Value.int k c, Value.int k d], u.oneCell' = true := by
 intro u hu; simp at hu; rcases hu with rfl | rfl | rfl | rfl <;> rfl
theorem bytes_take (f : St) (k : Nat) (hk : k < 8) : f.bytes.take (4 * k + 4) = f.bytes.take (4 * k) ++ wbytes (f.list.getD k 0) := by
 match k, hk with
 | 0, _ | 1, _ | 2, _ | 3, _ | 4, _ | 5, _ | 6, _ | 7, _ => rfl
 | n + 8, h => exact absurd h (by omega)
theorem wbytes_cells (x : Nat) : [Value.int .u8 (IntKind.u8.wrap ((x : Int) / 16777216)), .int .u8 (IntKind.u8.wrap ((x : Int) / 65536)), .int .u8 (IntKind.u8.wrap ((x : Int) / 256)), .int .u8 (IntKind.u8.wrap (x : Int))] = Lib.byteCells (wbytes x) := by
 have e : ∀ n : Nat, IntKind.u8.wrap (n : Int) = ((UInt8.ofNat n).toNat : Int) := fun n => by rw [UInt8.toNat_ofNat', Int.natCast_emod]; rfl
 rw [show (x : Int) / 16777216 = ((x / 16777216 : Nat) : Int) by omega, show (x : Int) / 65536 = ((x / 65536 : Nat) : Int) by omega, show (x : Int) / 256 = ((x / 256 : Nat) : Int) by omega, e, e, e, e]
 rfl
theorem ownsRow_slice' {w : World} {base : Nat} {e : TypeId} {v : Value} {n : Nat} {xs : List Value} (h : w.ownsRow base e 1 v (n + 1) xs) : ∃ g cap, v = .slice (some ⟨g, 0, none⟩) (n + 1) cap := by
 rcases h.2 with ⟨_, h0⟩ | ⟨g, cap, _, rfl, _⟩
 ·omega
 ·exact ⟨g, cap, rfl⟩
theorem getD_ok {f : St} (hs : f.ok) (k : Nat) : f.list.getD k 0 < 4294967296 := by
 obtain ⟨h0, h1, h2, h3, h4, h5, h6, h7⟩ := hs
 exact getD_lt (l := f.list) (by intro y hy; simp only [St.list, List.mem_cons, List.not_mem_nil, or_false] at hy; rcases hy with rfl | rfl | rfl | rfl | rfl | rfl | rfl | rfl <;> assumption) k
theorem conv_str (w : World) (s : ByteArray) : (convert 9 83 (.string s)).run Tryz.prog w = .ok (.slice (some ⟨w.heap.size, 0, none⟩) s.size (grownCap w s.size 0 5))
   (w.drew.alloc (.cells (bytesRow s (grownCap w s.size 0 5)) 5 ((bytesRow s (grownCap w s.size 0 5)).size, (bytesRow s (grownCap w s.size 0 5)).size + 1))) :=
 run_bytes_of_string w 9 83 5 s Tryz.underlying9 Tryz.underlying83 Tryz.underlying5
theorem news_one (W : World) (v : Value) : ∀ j u, [v][j]? = some u → (W.alloc (.cells #[v] 5)).cell? ((⟨W.heap.size, 0, none⟩ : Addr).add j) = some u := by
 intro j u hj
 match j, hj with
 | 0, hj => simp at hj; subst hj; simp [Addr.add]
theorem one_cell (k : IntKind) (n : Int) : ∀ u ∈ [Value.int k n], u.oneCell' = true := by
 intro u hu; simp at hu; subst hu; rfl
theorem zero25 : (Tryz.prog.info? 89).bind (fun i => i.zero.map (·.cells)) = some (zbyt 64) := by kernel_rfl
set_option maxRecDepth 100000 in
set_option maxHeartbeats 4000000 in
theorem refSum_any (s : ByteArray) (hs : s.size ≤ 1000000) (w : World) :
  Calls Tryz.prog 25 #[.string s] w fun e w' => e = .returned (.string ⟨(shaSum s.data.toList).toArray⟩) ∧ Below w.heap.size w w' := by
 obtain ⟨i0, hi, hz0, hz1, hz2⟩ := info_parts infoByte
 obtain ⟨l, hl⟩ : ∃ l, l = s.data.toList := ⟨_, rfl⟩
 have hn : s.size = l.length := by rw [hl]; exact Lib.size_eq s
 obtain ⟨W1, hW1⟩ : ∃ W1, W1 = w.drew.alloc (.cells (bytesRow s (grownCap w s.size 0 5)) 5 ((bytesRow s (grownCap w s.size 0 5)).size, (bytesRow s (grownCap w s.size 0 5)).size + 1)) := ⟨_, rfl⟩
 have hcv := conv_str w s
 rw [← hW1] at hcv
 have ho1 : ownsE W1 w.heap.size 5 (.slice (some ⟨w.heap.size, 0, none⟩) s.size (grownCap w s.size 0 5)) s.size (Lib.byteCells l) := by
  rw [hW1, hl]; exact ownsE_conv w 5 s (by unfold maxLen; omega) w.heap.size (Nat.le_refl _)
 have hb1 : Below w.heap.size w W1 := by rw [hW1]; exact ((Below.refl _ w).drew).alloc (Nat.le_refl _) _
 have HO := Lib.hid ho1; have HCV := Lib.hid hcv; have HL := Lib.hid hl; have HN := Lib.hid hn
 clear hW1 ho1 hcv hl hn
 go_enter Tryz.func25, Tryz.ntmps25
 go_wp2_with (first
  | refine wpList_convert rfl _ _ _ rfl _ _ _ rfl HCV.out ?_
  | (at_builtin; refine wpList_append_ownE rfl (.tmp 17) (.tmp 18) 83 rfl w.heap.size 5 i0 (.int .u8 0) Tryz.underlying83 hi hz0 hz1 hz2 rfl _ _ _ rfl (ownsE.step HO.out ((Below.refl _ _).alloc (Nat.le_refl _) _)) ⟨W1.heap.size, 0, none⟩ 1 1 [.int .u8 128] rfl rfl (news_one W1 _) (one_cell _ _) (by omega) ?c5 ?_))
 case c5 => have := hb1.size; simp; omega
 intro v2 w2 ho2 hg2
 have hb2 : Below w.heap.size w w2 := ownsE.below (ownsE.step HO.out ((Below.refl _ _).alloc (Nat.le_refl _) _)) (hb1.alloc hb1.size _) (by have := hb1.size; simp; omega) hg2
 have ho2' : ownsE w2 w.heap.size 5 v2 (padL l 0).length (Lib.byteCells (padL l 0)) := by
  have e : Lib.byteCells l ++ [Value.int .u8 128] = Lib.byteCells (padL l 0) := by simp [Lib.byteCells, padL]
  rw [e, HN.out] at ho2
  rwa [padL_len]
 have HO2 := Lib.hid ho2'
 clear HO ho2 hg2 ho2' hb1 HCV
 go_wp2_with fail
 obtain ⟨z, hz⟩ : ∃ z, z = zerosN_Shn l.length := ⟨_, rfl⟩
 have hzl : z < 64 := by rw [hz]; unfold zerosN_Shn; omega
 have hzm : ∀ j, j ≤ z → ((l.length + 1 + j) % 64 = 56 ↔ j = z) := fun j hj => by rw [hz] at hj ⊢; unfold zerosN_Shn at hj ⊢; omega
 have HZ := Lib.hid hz; have HZM := Lib.hid hzm
 clear hz hzm
 go_loopw [4] (fun v wr => ∃ j : Nat, j ≤ z ∧ ownsE wr w.heap.size 5 v (padL l j).length (Lib.byteCells (padL l j)) ∧ Below w.heap.size w wr) (fun v _ => s.size + 1 + 64 - slLen v)
 case atStart => exact ⟨0, by omega, HO2.out, hb2⟩
 case round =>
  clear HO2 hb2
  obtain ⟨j, hj, ho, hb⟩ := hrel
  obtain ⟨g, cap, rfl, hbg, hgw, hnc, hcells⟩ := ho.cells
  have hlen := padL_len l j
  have hsl := HN.out
  obtain ⟨m, hme⟩ : ∃ m, m = (padL l j).length := ⟨_, rfl⟩
  have hmb : m ≤ 1000065 := by omega
  have hms : m ≤ s.size + 1 + 63 := by omega
  have hq : m % 64 = 56 ↔ j = z := by rw [hme, hlen]; exact HZM.out j hj
  have HME := Lib.hid hme; have HLEN := Lib.hid hlen; have HO := Lib.hid ho; have HC := Lib.hid hcells; have HQ := Lib.hid hq
  rw [← hme] at HO hnc ⊢
  clear hlen hsl hme ho hcells hq
  by_cases hjz : j = z
  ·have hm : ((m : Int) % 64 != 56) = false := by
    have e : (m : Int) % 64 = 56 := by have := HQ.out.2 hjz; omega
    rw [e]; rfl
   have ho : ownsE wr w.heap.size 5 (.slice (some ⟨g, 0, none⟩) m cap) (m + 0) (Lib.byteCells (msgL l 0)) := by
    have e := HO.out
    rw [hjz, HZ.out] at e
    rw [msgL_zero]; exact e
   have HOM := Lib.hid ho
   have HM : Hid (∀ k, k ≤ 8 → (msgL l k).length = m + k) := Lib.hid (fun k hk => by rw [msgL_len l k hk, HME.out, HLEN.out, hjz, HZ.out])
   clear ho HO HC HQ
   go_wp2_with fail
   go_loopw [5, 4] (fun i v wr => ∃ k : Nat, k ≤ 8 ∧ i = .int .i64 (7 - (k : Int)) ∧ ownsE wr w.heap.size 5 v (m + k) (Lib.byteCells (msgL l k)) ∧ Below w.heap.size w wr) (fun i _ _ => (intOf i + 1).toNat)
   case atStart => exact ⟨0, by omega, rfl, HOM.out, hb⟩
   case round =>
    clear HOM hb hbg hgw hnc
    obtain ⟨k, hk, rfl, ho, hb⟩ := hrel
    obtain ⟨g2, cap2, rfl, hbg, hgw, hnc, hcells⟩ := ho.cells
    have HO := Lib.hid ho; have HC := Lib.hid hcells
    clear ho hcells
    by_cases hlt : k < 8
    ·have hbk : decide ((0 : Int) ≤ 7 - (k : Int)) = true := by simpa using (show (0 : Int) ≤ 7 - (k : Int) by omega)
     obtain ⟨c, hc⟩ : ∃ c, c = 8 * (7 - k) := ⟨_, rfl⟩
     have e3 : (8 : Int) * (7 - (k : Int)) = (c : Int) := by omega
     have bc : c ≤ 56 := by omega
     have b0 : (0 : Int) ≤ 7 - (k : Int) := by omega
     have HT := Lib.hid (msgL_succ l k hlt)
     rw [← hc] at HT
     have HCC := Lib.hid hc
     clear hc
     go_wp2_with (at_builtin; refine wpList_append_ownE rfl (.tmp 31) (.tmp 38) 83 rfl w.heap.size 5 i0 (.int .u8 0) Tryz.underlying83 hi hz0 hz1 hz2 rfl _ _ _ rfl (ownsE.step HO.out ((Below.refl _ _).alloc (Nat.le_refl _) _)) ⟨wr.heap.size, 0, none⟩ 1 1 [_] rfl rfl (news_one wr _) (one_cell _ _) (by omega) ?c6 ?_)
     case c6 => have := hb.size; simp; omega
     intro v2 w2 ho2 hg2
     have hb2 : Below w.heap.size w w2 := ownsE.below (ownsE.step HO.out ((Below.refl _ _).alloc (Nat.le_refl _) _)) (hb.alloc hb.size _) (by have := hb.size; simp; omega) hg2
     have ho2' : ownsE w2 w.heap.size 5 v2 (m + (k + 1)) (Lib.byteCells (msgL l (k + 1))) := by
      have h8 : ((s.size : Int) * 8 / 2 ^ c % 256) = ((UInt8.ofNat (l.length * 8 / 2 ^ c)).toNat : Int) := by
       rw [UInt8.toNat_ofNat', Int.natCast_emod, Int.natCast_ediv, Int.natCast_mul, Int.natCast_pow, HN.out]; rfl
      have e : Lib.byteCells (msgL l k) ++ [Value.int .u8 ((s.size : Int) * 8 / 2 ^ c % 256)] = Lib.byteCells (msgL l (k + 1)) := by
       rw [HT.out, h8]; simp [Lib.byteCells]
      rw [e] at ho2
      exact ho2
     obtain ⟨g3, cap3, rfl, _, _, _, _⟩ := ho2'.cells
     have HO2 := Lib.hid ho2'
     clear ho2 ho2' hg2
     go_wp2_with fail
     refine ⟨⟨k + 1, by omega, ?_, HO2.out, hb2⟩, ?_⟩
     ·exact ret_valH (by omega)
     ·simp only [intOf]; omega
    ·have hk8 : k = 8 := by omega
     have hbk : decide ((0 : Int) ≤ 7 - (k : Int)) = false := by rw [hk8]; rfl
     have hbk2 : ¬ (0 : Int) ≤ 7 - (k : Int) := by omega
     have hbk3 : ¬ (k : Int) ≤ 7 := by omega
     have ho : ownsE wr w.heap.size 5 (.slice (some ⟨g2, 0, none⟩) (m + k) cap2) (m + k) (Lib.byteCells (l ++ closing l.length)) := by
      have e := HO.out
      rw [hk8, msgL_full, ← hk8] at e
      exact e
     have hM := HM.out 8 (Nat.le_refl _)
     rw [msgL_full, ← hk8] at hM
     obtain ⟨N, hNe⟩ : ∃ N, N = m + k := ⟨_, rfl⟩
     rw [← hNe] at ho hM hnc ⊢
     obtain ⟨M, hMe⟩ : ∃ M, M = l ++ closing l.length := ⟨_, rfl⟩
     rw [← hMe] at ho hM
     have hN64 : N % 64 = 0 := by rw [← hM, hMe]; exact closed_len l
     obtain ⟨R, hR⟩ : ∃ R, N = 64 * R := ⟨N / 64, by omega⟩
     have hNb : N ≤ 1000073 := by omega
     have hcells := ho.cells
     obtain ⟨_, _, he, _, _, _, hcells⟩ := hcells
     cases he
     have HCE := Lib.hid hcells; have HMe := Lib.hid hMe; have HMl := Lib.hid hM; have HNe := Lib.hid hNe
     have HR := Lib.hid hR
     clear hk8 hk hlt HO HC hcells hMe hM hNe ho hN64 hR
     go_wp2_with fail
     refine (refFirst_any _).mono ?_
     rintro e w3 ⟨rfl, hb3⟩
     have hz3 := hb3.size
     have hb4 : Below w.heap.size w w3 := hb.trans (hb3.mono hb.size)
     have hc3 : ∀ q, q < N → w3.cell? ⟨g2, q, none⟩ = some (.int .u8 ((M.getD q 0).toNat : Nat)) := fun q hq => by
      rw [hb3.cell (p := ⟨g2, q, none⟩) hgw]
      refine HCE.out q _ ?_
      unfold Lib.byteCells
      rw [List.getElem?_map, List.getD_eq_getElem?_getD, List.getElem?_eq_getElem (by rw [HMl.out]; exact hq)]; rfl
     have HC3 := Lib.hid hc3
     have q6 : Row ((w3.alloc (.cells (zrow 8) 87)).setRow w3.heap.size (numV first.list)) w3.heap.size (numV (stateN M 0).list) 87 := by
      rw [stateN_zero]; exact Row.setRow (Row.made _ _ _) _
     have hb5 : Below w3.heap.size w3 ((w3.alloc (.cells (zrow 8) 87)).setRow w3.heap.size (numV first.list)) := below_setRow ((Below.refl _ _).alloc (Nat.le_refl _) _) (Nat.le_refl _) _
     have Q6 := Lib.hid q6
     clear hc3 q6 HCE hb3
     go_wp2_with (first
      | refine wpList_alloc_zero rfl 87 rfl _ zero24 ?_
      | refine wpList_store_row rfl 87 _ _ rfl w3.heap.size (numV first.list) rfl rfl 87 (zrow 8) (heap_alloc_new _ _) (by rw [numV_size]; exact size24) (by rw [numV_size, zrow_size]; rfl) (numV_one _) ?_)
     obtain ⟨H, hH⟩ : ∃ H, H = w3.heap.size := ⟨_, rfl⟩
     rw [← hH] at Q6 hb5 ⊢
     have hgH : g2 < H := by omega
     have hH1 : H ≤ w3.heap.size := by omega
     have hH2 : w3.heap.size ≤ H := by omega
     clear hH
     go_loopw [7, 8, 9] (fun i _ _ wr => ∃ r : Nat, r ≤ R ∧ i = .int .i64 ((64 * r : Nat) : Int) ∧ Row wr H (numV (stateN M r).list) 87 ∧ Below H w3 wr) (fun i _ _ _ => N - (intOf i).toNat)
     case atStart => exact ⟨0, by omega, rfl, Q6.out, hb5⟩
     case round =>
      clear Q6 hb5
      obtain ⟨r, hr, rfl, q6, hbr⟩ := hrel
      have hHs := q6.lt
      by_cases hlt : r < R
      ·have hrN : 64 * r + 64 ≤ N := by have := HR.out; omega
       have hbk' : decide (((64 * r : Nat) : Int) < (N : Int)) = true := by simpa using (show ((64 * r : Nat) : Int) < (N : Int) by omega)
       obtain ⟨T, hT⟩ : ∃ T, T = 64 * r := ⟨_, rfl⟩
       rw [← hT] at hbk' hrN ⊢
       have Q6 := Lib.hid q6
       have HT := Lib.hid hT
       clear q6 hT
       go_wp2_with (refine wpList_alloc_zero rfl 89 rfl _ zero25 ?_)
       obtain ⟨X, hX⟩ : ∃ X, X = wr.heap.size := ⟨_, rfl⟩
       have hXH : H < X := by omega
       have qx : Row (wr.alloc (.cells (zbyt 64) 89)) X (bytV (xrowL M r 0)) 89 := by
        rw [hX, xrowL_zero]; exact Row.made _ _ _
       have q6 : Row (wr.alloc (.cells (zbyt 64) 89)) H (numV (stateN M r).list) 87 := Q6.out.alloc _
       have hbx : Below H w3 (wr.alloc (.cells (zbyt 64) 89)) := hbr.alloc (by omega) _
       have QX := Lib.hid qx; have Q6' := Lib.hid q6
       rw [← hX]
       clear qx q6 hX Q6 hbr
       go_loopw [9] (fun i wr => ∃ q : Nat, q ≤ 64 ∧ i = .int .i64 q ∧ Row wr X (bytV (xrowL M r q)) 89 ∧ Row wr H (numV (stateN M r).list) 87 ∧ Below H w3 wr) (fun i _ => 64 - (intOf i).toNat)
       case atStart => exact ⟨0, by omega, rfl, QX.out, Q6'.out, hbx⟩
       case round =>
        clear QX Q6' hbx
        obtain ⟨q, hq, rfl, qx, q6, hbr⟩ := hrel
        by_cases hqt : q < 64
        ·have hbq : decide ((q : Int) < 64) = true := by simpa using (show (q : Int) < 64 by omega)
         obtain ⟨y, hy⟩ : ∃ y, y = M.getD (T + q) 0 := ⟨_, rfl⟩
         have cy : wr.cell? ⟨g2, T + q, none⟩ = some (.int .u8 (y.toNat : Nat)) := by
          rw [hbr.cell (p := ⟨g2, T + q, none⟩) hgH, hy]; exact HC3.out (T + q) (by omega)
         have fx := qx.free q
         have cx : ∃ v, wr.cell? ⟨X, q, none⟩ = some v := ⟨_, by rw [qx.cell, bytV_get _ _ (by rw [xrowL_len M r q (by omega) (by rw [HMl.out, ← HT.out]; exact hrN)]; exact hqt)]⟩
         obtain ⟨v, cx⟩ := cx
         have bq : (0 : Int) ≤ (q : Int) ∧ (q : Int) < 64 := by omega
         have bT : (0 : Int) ≤ (T : Int) + (q : Int) ∧ (T : Int) + (q : Int) < (N : Int) := by omega
         have tT : ((T : Int) + (q : Int)).toNat = T + q := by omega
         have QX := Lib.hid qx; have Q6 := Lib.hid q6; have HY := Lib.hid hy
         clear qx q6 hy
         go_wp2_with fail
         go_roundw
         case rel =>
          refine ⟨q + 1, by omega, by go_num, ?_, Q6.out.other _ _ (by show H ≠ X; omega), hbr.setCell (by show H ≤ X; omega) _⟩
          have := QX.out.set q (.int .u8 (y.toNat : Nat))
          rw [bytV_set, HY.out, HT.out, xrowL_set M r q hqt (by rw [HMl.out, ← HT.out]; exact hrN)] at this
          rw [HY.out, HT.out]
          exact this
         case measure => simp [intOf]; omega
        ·have hq64 : q = 64 := by omega
         have hbq : decide ((q : Int) < 64) = false := by rw [hq64]; rfl
         rw [hq64, xrowL_full] at qx
         obtain ⟨b, hbe⟩ : ∃ b, b = (M.drop (64 * r)).take 64 := ⟨_, rfl⟩
         rw [← hbe] at qx
         have hb64 : b.length = 64 := by
          have h1 := HMl.out; have h2 := HT.out
          rw [hbe, List.length_take, List.length_drop]; omega
         have hst : stateN M (r + 1) = blk (stateN M r) b := by rw [hbe]; exact stateN_succ M r (by rw [HMl.out, ← HT.out]; exact hrN)
         have CB := Lib.hid (fun w => refBlock_any b hb64 (stateN M r) (stateN_ok M r) w)
         have hst' : blkS (stateN M r) (fun i => (b.getD i 0).toNat) = stateN M (r + 1) := hst.symm
         rw [hst'] at CB
         have QX := Lib.hid qx; have Q6 := Lib.hid q6; have HB64 := Lib.hid hb64
         clear qx q6 hbe hb64 hst hst' hq64 hqt
         go_wp2_with (first
          | refine wpList_load_row rfl 87 _ rfl H rfl 87 (numV (stateN M r).list) (0, 0) _ Q6.out Tryz.underlying87 rfl (by rw [numV_size]; exact size24) ?_
          | refine wpList_load_row rfl 89 _ rfl X rfl 89 (bytV b) (0, 0) _ QX.out Tryz.underlying89 rfl (by rw [bytV_size, HB64.out]; exact size25) ?_)
         refine (CB.out _).mono ?_
         rintro e w4 ⟨rfl, hb4'⟩
         have q6' : Row w4 H (numV (stateN M r).list) 87 := Q6.out.step hb4'
         have hbr' : Below H w3 w4 := hbr.trans (hb4'.mono (Nat.le_of_lt Q6.out.lt))
         have Q6' := Lib.hid q6'
         clear q6' hb4' hbr Q6 QX
         go_wp2_with (refine wpList_store_row rfl 87 _ _ rfl H (numV (stateN M (r + 1)).list) rfl rfl 87 (numV (stateN M r).list) Q6'.out (by rw [numV_size]; exact size24) (by rw [numV_size, numV_size]; rfl) (numV_one _) ?_)
         refine ⟨⟨r + 1, by omega, ?_, Row.setRow Q6'.out _, below_setRow hbr' (Nat.le_refl _) _⟩, ?_⟩
         ·exact ret_valH (by have := HT.out; omega)
         ·simp only [intOf]; omega
      ·have hrR : r = R := by omega
       have hlt' : ¬ (64 * r) < N := by have := HR.out; omega
       have hbk' : decide (((64 * r : Nat) : Int) < (N : Int)) = false := decide_eq_false (by omega)
       obtain ⟨T, hT⟩ : ∃ T, T = 64 * r := ⟨_, rfl⟩
       rw [← hT] at hbk' hlt' ⊢
       have hfin : stateN M r = (absorb first (l ++ closing l.length)).1 := by rw [hrR, stateN_full M R (by rw [HMl.out]; exact HR.out), HMe.out]
       obtain ⟨f, hf⟩ : ∃ f, f = stateN M r := ⟨_, rfl⟩
       have hok : f.ok := by rw [hf]; exact stateN_ok M r
       rw [← hf] at q6 hfin
       have HFIN := Lib.hid hfin; have Q6 := Lib.hid q6
       clear hf hfin q6 hT hrR hlt
       go_wp2_with fail
       go_loopw [11, 10] (fun i v wr => ∃ k : Nat, k ≤ 8 ∧ i = .int .i64 k ∧ wr.ownsRow (H + 1) 5 1 v (4 * k) (Lib.byteCells (f.bytes.take (4 * k))) ∧ Row wr H (numV f.list) 87 ∧ Below H w3 wr) (fun i _ _ => 8 - (intOf i).toNat)
       case atStart => exact ⟨0, by omega, rfl, World.ownsRow_nil _ _ _ _, Q6.out, hbr⟩
       case round =>
        clear Q6 hbr
        obtain ⟨k, hk, rfl, hown, q6, hbr⟩ := hrel
        by_cases hlt8 : k < 8
        ·have hbk8 : decide ((k : Int) < 8) = true := by simpa using (show (k : Int) < 8 by omega)
         obtain ⟨x, hx⟩ : ∃ x, x = f.list.getD k 0 := ⟨_, rfl⟩
         have cx : wr.cell? ⟨H, k, none⟩ = some (.int .u32 x) := by rw [q6.cell, numV_get _ _ (by rw [list_len]; exact hlt8), hx]
         have lx : x < 4294967296 := by rw [hx]; exact getD_ok hok k
         have bk : (0 : Int) ≤ (k : Int) ∧ (k : Int) < 8 := by omega
         have Q6 := Lib.hid q6; have HX := Lib.hid hx; have HO := Lib.hid hown
         have hHr := q6.lt
         clear q6 hx hown
         go_wp2_with fail
         have hneH : some H ≠ u10.ownBlock := fun e => by have := (HO.out.lt H e.symm).1; omega
         go_region_held_law (fun w' => w'.cell? ⟨H, k, none⟩ = some (.int .u32 x)) (first | exact cx | exact hgrow4.cell (by go_simp) hneH | (go_simp)) (first | (refine step_append_lies _ rfl (.tmp 66) (.tmp 86) 83 rfl (H + 1) 5 i0 (.int .u8 0) 1 1 Tryz.underlying83 hi hz0 hz1 hz2 rfl (by decide) u10 (4 * k) _ rfl (World.ownsRow.alloc HO.out _) ⟨wr.heap.size, 0, none⟩ 4 4 [.int .u8 (IntKind.u8.wrap ((x : Int) / 16777216)), .int .u8 (IntKind.u8.wrap ((x : Int) / 65536)), .int .u8 (IntKind.u8.wrap ((x : Int) / 256)), .int .u8 (IntKind.u8.wrap (x : Int))] rfl rfl (news4 wr _ _ _ _) (one4 _ _ _ _ _) (by decide) (by unfold maxLen; omega) (by omega) (by show H + 1 ≤ (wr.alloc _).heap.size; simp; omega) _ rfl ?_; intro g4 cap4 w6 hown4 hgrow4 hat4 hlt4))
         have hb6 : Below H w3 w6 := ((hbr.alloc (by omega) _).drew).grown hgrow4 (by show H ≤ (wr.alloc _).heap.size; simp; omega) (fun kk hkk => by have := (HO.out.lt kk hkk).1; omega)
         have q6' : Row w6 H (numV f.list) 87 := by
          unfold Row
          rw [hgrow4.block H (by show H < (wr.alloc _).heap.size; simp; omega) hneH]
          exact (Row.alloc Q6.out _).drew
         have hown5 : w6.ownsRow (H + 1) 5 1 (.slice (some ⟨g4, 0, none⟩) (4 * k + 4) cap4) (4 * (k + 1)) (Lib.byteCells (f.bytes.take (4 * (k + 1)))) := by
          rw [wbytes_cells, ← Lib.byteCells_append, HX.out, ← bytes_take f k hlt8] at hown4
          exact hown4
         have Q6' := Lib.hid q6'; have HO5 := Lib.hid hown5
         clear hown4 hgrow4 hat4 q6' hown5 cx
         go_wp2_with fail
         refine ⟨⟨k + 1, by omega, by go_num, HO5.out, Q6'.out, hb6⟩, ?_⟩
         simp only [intOf]; omega
        ·have hk8 : k = 8 := by omega
         have hbk8 : decide ((k : Int) < 8) = false := by rw [hk8]; rfl
         rw [hk8] at hown
         obtain ⟨g5, cap5, rfl⟩ := ownsRow_slice' (n := 31) hown
         have hfb : f.bytes.take (4 * 8) = f.bytes := List.take_of_length_le (by rw [bytes_len]; decide)
         rw [hfb] at hown
         have hcv := run_convert_bytes_back (P := Tryz.prog) wr 83 9 5 ⟨g5, 0, none⟩ cap5 f.bytes Tryz.underlying83 Tryz.underlying5 Tryz.underlying9
          (fun j hj => hown.cells (g := g5) rfl j _ (by simp [Lib.byteCells, hj]))
         rw [bytes_len] at hcv
         have HCV := Lib.hid hcv
         clear hown hfb hcv hk8 q6
         go_wp2_with (refine wpList_convert rfl _ _ _ rfl _ _ _ rfl HCV.out ?_)
         go_ret
         refine ⟨?_, hb4.trans (hbr.mono ?_)⟩
         ·rw [← HL.out]; unfold shaSum; rw [← HFIN.out]; rfl
         ·omega
  ·have hm : ((m : Int) % 64 != 56) = true := bne_iff_ne.2 (fun e => hjz (HQ.out.1 (by omega)))
   go_wp2_with (at_builtin; refine wpList_append_ownE rfl (.tmp 24) (.tmp 25) 83 rfl w.heap.size 5 i0 (.int .u8 0) Tryz.underlying83 hi hz0 hz1 hz2 rfl _ _ _ rfl (ownsE.step HO.out ((Below.refl _ _).alloc (Nat.le_refl _) _)) ⟨wr.heap.size, 0, none⟩ 1 1 [.int .u8 0] rfl rfl (news_one wr _) (one_cell _ _) (by omega) ?c5 ?_)
   case c5 => have := hb.size; simp; omega
   intro v2 w2 ho2 hg2
   have hb2 : Below w.heap.size w w2 := ownsE.below (ownsE.step HO.out ((Below.refl _ _).alloc (Nat.le_refl _) _)) (hb.alloc hb.size _) (by have := hb.size; simp; omega) hg2
   have ho2' : ownsE w2 w.heap.size 5 v2 (padL l (j + 1)).length (Lib.byteCells (padL l (j + 1))) := by
    have e : Lib.byteCells (padL l j) ++ [Value.int .u8 0] = Lib.byteCells (padL l (j + 1)) := by rw [padL_succ]; simp [Lib.byteCells]
    rw [e] at ho2
    rw [padL_len, ← Nat.add_assoc, ← HLEN.out, ← HME.out]; exact ho2
   obtain ⟨g2, cap2, rfl, _, _, _, _⟩ := ho2'.cells
   have HO2 := Lib.hid ho2'
   have hl2 : (padL l (j + 1)).length = m + 1 := by rw [padL_len, ← Nat.add_assoc, ← HLEN.out, ← HME.out]
   rw [hl2] at HO2 ⊢
   have HL2 := Lib.hid hl2
   clear ho2 ho2' hg2 hl2
   go_wp2_with fail
   refine ⟨⟨j + 1, by omega, ?_, hb2⟩, ?_⟩
   ·rw [HL2.out]; exact HO2.out
   ·show s.size + 1 + 64 - (m + 1) < s.size + 1 + 64 - m
    omega
end Go.Proofs.YtlccihidedfemaaGreatDoor

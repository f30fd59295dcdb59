/-
  Texts put together: contracts and laws that this seat's proofs share.
-/
import Derived.WalkKit
import Derived.LoopTactic
import Derived.Outline
import Derived.Laws.BitsAllLaws
import Derived.Lib.Hide
import Derived.Below
import Derived.Laws.Rows
import Derived.Laws.CopyOwn
import Derived.Test.YtjpjpmkadoaipaaGreatDoorProg
import Derived.Test.YtjpjpmkadoaipaaGreatDoorQa2
import Derived.Test.YtjpjpmkadoaipaaGreatDoorQa3
import Derived.Deep.RegionHeldLaw
import Derived.Deep.AppendLies
import Derived.Great.BuildSlice
import Derived.BigRegion
import Derived.Deep.QuietTactic
import Derived.BigQuiet
import Derived.StillTailTactics
import Derived.IntWalk
import Derived.WalkSmall
import Derived.RegionTactic
import Derived.Test.YtjpjpmkadoaipaaGreatDoorQa0
import Derived.Test.YtjpjpmkadoaipaaGreatDoorQa1
import Derived.Maps.AppendAt
set_option linter.unusedVariables false
set_option pp.maxSteps 200000
namespace Go.Proofs.YtjpjpmkadoaipaaGreatDoor
open Go.RowKit
set_option maxRecDepth 100000 in
set_option maxHeartbeats 1000000 in
def slLen : Value → Nat | .slice _ n _ => n | _ => 0
def padL (l : List UInt8) (j : Nat) : List UInt8 := l ++ 128 :: List.replicate j 0
theorem padL_len (l : List UInt8) (j : Nat) : (padL l j).length = l.length + 1 + j := by simp [padL]; omega
theorem padL_succ (l : List UInt8) (j : Nat) : padL l (j + 1) = padL l j ++ [0] := by simp [padL, List.replicate_succ']
def msgL (l : List UInt8) (k : Nat) : List UInt8 := padL l (zerosN_Shn l.length) ++ (be8 (l.length * 8)).take k
theorem msgL_zero (l : List UInt8) : msgL l 0 = padL l (zerosN_Shn l.length) := by simp [msgL]
theorem msgL_len (l : List UInt8) (k : Nat) (hk : k ≤ 8) : (msgL l k).length = l.length + 1 + zerosN_Shn l.length + k := by
 simp [msgL, padL_len, be8_len]; omega
theorem msgL_full (l : List UInt8) : msgL l 8 = l ++ closing l.length := by
 unfold msgL padL closing
 rw [List.take_of_length_le (by rw [be8_len]; exact Nat.le_refl _)]; simp
theorem msgL_succ (l : List UInt8) (k : Nat) (hk : k < 8) : msgL l (k + 1) = msgL l k ++ [UInt8.ofNat (l.length * 8 / 2 ^ (8 * (7 - k)))] := by
 unfold msgL
 rw [be8_take _ _ hk, List.append_assoc]
def xrowL (M : List UInt8) (r q : Nat) : List UInt8 := (M.drop (64 * r)).take q ++ List.replicate (64 - q) 0
theorem xrowL_zero (M : List UInt8) (r : Nat) : xrowL M r 0 = List.replicate 64 0 := by simp [xrowL]
theorem xrowL_len (M : List UInt8) (r q : Nat) (hq : q ≤ 64) (h : 64 * r + 64 ≤ M.length) : (xrowL M r q).length = 64 := by simp [xrowL]; omega
theorem xrowL_full (M : List UInt8) (r : Nat) : xrowL M r 64 = (M.drop (64 * r)).take 64 := by simp [xrowL]
theorem xrowL_set (M : List UInt8) (r q : Nat) (hq : q < 64) (h : 64 * r + 64 ≤ M.length) : (xrowL M r q).set q (M.getD (64 * r + q) 0) = xrowL M r (q + 1) := by
 have hl : ((M.drop (64 * r)).take q).length = q := by simp; omega
 unfold xrowL
 rw [List.set_append_right _ _ (by omega), hl, Nat.sub_self, show 64 - q = (64 - (q + 1)) + 1 by omega, List.replicate_succ, List.set_cons_zero]
 rw [List.take_succ_eq_append_getElem (i := q) (by simp; omega), List.append_assoc]
 congr 1
 simp only [List.getElem_drop, List.singleton_append]
 congr 1
 rw [List.getD_eq_getElem?_getD, List.getElem?_eq_getElem (by omega)]
 rfl
def stateN (M : List UInt8) (r : Nat) : St := (absorb first (M.take (64 * r))).1
theorem stateN_zero (M : List UInt8) : stateN M 0 = first := by unfold stateN; rw [Nat.mul_zero, List.take_zero, absorb_lt _ (by decide)]
theorem stateN_ok (M : List UInt8) (r : Nat) : (stateN M r).ok := absorb_ok _ first_ok
theorem stateN_succ (M : List UInt8) (r : Nat) (h : 64 * r + 64 ≤ M.length) : stateN M (r + 1) = blk (stateN M r) ((M.drop (64 * r)).take 64) := by
 have hr : (absorb first (M.take (64 * r))).2 = [] := by
  have := absorb_len (M.take (64 * r)) first
  rw [List.length_take, Nat.min_eq_left (by omega), Nat.mul_mod_right] at this
  exact List.length_eq_zero_iff.1 this
 unfold stateN
 rw [show 64 * (r + 1) = 64 * r + 64 by omega, List.take_add, ← absorb_append, hr, List.nil_append, absorb_one _ (by simp; omega)]
theorem stateN_full (M : List UInt8) (R : Nat) (h : M.length = 64 * R) : stateN M R = (absorb first M).1 := by
 unfold stateN; rw [← h, List.take_length]
theorem news4 (W : World) (v0 v1 v2 v3 : Value) : ∀ j u, [v0, v1, v2, v3][j]? = some u → (W.alloc (.cells #[v0, v1, v2, v3] 5)).drew.cell? ((⟨W.heap.size, 0, none⟩ : Addr).add j) = some u := by
 intro j u hj
 match j, hj with
 | 0, hj | 1, hj | 2, hj | 3, hj => simp at hj; subst hj; simp [Addr.add]
theorem one4 (k : IntKind) (a b c d : Int) : ∀ u ∈ [Value.int k a, Value.int k b, Value.int k c, Value.int k d], u.oneCell' = true := by
 intro u hu; simp at hu; rcases hu with rfl | rfl | rfl | rfl <;> rfl
theorem bytes_take (f : St) (k : Nat) (hk : k < 8) : f.bytes.take (4 * k + 4) = f.bytes.take (4 * k) ++ wbytes (f.list.getD k 0) := by
 match k, hk with
 | 0, _ | 1, _ | 2, _ | 3, _ | 4, _ | 5, _ | 6, _ | 7, _ => rfl
 | n + 8, h => exact absurd h (by omega)
theorem wbytes_cells (x : Nat) : [Value.int .u8 (IntKind.u8.wrap ((x : Int) / 16777216)), .int .u8 (IntKind.u8.wrap ((x : Int) / 65536)), .int .u8 (IntKind.u8.wrap ((x : Int) / 256)), .int .u8 (IntKind.u8.wrap (x : Int))] = Lib.byteCells (wbytes x) := by
 have e : ∀ n : Nat, IntKind.u8.wrap (n : Int) = ((UInt8.ofNat n).toNat : Int) := fun n => by rw [UInt8.toNat_ofNat', Int.natCast_emod]; rfl
 rw [show (x : Int) / 16777216 = ((x / 16777216 : Nat) : Int) by omega, show (x : Int) / 65536 = ((x / 65536 : Nat) : Int) by omega, show (x : Int) / 256 = ((x / 256 : Nat) : Int) by omega, e, e, e, e]
 rfl
theorem ownsRow_slice' {w : World} {base : Nat} {e : TypeId} {v : Value} {n : Nat} {xs : List Value} (h : w.ownsRow base e 1 v (n + 1) xs) : ∃ g cap, v = .slice (some ⟨g, 0, none⟩) (n + 1) cap := by
 rcases h.2 with ⟨_, h0⟩ | ⟨g, cap, _, rfl, _⟩
 ·omega
 ·exact ⟨g, cap, rfl⟩
theorem getD_ok {f : St} (hs : f.ok) (k : Nat) : f.list.getD k 0 < 4294967296 := by
 obtain ⟨h0, h1, h2, h3, h4, h5, h6, h7⟩ := hs
 exact getD_lt (l := f.list) (by intro y hy; simp only [St.list, List.mem_cons, List.not_mem_nil, or_false] at hy; rcases hy with rfl | rfl | rfl | rfl | rfl | rfl | rfl | rfl <;> assumption) k
theorem conv_str (w : World) (s : ByteArray) : (convert 9 113 (.string s)).run Tryz.prog w = .ok (.slice (some ⟨w.heap.size, 0, none⟩) s.size (grownCap w s.size 0 5))
   (w.drew.alloc (.cells (bytesRow s (grownCap w s.size 0 5)) 5 ((bytesRow s (grownCap w s.size 0 5)).size, (bytesRow s (grownCap w s.size 0 5)).size + 1))) :=
 run_bytes_of_string w 9 113 5 s Tryz.underlying9 Tryz.underlying113 Tryz.underlying5
theorem news_one (W : World) (v : Value) : ∀ j u, [v][j]? = some u → (W.alloc (.cells #[v] 5)).cell? ((⟨W.heap.size, 0, none⟩ : Addr).add j) = some u := by
 intro j u hj
 match j, hj with
 | 0, hj => simp at hj; subst hj; simp [Addr.add]
theorem one_cell (k : IntKind) (n : Int) : ∀ u ∈ [Value.int k n], u.oneCell' = true := by
 intro u hu; simp at hu; subst hu; rfl
theorem zero25 : (Tryz.prog.info? 119).bind (fun i => i.zero.map (·.cells)) = some (zbyt 64) := by kernel_rfl
set_option maxRecDepth 100000 in
set_option maxHeartbeats 4000000 in
theorem refSum_any (s : ByteArray) (hs : s.size ≤ 1000000) (w : World) :
  Calls Tryz.prog 35 #[.string s] w fun e w' => e = .returned (.string ⟨(shaSum s.data.toList).toArray⟩) ∧ Below w.heap.size w w' := by
 obtain ⟨i0, hi, hz0, hz1, hz2⟩ := info_parts infoByte
 obtain ⟨l, hl⟩ : ∃ l, l = s.data.toList := ⟨_, rfl⟩
 have hn : s.size = l.length := by rw [hl]; exact Lib.size_eq s
 obtain ⟨W1, hW1⟩ : ∃ W1, W1 = w.drew.alloc (.cells (bytesRow s (grownCap w s.size 0 5)) 5 ((bytesRow s (grownCap w s.size 0 5)).size, (bytesRow s (grownCap w s.size 0 5)).size + 1)) := ⟨_, rfl⟩
 have hcv := conv_str w s
 rw [← hW1] at hcv
 have ho1 : ownsE W1 w.heap.size 5 (.slice (some ⟨w.heap.size, 0, none⟩) s.size (grownCap w s.size 0 5)) s.size (Lib.byteCells l) := by
  rw [hW1, hl]; exact ownsE_conv w 5 s (by unfold maxLen; omega) w.heap.size (Nat.le_refl _)
 have hb1 : Below w.heap.size w W1 := by rw [hW1]; exact ((Below.refl _ w).drew).alloc (Nat.le_refl _) _
 have HO := Lib.hid ho1; have HCV := Lib.hid hcv; have HL := Lib.hid hl; have HN := Lib.hid hn
 clear hW1 ho1 hcv hl hn
 go_enter Tryz.func35, Tryz.ntmps35
 go_wp2_with (first
  | refine wpList_convert rfl _ _ _ rfl _ _ _ rfl HCV.out ?_
  | (at_builtin; refine wpList_append_ownE rfl (.tmp 17) (.tmp 18) 113 rfl w.heap.size 5 i0 (.int .u8 0) Tryz.underlying113 hi hz0 hz1 hz2 rfl _ _ _ rfl (ownsE.step HO.out ((Below.refl _ _).alloc (Nat.le_refl _) _)) ⟨W1.heap.size, 0, none⟩ 1 1 [.int .u8 128] rfl rfl (news_one W1 _) (one_cell _ _) (by omega) ?c5 ?_))
 case c5 => have := hb1.size; simp; omega
 intro v2 w2 ho2 hg2
 have hb2 : Below w.heap.size w w2 := ownsE.below (ownsE.step HO.out ((Below.refl _ _).alloc (Nat.le_refl _) _)) (hb1.alloc hb1.size _) (by have := hb1.size; simp; omega) hg2
 have ho2' : ownsE w2 w.heap.size 5 v2 (padL l 0).length (Lib.byteCells (padL l 0)) := by
  have e : Lib.byteCells l ++ [Value.int .u8 128] = Lib.byteCells (padL l 0) := by simp [Lib.byteCells, padL]
  rw [e, HN.out] at ho2
  rwa [padL_len]
 have HO2 := Lib.hid ho2'
 clear HO ho2 hg2 ho2' hb1 HCV
 go_wp2_with fail
 obtain ⟨z, hz⟩ : ∃ z, z = zerosN_Shn l.length := ⟨_, rfl⟩
 have hzl : z < 64 := by rw [hz]; unfold zerosN_Shn; omega
 have hzm : ∀ j, j ≤ z → ((l.length + 1 + j) % 64 = 56 ↔ j = z) := fun j hj => by rw [hz] at hj ⊢; unfold zerosN_Shn at hj ⊢; omega
 have HZ := Lib.hid hz; have HZM := Lib.hid hzm
 clear hz hzm
 go_loopw [4] (fun v wr => ∃ j : Nat, j ≤ z ∧ ownsE wr w.heap.size 5 v (padL l j).length (Lib.byteCells (padL l j)) ∧ Below w.heap.size w wr) (fun v _ => s.size + 1 + 64 - slLen v)
 case atStart => exact ⟨0, by omega, HO2.out, hb2⟩
 case round =>
  clear HO2 hb2
  obtain ⟨j, hj, ho, hb⟩ := hrel
  obtain ⟨g, cap, rfl, hbg, hgw, hnc, hcells⟩ := ho.cells
  have hlen := padL_len l j
  have hsl := HN.out
  obtain ⟨m, hme⟩ : ∃ m, m = (padL l j).length := ⟨_, rfl⟩
  have hmb : m ≤ 1000065 := by omega
  have hms : m ≤ s.size + 1 + 63 := by omega
  have hq : m % 64 = 56 ↔ j = z := by rw [hme, hlen]; exact HZM.out j hj
  have HME := Lib.hid hme; have HLEN := Lib.hid hlen; have HO := Lib.hid ho; have HC := Lib.hid hcells; have HQ := Lib.hid hq
  rw [← hme] at HO hnc ⊢
  clear hlen hsl hme ho hcells hq
  by_cases hjz : j = z
  ·have hm : ((m : Int) % 64 != 56) = false := by
    have e : (m : Int) % 64 = 56 := by have := HQ.out.2 hjz; omega
    rw [e]; rfl
   have ho : ownsE wr w.heap.size 5 (.slice (some ⟨g, 0, none⟩) m cap) (m + 0) (Lib.byteCells (msgL l 0)) := by
    have e := HO.out
    rw [hjz, HZ.out] at e
    rw [msgL_zero]; exact e
   have HOM := Lib.hid ho
   have HM : Hid (∀ k, k ≤ 8 → (msgL l k).length = m + k) := Lib.hid (fun k hk => by rw [msgL_len l k hk, HME.out, HLEN.out, hjz, HZ.out])
   clear ho HO HC HQ
   go_wp2_with fail
   go_loopw [5, 4] (fun i v wr => ∃ k : Nat, k ≤ 8 ∧ i = .int .i64 (7 - (k : Int)) ∧ ownsE wr w.heap.size 5 v (m + k) (Lib.byteCells (msgL l k)) ∧ Below w.heap.size w wr) (fun i _ _ => (intOf i + 1).toNat)
   case atStart => exact ⟨0, by omega, rfl, HOM.out, hb⟩
   case round =>
    clear HOM hb hbg hgw hnc
    obtain ⟨k, hk, rfl, ho, hb⟩ := hrel
    obtain ⟨g2, cap2, rfl, hbg, hgw, hnc, hcells⟩ := ho.cells
    have HO := Lib.hid ho; have HC := Lib.hid hcells
    clear ho hcells
    by_cases hlt : k < 8
    ·have hbk : decide ((0 : Int) ≤ 7 - (k : Int)) = true := by simpa using (show (0 : Int) ≤ 7 - (k : Int) by omega)
     obtain ⟨c, hc⟩ : ∃ c, c = 8 * (7 - k) := ⟨_, rfl⟩
     have e3 : (8 : Int) * (7 - (k : Int)) = (c : Int) := by omega
     have bc : c ≤ 56 := by omega
     have b0 : (0 : Int) ≤ 7 - (k : Int) := by omega
     have HT := Lib.hid (msgL_succ l k hlt)
     rw [← hc] at HT
     have HCC := Lib.hid hc
     clear hc
     go_wp2_with (at_builtin; refine wpList_append_ownE rfl (.tmp 31) (.tmp 38) 113 rfl w.heap.size 5 i0 (.int .u8 0) Tryz.underlying113 hi hz0 hz1 hz2 rfl _ _ _ rfl (ownsE.step HO.out ((Below.refl _ _).alloc (Nat.le_refl _) _)) ⟨wr.heap.size, 0, none⟩ 1 1 [_] rfl rfl (news_one wr _) (one_cell _ _) (by omega) ?c6 ?_)
     case c6 => have := hb.size; simp; omega
     intro v2 w2 ho2 hg2
     have hb2 : Below w.heap.size w w2 := ownsE.below (ownsE.step HO.out ((Below.refl _ _).alloc (Nat.le_refl _) _)) (hb.alloc hb.size _) (by have := hb.size; simp; omega) hg2
     have ho2' : ownsE w2 w.heap.size 5 v2 (m + (k + 1)) (Lib.byteCells (msgL l (k + 1))) := by
      have h8 : ((s.size : Int) * 8 / 2 ^ c % 256) = ((UInt8.ofNat (l.length * 8 / 2 ^ c)).toNat : Int) := by
       rw [UInt8.toNat_ofNat', Int.natCast_emod, Int.natCast_ediv, Int.natCast_mul, Int.natCast_pow, HN.out]; rfl
      have e : Lib.byteCells (msgL l k) ++ [Value.int .u8 ((s.size : Int) * 8 / 2 ^ c % 256)] = Lib.byteCells (msgL l (k + 1)) := by
       rw [HT.out, h8]; simp [Lib.byteCells]
      rw [e] at ho2
      exact ho2
     obtain ⟨g3, cap3, rfl, _, _, _, _⟩ := ho2'.cells
     have HO2 := Lib.hid ho2'
     clear ho2 ho2' hg2
     go_wp2_with fail
     refine ⟨⟨k + 1, by omega, ?_, HO2.out, hb2⟩, ?_⟩
     ·exact ret_valH (by omega)
     ·simp only [intOf]; omega
    ·have hk8 : k = 8 := by omega
     have hbk : decide ((0 : Int) ≤ 7 - (k : Int)) = false := by rw [hk8]; rfl
     have hbk2 : ¬ (0 : Int) ≤ 7 - (k : Int) := by omega
     have hbk3 : ¬ (k : Int) ≤ 7 := by omega
     have ho : ownsE wr w.heap.size 5 (.slice (some ⟨g2, 0, none⟩) (m + k) cap2) (m + k) (Lib.byteCells (l ++ closing l.length)) := by
      have e := HO.out
      rw [hk8, msgL_full, ← hk8] at e
      exact e
     have hM := HM.out 8 (Nat.le_refl _)
     rw [msgL_full, ← hk8] at hM
     obtain ⟨N, hNe⟩ : ∃ N, N = m + k := ⟨_, rfl⟩
     rw [← hNe] at ho hM hnc ⊢
     obtain ⟨M, hMe⟩ : ∃ M, M = l ++ closing l.length := ⟨_, rfl⟩
     rw [← hMe] at ho hM
     have hN64 : N % 64 = 0 := by rw [← hM, hMe]; exact closed_len l
     obtain ⟨R, hR⟩ : ∃ R, N = 64 * R := ⟨N / 64, by omega⟩
     have hNb : N ≤ 1000073 := by omega
     have hcells := ho.cells
     obtain ⟨_, _, he, _, _, _, hcells⟩ := hcells
     cases he
     have HCE := Lib.hid hcells; have HMe := Lib.hid hMe; have HMl := Lib.hid hM; have HNe := Lib.hid hNe
     have HR := Lib.hid hR
     clear hk8 hk hlt HO HC hcells hMe hM hNe ho hN64 hR
     go_wp2_with fail
     refine (refFirst_any _).mono ?_
     rintro e w3 ⟨rfl, hb3⟩
     have hz3 := hb3.size
     have hb4 : Below w.heap.size w w3 := hb.trans (hb3.mono hb.size)
     have hc3 : ∀ q, q < N → w3.cell? ⟨g2, q, none⟩ = some (.int .u8 ((M.getD q 0).toNat : Nat)) := fun q hq => by
      rw [hb3.cell (p := ⟨g2, q, none⟩) hgw]
      refine HCE.out q _ ?_
      unfold Lib.byteCells
      rw [List.getElem?_map, List.getD_eq_getElem?_getD, List.getElem?_eq_getElem (by rw [HMl.out]; exact hq)]; rfl
     have HC3 := Lib.hid hc3
     have q6 : Row ((w3.alloc (.cells (zrow 8) 117)).setRow w3.heap.size (numV first.list)) w3.heap.size (numV (stateN M 0).list) 117 := by
      rw [stateN_zero]; exact Row.setRow (Row.made _ _ _) _
     have hb5 : Below w3.heap.size w3 ((w3.alloc (.cells (zrow 8) 117)).setRow w3.heap.size (numV first.list)) := below_setRow ((Below.refl _ _).alloc (Nat.le_refl _) _) (Nat.le_refl _) _
     have Q6 := Lib.hid q6
     clear hc3 q6 HCE hb3
     go_wp2_with (first
      | refine wpList_alloc_zero rfl 117 rfl _ zero24 ?_
      | refine wpList_store_row rfl 117 _ _ rfl w3.heap.size (numV first.list) rfl rfl 117 (zrow 8) (heap_alloc_new _ _) (by rw [numV_size]; exact size24) (by rw [numV_size, zrow_size]; rfl) (numV_one _) ?_)
     obtain ⟨H, hH⟩ : ∃ H, H = w3.heap.size := ⟨_, rfl⟩
     rw [← hH] at Q6 hb5 ⊢
     have hgH : g2 < H := by omega
     have hH1 : H ≤ w3.heap.size := by omega
     have hH2 : w3.heap.size ≤ H := by omega
     clear hH
     go_loopw [7, 8, 9] (fun i _ _ wr => ∃ r : Nat, r ≤ R ∧ i = .int .i64 ((64 * r : Nat) : Int) ∧ Row wr H (numV (stateN M r).list) 117 ∧ Below H w3 wr) (fun i _ _ _ => N - (intOf i).toNat)
     case atStart => exact ⟨0, by omega, rfl, Q6.out, hb5⟩
     case round =>
      clear Q6 hb5
      obtain ⟨r, hr, rfl, q6, hbr⟩ := hrel
      have hHs := q6.lt
      by_cases hlt : r < R
      ·have hrN : 64 * r + 64 ≤ N := by have := HR.out; omega
       have hbk' : decide (((64 * r : Nat) : Int) < (N : Int)) = true := by simpa using (show ((64 * r : Nat) : Int) < (N : Int) by omega)
       obtain ⟨T, hT⟩ : ∃ T, T = 64 * r := ⟨_, rfl⟩
       rw [← hT] at hbk' hrN ⊢
       have Q6 := Lib.hid q6
       have HT := Lib.hid hT
       clear q6 hT
       go_wp2_with (refine wpList_alloc_zero rfl 119 rfl _ zero25 ?_)
       obtain ⟨X, hX⟩ : ∃ X, X = wr.heap.size := ⟨_, rfl⟩
       have hXH : H < X := by omega
       have qx : Row (wr.alloc (.cells (zbyt 64) 119)) X (bytV (xrowL M r 0)) 119 := by
        rw [hX, xrowL_zero]; exact Row.made _ _ _
       have q6 : Row (wr.alloc (.cells (zbyt 64) 119)) H (numV (stateN M r).list) 117 := Q6.out.alloc _
       have hbx : Below H w3 (wr.alloc (.cells (zbyt 64) 119)) := hbr.alloc (by omega) _
       have QX := Lib.hid qx; have Q6' := Lib.hid q6
       rw [← hX]
       clear qx q6 hX Q6 hbr
       go_loopw [9] (fun i wr => ∃ q : Nat, q ≤ 64 ∧ i = .int .i64 q ∧ Row wr X (bytV (xrowL M r q)) 119 ∧ Row wr H (numV (stateN M r).list) 117 ∧ Below H w3 wr) (fun i _ => 64 - (intOf i).toNat)
       case atStart => exact ⟨0, by omega, rfl, QX.out, Q6'.out, hbx⟩
       case round =>
        clear QX Q6' hbx
        obtain ⟨q, hq, rfl, qx, q6, hbr⟩ := hrel
        by_cases hqt : q < 64
        ·have hbq : decide ((q : Int) < 64) = true := by simpa using (show (q : Int) < 64 by omega)
         obtain ⟨y, hy⟩ : ∃ y, y = M.getD (T + q) 0 := ⟨_, rfl⟩
         have cy : wr.cell? ⟨g2, T + q, none⟩ = some (.int .u8 (y.toNat : Nat)) := by
          rw [hbr.cell (p := ⟨g2, T + q, none⟩) hgH, hy]; exact HC3.out (T + q) (by omega)
         have fx := qx.free q
         have cx : ∃ v, wr.cell? ⟨X, q, none⟩ = some v := ⟨_, by rw [qx.cell, bytV_get _ _ (by rw [xrowL_len M r q (by omega) (by rw [HMl.out, ← HT.out]; exact hrN)]; exact hqt)]⟩
         obtain ⟨v, cx⟩ := cx
         have bq : (0 : Int) ≤ (q : Int) ∧ (q : Int) < 64 := by omega
         have bT : (0 : Int) ≤ (T : Int) + (q : Int) ∧ (T : Int) + (q : Int) < (N : Int) := by omega
         have tT : ((T : Int) + (q : Int)).toNat = T + q := by omega
         have QX := Lib.hid qx; have Q6 := Lib.hid q6; have HY := Lib.hid hy
         clear qx q6 hy
         go_wp2_with fail
         go_roundw
         case rel =>
          refine ⟨q + 1, by omega, by go_num, ?_, Q6.out.other _ _ (by show H ≠ X; omega), hbr.setCell (by show H ≤ X; omega) _⟩
          have := QX.out.set q (.int .u8 (y.toNat : Nat))
          rw [bytV_set, HY.out, HT.out, xrowL_set M r q hqt (by rw [HMl.out, ← HT.out]; exact hrN)] at this
          rw [HY.out, HT.out]
          exact this
         case measure => simp [intOf]; omega
        ·have hq64 : q = 64 := by omega
         have hbq : decide ((q : Int) < 64) = false := by rw [hq64]; rfl
         rw [hq64, xrowL_full] at qx
         obtain ⟨b, hbe⟩ : ∃ b, b = (M.drop (64 * r)).take 64 := ⟨_, rfl⟩
         rw [← hbe] at qx
         have hb64 : b.length = 64 := by
          have h1 := HMl.out; have h2 := HT.out
          rw [hbe, List.length_take, List.length_drop]; omega
         have hst : stateN M (r + 1) = blk (stateN M r) b := by rw [hbe]; exact stateN_succ M r (by rw [HMl.out, ← HT.out]; exact hrN)
         have CB := Lib.hid (fun w => refBlock_any b hb64 (stateN M r) (stateN_ok M r) w)
         have hst' : blkS (stateN M r) (fun i => (b.getD i 0).toNat) = stateN M (r + 1) := hst.symm
         rw [hst'] at CB
         have QX := Lib.hid qx; have Q6 := Lib.hid q6; have HB64 := Lib.hid hb64
         clear qx q6 hbe hb64 hst hst' hq64 hqt
         go_wp2_with (first
          | refine wpList_load_row rfl 117 _ rfl H rfl 117 (numV (stateN M r).list) (0, 0) _ Q6.out Tryz.underlying117 rfl (by rw [numV_size]; exact size24) ?_
          | refine wpList_load_row rfl 119 _ rfl X rfl 119 (bytV b) (0, 0) _ QX.out Tryz.underlying119 rfl (by rw [bytV_size, HB64.out]; exact size25) ?_)
         refine (CB.out _).mono ?_
         rintro e w4 ⟨rfl, hb4'⟩
         have q6' : Row w4 H (numV (stateN M r).list) 117 := Q6.out.step hb4'
         have hbr' : Below H w3 w4 := hbr.trans (hb4'.mono (Nat.le_of_lt Q6.out.lt))
         have Q6' := Lib.hid q6'
         clear q6' hb4' hbr Q6 QX
         go_wp2_with (refine wpList_store_row rfl 117 _ _ rfl H (numV (stateN M (r + 1)).list) rfl rfl 117 (numV (stateN M r).list) Q6'.out (by rw [numV_size]; exact size24) (by rw [numV_size, numV_size]; rfl) (numV_one _) ?_)
         refine ⟨⟨r + 1, by omega, ?_, Row.setRow Q6'.out _, below_setRow hbr' (Nat.le_refl _) _⟩, ?_⟩
         ·exact ret_valH (by have := HT.out; omega)
         ·simp only [intOf]; omega
      ·have hrR : r = R := by omega
       have hlt' : ¬ (64 * r) < N := by have := HR.out; omega
       have hbk' : decide (((64 * r : Nat) : Int) < (N : Int)) = false := decide_eq_false (by omega)
       obtain ⟨T, hT⟩ : ∃ T, T = 64 * r := ⟨_, rfl⟩
       rw [← hT] at hbk' hlt' ⊢
       have hfin : stateN M r = (absorb first (l ++ closing l.length)).1 := by rw [hrR, stateN_full M R (by rw [HMl.out]; exact HR.out), HMe.out]
       obtain ⟨f, hf⟩ : ∃ f, f = stateN M r := ⟨_, rfl⟩
       have hok : f.ok := by rw [hf]; exact stateN_ok M r
       rw [← hf] at q6 hfin
       have HFIN := Lib.hid hfin; have Q6 := Lib.hid q6
       clear hf hfin q6 hT hrR hlt
       go_wp2_with fail
       go_loopw [11, 10] (fun i v wr => ∃ k : Nat, k ≤ 8 ∧ i = .int .i64 k ∧ wr.ownsRow (H + 1) 5 1 v (4 * k) (Lib.byteCells (f.bytes.take (4 * k))) ∧ Row wr H (numV f.list) 117 ∧ Below H w3 wr) (fun i _ _ => 8 - (intOf i).toNat)
       case atStart => exact ⟨0, by omega, rfl, World.ownsRow_nil _ _ _ _, Q6.out, hbr⟩
       case round =>
        clear Q6 hbr
        obtain ⟨k, hk, rfl, hown, q6, hbr⟩ := hrel
        by_cases hlt8 : k < 8
        ·have hbk8 : decide ((k : Int) < 8) = true := by simpa using (show (k : Int) < 8 by omega)
         obtain ⟨x, hx⟩ : ∃ x, x = f.list.getD k 0 := ⟨_, rfl⟩
         have cx : wr.cell? ⟨H, k, none⟩ = some (.int .u32 x) := by rw [q6.cell, numV_get _ _ (by rw [list_len]; exact hlt8), hx]
         have lx : x < 4294967296 := by rw [hx]; exact getD_ok hok k
         have bk : (0 : Int) ≤ (k : Int) ∧ (k : Int) < 8 := by omega
         have Q6 := Lib.hid q6; have HX := Lib.hid hx; have HO := Lib.hid hown
         have hHr := q6.lt
         clear q6 hx hown
         go_wp2_with fail
         have hneH : some H ≠ u10.ownBlock := fun e => by have := (HO.out.lt H e.symm).1; omega
         go_region_held_law (fun w' => w'.cell? ⟨H, k, none⟩ = some (.int .u32 x)) (first | exact cx | exact hgrow4.cell (by go_simp) hneH | (go_simp)) (first | (refine step_append_lies _ rfl (.tmp 66) (.tmp 86) 113 rfl (H + 1) 5 i0 (.int .u8 0) 1 1 Tryz.underlying113 hi hz0 hz1 hz2 rfl (by decide) u10 (4 * k) _ rfl (World.ownsRow.alloc HO.out _) ⟨wr.heap.size, 0, none⟩ 4 4 [.int .u8 (IntKind.u8.wrap ((x : Int) / 16777216)), .int .u8 (IntKind.u8.wrap ((x : Int) / 65536)), .int .u8 (IntKind.u8.wrap ((x : Int) / 256)), .int .u8 (IntKind.u8.wrap (x : Int))] rfl rfl (news4 wr _ _ _ _) (one4 _ _ _ _ _) (by decide) (by unfold maxLen; omega) (by omega) (by show H + 1 ≤ (wr.alloc _).heap.size; simp; omega) _ rfl ?_; intro g4 cap4 w6 hown4 hgrow4 hat4 hlt4))
         have hb6 : Below H w3 w6 := ((hbr.alloc (by omega) _).drew).grown hgrow4 (by show H ≤ (wr.alloc _).heap.size; simp; omega) (fun kk hkk => by have := (HO.out.lt kk hkk).1; omega)
         have q6' : Row w6 H (numV f.list) 117 := by
          unfold Row
          rw [hgrow4.block H (by show H < (wr.alloc _).heap.size; simp; omega) hneH]
          exact (Row.alloc Q6.out _).drew
         have hown5 : w6.ownsRow (H + 1) 5 1 (.slice (some ⟨g4, 0, none⟩) (4 * k + 4) cap4) (4 * (k + 1)) (Lib.byteCells (f.bytes.take (4 * (k + 1)))) := by
          rw [wbytes_cells, ← Lib.byteCells_append, HX.out, ← bytes_take f k hlt8] at hown4
          exact hown4
         have Q6' := Lib.hid q6'; have HO5 := Lib.hid hown5
         clear hown4 hgrow4 hat4 q6' hown5 cx
         go_wp2_with fail
         refine ⟨⟨k + 1, by omega, by go_num, HO5.out, Q6'.out, hb6⟩, ?_⟩
         simp only [intOf]; omega
        ·have hk8 : k = 8 := by omega
         have hbk8 : decide ((k : Int) < 8) = false := by rw [hk8]; rfl
         rw [hk8] at hown
         obtain ⟨g5, cap5, rfl⟩ := ownsRow_slice' (n := 31) hown
         have hfb : f.bytes.take (4 * 8) = f.bytes := List.take_of_length_le (by rw [bytes_len]; decide)
         rw [hfb] at hown
         have hcv := run_convert_bytes_back (P := Tryz.prog) wr 113 9 5 ⟨g5, 0, none⟩ cap5 f.bytes Tryz.underlying113 Tryz.underlying5 Tryz.underlying9
          (fun j hj => hown.cells (g := g5) rfl j _ (by simp [Lib.byteCells, hj]))
         rw [bytes_len] at hcv
         have HCV := Lib.hid hcv
         clear hown hfb hcv hk8 q6
         go_wp2_with (refine wpList_convert rfl _ _ _ rfl _ _ _ rfl HCV.out ?_)
         go_ret
         refine ⟨?_, hb4.trans (hbr.mono ?_)⟩
         ·rw [← HL.out]; unfold shaSum; rw [← HFIN.out]; rfl
         ·omega
  ·have hm : ((m : Int) % 64 != 56) = true := bne_iff_ne.2 (fun e => hjz (HQ.out.1 (by omega)))
   go_wp2_with (at_builtin; refine wpList_append_ownE rfl (.tmp 24) (.tmp 25) 113 rfl w.heap.size 5 i0 (.int .u8 0) Tryz.underlying113 hi hz0 hz1 hz2 rfl _ _ _ rfl (ownsE.step HO.out ((Below.refl _ _).alloc (Nat.le_refl _) _)) ⟨wr.heap.size, 0, none⟩ 1 1 [.int .u8 0] rfl rfl (news_one wr _) (one_cell _ _) (by omega) ?c5 ?_)
   case c5 => have := hb.size; simp; omega
   intro v2 w2 ho2 hg2
   have hb2 : Below w.heap.size w w2 := ownsE.below (ownsE.step HO.out ((Below.refl _ _).alloc (Nat.le_refl _) _)) (hb.alloc hb.size _) (by have := hb.size; simp; omega) hg2
   have ho2' : ownsE w2 w.heap.size 5 v2 (padL l (j + 1)).length (Lib.byteCells (padL l (j + 1))) := by
    have e : Lib.byteCells (padL l j) ++ [Value.int .u8 0] = Lib.byteCells (padL l (j + 1)) := by rw [padL_succ]; simp [Lib.byteCells]
    rw [e] at ho2
    rw [padL_len, ← Nat.add_assoc, ← HLEN.out, ← HME.out]; exact ho2
   obtain ⟨g2, cap2, rfl, _, _, _, _⟩ := ho2'.cells
   have HO2 := Lib.hid ho2'
   have hl2 : (padL l (j + 1)).length = m + 1 := by rw [padL_len, ← Nat.add_assoc, ← HLEN.out, ← HME.out]
   rw [hl2] at HO2 ⊢
   have HL2 := Lib.hid hl2
   clear ho2 ho2' hg2 hl2
   go_wp2_with fail
   refine ⟨⟨j + 1, by omega, ?_, hb2⟩, ?_⟩
   ·rw [HL2.out]; exact HO2.out
   ·show s.size + 1 + 64 - (m + 1) < s.size + 1 + 64 - m
    omega
end Go.Proofs.YtjpjpmkadoaipaaGreatDoor
set_option linter.unusedVariables false
namespace Go.Proofs.YtjpjpmkadoaipaaGreatDoor
open Go.RowKit
attribute [local go_sem] Oper.semAt_some
set_option maxRecDepth 100000 in
set_option maxHeartbeats 1000000 in
theorem rKey_any (n : Nd) (pv ev : Value) (w : World) (hp : IsParts w pv n.ps) (he : IsEntries w ev n.es) :
  Calls Tryz.prog 67 #[ndV n pv ev] w fun e w' => e = .returned (.string ⟨(keyN n).toArray⟩) ∧ Below w.heap.size w w' := by
 have HP := Lib.hid hp; have HE := Lib.hid he
 obtain ⟨_, a1, cap1, hv1, _, _⟩ := hp
 obtain ⟨_, a2, cap2, hv2, _, _⟩ := he
 subst hv1 hv2
 have hb0 := (Below.refl w.heap.size w).alloc (Nat.le_refl _) (.cells #[.int .i64 n.kd, .string n.d, .slice a1 n.ps.length cap1, .slice a2 n.es.length cap2] 71)
 have FA := Lib.hid (rFit_any n _ _ _ (HP.out.stays hb0) (HE.out.stays hb0))
 have HX := Lib.hid (ndBox_new w n (.slice a1 n.ps.length cap1) (.slice a2 n.es.length cap2) 71)
 rcases hf : fitN n with _ | _
 ·rw [hf] at FA
  have HK := Lib.hid (keyN_un hf)
  clear hf
  go_enter Tryz.func67, Tryz.ntmps67
  go_wp2_with fail
  with_reducible refine FA.out.mono ?_
  rintro e w1 ⟨rfl, hb1⟩
  go_wp2
  go_ret
  exact ⟨by rw [HK.out]; rfl, below_step hb0 hb1⟩
 ·rw [hf] at FA
  have hl := wrL_len hf
  obtain ⟨Y, hY1, hY2⟩ := ex_str (wrL n)
  have WA := Lib.hid (fun w h1 h2 => rWriteF_any n (.slice a1 n.ps.length cap1) (.slice a2 n.es.length cap2) w h1 h2 hf)
  rw [wrN_fit hf, ← hY1] at WA
  have SA := Lib.hid (fun w => refSum_any Y (by rw [Lib.size_eq, hY2]; omega) w)
  rw [hY2] at SA
  have HK := Lib.hid (keyN_fit hf)
  clear hf hY1 hY2 hl
  go_enter Tryz.func67, Tryz.ntmps67
  go_wp2_with fail
  with_reducible refine FA.out.mono ?_
  rintro e w1 ⟨rfl, hb1⟩
  have HB1 := Lib.hid (below_step hb0 hb1)
  obtain ⟨x0, x1, x2, x3⟩ := (HX.out.stays hb1).cells
  clear hb0 hb1
  go_wp2_with fail
  refine (WA.out _ (HP.out.stays HB1.out) (HE.out.stays HB1.out)).mono ?_
  rintro e w2 ⟨rfl, hb2⟩
  have HB2 := Lib.hid (below_step HB1.out hb2)
  clear hb2 x0 x1 x2 x3
  go_wp2_with fail
  with_reducible refine (SA.out _).mono ?_
  rintro e w3 ⟨rfl, hb3⟩
  go_wp2
  go_ret
  exact ⟨by rw [HK.out]; rfl, below_step HB2.out hb3⟩
def AddOn (L : List Ob) (x : Ob) (k : Nat) (d : Bool) (out : List Ob) : Prop := out.length = k + (if d then 1 else 0) ∧ out ++ (if d then L.drop k else insO (L.drop k) x) = insO L x
theorem addOn_zero (L : List Ob) (x : Ob) : AddOn L x 0 false [] := ⟨by simp, by simp⟩
theorem addOn_len {L : List Ob} {x : Ob} {k : Nat} {d : Bool} {out : List Ob} (h : AddOn L x k d out) : out.length ≤ k + 1 := by have := h.1; split at this <;> omega
theorem addOn_done {L : List Ob} {x : Ob} {k : Nat} {out : List Ob} (h : AddOn L x k true out) (hk : k < L.length) : AddOn L x (k + 1) true (out ++ [L[k]]) :=
 ⟨by have := h.1; simp at this ⊢; omega, by have := h.2; rw [if_pos rfl, List.drop_eq_getElem_cons hk] at this; rw [if_pos rfl, ← this]; simp⟩
theorem addOn_here {L : List Ob} {x : Ob} {k : Nat} {out : List Ob} (h : AddOn L x k false out) (hk : k < L.length) (hx : x.t < L[k].t) : AddOn L x (k + 1) true ((out ++ [x]) ++ [L[k]]) :=
 ⟨by have := h.1; simp at this ⊢; omega, by
  have := h.2
  rw [if_neg (by decide), List.drop_eq_getElem_cons hk, insO_cons, if_pos hx] at this
  rw [if_pos rfl, ← this]; simp⟩
theorem addOn_past {L : List Ob} {x : Ob} {k : Nat} {out : List Ob} (h : AddOn L x k false out) (hk : k < L.length) (hx : ¬ x.t < L[k].t) : AddOn L x (k + 1) false (out ++ [L[k]]) :=
 ⟨by have := h.1; simp at this ⊢; omega, by
  have := h.2
  rw [if_neg (by decide), List.drop_eq_getElem_cons hk, insO_cons, if_neg hx] at this
  rw [if_neg (by decide), ← this]; simp⟩
theorem addOn_end {L : List Ob} {x : Ob} {k : Nat} {d : Bool} {out : List Ob} (h : AddOn L x k d out) (hk : L.length ≤ k) : out ++ (if d then [] else [x]) = insO L x := by
 have := h.2
 rw [List.drop_of_length_le hk] at this
 cases d
 ·exact this
 ·exact this
theorem wpList_append_ob {ops : Array Oper} {rest : List Oper} {o : Oper} {a : Act} {W w0 : World} {z : Nat} {Q : Exit → Act → World → Prop} (hgd : o.guard = none) (s x : Operand)
  (ho : o.op = .call { callee := .builtin .append, args := #[s, x], argTypes := #[27, 27] })
  {v : Value} {M : List Ob} {y : Ob} (hown : OwnO W.heap.size w0 v M) (hb : Below W.heap.size W w0) (hz : z = w0.heap.size) (hs : a.eval s = v)
  (hx : a.eval x = .slice (some ⟨z, 0, none⟩) 1 1) (hlen : M.length ≤ 1000000)
  (h : ∀ v' w', OwnO W.heap.size w' v' (M ++ [y]) → Below W.heap.size W w' → wpList Tryz.prog ops Q rest (a.put o.dst v') w') :
  wpList Tryz.prog ops Q (o :: rest) a (w0.alloc (.cells #[.string y.k, .string y.r] 43)) := by
 subst hz
 refine wpList_append_obs hgd s x ho hown hb.size hs hx hlen ?_
 intro v' w' h1 h2
 exact h v' w' h1 (hb.grown h2 hb.size (fun j hj => (hown.lt j hj).1))
set_option maxRecDepth 100000 in
set_option maxHeartbeats 8000000 in
theorem rAdd_any (v : Value) (L : List Ob) (x : Ob) (w : World) (h : IsObs w v L) (hL : L.length ≤ 900000) :
  Calls Tryz.prog 17 #[v, obV x] w fun e w' => ∃ v', e = .returned v' ∧ IsObs w' v' (addO L x) ∧ Below w.heap.size w w' ∧ (v' = v ∧ addO L x = L ∨ OwnO w.heap.size w' v' (addO L x)) := by
 obtain ⟨V, hV⟩ : ∃ V, V = w.alloc (.cells #[.string x.k, .string x.r] 43) := ⟨_, rfl⟩
 have hbV : Below w.heap.size w V := by rw [hV]; exact (Below.refl _ _).alloc (Nat.le_refl _) _
 have HX : Hid (ObBox V w.heap.size x) := Lib.hid (by rw [hV]; exact obBox_new w x _)
 have HI := Lib.hid (h.stays hbV)
 have HV := Lib.hid hV; have HB0 := Lib.hid hbV
 have G := Lib.hid (rGet_any v L x.k V HI.out)
 obtain ⟨_, a, cap, rfl, _, _⟩ := h
 clear hV hbV
 obtain ⟨d0, d1⟩ := HX.out.cells
 by_cases hin : (getO L x.t).isSome = true ∨ x.t.length ≠ 32
 ·have HR := Lib.hid (addO_there hin)
  rcases hg : (getO L x.t).isSome with _ | _
  ·have h32 : (((x.k.size : Nat) : Int) != 32) = true := by
    have := hin.resolve_left (by rw [hg]; decide)
    rw [Ob.t, ← Lib.size_eq] at this
    simp; omega
   rw [show getO L x.k.data.toList = getO L x.t from rfl, hg] at G
   clear hg hin
   go_enter Tryz.func17, Tryz.ntmps17
   go_wp2_with fail
   rw [← HV.out]
   go_wp2_with fail
   with_reducible refine G.out.mono ?_
   rintro e w1 ⟨rfl, hb⟩
   obtain ⟨e0, e1⟩ := (HX.out.stays hb).cells
   clear d0 d1
   go_wp2
   go_ret
   exact ⟨.slice a L.length cap, rfl, by rw [HR.out]; exact HI.out.stays hb, below_step HB0.out hb, .inl ⟨rfl, HR.out⟩⟩
  ·rw [show getO L x.k.data.toList = getO L x.t from rfl, hg] at G
   clear hg hin
   go_enter Tryz.func17, Tryz.ntmps17
   go_wp2_with fail
   rw [← HV.out]
   go_wp2_with fail
   with_reducible refine G.out.mono ?_
   rintro e w1 ⟨rfl, hb⟩
   clear d0 d1
   go_wp2
   go_ret
   exact ⟨.slice a L.length cap, rfl, by rw [HR.out]; exact HI.out.stays hb, below_step HB0.out hb, .inl ⟨rfl, HR.out⟩⟩
 ·have HR : Hid (addO L x = insO L x) := Lib.hid (if_neg hin)
  rw [not_or] at hin
  have h32 : (((x.k.size : Nat) : Int) != 32) = false := by
   have := Decidable.not_not.1 hin.2
   rw [Ob.t, ← Lib.size_eq] at this
   rw [this]; rfl
  rw [show (getO L x.k.data.toList).isSome = false by simpa [Ob.t] using hin.1] at G
  clear hin
  go_enter Tryz.func17, Tryz.ntmps17
  go_wp2_with fail
  rw [← HV.out]
  go_wp2_with fail
  with_reducible refine G.out.mono ?_
  rintro e w1 ⟨rfl, hb⟩
  have HX1 := Lib.hid (HX.out.stays hb)
  have HI1 := Lib.hid (HI.out.stays hb)
  have HB1 := Lib.hid (below_step HB0.out hb)
  clear d0 d1 hb HX HI HB0 HV
  obtain ⟨d0, d1⟩ := HX1.out.cells
  go_wp2
  obtain ⟨B, hB⟩ : ∃ B, B = w.heap.size := ⟨_, rfl⟩
  rw [← hB] at HX1 d0 d1 ⊢
  have HBE := Lib.hid hB; clear hB
  go_loopw [7, 8, 9] (fun o d i wr => ∃ (k : Nat) (db : Bool) (out : List Ob), k ≤ L.length ∧ i = .int .i64 k ∧ d = .bool db ∧ AddOn L x k db out ∧ OwnO w1.heap.size wr o out ∧ Below w1.heap.size w1 wr) (fun _ _ i _ => L.length - (intOf i).toNat)
  case atStart => exact ⟨0, false, [], Nat.zero_le _, rfl, rfl, addOn_zero _ _, obs_own_nil _ _, Below.refl _ _⟩
  case round =>
   clear d0 d1
   obtain ⟨k, db, out, hk, rfl, rfl, hA, hO, hB⟩ := hrel
   have hlen := addOn_len hA
   have hol : out.length ≤ 1000000 := by omega
   have HA := Lib.hid hA; have HO := Lib.hid hO
   have HX2 := Lib.hid (HX1.out.stays hB)
   obtain ⟨d0, d1⟩ := HX2.out.cells
   clear hA hO hlen
   by_cases hlt : k < L.length
   ·obtain ⟨_, _, _, e, _, hc⟩ := HI1.out
    cases e
    obtain ⟨b, off, rfl, hbl, g⟩ := hc (by omega)
    obtain ⟨c0, c1⟩ := (g k hlt).stays hbl hB
    have HG := Lib.hid (g k hlt)
    clear g hc
    have hbk : decide ((k : Int) < (L.length : Int)) = true := by simpa using (show (k : Int) < L.length by omega)
    cases db with
    | true =>
     have HS := Lib.hid (addOn_done HA.out hlt)
     obtain ⟨y, hy⟩ : ∃ y, y = L[k] := ⟨_, rfl⟩
     rw [← hy] at c0 c1 HG HS
     clear hy
     go_wp2_with fail
     go_quiet (fail)
     have hbq : Below wr.heap.size wr (wr.drewN nq) := below_drewN (Below.refl _ _) _
     have HO2 := Lib.hid (HO.out.stays hbq)
     have hB2 := below_step hB hbq
     obtain ⟨e0, e1⟩ := HG.out.stays hbl hB2
     clear c0 c1 d0 d1 hB
     generalize wr.drewN nq = wq at HO2 hB2 e0 e1 hbq ⊢
     go_wp2_with (at_builtin; refine wpList_append_ob rfl _ _ rfl HO2.out hB2 rfl rfl rfl hol ?_)
     intro v' w2 hown' hb2
     have HO3 := Lib.hid hown'; clear hown'
     go_wp2
     go_roundw
     case rel => exact ⟨k + 1, true, _, by omega, by go_num, rfl, HS.out, HO3.out, hb2⟩
     case measure => simp [intOf]; omega
    | false =>
     by_cases hlx : x.t < L[k].t
     ·have HS := Lib.hid (addOn_here HA.out hlt hlx)
      obtain ⟨y, hy⟩ : ∃ y, y = L[k] := ⟨_, rfl⟩
      rw [← hy] at c0 c1 HG HS hlx
      clear hy
      have l1 : Op.bytesLess y.k.toList x.k.toList = false := by rw [less_eq]; exact decide_eq_false (t_asymm hlx)
      have l2 : (y.k.toList == x.k.toList) = false := beq_false (fun e => t_irrefl _ (show x.t < x.t by
       have : y.t = x.t := by unfold Ob.t; rw [e]
       rw [this] at hlx; exact hlx))
      clear hlx
      have hol2 : (out ++ [x]).length ≤ 1000000 := by have := HA.out.1; simp at this; rw [List.length_append, List.length_singleton]; omega
      go_wp2_with fail
      go_quiet (fail)
      have hbq : Below wr.heap.size wr (wr.drewN nq) := below_drewN (Below.refl _ _) _
      have HO2 := Lib.hid (HO.out.stays hbq)
      have hB2 := below_step hB hbq
      clear c0 c1 d0 d1 hB
      generalize wr.drewN nq = wq at HO2 hB2 hbq ⊢
      obtain ⟨d0, d1⟩ := (HX1.out.stays hB2).cells
      go_wp2_with (at_builtin; refine wpList_append_ob rfl _ _ rfl HO2.out hB2 rfl rfl rfl hol ?_)
      intro v1 w2 hown1 hb1
      have HO3 := Lib.hid hown1; clear hown1
      clear d0 d1
      obtain ⟨e0, e1⟩ := HG.out.stays hbl hb1
      go_wp2_with (at_builtin; refine wpList_append_ob rfl _ _ rfl HO3.out hb1 rfl rfl rfl hol2 ?_)
      intro v' w3 hown' hb2
      have HO4 := Lib.hid hown'; clear hown'
      go_wp2
      go_roundw
      case rel => exact ⟨k + 1, true, _, by omega, by go_num, rfl, HS.out, by simpa using HO4.out, hb2⟩
      case measure => simp [intOf]; omega
     ·have HS := Lib.hid (addOn_past HA.out hlt hlx)
      obtain ⟨y, hy⟩ : ∃ y, y = L[k] := ⟨_, rfl⟩
      rw [← hy] at c0 c1 HG HS hlx
      clear hy
      have l0 : (Op.bytesLess y.k.toList x.k.toList || (y.k.toList == x.k.toList)) = true := by
       rw [less_eq]
       by_cases e : y.k = x.k
       ·rw [beq_true e, Bool.or_true]
       ·rw [decide_eq_true (Classical.byContradiction fun c => e (str_eq' (t_tri _ _ c hlx))), Bool.true_or]
      clear hlx
      go_wp2_with fail
      go_quiet (fail)
      have hbq : Below wr.heap.size wr (wr.drewN nq) := below_drewN (Below.refl _ _) _
      have HO2 := Lib.hid (HO.out.stays hbq)
      have hB2 := below_step hB hbq
      obtain ⟨e0, e1⟩ := HG.out.stays hbl hB2
      clear c0 c1 d0 d1 hB
      generalize wr.drewN nq = wq at HO2 hB2 e0 e1 hbq ⊢
      go_wp2_with (at_builtin; refine wpList_append_ob rfl _ _ rfl HO2.out hB2 rfl rfl rfl hol ?_)
      intro v' w2 hown' hb2
      have HO3 := Lib.hid hown'; clear hown'
      go_wp2
      go_roundw
      case rel => exact ⟨k + 1, false, _, by omega, by go_num, rfl, HS.out, HO3.out, hb2⟩
      case measure => simp [intOf]; omega
   ·have HE := Lib.hid (addOn_end HA.out (by omega))
    have hge : decide ((k : Int) < (L.length : Int)) = false := by simp; omega
    cases db with
    | true =>
     go_wp2
     go_ret
     exact ⟨u7, rfl, by have h := HO.out.is; rw [HR.out, ← HE.out]; simpa using h, below_step HB1.out (hB.mono (Nat.le_refl _)), .inr (by have h := HO.out.low HB1.out.size; rw [HR.out, ← HE.out]; simpa [HBE.out] using h)⟩
    | false =>
     go_wp2_with (at_builtin; refine wpList_append_ob rfl _ _ rfl HO.out hB rfl rfl rfl hol ?_)
     intro v' w2 hown' hb2
     have HO3 := Lib.hid hown'; clear hown'
     go_wp2
     go_ret
     exact ⟨v', rfl, by have h := HO3.out.is; rw [HR.out, ← HE.out]; simpa using h, below_step HB1.out hb2, .inr (by have h := HO3.out.low HB1.out.size; rw [HR.out, ← HE.out]; simpa using h)⟩
def RetOK (v : Value) (L L' : List Ob) (k : List UInt8) (w : World) (e : Ending) (w' : World) : Prop := ∃ v', e = .returned (.tuple #[v', .string ⟨k.toArray⟩]) ∧ IsObs w' v' L' ∧ Below w.heap.size w w' ∧ (v' = v ∧ L' = L ∨ OwnO w.heap.size w' v' L')
set_option maxRecDepth 100000 in
set_option maxHeartbeats 4000000 in
theorem rPut_any (v : Value) (L : List Ob) (n : Nd) (pv ev : Value) (w : World) (h : IsObs w v L) (hL : L.length ≤ 900000) (hp : IsParts w pv n.ps) (he : IsEntries w ev n.es) :
  Calls Tryz.prog 50 #[v, ndV n pv ev] w (RetOK v L (putN L n) (keyN n) w) := by
 obtain ⟨V, hV⟩ : ∃ V, V = w.alloc (.cells #[.int .i64 n.kd, .string n.d, pv, ev] 71) := ⟨_, rfl⟩
 have hbV : Below w.heap.size w V := by rw [hV]; exact (Below.refl _ _).alloc (Nat.le_refl _) _
 have HX : Hid (NdBox V w.heap.size n pv ev) := Lib.hid (by rw [hV]; exact ndBox_new w n _ _ _)
 have HI := Lib.hid (h.stays hbV); have HP := Lib.hid (hp.stays hbV); have HE := Lib.hid (he.stays hbV)
 obtain ⟨_, a0, cap0, rfl, _, _⟩ := h
 obtain ⟨_, a1, cap1, rfl, _, _⟩ := hp
 obtain ⟨_, a2, cap2, rfl, _, _⟩ := he
 obtain ⟨z1, hz1⟩ : ∃ z, z = n.ps.length := ⟨_, rfl⟩
 obtain ⟨z2, hz2⟩ : ∃ z, z = n.es.length := ⟨_, rfl⟩
 obtain ⟨z0, hz0⟩ : ∃ z, z = L.length := ⟨_, rfl⟩
 rw [← hz1] at HX HP hV ⊢; rw [← hz2] at HX HE hV ⊢; rw [← hz0] at HI hL ⊢
 have HZ := Lib.hid hz0
 clear hz0 hz1 hz2
 have HV := Lib.hid hV; have HB0 := Lib.hid hbV
 obtain ⟨K, hK⟩ : ∃ K : ByteArray, K = ⟨(keyN n).toArray⟩ := ⟨_, rfl⟩
 obtain ⟨S, hS⟩ : ∃ S : ByteArray, S = ⟨(wrN n).toArray⟩ := ⟨_, rfl⟩
 have CK := Lib.hid (rKey_any n (.slice a1 z1 cap1) (.slice a2 z2 cap2) V HP.out HE.out)
 rw [← hK] at CK
 have CW := Lib.hid (fun W (hb : Below V.heap.size V W) => rWrite_any n (.slice a1 z1 cap1) (.slice a2 z2 cap2) W (HP.out.stays hb) (HE.out.stays hb))
 rw [← hS] at CW
 have HO : Hid ((⟨K, S⟩ : Ob) = obN n) := Lib.hid (by rw [hK, hS]; rfl)
 have HK := Lib.hid hK
 clear hV hbV hK hS HP HE
 obtain ⟨d0, d1, d2, d3⟩ := HX.out.cells
 go_enter Tryz.func50, Tryz.ntmps50
 go_wp2_with fail
 rw [← HV.out]
 go_wp2_with fail
 with_reducible refine CK.out.mono ?_
 rintro e w1 ⟨rfl, hb1⟩
 have HX1 := Lib.hid (HX.out.stays hb1)
 clear d0 d1 d2 d3
 obtain ⟨d0, d1, d2, d3⟩ := HX1.out.cells
 go_wp2_with fail
 with_reducible refine (CW.out _ hb1).mono ?_
 rintro e w2 ⟨rfl, hb2⟩
 have hb3 := below_step hb1 hb2
 have CA := Lib.hid (rAdd_any (.slice a0 z0 cap0) L ⟨K, S⟩ w2 (HI.out.stays hb3) (by rw [← HZ.out]; exact hL))
 have HB3 := Lib.hid (below_step HB0.out hb3)
 clear d0 d1 d2 d3 hb1 hb2 hb3
 go_wp2_with fail
 with_reducible refine CA.out.mono ?_
 rintro e w4 ⟨v4, rfl, hs4, hb4, hv4⟩
 have HS4 := Lib.hid hs4; have HV4 := Lib.hid hv4
 obtain ⟨_, a4, cap4, rfl, _, _⟩ := hs4
 have HB4 := Lib.hid (below_step HB3.out hb4)
 have hv5 := HV4.out.imp id fun h => h.low HB3.out.size
 have HV5 := Lib.hid hv5
 clear hb4 hv4 hv5
 go_wp2
 exact bodyPost_ret (v := .tuple #[.slice a4 (addO L ⟨K, S⟩).length cap4, .string K]) (by simp [results, Tryz.results50, go_sem]) rfl ⟨_, by rw [← HK.out], by unfold putN; rw [← HO.out]; exact HS4.out, HB4.out, by unfold putN; rw [← HO.out]; exact HV5.out⟩
theorem row_grownE {w w' : World} {base B : Nat} {v : Value} {M : List En} {xs : Array Value} {T : TypeId} (h : Row w B xs T) (ho : OwnE base w v M) (hg : w.grownBy w' v.ownBlock) (hlt : B < base) : Row w' B xs T := by
 unfold Row; rw [hg.block B h.lt (fun e => by have := (ho.lt B e.symm).1; omega)]; exact h
theorem OwnP.setNe {B b i : Nat} {w : World} {v : Value} {L : List Pt} (h : OwnP B w v L) (ha : ∀ g, v.ownBlock = some g → g < b) (u : Value) : OwnP B (w.setCell ⟨b, i, none⟩ u) v L :=
 World.ownsRow.kept h (grownBy_set w b i u) (by
  cases hv : v.ownBlock with
  | none => exact .inl rfl
  | some k =>
   refine .inr fun e => ?_
   have := ha k hv
   cases e; omega)
theorem OwnE.setNe {B b i : Nat} {w : World} {v : Value} {L : List En} (h : OwnE B w v L) (ha : ∀ g, v.ownBlock = some g → g < b) (u : Value) : OwnE B (w.setCell ⟨b, i, none⟩ u) v L :=
 World.ownsRow.kept h (grownBy_set w b i u) (by
  cases hv : v.ownBlock with
  | none => exact .inl rfl
  | some k =>
   refine .inr fun e => ?_
   have := ha k hv
   cases e; omega)
theorem wpList_append_entries2 {ops : Array Oper} {rest : List Oper} {o : Oper} {a : Act} {B z : Nat} {w0 : World} {Q : Exit → Act → World → Prop} (hgd : o.guard = none) (s x : Operand)
  (ho : o.op = .call { callee := .builtin .append, args := #[s, x], argTypes := #[69, 69] })
  {v : Value} {M : List En} {y : En} (hown : OwnE B w0 v M) (hBs : B ≤ w0.heap.size) (hz : z = w0.heap.size) (hs : a.eval s = v)
  (hx : a.eval x = .slice (some ⟨z, 0, none⟩) 1 1) (hlen : M.length ≤ 1000000)
  (h : ∀ v' w', OwnE B w' v' (M ++ [y]) → w0.grownBy w' v.ownBlock → wpList Tryz.prog ops Q rest (a.put o.dst v') w') :
  wpList Tryz.prog ops Q (o :: rest) a (w0.alloc (.cells #[.string y.m, .int .i64 y.kd, .bool y.x, .string y.k] 89)) := by
 subst hz
 exact wpList_append_entries hgd s x ho hown hBs hs hx hlen h
structure HeldM (W0 : World) (n : Nat) (w : World) : Prop where
 below : Below W0.heap.size W0 w
 size : n ≤ w.heap.size
theorem HeldM.on {W0 w w' : World} {n : Nat} (h : HeldM W0 n w) (hb : Below w.heap.size w w') : HeldM W0 n w' := ⟨below_step h.below hb, Nat.le_trans h.size hb.size⟩
def OnePt (w : World) (v : Value) (x : Pt) : Prop := ∃ A, v = .slice (some ⟨A, 0, none⟩) 1 1 ∧ w.heap[A]? = some (.cells #[.string x.k, .int .i64 x.n] 109 (0, 0))
theorem OnePt.stays {w w' : World} {v : Value} {x : Pt} (h : OnePt w v x) (hb : Below w.heap.size w w') : OnePt w' v x := by
 obtain ⟨A, h1, h2⟩ := h
 exact ⟨A, h1, (hb.block A (Array.getElem?_eq_some_iff.1 h2).1).trans h2⟩
theorem onePt_new (w : World) (x : Pt) : OnePt (w.alloc (.cells #[.string x.k, .int .i64 x.n] 109)) (.slice (some ⟨w.heap.size, 0, none⟩) 1 1) x := ⟨_, rfl, heap_alloc_new w _⟩
theorem wp_build_part {o : Oper} {a : Act} {K : Act → World → Prop} {Q : Exit → Act → World → Prop} {w : World} (p : Nat) (ho : o.op = .buildSlice 68 1 #[(0, .tmp p)]) {x : Pt}
  (hx : slot a p = .agg #[.string x.k, .int .i64 x.n]) (hk : K (a.put o.dst (.slice (some ⟨w.heap.size, 0, none⟩) 1 1)) (w.alloc (.cells #[.string x.k, .int .i64 x.n] 109))) : o.wp Tryz.prog a w K Q := by
 refine wp_value (v := .slice (some ⟨w.heap.size, 0, none⟩) 1 1) (w' := w.alloc (.cells #[.string x.k, .int .i64 x.n] 109)) ?_ hk
 have f := slot_at hx
 unfold execOp
 rw [ho]
 go_simp
theorem wp_append_one_part {o : Oper} {a : Act} {B : Nat} {w : World} {K : Act → World → Prop} {Q : Exit → Act → World → Prop} (s x : Nat)
  (ho : o.op = .call { callee := .builtin .append, args := #[.tmp s, .tmp x], argTypes := #[68, 68] })
  {v : Value} {M : List Pt} {y : Pt} (hown : OwnP B w v M) (hBs : B ≤ w.heap.size) (hs : a.eval (.tmp s) = v) (hx : OnePt w (slot a x) y) (hlen : M.length ≤ 1000000)
  (h : ∀ v' w', OwnP B w' v' (M ++ [y]) → w.grownBy w' v.ownBlock → K (a.put o.dst v') w') : o.wp Tryz.prog a w K Q := by
 obtain ⟨i0, hi, hz0, hz1, hz2⟩ := info_parts infoPart
 obtain ⟨A, hx1, hx2⟩ := hx
 have hr : Row w A #[.string y.k, .int .i64 y.n] 109 := hx2
 refine wp_append_own w (.tmp s) (.tmp x) 68 ho B 109 i0 (ptV zeroPt) 2 24 Tryz.underlying68 hi hz0 hz1 hz2 rfl (by decide) v M.length (ptCells M) hs hown ⟨A, 0, none⟩ 1 1 (ptC y) (slotE hx1) rfl ?_ ?_ ?_ ?_ hBs ?_
 ·intro j u hj
  have := hr.cell j
  rw [add_plain', Nat.zero_add, this]
  simpa using hj
 ·intro u hu; simp at hu; rcases hu with rfl | rfl <;> rfl
 ·unfold maxLen; omega
 ·omega
 ·intro v' w' hown' hg _
  refine h v' w' ?_ hg
  unfold OwnP
  rw [List.length_append, ptCells_app]
  have : ptCells [y] = ptC y := List.append_nil _
  rw [this]; exact hown'
def flR (W0 : World) (bn : Nat) (vp : Value) (i : Nat) (w w' : World) : Prop :=
 if i = 10 then w.grownBy w' vp.ownBlock ∧ ∀ g, vp.ownBlock = some g → W0.heap.size ≤ g ∧ ∃ xs, Row w g xs 109
 else ∃ u a n c, Row w bn #[.int .i64 2, .string ⟨#[]⟩, .slice a n c, .slice none 0 0] 71 ∧ W0.heap.size ≤ bn ∧ w' = w.setCell ⟨bn, 2, none⟩ u
theorem flR_app {W0 : World} {bn : Nat} {vp : Value} {w w' : World} (h : flR W0 bn vp 10 w w') : w.grownBy w' vp.ownBlock := by unfold flR at h; rw [if_pos rfl] at h; exact h.1
theorem flR_app' {W0 w1 : World} {bn : Nat} {vp : Value} {Lp : List Pt} {w w' : World} (h : w.grownBy w' vp.ownBlock) (ho : OwnP w1.heap.size w vp Lp) (hb : bn < w1.heap.size ∧ W0.heap.size ≤ bn) : flR W0 bn vp 10 w w' := by
 unfold flR; rw [if_pos rfl]
 exact ⟨h, fun g hg => ⟨by have := (World.ownsRow.lt ho g hg).1; omega, ho.row hg⟩⟩
theorem flR_set {W0 : World} {bn : Nat} {vp : Value} {w w' : World} (h : flR W0 bn vp 12 w w') : ∃ u a n c, Row w bn #[.int .i64 2, .string ⟨#[]⟩, .slice a n c, .slice none 0 0] 71 ∧ W0.heap.size ≤ bn ∧ w' = w.setCell ⟨bn, 2, none⟩ u := by unfold flR at h; rwa [if_neg (by decide)] at h
theorem flR_set' {W0 : World} {bn : Nat} {vp : Value} {w : World} (hr : Row w bn #[.int .i64 2, .string ⟨#[]⟩, vp, .slice none 0 0] 71) (hv : ∃ a n c, vp = .slice a n c) (hb : W0.heap.size ≤ bn) (u : Value) : flR W0 bn vp 12 w (w.setCell ⟨bn, 2, none⟩ u) := by
 obtain ⟨a, n, c, rfl⟩ := hv
 unfold flR; rw [if_neg (by decide)]; exact ⟨u, a, n, c, hr, hb, rfl⟩
theorem flR_own {W0 : World} {bn Bs : Nat} {vp v : Value} {w w' : World} {L : List Pt} (h : flR W0 bn vp 12 w w') (hU : OwnP Bs w v L) (hb : bn < Bs) : OwnP Bs w' v L := by
 obtain ⟨u, _, _, _, _, _, rfl⟩ := flR_set h
 exact hU.setBelow (a := ⟨bn, 2, none⟩) hb u
theorem flR_lt {W0 : World} {bn b : Nat} {vp : Value} {w w' : World} (h : flR W0 bn vp 12 w w') (hb : b < w.heap.size) : b < w'.heap.size := by
 obtain ⟨u, _, _, _, _, _, rfl⟩ := flR_set h
 simpa [World.setCell] using hb
def TxtC (w : World) (tb to : Nat) (Ps : List (List UInt8)) : Prop := ∀ i (h : i < Ps.length), w.cell? ⟨tb, to + i, none⟩ = some (.string ⟨Ps[i].toArray⟩)
theorem TxtC.stays {w w' : World} {tb to : Nat} {Ps : List (List UInt8)} (h : TxtC w tb to Ps) (hl : tb < w.heap.size) (hb : Below w.heap.size w w') : TxtC w' tb to Ps := fun i hi => (hb.cell (p := ⟨tb, to + i, none⟩) hl).trans (h i hi)
theorem TxtC.grown {w w' : World} {tb to : Nat} {Ps : List (List UInt8)} {row : Option Nat} (h : TxtC w tb to Ps) (hl : tb < w.heap.size) (hg : w.grownBy w' row) (hr : row ≠ some tb) : TxtC w' tb to Ps := fun i hi => by
 rw [World.cell?_of_block (hg.block tb hl (fun e => hr e.symm))]; exact h i hi
theorem TxtC.set {w : World} {tb to bn : Nat} {Ps : List (List UInt8)} (h : TxtC w tb to Ps) {a : Option Addr} {n c : Nat} (hc : w.cell? ⟨bn, 2, none⟩ = some (.slice a n c)) (u : Value) : TxtC (w.setCell ⟨bn, 2, none⟩ u) tb to Ps := fun i hi => by
 rw [World.cell?_setCell_other _ _ _ _ (fun e => by
  have := h i hi
  first
   | (rw [e, hc] at this; cases this)
   | (rw [← e, hc] at this; cases this))]
 exact h i hi
theorem flR_txt {W0 : World} {bn : Nat} {vp : Value} {w w' : World} {tb to : Nat} {Ps : List (List UInt8)} (h : flR W0 bn vp 12 w w') (hU : TxtC w tb to Ps) : TxtC w' tb to Ps := by
 obtain ⟨u, a, n, c, hr, _, rfl⟩ := flR_set h
 have hc := hr.cell 2
 simp only [List.getElem?_toArray, List.getElem?_cons_zero, List.getElem?_cons_succ] at hc
 exact hU.set hc u
theorem flR_any {W0 : World} {bn : Nat} {vp v0 v : Value} {w w' : World} {L0 L : List Ob} (h : flR W0 bn vp 10 w w') (hU : AnyO W0 v0 L0 w v L) : AnyO W0 v0 L0 w' v L := by
 unfold flR at h; rw [if_pos rfl] at h
 exact hU.turn h.1 fun g hg => ⟨(h.2 g hg).1, by obtain ⟨xs, hx⟩ := (h.2 g hg).2; exact ⟨xs, _, hx, by decide⟩⟩
theorem flR_any2 {W0 : World} {bn : Nat} {vp v0 v : Value} {w w' : World} {L0 L : List Ob} (h : flR W0 bn vp 12 w w') (hU : AnyO W0 v0 L0 w v L) : AnyO W0 v0 L0 w' v L := by
 obtain ⟨u, a, n, c, hr, hb, rfl⟩ := flR_set h
 exact hU.turn (grownBy_set w bn 2 u) fun g hg => by cases hg; exact ⟨hb, _, _, hr, by decide⟩
def dflU (W0 : World) (bn tb to tl tcap kc Bs : Nat) (vp lv v0 : Value) (Lp : List Pt) (LL L0 : List Ob) (Ps : List (List UInt8)) (kk t : ByteArray) : Nat → Value → Value → World → Prop
 | 0 => fun v _ _ => v = .pointer (some ⟨bn, 2, none⟩)
 | 1 => fun v _ _ => v = vp
 | 2 => fun v _ _ => v = .string kk
 | 3 => fun v _ _ => v = .slice (some ⟨tb, to, none⟩) tl tcap
 | 4 => fun v _ _ => v = .int .i64 kc
 | 5 => fun v _ _ => v = .pointer (some ⟨tb, to + kc, none⟩)
 | 6 => fun v _ _ => v = .string t
 | 7 => fun v _ _ => v = .int .i64 t.size
 | 8 => fun v _ _ => v = .agg #[.string kk, .int .i64 t.size]
 | 9 => fun v _ w => OnePt w v (⟨kk, (t.size : Int)⟩ : Pt)
 | 10 => fun v _ w => OwnP Bs w v (Lp ++ [(⟨kk, (t.size : Int)⟩ : Pt)]) ∧ bn < Bs
 | 11 => fun v _ _ => v = .pointer (some ⟨bn, 2, none⟩)
 | 12 => fun _ e w => Row w bn #[.int .i64 2, .string ⟨#[]⟩, e, .slice none 0 0] 71
 | 13 => fun _ _ w => Row w bn #[.int .i64 2, .string ⟨#[]⟩, vp, .slice none 0 0] 71 ∧ vp.ownBlock ≠ some bn
 | 14 => fun _ _ w => OwnP Bs w vp Lp
 | 15 => fun _ _ w => TxtC w tb to Ps ∧ tb < w.heap.size ∧ vp.ownBlock ≠ some tb
 | 16 => fun _ _ w => AnyO W0 v0 L0 w lv LL
 | _ => fun _ _ _ => True
def dflN : List (List Nat) := [[], [0, 13], [], [], [], [3, 4], [5, 15], [6], [2, 7], [8], [1, 9, 14], [], [11, 10, 13]]
def dflE : Nat → Option Tmp
 | 12 => some 42
 | _ => none
def dflB : List (Nat × Nat) := [(10, 9), (10, 12), (10, 14), (12, 9), (12, 13), (12, 14)]
theorem dfl_T (W0 : World) (bn tb to tl tcap kc Bs : Nat) (vp lv v0 : Value) (Lp : List Pt) (LL L0 : List Ob) (Ps : List (List UInt8)) (kk t : ByteArray) (ix kx : Nat) (v e : Value) (w w' : World) (hk : kx < 17) (hne : kx ≠ ix) (hbd : (ix, kx) ∉ dflB) (hU : (dflU W0 bn tb to tl tcap kc Bs vp lv v0 Lp LL L0 Ps kk t) kx v e w) (hT : (appTs [10, 12] (flR W0 bn vp)) ix w w') : (dflU W0 bn tb to tl tcap kc Bs vp lv v0 Lp LL L0 Ps kk t) kx v e w' := by
 by_cases hi10 : ix = 10
 ·subst hi10
  have hR := appTs_in (by decide) hT
  rcases (show kx = 0 ∨ kx = 1 ∨ kx = 2 ∨ kx = 3 ∨ kx = 4 ∨ kx = 5 ∨ kx = 6 ∨ kx = 7 ∨ kx = 8 ∨ kx = 9 ∨ kx = 10 ∨ kx = 11 ∨ kx = 12 ∨ kx = 13 ∨ kx = 14 ∨ kx = 15 ∨ kx = 16 by omega) with rfl | rfl | rfl | rfl | rfl | rfl | rfl | rfl | rfl | rfl | rfl | rfl | rfl | rfl | rfl | rfl | rfl
  iterate 9 exact hU
  ·exact absurd (by decide) hbd
  ·exact absurd rfl hne
  ·exact hU
  ·exact absurd (by decide) hbd
  ·exact ⟨((flR_app hR).block bn hU.1.lt (fun e => hU.2 e.symm)).trans hU.1, hU.2⟩
  ·exact absurd (by decide) hbd
  ·exact ⟨hU.1.grown hU.2.1 (flR_app hR) hU.2.2, Nat.lt_of_lt_of_le hU.2.1 (flR_app hR).size, hU.2.2⟩
  ·exact flR_any hR hU
 by_cases hi12 : ix = 12
 ·subst hi12
  have hR := appTs_in (by decide) hT
  rcases (show kx = 0 ∨ kx = 1 ∨ kx = 2 ∨ kx = 3 ∨ kx = 4 ∨ kx = 5 ∨ kx = 6 ∨ kx = 7 ∨ kx = 8 ∨ kx = 9 ∨ kx = 10 ∨ kx = 11 ∨ kx = 12 ∨ kx = 13 ∨ kx = 14 ∨ kx = 15 ∨ kx = 16 by omega) with rfl | rfl | rfl | rfl | rfl | rfl | rfl | rfl | rfl | rfl | rfl | rfl | rfl | rfl | rfl | rfl | rfl
  iterate 9 exact hU
  ·exact absurd (by decide) hbd
  ·exact ⟨flR_own hR hU.1 hU.2, hU.2⟩
  ·exact hU
  ·exact absurd rfl hne
  ·exact absurd (by decide) hbd
  ·exact absurd (by decide) hbd
  ·exact ⟨flR_txt hR hU.1, flR_lt hR hU.2.1, hU.2.2⟩
  ·exact flR_any2 hR hU
 have hi : ix ∉ [10, 12] := by simp [hi10, hi12]
 have hb : Below w.heap.size w w' := appTs_out hi hT
 rcases (show kx = 0 ∨ kx = 1 ∨ kx = 2 ∨ kx = 3 ∨ kx = 4 ∨ kx = 5 ∨ kx = 6 ∨ kx = 7 ∨ kx = 8 ∨ kx = 9 ∨ kx = 10 ∨ kx = 11 ∨ kx = 12 ∨ kx = 13 ∨ kx = 14 ∨ kx = 15 ∨ kx = 16 by omega) with rfl | rfl | rfl | rfl | rfl | rfl | rfl | rfl | rfl | rfl | rfl | rfl | rfl | rfl | rfl | rfl | rfl
 iterate 9 exact hU
 ·exact OnePt.stays hU hb
 ·exact ⟨OwnP.stays hU.1 hb, hU.2⟩
 ·exact hU
 ·exact Row.step hU hb
 ·exact ⟨Row.step hU.1 hb, hU.2⟩
 ·exact OwnP.stays hU hb
 ·exact ⟨hU.1.stays hU.2.1 hb, Nat.lt_of_lt_of_le hU.2.1 hb.size, hU.2.2⟩
 ·exact AnyO.stays hU hb
set_option maxRecDepth 100000 in
set_option maxHeartbeats 8000000 in
theorem rFile_any (mn av b mx : Nat) (hF : FitAt mn av mx b) (v : Value) (L : List Ob) (s : ByteArray) (w : World) (h : IsObs w v L) (hs : s.size ≤ 100000) (hL : L.length + s.size ≤ 800000) :
  Calls Tryz.prog 49 #[pV mn av mx, v, .string s] w (RetOK v L (putsN L (seqF (cutN mn b mx) s.data.toList)) (keyN (fileN (cutN mn b mx) s.data.toList)) w) := by
 have CP := Lib.hid (fun W => refPieces_any mn av b mx hF s hs W)
 have OK := Lib.hid (cutN_ok (mn := mn) (b := b) (mx := mx) (by have := hF.h1; omega) (by have := hF.h2; have := hF.h3; omega))
 obtain ⟨c, hc⟩ : ∃ c, c = cutN mn b mx := ⟨_, rfl⟩
 rw [← hc] at CP OK ⊢
 have hpl : (pcs c s.data.toList).length ≤ s.size := by have := pcs_len OK.out.pos s.data.toList.length s.data.toList (Nat.le_refl _); rw [Lib.size_eq]; exact this
 obtain ⟨V, hV⟩ : ∃ V, V = (w.alloc (.cells #[.int .i64 mn, .int .i64 av, .int .i64 mx] 23)).alloc (.cells #[.int .i64 2, .string ⟨#[]⟩, .slice none 0 0, .slice none 0 0] 71) := ⟨_, rfl⟩
 have hbV : Below w.heap.size w V := by rw [hV]; exact ((Below.refl _ _).alloc (Nat.le_refl _) _).alloc (by simp) _
 have hR0 : Row V w.heap.size #[.int .i64 mn, .int .i64 av, .int .i64 mx] 23 := by rw [hV]; exact (Row.made _ _ _).alloc _
 have hRN : Row V (w.heap.size + 1) #[.int .i64 2, .string ⟨#[]⟩, .slice none 0 0, .slice none 0 0] 71 := by
  have := Row.made (w.alloc (.cells #[.int .i64 mn, .int .i64 av, .int .i64 mx] 23)) #[.int .i64 2, .string ⟨#[]⟩, .slice none 0 0, .slice none 0 0] 71
  rw [hV]; simpa using this
 have HV := Lib.hid hV; have HBV := Lib.hid hbV; have HRN := Lib.hid hRN
 have HI := Lib.hid (h.stays hbV); have HL0 := Lib.hid h
 obtain ⟨_, a0, cap0, rfl, _, _⟩ := h
 have p0 := hR0.cell 0; have p1 := hR0.cell 1; have p2 := hR0.cell 2
 simp only [List.getElem?_toArray, List.getElem?_cons_zero, List.getElem?_cons_succ] at p0 p1 p2
 clear hV hbV hRN hR0 hc hF
 go_enter Tryz.func49, Tryz.ntmps49
 go_wp2_with fail
 rw [← HV.out]
 go_wp2_with fail
 with_reducible refine (CP.out _).mono ?_
 rintro e w1 ⟨v1, rfl, hs1, hb1⟩
 have HS1 := Lib.hid hs1
 obtain ⟨hlt1, a1, cap1, rfl, _, _⟩ := hs1
 have HRN1 := Lib.hid (HRN.out.step hb1)
 have HI1 := Lib.hid (HI.out.stays hb1)
 have HB1 := Lib.hid (below_step HBV.out hb1)
 have hz1 : w.heap.size + 1 < w1.heap.size := HRN1.out.lt
 clear hb1 p0 p1 p2
 obtain ⟨Ps, hPs⟩ : ∃ Ps, Ps = pcs c s.data.toList := ⟨_, rfl⟩
 rw [← hPs] at HS1 hpl
 have HPS := Lib.hid hPs
 rw [← hPs]
 have hsl : (strsOf Ps).length = Ps.length := strsOf_len _
 rw [hsl] at HS1
 rw [hsl]
 obtain ⟨tb, to, hab, hT1⟩ : ∃ tb to, (0 < Ps.length → a1 = some ⟨tb, to, none⟩ ∧ tb < w1.heap.size) ∧ TxtC w1 tb to Ps := by
  obtain ⟨_, _, _, e, _, hc⟩ := HS1.out
  rw [hsl] at e
  cases e
  by_cases h0 : 0 < Ps.length
  ·obtain ⟨b', off, rfl, hbl, g⟩ := hc (by rw [strsOf_len]; exact h0)
   exact ⟨b', off, fun _ => ⟨rfl, hbl⟩, fun i hi => by have := g i (by rw [strsOf_len]; exact hi); rwa [strsOf_get hi] at this⟩
  ·exact ⟨0, 0, fun h => absurd h h0, fun i hi => absurd (Nat.lt_of_le_of_lt (Nat.zero_le _) hi) h0⟩
 have HAB := Lib.hid hab; have HT1 := Lib.hid hT1
 have HLL := Lib.hid (fun k => (putsN_len L ((Ps.take k).map pieceN)).2)
 have HA1 : Hid (AnyO w (.slice a0 L.length cap0) L w1 (.slice a0 L.length cap0) L) := Lib.hid ((AnyO.of HL0.out).stays HB1.out)
 clear hPs hab hT1 HS1 hsl HI1 HI
 go_wp2
 obtain ⟨bn, hbn⟩ : ∃ bn, bn = w.heap.size + 1 := ⟨_, rfl⟩
 rw [← hbn] at HRN1 hz1 ⊢
 have HBN := Lib.hid (show w.heap.size ≤ bn by omega)
 clear hbn
 go_loopw [1, 10] (fun lv i wr => ∃ (k : Nat) (vp : Value), k ≤ Ps.length ∧ i = .int .i64 k ∧ AnyO w (.slice a0 L.length cap0) L wr lv (putsN L ((Ps.take k).map pieceN)) ∧ Row wr bn #[.int .i64 2, .string ⟨#[]⟩, vp, .slice none 0 0] 71 ∧ OwnP w1.heap.size wr vp ((Ps.take k).map partP) ∧ TxtC wr tb to Ps ∧ Below w.heap.size w wr ∧ w1.heap.size ≤ wr.heap.size) (fun _ i _ => Ps.length - (intOf i).toNat)
 case atStart => exact ⟨0, _, Nat.zero_le _, rfl, HA1.out, HRN1.out, parts_own_nil _ _, HT1.out, HB1.out, Nat.le_refl _⟩
 case round =>
  obtain ⟨k, vp, hk, rfl, hA, hR, hO, hT, hB, hzr⟩ := hrel
  have hll := HLL.out k
  rw [List.length_map, List.length_take] at hll
  by_cases hlt : k < Ps.length
  ·obtain ⟨rfl, htb⟩ := HAB.out (by omega)
   have hbk : decide ((k : Int) < (Ps.length : Int)) = true := by simpa using (show (k : Int) < Ps.length by omega)
   have hst : putsN L ((Ps.take (k + 1)).map pieceN) = putN (putsN L ((Ps.take k).map pieceN)) (pieceN (Ps[k]'hlt)) := by rw [List.take_succ_eq_append_getElem hlt, List.map_append, putsN_app]; rfl
   have hsp : (Ps.take (k + 1)).map partP = (Ps.take k).map partP ++ [partP (Ps[k]'hlt)] := by rw [List.take_succ_eq_append_getElem hlt, List.map_append]; rfl
   have c0 := hT k hlt
   obtain ⟨pk, hpk⟩ : ∃ pk, Ps[k]'hlt = pk := ⟨_, rfl⟩
   rw [hpk] at hst hsp c0
   have HPK := Lib.hid hpk
   obtain ⟨t, ht⟩ : ∃ t : ByteArray, t = ⟨pk.toArray⟩ := ⟨_, rfl⟩
   have hts : t.size = pk.length := by rw [ht, Lib.size_eq]
   obtain ⟨kk, hkk⟩ : ∃ kk : ByteArray, kk = ⟨(keyN (pieceN pk)).toArray⟩ := ⟨_, rfl⟩
   have hx : partP pk = ⟨kk, (t.size : Int)⟩ := by unfold partP; rw [hkk, hts]
   rw [hx] at hsp
   have HST := Lib.hid hst; have HSP := Lib.hid hsp
   clear hpk hst hsp
   have CP6 : Hid (Calls Tryz.prog 50 #[u1, .agg #[.int .i64 1, .string t, .slice none 0 0, .slice none 0 0]] wr (RetOK u1 (putsN L ((Ps.take k).map pieceN)) (putN (putsN L ((Ps.take k).map pieceN)) (pieceN pk)) (keyN (pieceN pk)) wr)) := Lib.hid (by
    rw [ht]; exact rPut_any u1 _ (pieceN pk) (.slice none 0 0) (.slice none 0 0) wr hA.is (by omega) (parts_nil _) (entries_nil _))
   rw [← ht] at c0
   have HT := Lib.hid ht; have HLT := Lib.hid hlt; have HA0 := Lib.hid hA; have HO0 := Lib.hid hO; have HR0 := Lib.hid hR; have HC0 := Lib.hid hT; have HKK := Lib.hid hkk; have HB0 := Lib.hid hB
   have HLEN : Hid (((Ps.take k).map partP).length ≤ 1000000) := Lib.hid (by rw [List.length_map, List.length_take]; omega)
   obtain ⟨LL, hLL⟩ : ∃ LL, LL = putN (putsN L ((Ps.take k).map pieceN)) (pieceN pk) := ⟨_, rfl⟩
   rw [← hLL] at CP6 HST
   obtain ⟨Lp, hLp⟩ : ∃ Lp, Lp = (Ps.take k).map partP := ⟨_, rfl⟩
   rw [← hLp] at HO0 HLEN HSP
   clear hA hR hO hT hts hx hkk hLp hLL hB ht
   go_wp2_with fail
   with_reducible refine CP6.out.mono ?_
   rintro e w6 ⟨v6, rfl, hs6, hb6, hv6⟩
   have HA := Lib.hid (HA0.out.next hb6 hv6)
   have HR := Lib.hid (HR0.out.step hb6)
   have HO := Lib.hid (HO0.out.stays hb6)
   have htw : tb < wr.heap.size := Nat.lt_of_lt_of_le htb hzr
   have HC : Hid (TxtC w6 tb to Ps ∧ tb < w6.heap.size) := Lib.hid ⟨HC0.out.stays htw hb6, Nat.lt_of_lt_of_le htw hb6.size⟩
   have HNE : Hid (vp.ownBlock ≠ some bn ∧ vp.ownBlock ≠ some tb) := Lib.hid ⟨fun e => by have := (World.ownsRow.lt HO0.out bn e).1; omega, fun e => by have := (World.ownsRow.lt HO0.out tb e).1; omega⟩
   have HVP : Hid (∃ a n c, vp = .slice a n c) := Lib.hid (by obtain ⟨_, a, c, e, _⟩ := HO0.out.is; exact ⟨a, _, c, e⟩)
   have HBS : Hid (bn < w1.heap.size ∧ w.heap.size ≤ bn) := Lib.hid ⟨hz1, HBN.out⟩
   have HLP := HLEN
   have HKT : Hid (k < Ps.length) := HLT
   have HG0 : Hid (HeldM w w1.heap.size { w6 with drawn := w6.drawn + 1 }) := Lib.hid ⟨(below_step HB0.out hb6).drew, Nat.le_trans hzr hb6.size⟩
   rw [← HKK.out]
   clear c0 hs6 hv6 hb6 htw
   go_wp2_with fail
   refine wp_region_wordsG (by kernel_rfl) (by kernel_rfl) (appTs [10, 12] (flR w bn vp)) (HeldM w w1.heap.size) dflE (dflU w bn tb to Ps.length cap1 k w1.heap.size vp v6 (.slice a0 L.length cap0) Lp LL L Ps kk t) 17 dflN [10, 12, 15, 16] (by kernel_rfl) (by kernel_rfl) (by kernel_rfl)
    dflB (by kernel_rfl) (fun ix kx v e w w' hi hk hne hb hU hT => dfl_T _ _ _ _ _ _ _ _ _ _ _ _ _ _ _ _ _  ix kx v e w w' hk hne hb hU hT) (by decide) (HG0.out) (fun kx hk hge => ?hv0)
    [32, 33, 34, 35, 36, 37, 38, 39, 40, 41, 42, 43] (by kernel_rfl) (forall_ops ?steps) ?behind
   case hv0 =>
    have hge' : 13 ≤ kx := hge
    rcases (show kx = 13 ∨ kx = 14 ∨ kx = 15 ∨ kx = 16 by omega) with rfl | rfl | rfl | rfl
    ·exact ⟨HR.out.drew, HNE.out.1⟩
    ·exact HO.out.stays ((Below.refl _ _).drew)
    ·exact ⟨HC.out.1.stays HC.out.2 ((Below.refl _ _).drew), HC.out.2, HNE.out.2⟩
    ·exact HA.out.stays ((Below.refl _ _).drew)
   case steps =>
    refine ⟨?_, ?_, ?_, ?_, ?_, ?_, ?_, ?_, ?_, ?_, ?_, ?_, ?_, trivial⟩
    ·refine stepG_of rfl ?_
     exact stepR_value (t := 32) (.pointer (some ⟨bn, 2, none⟩)) rfl (fun _ => appTs_other (by decide) (Below.refl _ _)) (fun ac w hG hN hO => by
      have e8 : slot ac 8 = .pointer (some ⟨bn, 0, none⟩) := hO 8 (by kernel_rfl)
      have f8 := slot_at e8
      unfold execOp; go_simp) (fun ac w hG hN => rfl)
    ·refine stepG_of rfl ?_
     exact stepR_value (t := 33) vp rfl (fun _ => appTs_other (by decide) (Below.refl _ _)) (fun ac w hG hN hO => by
      have e32 : slot ac 32 = .pointer (some ⟨bn, 2, none⟩) := hN 0 (by decide)
      have hx : Row w bn #[.int .i64 2, .string ⟨#[]⟩, vp, .slice none 0 0] 71 ∧ _ := hN 13 (by decide)
      have c2 := hx.1.cell 2
      simp only [List.getElem?_toArray, List.getElem?_cons_zero, List.getElem?_cons_succ] at c2
      have f := slot_at e32
      unfold execOp; go_simp) (fun ac w hG hN => rfl)
    ·refine stepG_of rfl ?_
     exact stepR_value (t := 34) (.string kk) rfl (fun _ => appTs_other (by decide) (Below.refl _ _)) (fun ac w hG hN hO => by
      have e11 : slot ac 11 = .string kk := hO 11 (by kernel_rfl)
      exact run_move_slot (.inl rfl) e11) (fun ac w hG hN => rfl)
    ·refine stepG_of rfl ?_
     exact stepR_value (t := 35) (.slice (some ⟨tb, to, none⟩) Ps.length cap1) rfl (fun _ => appTs_other (by decide) (Below.refl _ _)) (fun ac w hG hN hO => by
      have e9 : slot ac 9 = .slice (some ⟨tb, to, none⟩) Ps.length cap1 := hO 9 (by kernel_rfl)
      exact run_move_slot (.inl rfl) e9) (fun ac w hG hN => rfl)
    ·refine stepG_of rfl ?_
     exact stepR_value (t := 36) (.int .i64 k) rfl (fun _ => appTs_other (by decide) (Below.refl _ _)) (fun ac w hG hN hO => by
      have e10 : slot ac 10 = .int .i64 k := hO 10 (by kernel_rfl)
      exact run_move_slot (.inl rfl) e10) (fun ac w hG hN => rfl)
    ·refine stepG_of rfl ?_
     exact stepR_value (t := 37) (.pointer (some ⟨tb, to + k, none⟩)) rfl (fun _ => appTs_other (by decide) (Below.refl _ _)) (fun ac w hG hN hO => by
      have e35 : slot ac 35 = .slice (some ⟨tb, to, none⟩) Ps.length cap1 := hN 3 (by decide)
      have e36 : slot ac 36 = .int .i64 k := hN 4 (by decide)
      have f35 := slot_at e35; have f36 := slot_at e36
      have hkt := HKT.out
      unfold execOp; go_simp) (fun ac w hG hN => rfl)
    ·refine stepG_of rfl ?_
     exact stepR_value (t := 38) (.string t) rfl (fun _ => appTs_other (by decide) (Below.refl _ _)) (fun ac w hG hN hO => by
      have e37 : slot ac 37 = .pointer (some ⟨tb, to + k, none⟩) := hN 5 (by decide)
      have hx : TxtC w tb to Ps ∧ _ := hN 15 (by decide)
      have c : w.cell? ⟨tb, to + k, none⟩ = some (.string t) := by rw [HT.out, ← HPK.out]; exact hx.1 k HLT.out
      have f := slot_at e37
      unfold execOp; go_simp) (fun ac w hG hN => rfl)
    ·refine stepG_of rfl ?_
     exact stepR_value (t := 39) (.int .i64 t.size) rfl (fun _ => appTs_other (by decide) (Below.refl _ _)) (fun ac w hG hN hO => by
      have e38 : slot ac 38 = .string t := hN 6 (by decide)
      have f38 := slot_at e38
      unfold execOp; go_simp) (fun ac w hG hN => rfl)
    ·refine stepG_of rfl ?_
     exact stepR_value (t := 40) (.agg #[.string kk, .int .i64 t.size]) rfl (fun _ => appTs_other (by decide) (Below.refl _ _)) (fun ac w hG hN hO => by
      have e34 : slot ac 34 = .string kk := hN 2 (by decide)
      have e39 : slot ac 39 = .int .i64 t.size := hN 7 (by decide)
      have f34 := slot_at e34
      have f39 := slot_at e39
      unfold execOp; go_simp) (fun ac w hG hN => rfl)
    ·refine stepG_of rfl ?_
     intro ac w hG hN hO
     have e40 : slot ac 40 = .agg #[.string kk, .int .i64 t.size] := hN 8 (by decide)
     refine wp_build_part 40 rfl (x := (⟨kk, (t.size : Int)⟩ : Pt)) e40 ?_
     exact ⟨_, rfl, appTs_other (by decide) ((Below.refl _ _).alloc (Nat.le_refl _) _), hG.on ((Below.refl _ _).alloc (Nat.le_refl _) _), onePt_new w (⟨kk, (t.size : Int)⟩ : Pt)⟩
    ·refine stepG_of rfl ?_
     intro ac w hG hN hO
     have e33 : slot ac 33 = vp := hN 1 (by decide)
     have e41 : OnePt w (slot ac 41) (⟨kk, (t.size : Int)⟩ : Pt) := hN 9 (by decide)
     have hown : OwnP w1.heap.size w vp Lp := hN 14 (by decide)
     have hbs := HBS.out
     have hlp := HLP.out
     have hBw : w1.heap.size ≤ w.heap.size := hG.size
     refine wp_append_one_part 33 41 rfl hown hBw (slotE e33) e41 hlp ?_
     intro v' w' hown' hg
     exact ⟨v', rfl, appTs_at (by decide) (flR_app' hg hown hbs), ⟨hG.below.grown hg hG.below.size (fun j hj => Nat.le_trans (Nat.le_trans hbs.2 (Nat.le_of_lt hbs.1)) (World.ownsRow.lt hown j hj).1), Nat.le_trans hG.size hg.size⟩, hown', hbs.1⟩
    ·refine stepG_of rfl ?_
     exact stepR_value (t := 43) (.pointer (some ⟨bn, 2, none⟩)) rfl (fun _ => appTs_other (by decide) (Below.refl _ _)) (fun ac w hG hN hO => by
      have e8 : slot ac 8 = .pointer (some ⟨bn, 0, none⟩) := hO 8 (by kernel_rfl)
      have f8 := slot_at e8
      unfold execOp; go_simp) (fun ac w hG hN => rfl)
    ·refine stepG_of rfl ?_
     intro ac w hG hN hO
     have e43 : slot ac 43 = .pointer (some ⟨bn, 2, none⟩) := hN 11 (by decide)
     have hrow : Row w bn #[.int .i64 2, .string ⟨#[]⟩, vp, .slice none 0 0] 71 ∧ _ := hN 13 (by decide)
     have hc := hrow.1.cell 2
     have hf := hrow.1.free 2
     simp only [List.getElem?_toArray, List.getElem?_cons_zero, List.getElem?_cons_succ] at hc
     have f1 := slot_at e43
     have hbs := HBS.out
     obtain ⟨u, hu⟩ : ∃ u, u = slot ac 42 := ⟨_, rfl⟩
     have f2 := slot_at hu.symm
     have hown : OwnP w1.heap.size w (slot ac 42) (Lp ++ [(⟨kk, (t.size : Int)⟩ : Pt)]) ∧ _ := hN 10 (by decide)
     rw [← hu] at hown
     obtain ⟨_, ua, uc, hue, _, _⟩ := hown.1.is
     subst hue
     have hs := hrow.1.set 2 (.slice ua (Lp ++ [(⟨kk, (t.size : Int)⟩ : Pt)]).length uc)
     exact wp_skip (w' := w.setCell ⟨bn, 2, none⟩ (.slice ua (Lp ++ [(⟨kk, (t.size : Int)⟩ : Pt)]).length uc)) (by unfold execOp; go_simp) ⟨undef, rfl, appTs_at (by decide) (flR_set' hrow.1 HVP.out hbs.2 _), ⟨hG.below.setCell (p := ⟨bn, 2, none⟩) hbs.2 _, by have := hG.size; simpa [World.setCell] using this⟩, by
      show Row _ bn #[.int .i64 2, .string ⟨#[]⟩, exV _ 12 ac, .slice none 0 0] _
      rw [show exV dflE 12 ac = slot ac 42 from rfl, ← hu]
      exact hs⟩
   case behind =>
    intro ac w5 hG hV hS ha
    have h10 : OwnP w1.heap.size w5 (slot ac 42) (Lp ++ [(⟨kk, (t.size : Int)⟩ : Pt)]) ∧ bn < w1.heap.size := hV 10 (by decide) (by decide)
    have h12 : Row w5 bn #[.int .i64 2, .string ⟨#[]⟩, (slot ac 42), .slice none 0 0] 71 := hV 12 (by decide) (by decide)
    have h15 : TxtC w5 tb to Ps ∧ tb < w5.heap.size ∧ vp.ownBlock ≠ some tb := hV 15 (by decide) (by decide)
    have h16 : AnyO w (.slice a0 L.length cap0) L w5 v6 LL := hV 16 (by decide) (by decide)
    generalize slot ac = sl at ha h12 h10
    subst ha
    simp only [patchL, List.contains_cons, List.contains_nil, Nat.reduceBEq, Bool.or_false, Bool.or_true, if_true, Bool.false_eq_true, if_false, Nat.reduceAdd]
    generalize sl 32 = s32
    generalize sl 33 = s33
    generalize sl 34 = s34
    generalize sl 35 = s35
    generalize sl 36 = s36
    generalize sl 37 = s37
    generalize sl 38 = s38
    generalize sl 39 = s39
    generalize sl 40 = s40
    generalize sl 41 = s41
    generalize sl 42 = s42 at h12 h10 ⊢
    generalize sl 43 = s43
    clear hV hS
    have HR9 := Lib.hid h12; have HO9 := Lib.hid h10.1; have HT9 := Lib.hid h15; have HA9 := Lib.hid h16
    have HB9 := Lib.hid hG.below; have HZ9 := Lib.hid hG.size
    clear hG h10 h12 h15 h16
    obtain ⟨_, ua, uc, hue, _, _⟩ := HO9.out.is
    subst hue
    go_wp2
    go_roundw
    case rel => exact ⟨k + 1, _, by omega, by go_num, by rw [HST.out]; exact HA9.out, HR9.out, by rw [HSP.out]; exact HO9.out, HT9.out.1, HB9.out, HZ9.out⟩
    case measure => simp [intOf]; omega
  ·have hke : Ps.take k = Ps := List.take_of_length_le (by omega)
   have hge : decide ((k : Int) < (Ps.length : Int)) = false := by simp; omega
   rw [hke] at hA hO
   obtain ⟨_, va, vc, hve, _, _⟩ := hO.is
   subst hve
   have hml : (Ps.map partP).length = Ps.length := List.length_map ..
   rw [hml] at hR hO
   have x0 := hR.cell 0; have x1 := hR.cell 1; have x2 := hR.cell 2; have x3 := hR.cell 3
   simp only [List.getElem?_toArray, List.getElem?_cons_zero, List.getElem?_cons_succ] at x0 x1 x2 x3
   have hl2 := HLL.out Ps.length
   rw [List.length_map, List.length_take, List.take_length] at hl2
   have CP7 : Hid (Calls Tryz.prog 50 #[u1, .agg #[.int .i64 2, .string ⟨#[]⟩, .slice va Ps.length vc, .slice none 0 0]] wr (RetOK u1 (putsN L (Ps.map pieceN)) (putN (putsN L (Ps.map pieceN)) (fileN c s.data.toList)) (keyN (fileN c s.data.toList)) wr)) := Lib.hid (by
    have := rPut_any u1 _ (fileN c s.data.toList) (.slice va Ps.length vc) (.slice none 0 0) wr hA.is (by omega) (by unfold fileN; rw [← HPS.out]; exact hO.is) (entries_nil _)
    exact this)
   have HE : Hid (putsN L (seqF c s.data.toList) = putN (putsN L (Ps.map pieceN)) (fileN c s.data.toList)) := Lib.hid (by unfold seqF; rw [← HPS.out, putsN_app]; rfl)
   have HB7 := Lib.hid hB; have HA7 := Lib.hid hA
   clear hA hR hO hT hB hll hl2 hke hml
   go_wp2_with fail
   with_reducible refine CP7.out.mono ?_
   rintro e w8 ⟨v8, rfl, hs8, hb8, hv8⟩
   have HA8 := Lib.hid (HA7.out.next hb8 hv8)
   have HS8 := Lib.hid hs8
   have HB8 := Lib.hid (below_step HB7.out hb8)
   clear hs8 hb8 hv8 x0 x1 x2 x3
   go_wp2
   exact bodyPost_ret (v := .tuple #[v8, .string ⟨(keyN (fileN c s.data.toList)).toArray⟩]) (by simp [results, Tryz.results49, go_sem]) rfl ⟨v8, rfl, by rw [HE.out]; exact HS8.out, HB8.out, by rw [HE.out]; exact HA8.out.2.2⟩
theorem last_at {t : List UInt8} (hp : pathB t = true) : 0 < (strsOf (splitS t)).length ∧ ∀ h : (strsOf (splitS t)).length - 1 < (strsOf (splitS t)).length, (strsOf (splitS t))[(strsOf (splitS t)).length - 1].data.toList = lastN t := by
 have h0 : 0 < (splitS t).length := of_decide_eq_true hp
 refine ⟨by rw [strsOf_len]; exact h0, fun h => ?_⟩
 rw [strsOf_at (splitS t) _ h (by rw [strsOf_len]; omega)]
 unfold lastN
 simp only [strsOf_len]
 rw [List.getLastD_eq_getLast?, List.getLast?_eq_getElem?, List.getElem?_eq_getElem (by omega)]
 rfl
def sqT (c : List UInt8 → Nat) (I : List It) (k : Nat) (x : It) : List Nd := if x.d then seqD c I k x.t else seqF c x.b
def preS (c : List UInt8 → Nat) (I : List It) (k : Nat) (d : List UInt8) (i : Nat) : List Nd := (inD (I.take i) d).flatMap (sqT c I k)
def preE (c : List UInt8 → Nat) (I : List It) (k : Nat) (d : List UInt8) (i : Nat) : List En := (inD (I.take i) d).map fun x => entE x (keyN (subN c I k x))
theorem inD_step {I : List It} {d : List UInt8} {i : Nat} (hi : i < I.length) : inD (I.take (i + 1)) d = inD (I.take i) d ++ if dirS I[i].t = d then [I[i]] else [] := by
 unfold inD
 rw [List.take_succ_eq_append_getElem hi, List.filter_append, List.filter_cons, List.filter_nil]
 congr 1
 by_cases h : dirS I[i].t = d
 ·rw [if_pos h, decide_eq_true h]; rfl
 ·rw [if_neg h, decide_eq_false h]; rfl
theorem preS_in {c : List UInt8 → Nat} {I : List It} {k : Nat} {d : List UInt8} {i : Nat} (hi : i < I.length) (h : dirS I[i].t = d) : preS c I k d (i + 1) = preS c I k d i ++ sqT c I k I[i] := by
 unfold preS; rw [inD_step hi, if_pos h, List.flatMap_append]; simp
theorem preS_out {c : List UInt8 → Nat} {I : List It} {k : Nat} {d : List UInt8} {i : Nat} (hi : i < I.length) (h : dirS I[i].t ≠ d) : preS c I k d (i + 1) = preS c I k d i := by
 unfold preS; rw [inD_step hi, if_neg h, List.append_nil]
theorem preE_in {c : List UInt8 → Nat} {I : List It} {k : Nat} {d : List UInt8} {i : Nat} (hi : i < I.length) (h : dirS I[i].t = d) : preE c I k d (i + 1) = preE c I k d i ++ [entE I[i] (keyN (subN c I k I[i]))] := by
 unfold preE; rw [inD_step hi, if_pos h, List.map_append]; rfl
theorem preE_out {c : List UInt8 → Nat} {I : List It} {k : Nat} {d : List UInt8} {i : Nat} (hi : i < I.length) (h : dirS I[i].t ≠ d) : preE c I k d (i + 1) = preE c I k d i := by
 unfold preE; rw [inD_step hi, if_neg h, List.append_nil]
theorem preE_len (c : List UInt8 → Nat) (I : List It) (k : Nat) (d : List UInt8) (i : Nat) : (preE c I k d i).length ≤ i := by
 unfold preE inD; rw [List.length_map]
 exact Nat.le_trans (List.length_filter_le _ _) (by rw [List.length_take]; omega)
theorem pre_all (c : List UInt8 → Nat) (I : List It) (k : Nat) (d : List UInt8) {i : Nat} (h : I.length ≤ i) : seqD c I (k + 1) d = preS c I k d i ++ [dirN c I (k + 1) d] ∧ (dirN c I (k + 1) d) = ⟨3, ⟨#[]⟩, [], preE c I k d i⟩ := by
 unfold preS preE
 rw [List.take_of_length_le h]
 exact ⟨rfl, rfl⟩
theorem pre_less {c : List UInt8 → Nat} {I : List It} {k : Nat} {d : List UInt8} {i : Nat} (hi : i < I.length) (h : dirS I[i].t = d) : (preS c I k d i).length + (sqT c I k I[i]).length ≤ (seqD c I (k + 1) d).length := by
 have e : (seqD c I (k + 1) d) = preS c I k d I.length ++ [dirN c I (k + 1) d] := (pre_all c I k d (Nat.le_refl _)).1
 have h2 : I = I.take (i + 1) ++ I.drop (i + 1) := (List.take_append_drop _ _).symm
 have h3 : preS c I k d I.length = preS c I k d (i + 1) ++ (inD (I.drop (i + 1)) d).flatMap (sqT c I k) := by
  unfold preS
  rw [List.take_length]
  conv => lhs; rw [show inD I d = inD (I.take (i + 1)) d ++ inD (I.drop (i + 1)) d by unfold inD; rw [← List.filter_append, List.take_append_drop]]
  rw [List.flatMap_append]
 rw [e, h3, preS_in hi h]
 simp only [List.length_append]
 omega
theorem pre_le (c : List UInt8 → Nat) (I : List It) (k : Nat) (d : List UInt8) {i : Nat} (hi : i ≤ I.length) : (preS c I k d i).length ≤ (seqD c I (k + 1) d).length := by
 have e : (seqD c I (k + 1) d) = preS c I k d I.length ++ [dirN c I (k + 1) d] := (pre_all c I k d (Nat.le_refl _)).1
 have h3 : preS c I k d I.length = preS c I k d i ++ (inD (I.drop i) d).flatMap (sqT c I k) := by
  unfold preS
  rw [List.take_length]
  conv => lhs; rw [show inD I d = inD (I.take i) d ++ inD (I.drop i) d by unfold inD; rw [← List.filter_append, List.take_append_drop]]
  rw [List.flatMap_append]
 rw [e, h3]
 simp only [List.length_append]
 omega
def DirAt (mn av b mx : Nat) (I : List It) (k : Nat) : Prop := ∀ (dp : Nat), dp + k = 9 → ∀ (v iv : Value) (L : List Ob) (d : ByteArray) (w : World), IsObs w v L → IsItems w iv I → L.length + (seqD (cutN mn b mx) I k d.data.toList).length ≤ 700000 →
 Calls Tryz.prog 24 #[pV mn av mx, iv, v, .string d, .int .i64 dp] w (RetOK v L (putsN L (seqD (cutN mn b mx) I k d.data.toList)) (keyN (dirN (cutN mn b mx) I k d.data.toList)) w)
def DirIn (w : World) (P : Array Value) (v0 : Value) (L0 : List Ob) (bn Bs : Nat) (wr : World) (lv : Value) (LL : List Ob) (vp : Value) (es : List En) : Prop :=
 AnyO w v0 L0 wr lv LL ∧ Row wr bn #[.int .i64 3, .string ⟨#[]⟩, .slice none 0 0, vp] 71 ∧ OwnE Bs wr vp es ∧ Row wr w.heap.size P 23 ∧ Below w.heap.size w wr ∧ Bs ≤ wr.heap.size
theorem DirIn.stays {w : World} {P : Array Value} {v0 : Value} {L0 : List Ob} {bn Bs : Nat} {wr : World} {lv : Value} {LL : List Ob} {vp : Value} {es : List En} (h : DirIn w P v0 L0 bn Bs wr lv LL vp es) {w' : World} (hb : Below wr.heap.size wr w') : DirIn w P v0 L0 bn Bs w' lv LL vp es :=
 ⟨h.1.stays hb, h.2.1.step hb, h.2.2.1.stays hb, h.2.2.2.1.step hb, below_step h.2.2.2.2.1 hb, Nat.le_trans h.2.2.2.2.2 hb.size⟩
theorem DirIn.turn {w : World} {P : Array Value} {v0 : Value} {L0 : List Ob} {bn Bs : Nat} {wr : World} {lv : Value} {LL : List Ob} {vp : Value} {es : List En} (h : DirIn w P v0 L0 bn Bs wr lv LL vp es) {eb : Nat} {xs : Array Value} (hr : Row wr eb xs 89) (hne : ∀ g, vp.ownBlock = some g → g < eb) (hb : bn < eb) (hw : w.heap.size < eb) (i : Nat) (u : Value) :
    DirIn w P v0 L0 bn Bs (wr.setCell ⟨eb, i, none⟩ u) lv LL vp es :=
  ⟨h.1.turn (grownBy_set wr eb i u) fun g e => by cases e; exact ⟨Nat.le_of_lt hw, _, _, hr, by decide⟩,
   h.2.1.other ⟨eb, i, none⟩ u (show bn ≠ eb by omega), h.2.2.1.setNe hne u, h.2.2.2.1.other ⟨eb, i, none⟩ u (show w.heap.size ≠ eb by omega),
   h.2.2.2.2.1.setCell (p := ⟨eb, i, none⟩) (Nat.le_of_lt hw) u, by have := h.2.2.2.2.2; simpa [World.setCell] using this⟩
theorem DirIn.next {w : World} {P : Array Value} {v0 : Value} {L0 : List Ob} {bn Bs : Nat} {wr : World} {lv : Value} {LL : List Ob} {vp : Value} {es : List En} (h : DirIn w P v0 L0 bn Bs wr lv LL vp es) {w' : World} (hb : Below wr.heap.size wr w') {lv' : Value} {LL' : List Ob} (hv : lv' = lv ∧ LL' = LL ∨ OwnO wr.heap.size w' lv' LL') : DirIn w P v0 L0 bn Bs w' lv' LL' vp es :=
 ⟨h.1.next hb hv, (h.stays hb).2⟩
theorem DirIn.own {w : World} {P : Array Value} {v0 : Value} {L0 : List Ob} {bn Bs : Nat} {wr : World} {lv : Value} {LL : List Ob} {vp : Value} {es : List En} (h : DirIn w P v0 L0 bn Bs wr lv LL vp es) : OwnE Bs wr vp es := h.2.2.1
theorem DirIn.node {w : World} {P : Array Value} {v0 : Value} {L0 : List Ob} {bn Bs : Nat} {wr : World} {lv : Value} {LL : List Ob} {vp : Value} {es : List En} (h : DirIn w P v0 L0 bn Bs wr lv LL vp es) : Row wr bn #[.int .i64 3, .string ⟨#[]⟩, .slice none 0 0, vp] 71 := h.2.1
theorem DirIn.params {w : World} {P : Array Value} {v0 : Value} {L0 : List Ob} {bn Bs : Nat} {wr : World} {lv : Value} {LL : List Ob} {vp : Value} {es : List En} (h : DirIn w P v0 L0 bn Bs wr lv LL vp es) : Row wr w.heap.size P 23 := h.2.2.2.1
theorem DirIn.below {w : World} {P : Array Value} {v0 : Value} {L0 : List Ob} {bn Bs : Nat} {wr : World} {lv : Value} {LL : List Ob} {vp : Value} {es : List En} (h : DirIn w P v0 L0 bn Bs wr lv LL vp es) : Below w.heap.size w wr := h.2.2.2.2.1
theorem DirIn.size {w : World} {P : Array Value} {v0 : Value} {L0 : List Ob} {bn Bs : Nat} {wr : World} {lv : Value} {LL : List Ob} {vp : Value} {es : List En} (h : DirIn w P v0 L0 bn Bs wr lv LL vp es) : Bs ≤ wr.heap.size := h.2.2.2.2.2
theorem DirIn.added {w : World} {P : Array Value} {v0 : Value} {L0 : List Ob} {bn Bs : Nat} {wr w' : World} {lv : Value} {LL : List Ob} {vp v' : Value} {es es' : List En} (h : DirIn w P v0 L0 bn Bs wr lv LL vp es) (hg : wr.grownBy w' vp.ownBlock) (ho : OwnE Bs w' v' es') (hbn : bn < Bs) (hw : w.heap.size < bn) :
  DirIn w P v0 L0 bn Bs (w'.setCell ⟨bn, 3, none⟩ v') lv LL v' es' := by
 have hlt := fun g (e : vp.ownBlock = some g) => (World.ownsRow.lt h.own g e).1
 have hn := row_grownE h.node h.own hg hbn
 refine ⟨(h.1.turn hg fun g e => ⟨by have := hlt g e; omega, by obtain ⟨xs, hx⟩ := h.own.row e; exact ⟨xs, _, hx, by decide⟩⟩).turn (grownBy_set w' bn 3 v') fun g e => (by cases e; exact ⟨Nat.le_of_lt hw, _, _, hn, by decide⟩), ?_, ho.setBelow (a := ⟨bn, 3, none⟩) hbn v', ?_, ?_, ?_⟩
 ·simpa using hn.set 3 v'
 ·exact (row_grownE h.params h.own hg (by omega)).other ⟨bn, 3, none⟩ v' (show w.heap.size ≠ bn by omega)
 ·exact (h.below.grown hg h.below.size (fun g e => by have := hlt g e; omega)).setCell (p := ⟨bn, 3, none⟩) (Nat.le_of_lt hw) v'
 ·have := h.size; have := hg.size; simp [World.setCell]; omega
set_option maxRecDepth 100000 in
set_option maxHeartbeats 16000000 in
theorem dir_step (mn av b mx : Nat) (hF : FitAt mn av mx b) (I : List It) (hp : ∀ x ∈ I, pathB x.t = true) (hs : ∀ x ∈ I, x.p.size ≤ 100000 ∧ x.c.size ≤ 100000) (hI : I.length ≤ 1000) (k : Nat) (ih : DirAt mn av b mx I k) : DirAt mn av b mx I (k + 1) := by
 intro dp hdp v iv L d w h hi hL
 have CD := Lib.hid refDir_any
 have CS := Lib.hid refSplit_any
 have CF := Lib.hid (rFile_any mn av b mx hF)
 have IH := Lib.hid ih
 have HP := Lib.hid hp; have HS := Lib.hid hs
 obtain ⟨c, hc⟩ : ∃ c, c = cutN mn b mx := ⟨_, rfl⟩
 have HC := Lib.hid hc
 rw [← hc] at CF hL ⊢
 obtain ⟨t, ht⟩ : ∃ t, t = d.data.toList := ⟨_, rfl⟩
 rw [← ht] at hL ⊢
 have HT := Lib.hid ht
 obtain ⟨V, hV⟩ : ∃ V, V = (w.alloc (.cells #[.int .i64 mn, .int .i64 av, .int .i64 mx] 23)).alloc (.cells #[.int .i64 3, .string ⟨#[]⟩, .slice none 0 0, .slice none 0 0] 71) := ⟨_, rfl⟩
 have hbV : Below w.heap.size w V := by rw [hV]; exact ((Below.refl _ _).alloc (Nat.le_refl _) _).alloc (by simp) _
 have hR0 : Row V w.heap.size #[.int .i64 mn, .int .i64 av, .int .i64 mx] 23 := by rw [hV]; exact (Row.made _ _ _).alloc _
 have hRN : Row V (w.heap.size + 1) #[.int .i64 3, .string ⟨#[]⟩, .slice none 0 0, .slice none 0 0] 71 := by
  have := Row.made (w.alloc (.cells #[.int .i64 mn, .int .i64 av, .int .i64 mx] 23)) #[.int .i64 3, .string ⟨#[]⟩, .slice none 0 0, .slice none 0 0] 71
  rw [hV]; simpa using this
 have hz1 := hRN.lt
 obtain ⟨bn, hbn⟩ : ∃ bn, bn = w.heap.size + 1 := ⟨_, rfl⟩
 have HBN := Lib.hid hbn
 have HD0 : Hid (DirIn w #[.int .i64 mn, .int .i64 av, .int .i64 mx] v L bn V.heap.size V v (putsN L (preS c I k t 0)) (.slice none 0 0) (preE c I k t 0)) := Lib.hid (by
  rw [hbn]
  have e1 : preS c I k t 0 = [] := rfl
  have e2 : preE c I k t 0 = [] := rfl
  rw [e1, e2]
  exact ⟨(AnyO.of h).stays hbV, hRN, entries_own_nil _ _, hR0, hbV, Nat.le_refl _⟩)
 have HV := Lib.hid hV; have HI0 := Lib.hid hi
 have HLN := Lib.hid hL
 obtain ⟨_, a0, cap0, rfl, _, _⟩ := h
 obtain ⟨_, a1, cap1, rfl, _, _⟩ := hi
 have q8 : decide ((dp : Int) ≤ 8) = true := decide_eq_true (by omega)
 clear hV hbV hRN hR0 hc ht hF hp hs ih hL
 go_enter Tryz.func24, Tryz.ntmps24
 go_wp2_with fail
 rw [← HV.out, ← HBN.out]
 clear hbn
 go_loopw [2, 13] (fun lv i wr => ∃ (j : Nat) (vp : Value), j ≤ I.length ∧ i = .int .i64 j ∧ DirIn w #[.int .i64 mn, .int .i64 av, .int .i64 mx] (.slice a0 L.length cap0) L bn V.heap.size wr lv (putsN L (preS c I k t j)) vp (preE c I k t j)) (fun _ i _ => I.length - (intOf i).toNat)
 case atStart => exact ⟨0, _, Nat.zero_le _, rfl, HD0.out⟩
 case round =>
  obtain ⟨j, vp, hj, rfl, hD⟩ := hrel
  have HD := Lib.hid hD
  have hB := hD.2.2.2.2.1
  have hll := (putsN_len L (preS c I k t j)).2
  have hpl := pre_le c I k t hj
  clear hD
  by_cases hlt : j < I.length
  ·obtain ⟨_, _, _, e, _, hc⟩ := HI0.out.stays hB
   cases e
   obtain ⟨b1, off, rfl, hbl, g⟩ := hc (by omega)
   obtain ⟨c0, c1, c2, c3⟩ := g j hlt
   clear g hc
   have hbk : decide ((j : Int) < (I.length : Int)) = true := by simpa using (show (j : Int) < I.length by omega)
   have hin := preS_in (c := c) (k := k) (d := t) hlt
   have hout := preS_out (c := c) (k := k) (d := t) hlt
   have ein := preE_in (c := c) (k := k) (d := t) hlt
   have eout := preE_out (c := c) (k := k) (d := t) hlt
   have hle := pre_less (c := c) (k := k) (d := t) hlt
   have hxp := HP.out _ (List.getElem_mem hlt)
   have hxs := HS.out _ (List.getElem_mem hlt)
   obtain ⟨x, hx⟩ : ∃ x, I[j]'hlt = x := ⟨_, rfl⟩
   rw [hx] at c0 c1 c2 c3 hin hout ein eout hle hxp hxs
   clear hx
   have C := Lib.hid (CD.out x.p hxs.1)
   rw [show x.p.data.toList = x.t from rfl] at C
   have hba := (Below.refl wr.heap.size wr).alloc (Nat.le_refl _) (.cells #[.string x.p, .bool x.d, .bool x.e, .string x.c] 52)
   have HX := Lib.hid (inBox_new wr x 52)
   have HD2 := Lib.hid (HD.out.stays hba)
   have HI2 := Lib.hid (HI0.out.stays (below_step hB hba))
   clear hba HD
   by_cases hd : dirS x.t = t
   ·have f1 : ((dirS x.t) == d.toList) = true := by rw [beq_iff_eq, Lib.toList_data, ← HT.out]; exact hd
    have HIN := Lib.hid (hin hd); have EIN := Lib.hid (ein hd); have HLE := Lib.hid (hle hd)
    have S := Lib.hid (CS.out x.p hxs.1)
    rw [show x.p.data.toList = x.t from rfl] at S
    have HL := Lib.hid (last_at hxp)
    have HXP := Lib.hid hxp; have HXS := Lib.hid hxs; have HPL := Lib.hid hpl; have HLL := Lib.hid hll
    clear hin hout ein eout hle hd hxp hxs hpl hll
    go_wp2_with fail
    refine (C.out _).mono ?_
    rintro e w1 ⟨rfl, hb1⟩
    have HX1 := Lib.hid (HX.out.stays hb1)
    have HD3 := Lib.hid (HD2.out.stays hb1)
    have HI3 := Lib.hid (HI2.out.stays hb1)
    obtain ⟨e0, e1, e2, e3⟩ := HX1.out.cells
    clear c0 c1 c2 c3 hb1 HX HD2 HI2 hB
    go_wp2_with fail
    refine (S.out _).mono ?_
    rintro e w2 ⟨v2, rfl, hv2, hb2⟩
    have HX2 := Lib.hid (HX1.out.stays hb2)
    have HD4 := Lib.hid (HD3.out.stays hb2)
    have HI4 := Lib.hid (HI3.out.stays hb2)
    clear e0 e1 e2 e3 hb2 HX1 HD3 HI3
    obtain ⟨e0, e1, e2, e3⟩ := HX2.out.cells
    obtain ⟨M, hM⟩ : ∃ M, M = strsOf (splitS x.t) := ⟨_, rfl⟩
    rw [← hM] at HL hv2
    clear hM
    obtain ⟨hm2, a2, cap2, rfl, _, hc2⟩ := hv2
    have hmm2 : M.length ≤ 9223372036854775807 := by unfold maxLen at hm2; omega
    have hpos := HL.out.1
    obtain ⟨b2, o2, rfl, _, g2⟩ := hc2 hpos
    have q := g2 (M.length - 1) (by omega)
    have HZ := Lib.hid (HL.out.2 (by omega))
    obtain ⟨z, hz⟩ : ∃ z, z = M[M.length - 1] := ⟨_, rfl⟩
    rw [← hz] at q HZ
    clear hz g2 hc2
    have hw1 : IntKind.i64.wrap ((M.length : Int) - 1) = ((M.length - 1 : Nat) : Int) := (IntWalk.i64_in _ (by omega)).trans (by omega)
    have hlt2 : M.length - 1 < M.length := by omega
    have hlx := HX2.out.2
    have htn : ((M.length - 1 : Nat) : Int).toNat = M.length - 1 := by omega
    go_wp2_with fail
    go_region
    obtain ⟨W5, hW5⟩ : ∃ W5, W5 = (w2.alloc (.cells #[.string z, .int .i64 2, .bool x.e, .string ⟨#[]⟩] 89)).drew := ⟨_, rfl⟩
    obtain ⟨eb, heb⟩ : ∃ eb, eb = w2.heap.size := ⟨_, rfl⟩
    have hbe : Below w2.heap.size w2 W5 := by rw [hW5]; exact ((Below.refl _ _).alloc (Nat.le_refl _) _).drew
    have hRE : Row W5 eb #[.string z, .int .i64 2, .bool x.e, .string ⟨#[]⟩] 89 := by rw [hW5, heb]; exact (Row.made w2 _ _).drew
    have HWE := Lib.hid hW5
    rw [← hW5, ← heb]
    have HX5 := Lib.hid (HX2.out.stays hbe)
    have HD5 := Lib.hid (HD4.out.stays hbe)
    have HI5 := Lib.hid (HI4.out.stays hbe)
    have HRE := Lib.hid hRE
    have hge : ∀ g, vp.ownBlock = some g → g < eb := fun g e => by rw [heb]; exact (World.ownsRow.lt HD4.out.own g e).2
    have HGE := Lib.hid hge
    have hsz4 := HD4.out.size
    have hbeb : bn < eb := by have := HBN.out; omega
    have hz9 : bn < V.heap.size := by have := HBN.out; omega
    have hweb : w.heap.size < eb := by have := HBN.out; omega
    have hxe : wr.heap.size ≠ eb := by omega
    have hz5 : eb < W5.heap.size := hRE.lt
    clear hW5 hRE hge e0 e1 e2 e3 q hbe heb hlt2 htn hw1 hlx hpos hmm2 hm2
    obtain ⟨e0, e1, e2, e3⟩ := HX5.out.cells
    have HEN : Hid (z = ⟨(lastN x.t).toArray⟩) := Lib.hid (str_list HZ.out)
    rcases hxd : x.d with _ | _
    ·rw [hxd] at e1
     have HD6 := HD5
     have HRE6 : Hid (Row W5 eb #[.string z, .int .i64 2, .bool x.e, .string ⟨#[]⟩] 89) := HRE
     have hq : sqT c I k x = seqF c x.b := by unfold sqT; rw [if_neg (by rw [hxd]; decide)]
     have hsub : subN c I k x = fileN c x.b := by unfold subN; rw [if_neg (by rw [hxd]; decide)]
     rw [hq] at HIN HLE; rw [hsub] at EIN
     have CK := Lib.hid (CF.out u2 (putsN L (preS c I k t j)) x.c W5 HD6.out.1.is HXS.out.2 (by
      have := HLN.out; have := HLL.out; have := HPL.out; have := HXS.out.2; omega))
     rw [show x.c.data.toList = x.b from rfl, ← putsN_app, ← HIN.out] at CK
     obtain ⟨K, hK⟩ : ∃ K : ByteArray, K = ⟨(keyN (fileN c x.b)).toArray⟩ := ⟨_, rfl⟩
     have HK := Lib.hid hK
     have p0 := HD6.out.params.cell 0; have p1 := HD6.out.params.cell 1; have p2 := HD6.out.params.cell 2
     simp only [List.getElem?_toArray, List.getElem?_cons_zero, List.getElem?_cons_succ] at p0 p1 p2
     have hEN : entE x (keyN (fileN c x.b)) = ⟨z, 2, x.e, K⟩ := by unfold entE; rw [HEN.out, hK, hxd]; rfl
     rw [hEN] at EIN
     obtain ⟨LL2, hLL2⟩ : ∃ LL2, LL2 = putsN L (preS c I k t (j + 1)) := ⟨_, rfl⟩
     rw [← hLL2] at CK
     have HL2 := Lib.hid hLL2
     clear hK hEN hq hsub hxd hLL2
     go_wp2_with fail
     refine CK.out.mono ?_
     rintro e w7 ⟨v7, rfl, hs7, hb7, hv7⟩
     rw [← HK.out]
     have hR7 := HRE6.out.step hb7
     have HD7 := Lib.hid (HD6.out.next hb7 hv7)
     have hge7 : eb < w7.heap.size := hR7.lt
     clear hs7 hv7 hb7 p0 p1 p2 e0 e1 e2 e3
     have r0 := hR7.cell 0; have r1 := hR7.cell 1; have r2 := hR7.cell 2; have r3 := hR7.cell 3
     have n3 := hR7.free 3
     simp only [List.getElem?_toArray, List.getElem?_cons_zero, List.getElem?_cons_succ] at r0 r1 r2 r3
     have hR8 : Row (w7.setCell ⟨eb, 3, none⟩ (.string K)) eb #[.string z, .int .i64 2, .bool x.e, .string K] 89 := by simpa using hR7.set 3 (.string K)
     have HD8 := Lib.hid (HD7.out.turn hR7 HGE.out hbeb hweb 3 (.string K))
     have s0 := hR8.cell 0; have s1 := hR8.cell 1; have s2 := hR8.cell 2; have s3 := hR8.cell 3
     have x0 := HD8.out.node.cell 0; have x1 := HD8.out.node.cell 1; have x2 := HD8.out.node.cell 2; have x3 := HD8.out.node.cell 3
     simp only [List.getElem?_toArray, List.getElem?_cons_zero, List.getElem?_cons_succ] at s0 s1 s2 s3 x0 x1 x2 x3
     have hw8 := HD8.out.size
     have HZ8 : Hid (w7.heap.size = (w7.setCell ⟨eb, 3, none⟩ (.string K)).heap.size) := Lib.hid (by simp [World.setCell])
     have hel : (preE c I k t j).length ≤ 1000000 := by have := preE_len c I k t j; omega
     clear hR7 hR8
     go_wp2_with (at_builtin; refine wpList_append_entries2 (y := ⟨z, 2, x.e, K⟩) rfl _ _ rfl HD8.out.own hw8 HZ8.out rfl rfl hel ?_)
     intro v' w9 hown9 hg9
     have hn9 := row_grownE HD8.out.node HD8.out.own hg9 hz9
     have HD9 := Lib.hid (HD8.out.added hg9 hown9 hz9 (by have := HBN.out; omega))
     have z0 := hn9.cell 0; have z1 := hn9.cell 1; have z2 := hn9.cell 2; have z3 := hn9.cell 3
     have m3 := hn9.free 3
     simp only [List.getElem?_toArray, List.getElem?_cons_zero, List.getElem?_cons_succ] at z0 z1 z2 z3
     obtain ⟨_, va2, vc2, hve, _, _⟩ := hown9.is
     subst hve
     rw [← EIN.out] at HD9 ⊢
     obtain ⟨En2, hEn2⟩ : ∃ En2, En2 = preE c I k t (j + 1) := ⟨_, rfl⟩
     rw [← hEn2] at HD9 ⊢
     have HE2 := Lib.hid hEn2
     clear hg9 hown9 hn9 s0 s1 s2 s3 x0 x1 x2 x3 hEn2
     go_wp2
     go_roundw
     case rel => exact ⟨j + 1, _, by omega, by go_num, by rw [← HL2.out, ← HE2.out]; exact HD9.out⟩
     case measure => simp [intOf]; omega
    ·rw [hxd] at e1
     have HD6 := Lib.hid (HD5.out.turn HRE.out HGE.out hbeb hweb 1 (.int .i64 3))
     have hR6 := HRE.out.set 1 (.int .i64 3)
     have HRE6 : Hid (Row (W5.setCell ⟨eb, 1, none⟩ (.int .i64 3)) eb #[.string z, .int .i64 3, .bool x.e, .string ⟨#[]⟩] 89) := Lib.hid (by simpa using hR6)
     have HI6 : Hid (IsItems (W5.setCell ⟨eb, 1, none⟩ (.int .i64 3)) _ I) := Lib.hid (HI0.out.stays HD6.out.below)
     have r0 := HRE.out.cell 0; have r1 := HRE.out.cell 1; have r2 := HRE.out.cell 2; have r3 := HRE.out.cell 3
     have n1 := HRE.out.free 1
     simp only [List.getElem?_toArray, List.getElem?_cons_zero, List.getElem?_cons_succ] at r0 r1 r2 r3
     clear hR6
     have i0 : (W5.setCell ⟨eb, 1, none⟩ (.int .i64 3)).cell? ⟨wr.heap.size, 0, none⟩ = some (.string x.p) := (World.cell?_setCell_other _ _ _ _ (fun e => hxe (by cases e))).trans e0
     have hq : sqT c I k x = seqD c I k x.t := by unfold sqT; rw [if_pos hxd]
     have hsub : subN c I k x = dirN c I k x.t := by unfold subN; rw [if_pos hxd]
     rw [hq] at HIN HLE; rw [hsub] at EIN
     have CK := Lib.hid (IH.out (dp + 1) (by omega) u2 (.slice (some ⟨b1, off, none⟩) I.length cap1) (putsN L (preS c I k t j)) x.p (W5.setCell ⟨eb, 1, none⟩ (.int .i64 3)) HD6.out.1.is HI6.out (by
      rw [← HC.out, show x.p.data.toList = x.t from rfl]
      have := HLN.out; have := HLE.out; have := HLL.out; omega))
     rw [← HC.out, show x.p.data.toList = x.t from rfl, ← putsN_app, ← HIN.out] at CK
     obtain ⟨K, hK⟩ : ∃ K : ByteArray, K = ⟨(keyN (dirN c I k x.t)).toArray⟩ := ⟨_, rfl⟩
     have HK := Lib.hid hK
     have p0 := HD6.out.params.cell 0; have p1 := HD6.out.params.cell 1; have p2 := HD6.out.params.cell 2
     simp only [List.getElem?_toArray, List.getElem?_cons_zero, List.getElem?_cons_succ] at p0 p1 p2
     have hEN : entE x (keyN (dirN c I k x.t)) = ⟨z, 3, x.e, K⟩ := by unfold entE; rw [HEN.out, hK, hxd]; rfl
     rw [hEN] at EIN
     obtain ⟨LL2, hLL2⟩ : ∃ LL2, LL2 = putsN L (preS c I k t (j + 1)) := ⟨_, rfl⟩
     rw [← hLL2] at CK
     have HL2 := Lib.hid hLL2
     clear hK hEN hq hsub hxd hLL2
     go_wp2_with fail
     refine CK.out.mono ?_
     rintro e w7 ⟨v7, rfl, hs7, hb7, hv7⟩
     rw [← HK.out]
     have hR7 := HRE6.out.step hb7
     have HD7 := Lib.hid (HD6.out.next hb7 hv7)
     have hge7 : eb < w7.heap.size := hR7.lt
     clear hs7 hv7 hb7 p0 p1 p2 e0 e1 e2 e3 r0 r1 r2 r3 n1 i0
     have r0 := hR7.cell 0; have r1 := hR7.cell 1; have r2 := hR7.cell 2; have r3 := hR7.cell 3
     have n3 := hR7.free 3
     simp only [List.getElem?_toArray, List.getElem?_cons_zero, List.getElem?_cons_succ] at r0 r1 r2 r3
     have hR8 : Row (w7.setCell ⟨eb, 3, none⟩ (.string K)) eb #[.string z, .int .i64 3, .bool x.e, .string K] 89 := by simpa using hR7.set 3 (.string K)
     have HD8 := Lib.hid (HD7.out.turn hR7 HGE.out hbeb hweb 3 (.string K))
     have s0 := hR8.cell 0; have s1 := hR8.cell 1; have s2 := hR8.cell 2; have s3 := hR8.cell 3
     have x0 := HD8.out.node.cell 0; have x1 := HD8.out.node.cell 1; have x2 := HD8.out.node.cell 2; have x3 := HD8.out.node.cell 3
     simp only [List.getElem?_toArray, List.getElem?_cons_zero, List.getElem?_cons_succ] at s0 s1 s2 s3 x0 x1 x2 x3
     have hw8 := HD8.out.size
     have HZ8 : Hid (w7.heap.size = (w7.setCell ⟨eb, 3, none⟩ (.string K)).heap.size) := Lib.hid (by simp [World.setCell])
     have hel : (preE c I k t j).length ≤ 1000000 := by have := preE_len c I k t j; omega
     clear hR7 hR8
     go_wp2_with (at_builtin; refine wpList_append_entries2 (y := ⟨z, 3, x.e, K⟩) rfl _ _ rfl HD8.out.own hw8 HZ8.out rfl rfl hel ?_)
     intro v' w9 hown9 hg9
     have hn9 := row_grownE HD8.out.node HD8.out.own hg9 hz9
     have HD9 := Lib.hid (HD8.out.added hg9 hown9 hz9 (by have := HBN.out; omega))
     have z0 := hn9.cell 0; have z1 := hn9.cell 1; have z2 := hn9.cell 2; have z3 := hn9.cell 3
     have m3 := hn9.free 3
     simp only [List.getElem?_toArray, List.getElem?_cons_zero, List.getElem?_cons_succ] at z0 z1 z2 z3
     obtain ⟨_, va2, vc2, hve, _, _⟩ := hown9.is
     subst hve
     rw [← EIN.out] at HD9 ⊢
     obtain ⟨En2, hEn2⟩ : ∃ En2, En2 = preE c I k t (j + 1) := ⟨_, rfl⟩
     rw [← hEn2] at HD9 ⊢
     have HE2 := Lib.hid hEn2
     clear hg9 hown9 hn9 s0 s1 s2 s3 x0 x1 x2 x3 hEn2
     go_wp2
     go_roundw
     case rel => exact ⟨j + 1, _, by omega, by go_num, by rw [← HL2.out, ← HE2.out]; exact HD9.out⟩
     case measure => simp [intOf]; omega
   ·have f1 : ((dirS x.t) == d.toList) = false := by rw [beq_eq_false_iff_ne, Lib.toList_data, ← HT.out]; exact hd
    have HIN := Lib.hid (hout hd); have EIN := Lib.hid (eout hd)
    clear hin hout ein eout hle hd hxp hxs hpl hll
    go_wp2_with fail
    refine (C.out _).mono ?_
    rintro e w1 ⟨rfl, hb1⟩
    have HD3 := Lib.hid (HD2.out.stays hb1)
    clear c0 c1 c2 c3 hb1 HX HD2 HI2 hB
    go_wp2_with fail
    go_roundw
    case rel => exact ⟨j + 1, vp, by omega, by go_num, by rw [HIN.out, EIN.out]; exact HD3.out⟩
    case measure => simp [intOf]; omega
  ·have hge : decide ((j : Int) < (I.length : Int)) = false := by simp; omega
   obtain ⟨PA1, PA2⟩ := pre_all c I k t (i := j) (by omega)
   have HPA := Lib.hid PA1; have HPB := Lib.hid PA2
   obtain ⟨_, va, vc, hve, _, _⟩ := HD.out.own.is
   have hle := preE_len c I k t j
   obtain ⟨ez, hez⟩ : ∃ ez, ez = (preE c I k t j).length := ⟨_, rfl⟩
   rw [← hez] at hve
   subst hve
   have x0 := HD.out.node.cell 0; have x1 := HD.out.node.cell 1; have x2 := HD.out.node.cell 2; have x3 := HD.out.node.cell 3
   simp only [List.getElem?_toArray, List.getElem?_cons_zero, List.getElem?_cons_succ] at x0 x1 x2 x3
   have CP7 : Hid (Calls Tryz.prog 50 #[u2, .agg #[.int .i64 3, .string ⟨#[]⟩, .slice none 0 0, .slice va ez vc]] wr (RetOK u2 (putsN L (preS c I k t j)) (putN (putsN L (preS c I k t j)) (dirN c I (k + 1) t)) (keyN (dirN c I (k + 1) t)) wr)) := Lib.hid (by
    have := rPut_any u2 _ (dirN c I (k + 1) t) (.slice none 0 0) (.slice va ez vc) wr HD.out.1.is (by have := HLN.out; omega) (parts_nil _) (by rw [HPB.out]; exact HD.out.own.is)
    exact this)
   have HE : Hid (putsN L (seqD c I (k + 1) t) = putN (putsN L (preS c I k t j)) (dirN c I (k + 1) t)) := Lib.hid (by rw [HPA.out, putsN_app]; rfl)
   clear PA1 PA2 hle hez hll hpl hB
   go_wp2_with fail
   with_reducible refine CP7.out.mono ?_
   rintro e w8 ⟨v8, rfl, hs8, hb8, hv8⟩
   have HA8 := Lib.hid (HD.out.1.next hb8 hv8)
   have HS8 := Lib.hid hs8
   have HB8 := Lib.hid (below_step HD.out.below hb8)
   clear hs8 hb8 hv8 x0 x1 x2 x3
   go_wp2
   exact bodyPost_ret (v := .tuple #[v8, .string ⟨(keyN (dirN c I (k + 1) t)).toArray⟩]) (by simp [results, Tryz.results24, go_sem]) rfl ⟨v8, rfl, by rw [HE.out]; exact HS8.out, HB8.out, by rw [HE.out]; exact HA8.out.2.2⟩
set_option maxRecDepth 100000 in
set_option maxHeartbeats 8000000 in
theorem dir_zero (mn av b mx : Nat) (I : List It) : DirAt mn av b mx I 0 := by
 intro dp hdp v iv L d w h hi hL
 obtain ⟨c, hc⟩ : ∃ c, c = cutN mn b mx := ⟨_, rfl⟩
 rw [← hc] at hL ⊢
 obtain ⟨t, ht⟩ : ∃ t, t = d.data.toList := ⟨_, rfl⟩
 rw [← ht] at hL ⊢
 obtain ⟨V, hV⟩ : ∃ V, V = (w.alloc (.cells #[.int .i64 mn, .int .i64 av, .int .i64 mx] 23)).alloc (.cells #[.int .i64 3, .string ⟨#[]⟩, .slice none 0 0, .slice none 0 0] 71) := ⟨_, rfl⟩
 have hbV : Below w.heap.size w V := by rw [hV]; exact ((Below.refl _ _).alloc (Nat.le_refl _) _).alloc (by simp) _
 have hRN : Row V (w.heap.size + 1) #[.int .i64 3, .string ⟨#[]⟩, .slice none 0 0, .slice none 0 0] 71 := by
  have := Row.made (w.alloc (.cells #[.int .i64 mn, .int .i64 av, .int .i64 mx] 23)) #[.int .i64 3, .string ⟨#[]⟩, .slice none 0 0, .slice none 0 0] 71
  rw [hV]; simpa using this
 have x0 := hRN.cell 0; have x1 := hRN.cell 1; have x2 := hRN.cell 2; have x3 := hRN.cell 3
 simp only [List.getElem?_toArray, List.getElem?_cons_zero, List.getElem?_cons_succ] at x0 x1 x2 x3
 have q8 : decide ((dp : Int) ≤ 8) = false := by simp; omega
 have HV := Lib.hid hV; have HB0 := Lib.hid hbV
 have CP : Hid (∀ W, Below V.heap.size V W → Calls Tryz.prog 50 #[v, .agg #[.int .i64 3, .string ⟨#[]⟩, .slice none 0 0, .slice none 0 0]] W (RetOK v L (putN L ⟨3, ⟨#[]⟩, [], []⟩) (keyN ⟨3, ⟨#[]⟩, [], []⟩) W)) := Lib.hid (fun W hb =>
  rPut_any v L ⟨3, ⟨#[]⟩, [], []⟩ (.slice none 0 0) (.slice none 0 0) W (h.stays (below_step hbV hb)) (by omega) (parts_nil _) (entries_nil _))
 obtain ⟨_, a0, cap0, rfl, _, _⟩ := h
 obtain ⟨hm1, a1, cap1, rfl, _, _⟩ := hi
 have hmm : I.length ≤ 9223372036854775807 := by unfold maxLen at hm1; omega
 have HE1 : Hid (putsN L (seqD c I 0 t) = putN L ⟨3, ⟨#[]⟩, [], []⟩) := Lib.hid rfl
 have HE2 : Hid (keyN (dirN c I 0 t) = keyN ⟨3, ⟨#[]⟩, [], []⟩) := Lib.hid rfl
 rw [HE1.out, HE2.out]
 clear hV hbV hRN hc ht hm1 hL HE1 HE2
 rcases h0 : decide ((0 : Int) < (I.length : Int)) with _ | _
 ·have h1 : ¬ 0 < I.length := by simpa using h0
  go_enter Tryz.func24, Tryz.ntmps24
  go_wp2_with fail
  rw [← HV.out]
  refine wp_loop_rounds 1 ?_
  rw [rounds_succ]
  go_wp2_with fail
  with_reducible refine (CP.out _ (Below.refl _ _)).mono ?_
  rintro e w8 ⟨v8, rfl, hs8, hb8, hv8⟩
  have HS8 := Lib.hid hs8; have HV8 := Lib.hid (hv8.imp id fun h => h.low HB0.out.size)
  have HB8 := Lib.hid (below_step HB0.out hb8)
  clear hs8 hb8 hv8 x0 x1 x2 x3
  go_wp2
  exact bodyPost_ret (v := .tuple #[v8, .string ⟨(keyN ⟨3, ⟨#[]⟩, [], []⟩).toArray⟩]) (by simp [results, Tryz.results24, go_sem]) rfl ⟨v8, rfl, HS8.out, HB8.out, HV8.out⟩
 ·have h1 : 0 < I.length := by simpa using h0
  go_enter Tryz.func24, Tryz.ntmps24
  go_wp2_with fail
  rw [← HV.out]
  refine wp_loop_rounds 1 ?_
  rw [rounds_succ]
  go_wp2_with fail
  with_reducible refine (CP.out _ (Below.refl _ _)).mono ?_
  rintro e w8 ⟨v8, rfl, hs8, hb8, hv8⟩
  have HS8 := Lib.hid hs8; have HV8 := Lib.hid (hv8.imp id fun h => h.low HB0.out.size)
  have HB8 := Lib.hid (below_step HB0.out hb8)
  clear hs8 hb8 hv8 x0 x1 x2 x3
  go_wp2
  exact bodyPost_ret (v := .tuple #[v8, .string ⟨(keyN ⟨3, ⟨#[]⟩, [], []⟩).toArray⟩]) (by simp [results, Tryz.results24, go_sem]) rfl ⟨v8, rfl, HS8.out, HB8.out, HV8.out⟩
theorem rDir_any (mn av b mx : Nat) (hF : FitAt mn av mx b) (I : List It) (hp : ∀ x ∈ I, pathB x.t = true) (hs : ∀ x ∈ I, x.p.size ≤ 100000 ∧ x.c.size ≤ 100000) (hI : I.length ≤ 1000) : ∀ k, DirAt mn av b mx I k
 | 0 => dir_zero mn av b mx I
 | k + 1 => dir_step mn av b mx hF I hp hs hI k (rDir_any mn av b mx hF I hp hs hI k)
def RetKO (k : List UInt8) (L : List Ob) (w : World) (e : Ending) (w' : World) : Prop := ∃ v', e = .returned (.tuple #[.string ⟨k.toArray⟩, v']) ∧ IsObs w' v' L ∧ Below w.heap.size w w'
set_option maxRecDepth 100000 in
set_option maxHeartbeats 8000000 in
theorem rBuild_any (mn av b mx : Nat) (hF : FitAt mn av mx b) (iv : Value) (I : List It) (w : World) (hi : IsItems w iv I) (hp : ∀ x ∈ I, pathB x.t = true) (hs : ∀ x ∈ I, x.p.size ≤ 100000 ∧ x.c.size ≤ 100000) (hI : I.length ≤ 1000) (hL : (seqT (cutN mn b mx) I).length ≤ 700000) :
  Calls Tryz.prog 9 #[pV mn av mx, iv] w (RetKO (keyN (topT (cutN mn b mx) I)) (objsT (cutN mn b mx) I) w) := by
 have CK : Hid (∀ W, IsItems W iv I → Calls Tryz.prog 24 #[pV mn av mx, iv, .slice none 0 0, .string ⟨#[]⟩, .int .i64 0] W (RetOK (.slice none 0 0) [] (objsT (cutN mn b mx) I) (keyN (topT (cutN mn b mx) I)) W)) := Lib.hid (fun W h =>
  rDir_any mn av b mx hF I hp hs hI 9 0 rfl (.slice none 0 0) iv [] ⟨#[]⟩ W (obs_nil _) h (by
   have : (seqD (cutN mn b mx) I 9 (⟨#[]⟩ : ByteArray).data.toList).length ≤ 700000 := hL
   simpa using this))
 obtain ⟨V, hV⟩ : ∃ V, V = w.alloc (.cells #[.int .i64 mn, .int .i64 av, .int .i64 mx] 23) := ⟨_, rfl⟩
 have hbV : Below w.heap.size w V := by rw [hV]; exact (Below.refl _ _).alloc (Nat.le_refl _) _
 have hR0 : Row V w.heap.size #[.int .i64 mn, .int .i64 av, .int .i64 mx] 23 := by rw [hV]; exact Row.made _ _ _
 have p0 := hR0.cell 0; have p1 := hR0.cell 1; have p2 := hR0.cell 2
 simp only [List.getElem?_toArray, List.getElem?_cons_zero, List.getElem?_cons_succ] at p0 p1 p2
 have HV := Lib.hid hV; have HB0 := Lib.hid hbV
 have HI := Lib.hid (hi.stays hbV)
 obtain ⟨K, hK⟩ : ∃ K : ByteArray, K = ⟨(keyN (topT (cutN mn b mx) I)).toArray⟩ := ⟨_, rfl⟩
 obtain ⟨_, a1, cap1, rfl, _, _⟩ := hi
 have HK := Lib.hid hK
 clear hF hp hs hL hK hV hbV hR0
 go_enter Tryz.func9, Tryz.ntmps9
 go_wp2_with fail
 rw [← HV.out]
 go_wp2_with fail
 with_reducible refine (CK.out _ HI.out).mono ?_
 rintro e w8 ⟨v8, rfl, hs8, hb8, _⟩
 rw [← HK.out]
 have HS8 := Lib.hid hs8
 have HB8 := Lib.hid (below_step HB0.out hb8)
 clear hs8 hb8 p0 p1 p2
 go_wp2
 exact bodyPost_ret (v := .tuple #[.string K, v8]) (by simp [results, Tryz.results9, go_sem]) rfl ⟨v8, by rw [← HK.out], HS8.out, HB8.out⟩
noncomputable def clashB (T : List (List UInt8)) : Bool := @decide (Clash T) (Classical.propDecidable _)
theorem clashB_yes {T : List (List UInt8)} (h : Clash T) : clashB T = true := @decide_eq_true _ (Classical.propDecidable _) h
theorem clashB_no {T : List (List UInt8)} (h : ¬ Clash T) : clashB T = false := @decide_eq_false _ (Classical.propDecidable _) h
structure ClOn (T : List (List UInt8)) (k : Nat) (O : List Ob) : Prop where
 fit : FitO O
 from_ : ∀ y ∈ O, y.u ∈ T.take k ∧ y.t = shaSum y.u
 all : ∀ t ∈ T.take k, ∃ y ∈ O, y.u = t ∧ y.t = shaSum t
 len : O.length ≤ k
theorem clOn_zero (T : List (List UInt8)) : ClOn T 0 [] := ⟨fitO_nil, fun _ h => (by cases h), fun _ h => (by simp at h), Nat.le_refl _⟩
def sumO (t : List UInt8) : Ob := ⟨⟨(shaSum t).toArray⟩, ⟨t.toArray⟩⟩
theorem sumO_t (t : List UInt8) : (sumO t).t = shaSum t := by unfold sumO Ob.t; simp
theorem sumO_u (t : List UInt8) : (sumO t).u = t := by unfold sumO Ob.u; simp
theorem take_mem {T : List (List UInt8)} {k : Nat} (hk : k < T.length) {t : List UInt8} : t ∈ T.take (k + 1) ↔ t ∈ T.take k ∨ t = T[k] := by
 rw [List.take_succ_eq_append_getElem hk, List.mem_append, List.mem_singleton]
theorem clOn_clash {T : List (List UInt8)} {k : Nat} {O : List Ob} (h : ClOn T k O) (hk : k < T.length) {y : Ob} (hy : getO O (shaSum T[k]) = some y) (hne : y.u ≠ T[k]) : Clash T := by
 obtain ⟨h1, h2⟩ := getO_mem hy
 obtain ⟨h3, h4⟩ := h.from_ y h1
 exact ⟨y.u, List.mem_of_mem_take h3, T[k], List.getElem_mem hk, hne, by rw [← h4, h2]⟩
theorem clOn_step {T : List (List UInt8)} {k : Nat} {O : List Ob} (h : ClOn T k O) (hk : k < T.length) (hy : ∀ y, getO O (shaSum T[k]) = some y → y.u = T[k]) : ClOn T (k + 1) (addO O (sumO T[k])) := by
 refine ⟨addO_fit h.fit _, fun y hm => ?_, fun t ht => ?_, by have := (addO_len_le O (sumO T[k])).2; have := h.len; omega⟩
 ·rcases mem_addO.1 hm with h1 | ⟨rfl, _, _⟩
  ·exact ⟨(take_mem hk).2 (.inl (h.from_ y h1).1), (h.from_ y h1).2⟩
  ·rw [sumO_u, sumO_t]; exact ⟨(take_mem hk).2 (.inr rfl), rfl⟩
 ·rcases (take_mem hk).1 ht with h1 | rfl
  ·obtain ⟨y, h2, h3⟩ := h.all t h1
   exact ⟨y, mem_addO.2 (.inl h2), h3⟩
  ·cases hg : getO O (shaSum T[k]) with
   | some y => exact ⟨y, mem_addO.2 (.inl (getO_mem hg).1), hy y hg, (getO_mem hg).2⟩
   | none => exact ⟨sumO T[k], mem_addO.2 (.inr ⟨rfl, by rw [sumO_t]; exact hg, by rw [sumO_t]; exact shaSum_len _⟩), sumO_u _, sumO_t _⟩
theorem clOn_end {T : List (List UInt8)} {k : Nat} {O : List Ob} (h : ClOn T k O) (hk : T.length ≤ k) : ¬ Clash T := by
 rintro ⟨a, ha, b, hb, hne, e⟩
 rw [← List.take_of_length_le hk] at ha hb
 obtain ⟨y, hy, h1, h2⟩ := h.all a ha
 obtain ⟨z, hz, h3, h4⟩ := h.all b hb
 have := rise_one h.fit.1 hy hz (by rw [h2, h4, e])
 rw [this, h3] at h1
 exact hne h1.symm
set_option maxRecDepth 100000 in
set_option maxHeartbeats 8000000 in
theorem rClash_any (v : Value) (T : List ByteArray) (w : World) (h : IsStrs w v T) (hs : ∀ x ∈ T, x.size ≤ 60000) (hT : T.length ≤ 600000) :
  Calls Tryz.prog 12 #[v] w fun e w' => e = .returned (.bool (clashB (txts T))) ∧ Below w.heap.size w w' := by
 have HI := Lib.hid h
 have HS := Lib.hid hs
 obtain ⟨hm, a, cap, rfl, _, hc⟩ := h
 clear hc hs
 go_enter Tryz.func12, Tryz.ntmps12
 go_wp2
 go_loopw [3, 4] (fun o i wr => ∃ (k : Nat) (O : List Ob), k ≤ T.length ∧ i = .int .i64 k ∧ IsObs wr o O ∧ ClOn (txts T) k O ∧ Below w.heap.size w wr) (fun _ i _ => T.length - (intOf i).toNat)
 case atStart => exact ⟨0, [], Nat.zero_le _, rfl, obs_nil _, clOn_zero _, Below.refl _ _⟩
 case round =>
  obtain ⟨k, O, hk, rfl, hO, hC, hB⟩ := hrel
  have hol := hC.len
  have HO := Lib.hid hO; have HC := Lib.hid hC
  obtain ⟨_, ao, co, rfl, _, _⟩ := hO
  clear hC
  by_cases hlt : k < T.length
  ·obtain ⟨_, _, _, e, _, hc⟩ := HI.out
   cases e
   obtain ⟨b1, o1, rfl, hbl, g⟩ := hc (by omega)
   have q0 := g k hlt
   have q1 := (hB.cell (p := ⟨b1, o1 + k, none⟩) hbl).trans q0
   clear g hc
   have hbk : decide ((k : Int) < (T.length : Int)) = true := by simpa using (show (k : Int) < T.length by omega)
   have hkl : k < (txts T).length := by rw [txts_len]; exact hlt
   have hty := txts_get hlt
   have hsz := HS.out _ (List.getElem_mem hlt)
   have hcl := fun y => clOn_clash (y := y) HC.out hkl
   have hst := clOn_step HC.out hkl
   rw [hty] at hcl hst
   obtain ⟨y, hy⟩ : ∃ y, T[k]'hlt = y := ⟨_, rfl⟩
   rw [hy] at q0 q1 hcl hst hsz
   clear hy hty
   have CS := Lib.hid (refSum_any y (by omega) wr)
   obtain ⟨K, hK⟩ : ∃ K : ByteArray, K = ⟨(shaSum y.data.toList).toArray⟩ := ⟨_, rfl⟩
   rw [← hK] at CS
   have hKl : K.data.toList = shaSum y.data.toList := by rw [hK]
   have HX : Hid ((⟨K, y⟩ : Ob) = sumO y.data.toList) := Lib.hid (by unfold sumO; rw [hK])
   have HCL := Lib.hid hcl; have HST := Lib.hid hst; have HKL := Lib.hid hKl; have HQ := Lib.hid q0
   have hol2 : O.length ≤ 900000 := by omega
   clear hcl hst hK hKl q0
   go_wp2_with fail
   with_reducible refine CS.out.mono ?_
   rintro e w1 ⟨rfl, hb1⟩
   have hB1 := below_step hB hb1
   have HO1 := Lib.hid (HO.out.stays hb1)
   have CG := Lib.hid (rGet_any (.slice ao O.length co) O K w1 HO1.out)
   rw [HKL.out] at CG
   have q1 := (hB1.cell (p := ⟨b1, o1 + k, none⟩) hbl).trans HQ.out
   clear hb1
   cases hg : getO O (shaSum y.data.toList) with
   | none =>
    rw [hg, gotO_none hg] at CG
    have hgn : ∀ z, getO O (shaSum y.data.toList) = some z → z.u = y.data.toList := fun z hz => by rw [hg] at hz; cases hz
    have HST2 := Lib.hid (HST.out hgn)
    clear hg hgn
    go_wp2_with fail
    with_reducible refine CG.out.mono ?_
    rintro e w2 ⟨rfl, hb2⟩
    have hB2 := below_step hB1 hb2
    have CA := Lib.hid (rAdd_any (.slice ao O.length co) O ⟨K, y⟩ w2 (HO1.out.stays hb2) hol2)
    have q1 := (hB2.cell (p := ⟨b1, o1 + k, none⟩) hbl).trans HQ.out
    clear hb2
    go_wp2_with fail
    with_reducible refine CA.out.mono ?_
    rintro e w3 ⟨v3, rfl, hs3, hb3, _⟩
    have HS3 := Lib.hid hs3
    have hB3 := below_step hB2 hb3
    clear hs3 hb3
    go_wp2_with fail
    go_roundw
    case rel => exact ⟨k + 1, _, by omega, by go_num, by rw [← HX.out]; exact HS3.out, HST2.out, hB3⟩
    case measure => simp [intOf]; omega
   | some z =>
    rw [hg, gotO_some hg] at CG
    by_cases hz : z.r = y
    ·have hb0 : (z.r.toList == y.toList) = true := beq_true hz
     have hgn : ∀ u, getO O (shaSum y.data.toList) = some u → u.u = y.data.toList := fun u hu => by rw [hg] at hu; cases hu; unfold Ob.u; rw [hz]
     have HST2 := Lib.hid (HST.out hgn)
     have hre : z.r = y := hz
     clear hg hgn hz
     go_wp2_with fail
     with_reducible refine CG.out.mono ?_
     rintro e w2 ⟨rfl, hb2⟩
     have hB2 := below_step hB1 hb2
     have CA := Lib.hid (rAdd_any (.slice ao O.length co) O ⟨K, y⟩ w2 (HO1.out.stays hb2) hol2)
     have q1 := (hB2.cell (p := ⟨b1, o1 + k, none⟩) hbl).trans HQ.out
     clear hb2 hre
     go_wp2_with fail
     with_reducible refine CA.out.mono ?_
     rintro e w3 ⟨v3, rfl, hs3, hb3, _⟩
     have HS3 := Lib.hid hs3
     have hB3 := below_step hB2 hb3
     clear hs3 hb3
     go_wp2_with fail
     go_roundw
     case rel => exact ⟨k + 1, _, by omega, by go_num, by rw [← HX.out]; exact HS3.out, HST2.out, hB3⟩
     case measure => simp [intOf]; omega
    ·have hb0 : (z.r.toList == y.toList) = false := beq_false hz
     have HN := Lib.hid (clashB_yes (HCL.out z hg (fun e => hz (str_eq' e))))
     clear hg hz
     go_wp2_with fail
     with_reducible refine CG.out.mono ?_
     rintro e w2 ⟨rfl, hb2⟩
     have hB2 := below_step hB1 hb2
     have q1 := (hB2.cell (p := ⟨b1, o1 + k, none⟩) hbl).trans HQ.out
     clear hb2
     go_wp2
     go_ret
     exact ⟨by rw [HN.out]; rfl, hB2⟩
  ·have HN := Lib.hid (clashB_no (clOn_end HC.out (by rw [txts_len]; omega)))
   have hge : decide ((k : Int) < (T.length : Int)) = false := by simp; omega
   go_wp2
   go_ret
   exact ⟨by rw [HN.out]; rfl, hB⟩
end Go.Proofs.YtjpjpmkadoaipaaGreatDoor
set_option linter.unusedVariables false
namespace Go.Proofs.YtjpjpmkadoaipaaGreatDoor
open Go.RowKit
structure Kept (B : Nat) (w w' : World) : Prop where
 os : w'.os = w.os
 tape : w'.tape = w.tape
 output : w'.output = w.output
 size : w.heap.size ≤ w'.heap.size
 block : ∀ b, b < w.heap.size → (b < B ∨ ∃ xs T, Row w b xs T ∧ T ≠ 9) → w'.heap[b]? = w.heap[b]?
theorem Kept.refl (B : Nat) (w : World) : Kept B w w := ⟨rfl, rfl, rfl, Nat.le_refl _, fun _ _ _ => rfl⟩
theorem Kept.of_below {B : Nat} {w w' : World} (h : Below w.heap.size w w') : Kept B w w' := ⟨h.os, h.tape, h.output, h.size, fun b hb _ => h.block b hb⟩
theorem row_kept {B b : Nat} {w w' : World} {xs : Array Value} {T : TypeId} (hr : Row w b xs T) (hT : T ≠ 9) (h : Kept B w w') : Row w' b xs T := (h.block b hr.lt (.inr ⟨xs, T, hr, hT⟩)).trans hr
theorem Kept.trans {B : Nat} {a b c : World} (h : Kept B a b) (k : Kept B b c) : Kept B a c :=
 ⟨k.os.trans h.os, k.tape.trans h.tape, k.output.trans h.output, Nat.le_trans h.size k.size, fun i hi hp => by
  refine (k.block i (Nat.lt_of_lt_of_le hi h.size) ?_).trans (h.block i hi hp)
  rcases hp with hp | ⟨xs, T, hr, hT⟩
  ·exact .inl hp
  ·exact .inr ⟨xs, T, row_kept hr hT h, hT⟩⟩
theorem Kept.step {B : Nat} {a b c : World} (h : Kept B a b) (k : Below b.heap.size b c) : Kept B a c := h.trans (Kept.of_below k)
theorem Kept.grown {B : Nat} {w w' : World} {row : Option Nat} (hg : w.grownBy w' row) (hr : ∀ g, row = some g → B ≤ g ∧ ∃ xs, Row w g xs 9) : Kept B w w' :=
 ⟨hg.os, hg.tape, hg.output, hg.size, fun b hb hp => hg.block b hb (fun e => by
  obtain ⟨h1, xs, h2⟩ := hr b e.symm
  rcases hp with hp | ⟨ys, T, h3, hT⟩
  ·omega
  ·have h4 := (show w.heap[b]? = _ from h2).symm.trans (show w.heap[b]? = _ from h3)
   cases h4; exact hT rfl)⟩
theorem Kept.later {B : Nat} {a w w' : World} {row : Option Nat} (h : Kept B a w) (hg : w.grownBy w' row) (hr : ∀ g, row = some g → a.heap.size ≤ g) : Kept B a w' :=
 ⟨hg.os.trans h.os, hg.tape.trans h.tape, hg.output.trans h.output, Nat.le_trans h.size hg.size, fun b hb hp =>
  (hg.block b (Nat.lt_of_lt_of_le hb h.size) (fun e => by have := hr b e.symm; omega)).trans (h.block b hb hp)⟩
theorem Kept.below {B : Nat} {a w w' : World} (h : Kept B w w') (hb : Below B a w) (hs : B ≤ w.heap.size) : Below B a w' :=
 hb.trans ⟨h.os, h.tape, h.output, h.size, fun k hk => h.block k (Nat.lt_of_lt_of_le hk hs) (.inl hk)⟩
theorem OwnE.kept {B C : Nat} {w w' : World} {v : Value} {L : List En} (h : OwnE C w v L) (hk : Kept B w w') : OwnE C w' v L := by
 refine ⟨h.1, ?_⟩
 rcases h.2 with h2 | ⟨g, cap, cur, h3, h4, h5, h6⟩
 ·exact .inl h2
 ·exact .inr ⟨g, cap, cur, h3, h4, row_kept (B := B) (xs := cur) (T := 89) h5 (by decide) hk, h6⟩
theorem OwnP.kept {B C : Nat} {w w' : World} {v : Value} {L : List Pt} (h : OwnP C w v L) (hk : Kept B w w') : OwnP C w' v L := by
 refine ⟨h.1, ?_⟩
 rcases h.2 with h2 | ⟨g, cap, cur, h3, h4, h5, h6⟩
 ·exact .inl h2
 ·exact .inr ⟨g, cap, cur, h3, h4, row_kept (B := B) (xs := cur) (T := 109) h5 (by decide) hk, h6⟩
theorem OwnTxt.row {W w : World} {v : Value} {M : List (List UInt8)} (h : OwnTxt W w v M) {g : Nat} (hg : v.ownBlock = some g) : W.heap.size ≤ g ∧ ∃ xs, Row w g xs 9 := by
 rcases h.2 with ⟨rfl, _⟩ | ⟨g', cap, cur, rfl, h4, h5, _⟩
 ·cases hg
 ·cases hg; exact ⟨h4, _, h5⟩
theorem OwnTxt.turn {W w w' : World} {v : Value} {M : List (List UInt8)} (h : OwnTxt W w v M) {b : Nat} {xs : Array Value} {T : TypeId} (hr : Row w b xs T) (hT : T ≠ 9) (hg : w.grownBy w' (some b)) : OwnTxt W w' v M :=
 World.ownsRow.kept h hg (by
  cases hv : v.ownBlock with
  | none => exact .inl rfl
  | some k =>
   refine .inr fun e => ?_
   cases e
   obtain ⟨_, ys, h2⟩ := h.row hv
   have h4 := (show w.heap[b]? = _ from h2).symm.trans (show w.heap[b]? = _ from hr)
   cases h4; exact hT rfl)
theorem wpList_append_txt_at {ops : Array Oper} {rest : List Oper} {o : Oper} {a : Act} {W w0 : World} {z : Nat} {Q : Exit → Act → World → Prop} (hgd : o.guard = none) (s x : Operand)
  (ho : o.op = .call { callee := .builtin .append, args := #[s, x], argTypes := #[33, 33] })
  {v : Value} {M : List (List UInt8)} {y : ByteArray} (hown : OwnTxt W w0 v M) (hbs : W.heap.size ≤ w0.heap.size) (hz : z = w0.heap.size) (hs : a.eval s = v)
  (hx : a.eval x = .slice (some ⟨z, 0, none⟩) 1 1) (hlen : M.length ≤ 1000000)
  (h : ∀ v' w', OwnTxt W w' v' (M ++ [y.data.toList]) → w0.grownBy w' v.ownBlock → (v'.ownBlock = v.ownBlock ∨ ∃ g, v'.ownBlock = some g ∧ w0.heap.size ≤ g) → wpList Tryz.prog ops Q rest (a.put o.dst v') w') :
  wpList Tryz.prog ops Q (o :: rest) a (w0.alloc (.cells #[.string y] 9)) := by
 subst hz
 obtain ⟨i0, hi, hz0, hz1, hz2⟩ := info_parts infoStr
 refine wpList_plain hgd fun K hK => ?_
 obtain ⟨v', w', hr, h2, h3, _, h5⟩ := run_append_own_at (P := Tryz.prog) (w0.alloc (.cells #[.string y] 9)) W.heap.size 33 o.type 9 i0 (.string ⟨#[]⟩) 1 16 Tryz.underlying33 hi hz0 hz1 hz2 rfl (by decide) v (strsOf M).length (strCells (strsOf M)) (World.ownsRow.alloc hown _) ⟨w0.heap.size, 0, none⟩ 1 1 [.string y] rfl cell_one
  (fun u hu => by simp at hu; subst hu; rfl) (by rw [strsOf_len]; unfold maxLen; omega) (by rw [strsOf_len]; omega) (by simp; omega)
 unfold Oper.wp execOp
 simp only [ho, resolve, invoke, builtin, Sem.run_bind, Sem.run_pure, Result.andThen_ok, List.map_toArray, List.map_cons, List.map_nil, hs, hx, hr]
 refine hK _ _ (h v' w' ?_ (grown_after (grownBy_alloc w0 _) h3) ?_)
 ·unfold OwnTxt
  rw [strsOf_snoc, txt_str, List.length_append, strCells_app]; exact h2
 ·refine h5.imp id fun e => ⟨_, e, ?_⟩
  simp
def RetRaw (W0 : World) (M : List (List UInt8)) (w : World) (e : Ending) (w' : World) : Prop := ∃ v', e = .returned v' ∧ OwnTxt W0 w' v' M ∧ Kept W0.heap.size w w'
def RawAt (mn av b mx : Nat) (I : List It) (k : Nat) : Prop := ∀ (dp : Nat), dp + k = 9 → ∀ (W0 : World) (v iv : Value) (M : List (List UInt8)) (d : ByteArray) (w : World), Below W0.heap.size W0 w → OwnTxt W0 w v M → IsItems W0 iv I → M.length + (seqD (cutN mn b mx) I k d.data.toList).length ≤ 700000 →
 Calls Tryz.prog 37 #[pV mn av mx, iv, v, .string d, .int .i64 dp] w (RetRaw W0 (M ++ (seqD (cutN mn b mx) I k d.data.toList).map wrN) w)
structure RawIn (w W0 : World) (P : Array Value) (bn Bs : Nat) (wr : World) (lv : Value) (MM : List (List UInt8)) (vp : Value) (es : List En) : Prop where
 txt : OwnTxt W0 wr lv MM
 node : Row wr bn #[.int .i64 3, .string ⟨#[]⟩, .slice none 0 0, vp] 71
 own : OwnE Bs wr vp es
 params : Row wr w.heap.size P 23
 kept : Kept W0.heap.size w wr
 size : Bs ≤ wr.heap.size
 below : Below W0.heap.size W0 wr
theorem RawIn.stays {w W0 : World} {P : Array Value} {bn Bs : Nat} {wr : World} {lv : Value} {MM : List (List UInt8)} {vp : Value} {es : List En} (h : RawIn w W0 P bn Bs wr lv MM vp es) {w' : World} (hb : Below wr.heap.size wr w') : RawIn w W0 P bn Bs w' lv MM vp es :=
 ⟨h.txt.stays hb, h.node.step hb, h.own.stays hb, h.params.step hb, h.kept.step hb, Nat.le_trans h.size hb.size, below_step h.below hb⟩
theorem RawIn.call {w W0 : World} {P : Array Value} {bn Bs : Nat} {wr : World} {lv : Value} {MM : List (List UInt8)} {vp : Value} {es : List En} (h : RawIn w W0 P bn Bs wr lv MM vp es) {w' : World} (hk : Kept W0.heap.size wr w') {lv' : Value} {MM' : List (List UInt8)} (ho : OwnTxt W0 w' lv' MM') : RawIn w W0 P bn Bs w' lv' MM' vp es :=
 ⟨ho, row_kept h.node (by decide) hk, h.own.kept hk, row_kept h.params (by decide) hk, h.kept.trans hk, Nat.le_trans h.size hk.size, hk.below h.below h.below.size⟩
theorem RawIn.text {w W0 : World} {P : Array Value} {bn Bs : Nat} {wr : World} {lv : Value} {MM : List (List UInt8)} {vp : Value} {es : List En} (h : RawIn w W0 P bn Bs wr lv MM vp es) {w' : World} (hg : wr.grownBy w' lv.ownBlock) {lv' : Value} {MM' : List (List UInt8)} (ho : OwnTxt W0 w' lv' MM') : RawIn w W0 P bn Bs w' lv' MM' vp es :=
 h.call (Kept.grown hg fun g e => h.txt.row e) ho
theorem RawIn.other {w W0 : World} {P : Array Value} {bn Bs : Nat} {wr : World} {lv : Value} {MM : List (List UInt8)} {vp : Value} {es : List En} (h : RawIn w W0 P bn Bs wr lv MM vp es) {w' : World} {row : Option Nat} (hg : wr.grownBy w' row) (hw : W0.heap.size ≤ w.heap.size)
  (hr : ∀ g, row = some g → w.heap.size < g ∧ bn ≠ g ∧ vp.ownBlock ≠ some g ∧ ∃ xs T, Row wr g xs T ∧ T ≠ 9) : RawIn w W0 P bn Bs w' lv MM vp es := by
 refine ⟨?_, ?_, ?_, ?_, h.kept.later hg (fun g e => Nat.le_of_lt (hr g e).1), Nat.le_trans h.size hg.size, h.below.grown hg h.below.size (fun g e => by have := (hr g e).1; omega)⟩
 ·cases row with
  | none => exact World.ownsRow.kept h.txt hg (by
    cases hv : lv.ownBlock with
    | none => exact .inl rfl
    | some k => exact .inr (fun e => by cases e))
  | some g =>
   obtain ⟨_, _, _, xs, T, h4, h5⟩ := hr g rfl
   exact h.txt.turn h4 h5 hg
 ·exact (hg.block bn h.node.lt (fun e => (hr bn e.symm).2.1 rfl)).trans h.node
 ·exact World.ownsRow.kept h.own hg (by
   cases hv : vp.ownBlock with
   | none => exact .inl rfl
   | some k => exact .inr (fun e => (hr k e.symm).2.2.1 hv))
 ·exact (hg.block w.heap.size h.params.lt (fun e => by have := (hr _ e.symm).1; omega)).trans h.params
theorem RawIn.added {w W0 : World} {P : Array Value} {bn Bs : Nat} {wr w' : World} {lv : Value} {MM : List (List UInt8)} {vp v' : Value} {es es' : List En} (h : RawIn w W0 P bn Bs wr lv MM vp es) (hg : wr.grownBy w' vp.ownBlock) (ho : OwnE Bs w' v' es') (hbn : bn < Bs) (hw : w.heap.size < bn) (hW : W0.heap.size ≤ w.heap.size) :
  RawIn w W0 P bn Bs (w'.setCell ⟨bn, 3, none⟩ v') lv MM v' es' := by
 have hlt := fun g (e : vp.ownBlock = some g) => (World.ownsRow.lt h.own g e).1
 have hn := row_grownE h.node h.own hg hbn
 have ht : OwnTxt W0 w' lv MM := by
  cases hv : vp.ownBlock with
  | none =>
   rw [hv] at hg
   exact World.ownsRow.kept h.txt hg (by
    cases hv2 : lv.ownBlock with
    | none => exact .inl rfl
    | some k => exact .inr (fun e => by cases e))
  | some g =>
   rw [hv] at hg
   obtain ⟨xs, hx⟩ := h.own.row hv
   exact h.txt.turn hx (by decide) hg
 refine ⟨ht.turn hn (by decide) (grownBy_set w' bn 3 v'), by simpa using hn.set 3 v', ho.setBelow (a := ⟨bn, 3, none⟩) hbn v', ?_, ?_, ?_, ?_⟩
 ·exact (row_grownE h.params h.own hg (by omega)).other ⟨bn, 3, none⟩ v' (show w.heap.size ≠ bn by omega)
 ·exact (h.kept.later hg (fun g e => by have := hlt g e; omega)).later (grownBy_set w' bn 3 v') (fun g e => by cases e; omega)
 ·have := h.size; have := hg.size; simp [World.setCell]; omega
 ·exact (h.below.grown hg h.below.size (fun g e => by have := hlt g e; omega)).setCell (p := ⟨bn, 3, none⟩) (show W0.heap.size ≤ bn by omega) v'
end Go.Proofs.YtjpjpmkadoaipaaGreatDoor
set_option linter.unusedVariables false
namespace Go.Proofs.YtjpjpmkadoaipaaGreatDoor
open Go.RowKit
attribute [local go_sem] Oper.semAt_some
def rwR (w0 W0 : World) (bn bf : Nat) (fp : Value) (i : Nat) (w w' : World) : Prop :=
 if i = 11 then w.grownBy w' fp.ownBlock ∧ ∀ g, fp.ownBlock = some g → w0.heap.size < g ∧ bn ≠ g ∧ W0.heap.size ≤ g ∧ ∃ xs, Row w g xs 109
 else ∃ u a n c, W0.heap.size ≤ bf ∧ Row w bf #[.int .i64 2, .string ⟨#[]⟩, .slice a n c, .slice none 0 0] 71 ∧ w0.heap.size < bf ∧ bn ≠ bf ∧ w' = w.setCell ⟨bf, 2, none⟩ u
theorem rwR_app {w0 W0 : World} {bn bf : Nat} {fp : Value} {w w' : World} (h : rwR w0 W0 bn bf fp 11 w w') : w.grownBy w' fp.ownBlock := by unfold rwR at h; rw [if_pos rfl] at h; exact h.1
theorem rwR_app' {w0 W0 : World} {bn bf B : Nat} {fp : Value} {Lp : List Pt} {w w' : World} (h : w.grownBy w' fp.ownBlock) (ho : OwnP B w fp Lp) (h1 : w0.heap.size < B) (h2 : bn < B) (h3 : W0.heap.size ≤ w0.heap.size) : rwR w0 W0 bn bf fp 11 w w' := by
 unfold rwR; rw [if_pos rfl]
 exact ⟨h, fun g hg => ⟨by have := (World.ownsRow.lt ho g hg).1; omega, by have := (World.ownsRow.lt ho g hg).1; omega, by have := (World.ownsRow.lt ho g hg).1; omega, ho.row hg⟩⟩
theorem rwR_set {w0 W0 : World} {bn bf : Nat} {fp : Value} {w w' : World} (h : rwR w0 W0 bn bf fp 13 w w') : ∃ u a n c, W0.heap.size ≤ bf ∧ Row w bf #[.int .i64 2, .string ⟨#[]⟩, .slice a n c, .slice none 0 0] 71 ∧ w0.heap.size < bf ∧ bn ≠ bf ∧ w' = w.setCell ⟨bf, 2, none⟩ u := by unfold rwR at h; rwa [if_neg (by decide)] at h
theorem rwR_set' {w0 W0 : World} {bn bf : Nat} {fp : Value} {w : World} (hr : Row w bf #[.int .i64 2, .string ⟨#[]⟩, fp, .slice none 0 0] 71) (hv : ∃ a n c, fp = .slice a n c) (h1 : w0.heap.size < bf) (h2 : bn ≠ bf) (h3 : W0.heap.size ≤ w0.heap.size) (u : Value) : rwR w0 W0 bn bf fp 13 w (w.setCell ⟨bf, 2, none⟩ u) := by
 obtain ⟨a, n, c, rfl⟩ := hv
 unfold rwR; rw [if_neg (by decide)]; exact ⟨u, a, n, c, by omega, hr, h1, h2, rfl⟩
theorem rwR_own {w0 W0 : World} {bn bf B : Nat} {fp v : Value} {w w' : World} {L : List Pt} (h : rwR w0 W0 bn bf fp 13 w w') (hU : OwnP B w v L) (hb : bf < B) : OwnP B w' v L := by
 obtain ⟨u, _, _, _, _, _, _, _, rfl⟩ := rwR_set h
 exact hU.setBelow (a := ⟨bf, 2, none⟩) hb u
theorem rwR_lt {w0 W0 : World} {bn bf b : Nat} {fp : Value} {w w' : World} (h : rwR w0 W0 bn bf fp 13 w w') (hb : b < w.heap.size) : b < w'.heap.size := by
 obtain ⟨u, _, _, _, _, _, _, _, rfl⟩ := rwR_set h
 simpa [World.setCell] using hb
theorem rwR_txt {w0 W0 : World} {bn bf : Nat} {fp : Value} {w w' : World} {tb to : Nat} {Ps : List (List UInt8)} (h : rwR w0 W0 bn bf fp 13 w w') (hU : TxtC w tb to Ps) : TxtC w' tb to Ps := by
 obtain ⟨u, a, n, c, _, hr, _, _, rfl⟩ := rwR_set h
 have hc := hr.cell 2
 simp only [List.getElem?_toArray, List.getElem?_cons_zero, List.getElem?_cons_succ] at hc
 exact hU.set hc u
theorem two_kinds {w : World} {g : Nat} {xs ys : Array Value} {T S : TypeId} (h1 : Row w g xs T) (h2 : Row w g ys S) (hne : T ≠ S) : False := by
 have h3 := (show w.heap[g]? = _ from h1).symm.trans (show w.heap[g]? = _ from h2)
 cases h3; exact hne rfl
theorem RawIn.wide {w W0 : World} {P : Array Value} {bn Bs : Nat} {wr : World} {lv : Value} {MM : List (List UInt8)} {vp : Value} {es : List En} (h : RawIn w W0 P bn Bs wr lv MM vp es) {w' : World} {row : Option Nat} (hg : wr.grownBy w' row)
  (hr : ∀ g, row = some g → w.heap.size < g ∧ bn ≠ g ∧ W0.heap.size ≤ g ∧ ∃ xs T, Row wr g xs T ∧ T ≠ 9 ∧ T ≠ 89) : RawIn w W0 P bn Bs w' lv MM vp es := by
 refine ⟨?_, ?_, ?_, ?_, h.kept.later hg (fun g e => Nat.le_of_lt (hr g e).1), Nat.le_trans h.size hg.size, h.below.grown hg h.below.size (fun g e => (hr g e).2.2.1)⟩
 ·cases row with
  | none => exact World.ownsRow.kept h.txt hg (by
    cases hv : lv.ownBlock with
    | none => exact .inl rfl
    | some k => exact .inr (fun e => by cases e))
  | some g =>
   obtain ⟨_, _, _, xs, T, h4, h5, _⟩ := hr g rfl
   exact h.txt.turn h4 h5 hg
 ·exact (hg.block bn h.node.lt (fun e => (hr bn e.symm).2.1 rfl)).trans h.node
 ·exact World.ownsRow.kept h.own hg (by
   cases hv : vp.ownBlock with
   | none => exact .inl rfl
   | some k =>
    refine .inr (fun e => ?_)
    obtain ⟨_, _, _, xs, T, h4, _, h6⟩ := hr k e.symm
    obtain ⟨ys, h7⟩ := h.own.row hv
    exact two_kinds h4 h7 h6)
 ·exact (hg.block w.heap.size h.params.lt (fun e => by have := (hr _ e.symm).1; omega)).trans h.params
theorem rwR_raw {w0 W0 : World} {P : Array Value} {bn Bs bf : Nat} {fp lv vp : Value} {MM : List (List UInt8)} {es : List En} {w w' : World} (h : rwR w0 W0 bn bf fp 11 w w') (hU : RawIn w0 W0 P bn Bs w lv MM vp es) : RawIn w0 W0 P bn Bs w' lv MM vp es := by
 unfold rwR at h; rw [if_pos rfl] at h
 refine hU.wide h.1 fun g hg => ?_
 obtain ⟨h1, h2, h4, xs, h3⟩ := h.2 g hg
 exact ⟨h1, h2, h4, xs, _, h3, by decide, by decide⟩
theorem rwR_raw2 {w0 W0 : World} {P : Array Value} {bn Bs bf : Nat} {fp lv vp : Value} {MM : List (List UInt8)} {es : List En} {w w' : World} (h : rwR w0 W0 bn bf fp 13 w w') (hU : RawIn w0 W0 P bn Bs w lv MM vp es) : RawIn w0 W0 P bn Bs w' lv MM vp es := by
 obtain ⟨u, a, n, c, h4, hr, h1, h2, rfl⟩ := rwR_set h
 exact hU.wide (grownBy_set w bf 2 u) fun g hg => by cases hg; exact ⟨h1, h2, h4, _, _, hr, by decide, by decide⟩
theorem rwR_row {w0 W0 : World} {bn bf b : Nat} {fp : Value} {xs : Array Value} {w w' : World} (h : rwR w0 W0 bn bf fp 11 w w') (hU : Row w b xs 89) : Row w' b xs 89 := by
 unfold rwR at h; rw [if_pos rfl] at h
 exact (h.1.block b hU.lt (fun e => by obtain ⟨_, _, _, ys, h3⟩ := h.2 b e.symm; exact two_kinds hU h3 (by decide))).trans hU
theorem rwR_row2 {w0 W0 : World} {bn bf b : Nat} {fp : Value} {xs : Array Value} {w w' : World} (h : rwR w0 W0 bn bf fp 13 w w') (hU : Row w b xs 89) : Row w' b xs 89 := by
 obtain ⟨u, a, n, c, _, hr, h1, h2, rfl⟩ := rwR_set h
 exact hU.other ⟨bf, 2, none⟩ u (fun e => two_kinds hU (show Row w b _ _ by rw [show b = bf from e]; exact hr) (by decide))
def draU (w0 W0 : World) (Pm : Array Value) (bn Bs bf sb eb tb to tl tcap kc Bf : Nat) (fp lv vp : Value) (Lp : List Pt) (MM Ps : List (List UInt8)) (es : List En) (kk t z : ByteArray) (xe : Bool) : Nat → Value → Value → World → Prop
 | 0 => fun v _ _ => v = .pointer (some ⟨bf, 2, none⟩)
 | 1 => fun v _ _ => v = fp
 | 2 => fun v _ _ => v = .agg #[.int .i64 1, .string t, .slice none 0 0, .slice none 0 0]
 | 3 => fun v _ _ => v = .string kk
 | 4 => fun v _ _ => v = .slice (some ⟨tb, to, none⟩) tl tcap
 | 5 => fun v _ _ => v = .int .i64 kc
 | 6 => fun v _ _ => v = .pointer (some ⟨tb, to + kc, none⟩)
 | 7 => fun v _ _ => v = .string t
 | 8 => fun v _ _ => v = .int .i64 t.size
 | 9 => fun v _ _ => v = .agg #[.string kk, .int .i64 t.size]
 | 10 => fun v _ w => OnePt w v (⟨kk, (t.size : Int)⟩ : Pt)
 | 11 => fun v _ w => OwnP Bf w v (Lp ++ [(⟨kk, (t.size : Int)⟩ : Pt)]) ∧ bf < Bf
 | 12 => fun v _ _ => v = .pointer (some ⟨bf, 2, none⟩)
 | 13 => fun _ e w => Row w bf #[.int .i64 2, .string ⟨#[]⟩, e, .slice none 0 0] 71
 | 14 => fun _ _ w => Row w bf #[.int .i64 2, .string ⟨#[]⟩, fp, .slice none 0 0] 71 ∧ fp.ownBlock ≠ some bf
 | 15 => fun _ _ w => Row w sb #[.int .i64 1, .string t, .slice none 0 0, .slice none 0 0] 71
 | 16 => fun _ _ w => TxtC w tb to Ps ∧ tb < w.heap.size ∧ fp.ownBlock ≠ some tb
 | 17 => fun _ _ w => OwnP Bf w fp Lp
 | 18 => fun _ _ w => RawIn w0 W0 Pm bn Bs w lv MM vp es
 | 19 => fun _ _ w => Row w eb #[.string z, .int .i64 2, .bool xe, .string ⟨#[]⟩] 89
 | _ => fun _ _ _ => True
def draN : List (List Nat) := [[], [0, 14], [15], [2], [], [], [4, 5], [6, 16], [7], [3, 8], [9], [1, 10, 17], [], [12, 11, 14]]
def draE : Nat → Option Tmp
 | 13 => some 95
 | _ => none
def draB : List (Nat × Nat) := [(11, 10), (11, 13), (11, 15), (11, 17), (13, 10), (13, 14), (13, 15), (13, 17)]
theorem dra_T (w0 W0 : World) (Pm : Array Value) (bn Bs bf sb eb tb to tl tcap kc Bf : Nat) (fp lv vp : Value) (Lp : List Pt) (MM Ps : List (List UInt8)) (es : List En) (kk t z : ByteArray) (xe : Bool) (ix kx : Nat) (v e : Value) (w w' : World) (hk : kx < 20) (hne : kx ≠ ix) (hbd : (ix, kx) ∉ draB) (hU : (draU w0 W0 Pm bn Bs bf sb eb tb to tl tcap kc Bf fp lv vp Lp MM Ps es kk t z xe) kx v e w) (hT : (appTs [11, 13] (rwR w0 W0 bn bf fp)) ix w w') : (draU w0 W0 Pm bn Bs bf sb eb tb to tl tcap kc Bf fp lv vp Lp MM Ps es kk t z xe) kx v e w' := by
 by_cases hi11 : ix = 11
 ·subst hi11
  have hR := appTs_in (by decide) hT
  rcases (show kx = 0 ∨ kx = 1 ∨ kx = 2 ∨ kx = 3 ∨ kx = 4 ∨ kx = 5 ∨ kx = 6 ∨ kx = 7 ∨ kx = 8 ∨ kx = 9 ∨ kx = 10 ∨ kx = 11 ∨ kx = 12 ∨ kx = 13 ∨ kx = 14 ∨ kx = 15 ∨ kx = 16 ∨ kx = 17 ∨ kx = 18 ∨ kx = 19 by omega) with rfl | rfl | rfl | rfl | rfl | rfl | rfl | rfl | rfl | rfl | rfl | rfl | rfl | rfl | rfl | rfl | rfl | rfl | rfl | rfl
  iterate 10 exact hU
  ·exact absurd (by decide) hbd
  ·exact absurd rfl hne
  ·exact hU
  ·exact absurd (by decide) hbd
  ·exact ⟨((rwR_app hR).block bf hU.1.lt (fun e => hU.2 e.symm)).trans hU.1, hU.2⟩
  ·exact absurd (by decide) hbd
  ·exact ⟨hU.1.grown hU.2.1 (rwR_app hR) hU.2.2, Nat.lt_of_lt_of_le hU.2.1 (rwR_app hR).size, hU.2.2⟩
  ·exact absurd (by decide) hbd
  ·exact rwR_raw hR hU
  ·exact rwR_row hR hU
 by_cases hi13 : ix = 13
 ·subst hi13
  have hR := appTs_in (by decide) hT
  rcases (show kx = 0 ∨ kx = 1 ∨ kx = 2 ∨ kx = 3 ∨ kx = 4 ∨ kx = 5 ∨ kx = 6 ∨ kx = 7 ∨ kx = 8 ∨ kx = 9 ∨ kx = 10 ∨ kx = 11 ∨ kx = 12 ∨ kx = 13 ∨ kx = 14 ∨ kx = 15 ∨ kx = 16 ∨ kx = 17 ∨ kx = 18 ∨ kx = 19 by omega) with rfl | rfl | rfl | rfl | rfl | rfl | rfl | rfl | rfl | rfl | rfl | rfl | rfl | rfl | rfl | rfl | rfl | rfl | rfl | rfl
  iterate 10 exact hU
  ·exact absurd (by decide) hbd
  ·exact ⟨rwR_own hR hU.1 hU.2, hU.2⟩
  ·exact hU
  ·exact absurd rfl hne
  ·exact absurd (by decide) hbd
  ·exact absurd (by decide) hbd
  ·exact ⟨rwR_txt hR hU.1, rwR_lt hR hU.2.1, hU.2.2⟩
  ·exact absurd (by decide) hbd
  ·exact rwR_raw2 hR hU
  ·exact rwR_row2 hR hU
 have hi : ix ∉ [11, 13] := by simp [hi11, hi13]
 have hb : Below w.heap.size w w' := appTs_out hi hT
 rcases (show kx = 0 ∨ kx = 1 ∨ kx = 2 ∨ kx = 3 ∨ kx = 4 ∨ kx = 5 ∨ kx = 6 ∨ kx = 7 ∨ kx = 8 ∨ kx = 9 ∨ kx = 10 ∨ kx = 11 ∨ kx = 12 ∨ kx = 13 ∨ kx = 14 ∨ kx = 15 ∨ kx = 16 ∨ kx = 17 ∨ kx = 18 ∨ kx = 19 by omega) with rfl | rfl | rfl | rfl | rfl | rfl | rfl | rfl | rfl | rfl | rfl | rfl | rfl | rfl | rfl | rfl | rfl | rfl | rfl | rfl
 iterate 10 exact hU
 ·exact OnePt.stays hU hb
 ·exact ⟨OwnP.stays hU.1 hb, hU.2⟩
 ·exact hU
 ·exact Row.step hU hb
 ·exact ⟨Row.step hU.1 hb, hU.2⟩
 ·exact Row.step hU hb
 ·exact ⟨hU.1.stays hU.2.1 hb, Nat.lt_of_lt_of_le hU.2.1 hb.size, hU.2.2⟩
 ·exact OwnP.stays hU hb
 ·exact RawIn.stays hU hb
 ·exact Row.step hU hb
theorem last_of {w : World} {v : Value} {MM : List (List UInt8)} {Mi : List (List UInt8)} {l : List UInt8} (h : IsStrs w v (strsOf MM)) (e : MM = Mi ++ [l]) : ∃ (L7 : List ByteArray) (b o cap : Nat), v = .slice (some ⟨b, o, none⟩) L7.length cap ∧ 0 < L7.length ∧ L7.length ≤ 9223372036854775807 ∧ w.cell? ⟨b, o + (L7.length - 1), none⟩ = some (.string ⟨l.toArray⟩) := by
 obtain ⟨hm, a, cap, hv, _, hc⟩ := h
 have hl : (strsOf MM).length = Mi.length + 1 := by rw [strsOf_len, e, List.length_append]; rfl
 obtain ⟨b, off, rfl, hb, g⟩ := hc (by omega)
 refine ⟨strsOf MM, b, off, cap, hv, by omega, by unfold maxLen at hm; omega, ?_⟩
 have h1 := g ((strsOf MM).length - 1) (by omega)
 have h2 : (strsOf MM)[(strsOf MM).length - 1]'(by omega) = ⟨l.toArray⟩ := by
  rw [strsOf_get (by rw [strsOf_len] at hl ⊢; omega)]
  congr 2
  subst e
  simp [strsOf_len]
 rw [h2] at h1; exact h1
theorem wrN_len {n : Nd} (h : fitN n = true) : (wrN n).length ≤ 50000 := by rw [wrN_fit h]; exact (wrL_len h).2
theorem own_txt {W w : World} {v : Value} {Ps : List (List UInt8)} (h : OwnTxt W w v Ps) : ∃ (a : Option Addr) (cap tb to : Nat), v = .slice a Ps.length cap ∧ (0 < Ps.length → a = some ⟨tb, to, none⟩ ∧ W.heap.size ≤ tb ∧ tb < w.heap.size) ∧ TxtC w tb to Ps := by
 obtain ⟨_, a, cap, hv, _, hc⟩ := h.strs
 by_cases h0 : 0 < Ps.length
 ·obtain ⟨b, off, rfl, hbl, g⟩ := hc (by rw [strsOf_len]; exact h0)
  refine ⟨_, cap, b, off, by rw [hv, strsOf_len], fun _ => ⟨rfl, (h.row (g := b) (by rw [hv]; rfl)).1, hbl⟩, fun i hi => ?_⟩
  have := g i (by rw [strsOf_len]; exact hi)
  rwa [strsOf_get hi] at this
 ·exact ⟨a, cap, 0, 0, by rw [hv, strsOf_len], fun h => absurd h h0, fun i hi => absurd (Nat.lt_of_le_of_lt (Nat.zero_le _) hi) h0⟩
set_option maxRecDepth 100000 in
set_option maxHeartbeats 32000000 in
theorem raw_step (mn av b mx : Nat) (hF : FitAt mn av mx b) (I : List It) (R : ReadyT (cutN mn b mx) I) (hs : ∀ x ∈ I, x.p.size ≤ 100000 ∧ x.c.size ≤ 100000) (k : Nat) (ih : RawAt mn av b mx I k) : RawAt mn av b mx I (k + 1) := by
 intro dp hdp W0 v iv M d w0 hbw ho hi hL
 have hI : I.length ≤ 60 := R.fit.len
 have CD := Lib.hid refDir_any
 have CS := Lib.hid refSplit_any
 have CPC := Lib.hid (fun s hs W => refPiecesO_any mn av b mx hF s hs W)
 have OK := Lib.hid (cutN_ok (mn := mn) (b := b) (mx := mx) (by have := hF.h1; omega) (by have := hF.h2; have := hF.h3; omega))
 have IH := Lib.hid ih
 have HP := Lib.hid R.fit.path; have HS := Lib.hid hs
 obtain ⟨c, hc⟩ : ∃ c, c = cutN mn b mx := ⟨_, rfl⟩
 have HCC := Lib.hid hc
 rw [← hc] at CPC hL R OK ⊢
 have HRD := Lib.hid R
 obtain ⟨td, ht⟩ : ∃ td, td = d.data.toList := ⟨_, rfl⟩
 rw [← ht] at hL ⊢
 have HT := Lib.hid ht
 obtain ⟨V, hV⟩ : ∃ V, V = (w0.alloc (.cells #[.int .i64 mn, .int .i64 av, .int .i64 mx] 23)).alloc (.cells #[.int .i64 3, .string ⟨#[]⟩, .slice none 0 0, .slice none 0 0] 71) := ⟨_, rfl⟩
 have hbV : Below w0.heap.size w0 V := by rw [hV]; exact ((Below.refl _ _).alloc (Nat.le_refl _) _).alloc (by simp) _
 have hR0 : Row V w0.heap.size #[.int .i64 mn, .int .i64 av, .int .i64 mx] 23 := by rw [hV]; exact (Row.made _ _ _).alloc _
 have hRN : Row V (w0.heap.size + 1) #[.int .i64 3, .string ⟨#[]⟩, .slice none 0 0, .slice none 0 0] 71 := by
  have := Row.made (w0.alloc (.cells #[.int .i64 mn, .int .i64 av, .int .i64 mx] 23)) #[.int .i64 3, .string ⟨#[]⟩, .slice none 0 0, .slice none 0 0] 71
  rw [hV]; simpa using this
 have hz1 := hRN.lt
 obtain ⟨bn, hbn⟩ : ∃ bn, bn = w0.heap.size + 1 := ⟨_, rfl⟩
 have HBN := Lib.hid hbn
 have HWW := Lib.hid hbw.size
 have HD0 : Hid (RawIn w0 W0 #[.int .i64 mn, .int .i64 av, .int .i64 mx] bn V.heap.size V v (M ++ (preS c I k td 0).map wrN) (.slice none 0 0) (preE c I k td 0)) := Lib.hid (by
  rw [hbn]
  have e1 : preS c I k td 0 = [] := rfl
  have e2 : preE c I k td 0 = [] := rfl
  rw [e1, e2, List.map_nil, List.append_nil]
  exact ⟨ho.stays hbV, hRN, entries_own_nil _ _, hR0, Kept.of_below hbV, Nat.le_refl _, below_step hbw hbV⟩)
 have HV := Lib.hid hV; have HI0 := Lib.hid hi
 have HLN := Lib.hid hL
 obtain ⟨_, a1, cap1, rfl, _, _⟩ := hi
 have q8 : decide ((dp : Int) ≤ 8) = true := decide_eq_true (by omega)
 clear hV hbV hRN hR0 hc ht hF hs ih hL R ho
 go_enter Tryz.func37, Tryz.ntmps37
 go_wp2_with fail
 rw [← HV.out, ← HBN.out]
 clear hbn
 go_loopw [2, 12] (fun lv i wr => ∃ (j : Nat) (vp : Value), j ≤ I.length ∧ i = .int .i64 j ∧ RawIn w0 W0 #[.int .i64 mn, .int .i64 av, .int .i64 mx] bn V.heap.size wr lv (M ++ (preS c I k td j).map wrN) vp (preE c I k td j)) (fun _ i _ => I.length - (intOf i).toNat)
 case atStart => exact ⟨0, _, Nat.zero_le _, rfl, HD0.out⟩
 case round =>
  obtain ⟨j, vp, hj, rfl, hD⟩ := hrel
  have HD := Lib.hid hD
  have hB := hD.below
  have hpl := pre_le c I k td hj
  clear hD
  by_cases hlt : j < I.length
  ·obtain ⟨_, _, _, e, _, hc⟩ := HI0.out.stays hB
   cases e
   obtain ⟨b1, off, rfl, hbl, g⟩ := hc (by omega)
   obtain ⟨c0, c1, c2, c3⟩ := g j hlt
   clear g hc
   have hbk : decide ((j : Int) < (I.length : Int)) = true := by simpa using (show (j : Int) < I.length by omega)
   have hin := preS_in (c := c) (k := k) (d := td) hlt
   have hout := preS_out (c := c) (k := k) (d := td) hlt
   have ein := preE_in (c := c) (k := k) (d := td) hlt
   have eout := preE_out (c := c) (k := k) (d := td) hlt
   have hle := pre_less (c := c) (k := k) (d := td) hlt
   have hmem : I[j]'hlt ∈ I := List.getElem_mem hlt
   have hxp := HP.out _ (List.getElem_mem hlt)
   have hxs := HS.out _ (List.getElem_mem hlt)
   obtain ⟨x, hx⟩ : ∃ x, I[j]'hlt = x := ⟨_, rfl⟩
   rw [hx] at c0 c1 c2 c3 hin hout ein eout hle hxp hxs hmem
   clear hx
   have HMEM := Lib.hid hmem
   have C := Lib.hid (CD.out x.p hxs.1)
   rw [show x.p.data.toList = x.t from rfl] at C
   have hba := (Below.refl wr.heap.size wr).alloc (Nat.le_refl _) (.cells #[.string x.p, .bool x.d, .bool x.e, .string x.c] 52)
   have HX := Lib.hid (inBox_new wr x 52)
   have HD2 := Lib.hid (HD.out.stays hba)
   clear hba HD hmem
   by_cases hd : dirS x.t = td
   ·have f1 : ((dirS x.t) == d.toList) = true := by rw [beq_iff_eq, Lib.toList_data, ← HT.out]; exact hd
    have HIN := Lib.hid (hin hd); have EIN := Lib.hid (ein hd); have HLE := Lib.hid (hle hd)
    have S := Lib.hid (CS.out x.p hxs.1)
    rw [show x.p.data.toList = x.t from rfl] at S
    have HL := Lib.hid (last_at hxp)
    have HXS := Lib.hid hxs; have HPL := Lib.hid hpl
    clear hin hout ein eout hle hd hxp hxs hpl
    go_wp2_with fail
    refine (C.out _).mono ?_
    rintro e w1 ⟨rfl, hb1⟩
    have HX1 := Lib.hid (HX.out.stays hb1)
    have HD3 := Lib.hid (HD2.out.stays hb1)
    obtain ⟨e0, e1, e2, e3⟩ := HX1.out.cells
    clear c0 c1 c2 c3 hb1 HX HD2 hB
    go_wp2_with fail
    refine (S.out _).mono ?_
    rintro e w2 ⟨v2, rfl, hv2, hb2⟩
    have HX2 := Lib.hid (HX1.out.stays hb2)
    have HD4 := Lib.hid (HD3.out.stays hb2)
    clear e0 e1 e2 e3 hb2 HX1 HD3
    obtain ⟨e0, e1, e2, e3⟩ := HX2.out.cells
    obtain ⟨Mn, hMn⟩ : ∃ Mn, Mn = strsOf (splitS x.t) := ⟨_, rfl⟩
    rw [← hMn] at HL hv2
    clear hMn
    obtain ⟨hm2, a2, cap2, rfl, _, hc2⟩ := hv2
    have hmm2 : Mn.length ≤ 9223372036854775807 := by unfold maxLen at hm2; omega
    have hpos := HL.out.1
    obtain ⟨b2, o2, rfl, _, g2⟩ := hc2 hpos
    have q := g2 (Mn.length - 1) (by omega)
    have HZ := Lib.hid (HL.out.2 (by omega))
    obtain ⟨z, hz⟩ : ∃ z, z = Mn[Mn.length - 1] := ⟨_, rfl⟩
    rw [← hz] at q HZ
    clear hz g2 hc2
    have hw1 : IntKind.i64.wrap ((Mn.length : Int) - 1) = ((Mn.length - 1 : Nat) : Int) := (IntWalk.i64_in _ (by omega)).trans (by omega)
    have hlt2 : Mn.length - 1 < Mn.length := by omega
    have hlx := HX2.out.2
    have htn : ((Mn.length - 1 : Nat) : Int).toNat = Mn.length - 1 := by omega
    go_wp2_with fail
    go_region
    obtain ⟨W5, hW5⟩ : ∃ W5, W5 = (w2.alloc (.cells #[.string z, .int .i64 2, .bool x.e, .string ⟨#[]⟩] 89)).drew := ⟨_, rfl⟩
    obtain ⟨eb, heb⟩ : ∃ eb, eb = w2.heap.size := ⟨_, rfl⟩
    have hbe : Below w2.heap.size w2 W5 := by rw [hW5]; exact ((Below.refl _ _).alloc (Nat.le_refl _) _).drew
    have hRE : Row W5 eb #[.string z, .int .i64 2, .bool x.e, .string ⟨#[]⟩] 89 := by rw [hW5, heb]; exact (Row.made w2 _ _).drew
    rw [← hW5, ← heb]
    have HX5 := Lib.hid (HX2.out.stays hbe)
    have HD5 := Lib.hid (HD4.out.stays hbe)
    have HRE := Lib.hid hRE
    have hge : vp.ownBlock ≠ some eb := fun e => by have := (World.ownsRow.lt HD4.out.own eb e).2; omega
    have HGE := Lib.hid hge
    have hsz4 := HD4.out.size
    have hbeb : bn < eb := by have := HBN.out; omega
    have hz9 : bn < V.heap.size := by have := HBN.out; omega
    have hweb : w0.heap.size < eb := by have := HBN.out; omega
    have hxe : wr.heap.size ≠ eb := by omega
    have hz5 : eb < W5.heap.size := hRE.lt
    clear hW5 hRE hge e0 e1 e2 e3 q hbe heb hlt2 htn hw1 hlx hpos hmm2 hm2
    obtain ⟨e0, e1, e2, e3⟩ := HX5.out.cells
    have HEN : Hid (z = ⟨(lastN x.t).toArray⟩) := Lib.hid (str_list HZ.out)
    rcases hxd : x.d with _ | _
    ·rw [hxd] at e1
     obtain ⟨W6, hW6⟩ : ∃ W6, W6 = W5.alloc (.cells #[.int .i64 2, .string ⟨#[]⟩, .slice none 0 0, .slice none 0 0] 71) := ⟨_, rfl⟩
     have hb6 : Below W5.heap.size W5 W6 := by rw [hW6]; exact (Below.refl _ _).alloc (Nat.le_refl _) _
     obtain ⟨bf, hbf⟩ : ∃ bf, bf = W5.heap.size := ⟨_, rfl⟩
     have hRF : Row W6 bf #[.int .i64 2, .string ⟨#[]⟩, .slice none 0 0, .slice none 0 0] 71 := by rw [hW6, hbf]; exact Row.made _ _ _
     have HWF := Lib.hid hW6; have HBFE := Lib.hid hbf
     have HRF6 := Lib.hid hRF
     have HD6 := Lib.hid (HD5.out.stays hb6)
     have HRE6 := Lib.hid (HRE.out.step hb6)
     have CP := Lib.hid (CPC.out x.c HXS.out.2 W6)
     rw [show x.c.data.toList = x.b from rfl] at CP
     obtain ⟨Ps, hPs⟩ : ∃ Ps, Ps = pcs c x.b := ⟨_, rfl⟩
     have HPS := Lib.hid hPs
     have hxb : x.b.length = x.c.size := by unfold It.b; rw [Lib.size_eq]
     have hpl2 : Ps.length ≤ 100000 := by
      have h1 := pcs_len OK.out.pos x.b.length x.b (Nat.le_refl _)
      have h2 := HXS.out.2
      rw [hPs]; omega
     have p0 := HD5.out.params.cell 0; have p1 := HD5.out.params.cell 1; have p2 := HD5.out.params.cell 2
     simp only [List.getElem?_toArray, List.getElem?_cons_zero, List.getElem?_cons_succ] at p0 p1 p2
     have hlp5 := HD5.out.params.lt
     have hlx5 := HX5.out.2
     have hq : sqT c I k x = seqF c x.b := by unfold sqT; rw [if_neg (by rw [hxd]; decide)]
     have hsub : subN c I k x = fileN c x.b := by unfold subN; rw [if_neg (by rw [hxd]; decide)]
     rw [hq] at HIN HLE; rw [hsub] at EIN
     have HFS : Hid (fitN (fileN c x.b) = true) := Lib.hid (file_fit HRD.out HMEM.out)
     have hbf1 : w0.heap.size < bf := by omega
     have hbf2 : bn < bf := by omega
     have hebf : eb < bf := by omega
     clear hq hsub hPs hW6 hRF hbf
     go_wp2_with fail
     rw [← HWF.out, ← HBFE.out]
     with_reducible refine CP.out.mono ?_
     rintro e w7 ⟨v7, rfl, ho7, hb7⟩
     rw [← HPS.out] at ho7
     obtain ⟨a7, cap7, tb, to, hv7, hab, hT7⟩ := own_txt ho7
     subst hv7
     have HAB := Lib.hid hab; have HT7 := Lib.hid hT7
     have HD7 := Lib.hid (HD6.out.stays hb7)
     have HRF7 := Lib.hid (HRF6.out.step hb7)
     have HRE7 := Lib.hid (HRE6.out.step hb7)
     have hbf7 := HRF7.out.lt
     have HNT7 : Hid (0 < Ps.length → u2.ownBlock ≠ some tb) := Lib.hid (fun h e => by have h1 := (World.ownsRow.lt HD6.out.txt tb e).2; have h2 := (hab h).2.1; omega)
     have HLW := Lib.hid hbw
     clear hab hT7 ho7 hb6 hb7 e0 e1 e2 e3 p0 p1 p2 hlp5 hlx5
     go_wp2
     go_loopw [2, 18] (fun lv i ws => ∃ (q : Nat) (fp : Value), q ≤ Ps.length ∧ i = .int .i64 q ∧ RawIn w0 W0 #[.int .i64 mn, .int .i64 av, .int .i64 mx] bn V.heap.size ws lv (M ++ (preS c I k td j ++ (Ps.take q).map pieceN).map wrN) vp (preE c I k td j) ∧ Row ws bf #[.int .i64 2, .string ⟨#[]⟩, fp, .slice none 0 0] 71 ∧ OwnP w7.heap.size ws fp ((Ps.take q).map partP) ∧ Row ws eb #[.string z, .int .i64 2, .bool x.e, .string ⟨#[]⟩] 89 ∧ TxtC ws tb to Ps ∧ (0 < Ps.length → lv.ownBlock ≠ some tb) ∧ w7.heap.size ≤ ws.heap.size) (fun _ i _ => Ps.length - (intOf i).toNat)
     case atStart => exact ⟨0, _, Nat.zero_le _, rfl, by rw [List.take_zero, List.map_nil, List.append_nil]; exact HD7.out, HRF7.out, parts_own_nil _ _, HRE7.out, HT7.out, HNT7.out, Nat.le_refl _⟩
     case round =>
      obtain ⟨q, fp, hq, rfl, hD, hRf, hO, hRe, hT, hN, hz⟩ := hrel
      have HDq := Lib.hid hD; have HRq := Lib.hid hRf; have HOq := Lib.hid hO; have HEq := Lib.hid hRe; have HTq := Lib.hid hT; have HNq := Lib.hid hN
      have hml : (M ++ (preS c I k td j ++ (Ps.take q).map pieceN).map wrN).length ≤ 900000 := by
       rw [List.length_append, List.length_map, List.length_append, List.length_map, List.length_take]
       have := HLN.out; have := HPL.out; omega
      clear hD hRf hO hRe hT hN
      obtain ⟨Mq, hMq⟩ : ∃ Mq, Mq = M ++ (preS c I k td j ++ (Ps.take q).map pieceN).map wrN := ⟨_, rfl⟩
      rw [← hMq] at HDq hml
      have HMQ := Lib.hid hMq
      by_cases hlq : q < Ps.length
      ·obtain ⟨rfl, htl, htb⟩ := HAB.out (by omega)
       have hbq : decide ((q : Int) < (Ps.length : Int)) = true := by simpa using (show (q : Int) < Ps.length by omega)
       have hst : M ++ (preS c I k td j ++ (Ps.take (q + 1)).map pieceN).map wrN = Mq ++ [wrN (pieceN (Ps[q]'hlq))] := by rw [hMq, List.take_succ_eq_append_getElem hlq]; simp only [List.map_append, List.map_cons, List.map_nil, List.append_assoc]
       have hsp : (Ps.take (q + 1)).map partP = (Ps.take q).map partP ++ [partP (Ps[q]'hlq)] := by rw [List.take_succ_eq_append_getElem hlq, List.map_append]; rfl
       have c0 := HTq.out q hlq
       obtain ⟨pk, hpk⟩ : ∃ pk, Ps[q]'hlq = pk := ⟨_, rfl⟩
       rw [hpk] at hst hsp c0
       have HPK := Lib.hid hpk
       obtain ⟨tp, htp⟩ : ∃ tp : ByteArray, tp = ⟨pk.toArray⟩ := ⟨_, rfl⟩
       have hts : tp.size = pk.length := by rw [htp, Lib.size_eq]
       obtain ⟨kk, hkk⟩ : ∃ kk : ByteArray, kk = ⟨(keyN (pieceN pk)).toArray⟩ := ⟨_, rfl⟩
       obtain ⟨S1, hS1⟩ : ∃ S1 : ByteArray, S1 = ⟨(wrN (pieceN pk)).toArray⟩ := ⟨_, rfl⟩
       have hx9 : partP pk = ⟨kk, (tp.size : Int)⟩ := by unfold partP; rw [hkk, hts]
       rw [hx9] at hsp
       have hS1l : wrN (pieceN pk) = S1.data.toList := by rw [hS1]
       rw [hS1l] at hst
       have CW1 : Hid (∀ W, Calls Tryz.prog 66 #[.agg #[.int .i64 1, .string tp, .slice none 0 0, .slice none 0 0]] W fun e w' => e = .returned (.string S1) ∧ Below W.heap.size W w') := Lib.hid (fun W => by
        rw [htp, hS1]; exact rWrite_any (pieceN pk) (.slice none 0 0) (.slice none 0 0) W (parts_nil _) (entries_nil _))
       have CK1 : Hid (∀ W, Calls Tryz.prog 67 #[.agg #[.int .i64 1, .string tp, .slice none 0 0, .slice none 0 0]] W fun e w' => e = .returned (.string kk) ∧ Below W.heap.size W w') := Lib.hid (fun W => by
        rw [htp, hkk]; exact rKey_any (pieceN pk) (.slice none 0 0) (.slice none 0 0) W (parts_nil _) (entries_nil _))
       obtain ⟨MM, hMM⟩ : ∃ MM, MM = Mq ++ [S1.data.toList] := ⟨_, rfl⟩
       rw [← hMM] at hst
       obtain ⟨Lp, hLp⟩ : ∃ Lp, Lp = (Ps.take q).map partP := ⟨_, rfl⟩
       have HLP : Hid (Lp.length ≤ 1000000) := Lib.hid (by rw [hLp, List.length_map, List.length_take]; omega)
       rw [← hLp] at HOq hsp
       have HST := Lib.hid hst; have HSP := Lib.hid hsp; have HMM := Lib.hid hMM; have HTT := Lib.hid htp
       rw [← htp] at c0
       obtain ⟨Wa, hWa⟩ : ∃ Wa, Wa = wr.alloc (.cells #[.int .i64 1, .string tp, .slice none 0 0, .slice none 0 0] 71) := ⟨_, rfl⟩
       obtain ⟨sb, hsb⟩ : ∃ sb, sb = wr.heap.size := ⟨_, rfl⟩
       have hba : Below wr.heap.size wr Wa := by rw [hWa]; exact (Below.refl _ _).alloc (Nat.le_refl _) _
       have hRS : Row Wa sb #[.int .i64 1, .string tp, .slice none 0 0, .slice none 0 0] 71 := by rw [hWa, hsb]; exact Row.made _ _ _
       have HWA := Lib.hid hWa; have HSB := Lib.hid hsb; have HBA := Lib.hid hba; have HRSA := Lib.hid hRS
       clear hst hsp hMM hLp htp hts hkk hS1 hx9 hS1l hpk hMq hWa hsb hba hRS
       go_wp2_with fail
       rw [← HWA.out, ← HSB.out]
       with_reducible refine (CW1.out _).mono ?_
       rintro e wb ⟨rfl, hbb⟩
       have hbab := below_step HBA.out hbb
       have HDb := Lib.hid (HDq.out.stays hbab)
       have HRb := Lib.hid (HRq.out.step hbab); have HOb := Lib.hid (HOq.out.stays hbab); have HEb := Lib.hid (HEq.out.step hbab)
       have htw : tb < wr.heap.size := by omega
       have HTb := Lib.hid (HTq.out.stays htw hbab)
       have htwb : tb < wb.heap.size := Nat.lt_of_lt_of_le htw hbab.size
       have hsb2 : wr.heap.size ≤ wb.heap.size := hbab.size
       have hRSb := HRSA.out.step hbb
       have HRSB := Lib.hid hRSb
       have sc0 := hRSb.cell 0; have sc1 := hRSb.cell 1; have sc2 := hRSb.cell 2; have sc3 := hRSb.cell 3
       simp only [List.getElem?_toArray, List.getElem?_cons_zero, List.getElem?_cons_succ] at sc0 sc1 sc2 sc3
       have hzb : W0.heap.size ≤ wb.heap.size := HDb.out.below.size
       have hol : Mq.length ≤ 1000000 := by omega
       clear hbb hbab c0 hRSb
       go_wp2_with (at_builtin; refine wpList_append_txt_at rfl _ _ rfl HDb.out.txt hzb rfl rfl rfl hol ?_)
       intro v9 wc hown9 hgc hat
       rw [← HMM.out] at hown9
       have kc : Kept W0.heap.size wb wc := Kept.grown hgc fun g e => HDb.out.txt.row e
       have HD := Lib.hid (HDb.out.text hgc hown9)
       have HRF := Lib.hid (row_kept HRb.out (by decide) kc); have HRS := Lib.hid (row_kept HRSB.out (by decide) kc); have HRE9 := Lib.hid (row_kept HEb.out (by decide) kc)
       have HO := Lib.hid (HOb.out.kept kc)
       have hNv : u2.ownBlock ≠ some tb := HNq.out (by omega)
       have HNT : Hid (0 < Ps.length → v9.ownBlock ≠ some tb) := Lib.hid (fun _ e => by
        rcases hat with h | ⟨g, h, hg⟩
        ·exact hNv (h.symm.trans e)
        ·rw [h] at e; cases e; omega)
       have HC : Hid (TxtC wc tb to Ps ∧ tb < wc.heap.size) := Lib.hid ⟨HTb.out.grown htwb hgc hNv, Nat.lt_of_lt_of_le htwb hgc.size⟩
       have HNE : Hid (fp.ownBlock ≠ some bf ∧ fp.ownBlock ≠ some tb) := Lib.hid ⟨fun e => by have := (World.ownsRow.lt HO.out bf e).1; omega, fun e => by have := (World.ownsRow.lt HO.out tb e).1; omega⟩
       have HVP : Hid (∃ a n c, fp = .slice a n c) := Lib.hid (by obtain ⟨_, a, c, e, _⟩ := HO.out.is; exact ⟨a, _, c, e⟩)
       have hww := HWW.out
       have HBS : Hid (bf < w7.heap.size ∧ w0.heap.size < w7.heap.size ∧ bn < w7.heap.size ∧ W0.heap.size ≤ w0.heap.size) := Lib.hid ⟨hbf7, by omega, by omega, hww⟩
       have HBF : Hid (w0.heap.size < bf ∧ bn ≠ bf ∧ W0.heap.size ≤ bf) := Lib.hid ⟨hbf1, by omega, by omega⟩
       have HKT : Hid (q < Ps.length) := Lib.hid hlq
       have HG0 : Hid (HeldM W0 w7.heap.size { wc with drawn := wc.drawn + 1 }) := Lib.hid ⟨HD.out.below.drew, by have := hgc.size; show w7.heap.size ≤ wc.heap.size; omega⟩
       clear hown9 hgc hat kc sc0 sc1 sc2 sc3 htw htwb hsb2 hzb hNv
       go_wp2_with fail
       refine wp_region_wordsG (by kernel_rfl) (by kernel_rfl) (appTs [11, 13] (rwR w0 W0 bn bf fp)) (HeldM W0 w7.heap.size) draE (draU w0 W0 #[.int .i64 mn, .int .i64 av, .int .i64 mx] bn V.heap.size bf sb eb tb to Ps.length cap7 q w7.heap.size fp v9 vp Lp MM Ps (preE c I k td j) kk tp z x.e) 20 draN [11, 13, 16, 18, 19] (by kernel_rfl) (by kernel_rfl) (by kernel_rfl)
        draB (by kernel_rfl) (fun ix kx v e w w' hi hk hne hb hU hT => dra_T _ _ _ _ _ _ _ _ _ _ _ _ _ _ _ _ _ _ _ _ _ _ _ _ _  ix kx v e w w' hk hne hb hU hT) (by decide) (HG0.out) (fun kx hk hge => ?hv0)
        [84, 85, 86, 87, 88, 89, 90, 91, 92, 93, 94, 95, 96] (by kernel_rfl) (forall_ops ?steps) ?behind
       case hv0 =>
        have hge' : 14 ≤ kx := hge
        rcases (show kx = 14 ∨ kx = 15 ∨ kx = 16 ∨ kx = 17 ∨ kx = 18 ∨ kx = 19 by omega) with rfl | rfl | rfl | rfl | rfl | rfl
        ·exact ⟨HRF.out.drew, HNE.out.1⟩
        ·exact HRS.out.drew
        ·exact ⟨HC.out.1.stays HC.out.2 ((Below.refl _ _).drew), HC.out.2, HNE.out.2⟩
        ·exact HO.out.stays ((Below.refl _ _).drew)
        ·exact HD.out.stays ((Below.refl _ _).drew)
        ·exact HRE9.out.drew
       case steps =>
        refine ⟨?_, ?_, ?_, ?_, ?_, ?_, ?_, ?_, ?_, ?_, ?_, ?_, ?_, ?_, trivial⟩
        ·refine stepG_of rfl ?_
         exact stepR_value (t := 84) (.pointer (some ⟨bf, 2, none⟩)) rfl (fun _ => appTs_other (by decide) (Below.refl _ _)) (fun ac w hG hN hO => by
          have e16 : slot ac 16 = .pointer (some ⟨bf, 0, none⟩) := hO 16 (by kernel_rfl)
          have f16 := slot_at e16
          unfold execOp; go_simp) (fun ac w hG hN => rfl)
        ·refine stepG_of rfl ?_
         exact stepR_value (t := 85) fp rfl (fun _ => appTs_other (by decide) (Below.refl _ _)) (fun ac w hG hN hO => by
          have e84 : slot ac 84 = .pointer (some ⟨bf, 2, none⟩) := hN 0 (by decide)
          have hx : Row w bf #[.int .i64 2, .string ⟨#[]⟩, fp, .slice none 0 0] 71 ∧ _ := hN 14 (by decide)
          have c2 := hx.1.cell 2
          simp only [List.getElem?_toArray, List.getElem?_cons_zero, List.getElem?_cons_succ] at c2
          have f := slot_at e84
          unfold execOp; go_simp) (fun ac w hG hN => rfl)
        ·refine stepG_of rfl ?_
         exact stepR_value (t := 86) (.agg #[.int .i64 1, .string tp, .slice none 0 0, .slice none 0 0]) rfl (fun _ => appTs_other (by decide) (Below.refl _ _)) (fun ac w hG hN hO => by
          have e19 : slot ac 19 = .pointer (some ⟨sb, 0, none⟩) := hO 19 (by kernel_rfl)
          have hx : Row w sb #[.int .i64 1, .string tp, .slice none 0 0, .slice none 0 0] 71 := hN 15 (by decide)
          have c0 := hx.cell 0; have c1 := hx.cell 1; have c2 := hx.cell 2; have c3 := hx.cell 3
          simp only [List.getElem?_toArray, List.getElem?_cons_zero, List.getElem?_cons_succ] at c0 c1 c2 c3
          have f := slot_at e19
          unfold execOp; go_simp) (fun ac w hG hN => rfl)
        ·refine stepG_of rfl ?_
         intro ac w hG hN hO
         have e86 : slot ac 86 = .agg #[.int .i64 1, .string tp, .slice none 0 0, .slice none 0 0] := hN 2 (by decide)
         refine wp_callx 67 _ _ rfl (enters_of Tryz.func67 (by kernel_rfl) rfl) #[.agg #[.int .i64 1, .string tp, .slice none 0 0, .slice none 0 0]] (by simp [eval_slot, e86]) (calls_valN (CK1.out w)) ?_
         rintro v w'' ⟨hv, hb⟩
         exact ⟨v, rfl, (appTs_other (by decide) hb), hG.on hb, hv⟩
        ·refine stepG_of rfl ?_
         exact stepR_value (t := 88) (.slice (some ⟨tb, to, none⟩) Ps.length cap7) rfl (fun _ => appTs_other (by decide) (Below.refl _ _)) (fun ac w hG hN hO => by
          have e17 : slot ac 17 = .slice (some ⟨tb, to, none⟩) Ps.length cap7 := hO 17 (by kernel_rfl)
          exact run_move_slot (.inl rfl) e17) (fun ac w hG hN => rfl)
        ·refine stepG_of rfl ?_
         exact stepR_value (t := 89) (.int .i64 q) rfl (fun _ => appTs_other (by decide) (Below.refl _ _)) (fun ac w hG hN hO => by
          have e18 : slot ac 18 = .int .i64 q := hO 18 (by kernel_rfl)
          exact run_move_slot (.inl rfl) e18) (fun ac w hG hN => rfl)
        ·refine stepG_of rfl ?_
         exact stepR_value (t := 90) (.pointer (some ⟨tb, to + q, none⟩)) rfl (fun _ => appTs_other (by decide) (Below.refl _ _)) (fun ac w hG hN hO => by
          have e88 : slot ac 88 = .slice (some ⟨tb, to, none⟩) Ps.length cap7 := hN 4 (by decide)
          have e89 : slot ac 89 = .int .i64 q := hN 5 (by decide)
          have f35 := slot_at e88; have f36 := slot_at e89
          have hkt := HKT.out
          unfold execOp; go_simp) (fun ac w hG hN => rfl)
        ·refine stepG_of rfl ?_
         exact stepR_value (t := 91) (.string tp) rfl (fun _ => appTs_other (by decide) (Below.refl _ _)) (fun ac w hG hN hO => by
          have e90 : slot ac 90 = .pointer (some ⟨tb, to + q, none⟩) := hN 6 (by decide)
          have hx : TxtC w tb to Ps ∧ _ := hN 16 (by decide)
          have c : w.cell? ⟨tb, to + q, none⟩ = some (.string tp) := by rw [HTT.out, ← HPK.out]; exact hx.1 q HKT.out
          have f := slot_at e90
          unfold execOp; go_simp) (fun ac w hG hN => rfl)
        ·refine stepG_of rfl ?_
         exact stepR_value (t := 92) (.int .i64 tp.size) rfl (fun _ => appTs_other (by decide) (Below.refl _ _)) (fun ac w hG hN hO => by
          have e91 : slot ac 91 = .string tp := hN 7 (by decide)
          have f91 := slot_at e91
          unfold execOp; go_simp) (fun ac w hG hN => rfl)
        ·refine stepG_of rfl ?_
         exact stepR_value (t := 93) (.agg #[.string kk, .int .i64 tp.size]) rfl (fun _ => appTs_other (by decide) (Below.refl _ _)) (fun ac w hG hN hO => by
          have e87 : slot ac 87 = .string kk := hN 3 (by decide)
          have e92 : slot ac 92 = .int .i64 tp.size := hN 8 (by decide)
          have f87 := slot_at e87
          have f92 := slot_at e92
          unfold execOp; go_simp) (fun ac w hG hN => rfl)
        ·refine stepG_of rfl ?_
         intro ac w hG hN hO
         have e93 : slot ac 93 = .agg #[.string kk, .int .i64 tp.size] := hN 9 (by decide)
         refine wp_build_part 93 rfl (x := (⟨kk, (tp.size : Int)⟩ : Pt)) e93 ?_
         exact ⟨_, rfl, appTs_other (by decide) ((Below.refl _ _).alloc (Nat.le_refl _) _), hG.on ((Below.refl _ _).alloc (Nat.le_refl _) _), onePt_new w (⟨kk, (tp.size : Int)⟩ : Pt)⟩
        ·refine stepG_of rfl ?_
         intro ac w hG hN hO
         have e85 : slot ac 85 = fp := hN 1 (by decide)
         have e94 : OnePt w (slot ac 94) (⟨kk, (tp.size : Int)⟩ : Pt) := hN 10 (by decide)
         have hown : OwnP w7.heap.size w fp Lp := hN 17 (by decide)
         have hbs := HBS.out
         refine wp_append_one_part 85 94 rfl hown hG.size (slotE e85) e94 HLP.out ?_
         intro v' w' hown' hg
         exact ⟨v', rfl, appTs_at (by decide) (rwR_app' hg hown hbs.2.1 hbs.2.2.1 HWW.out), ⟨hG.below.grown hg hG.below.size (fun g hj => by have h1 := (World.ownsRow.lt hown g hj).1; have h2 := hbs.2.1; have h3 := hbs.2.2.2; omega), Nat.le_trans hG.size hg.size⟩, hown', hbs.1⟩
        ·refine stepG_of rfl ?_
         exact stepR_value (t := 96) (.pointer (some ⟨bf, 2, none⟩)) rfl (fun _ => appTs_other (by decide) (Below.refl _ _)) (fun ac w hG hN hO => by
          have e16 : slot ac 16 = .pointer (some ⟨bf, 0, none⟩) := hO 16 (by kernel_rfl)
          have f16 := slot_at e16
          unfold execOp; go_simp) (fun ac w hG hN => rfl)
        ·refine stepG_of rfl ?_
         intro ac w hG hN hO
         have e96 : slot ac 96 = .pointer (some ⟨bf, 2, none⟩) := hN 12 (by decide)
         have hrow : Row w bf #[.int .i64 2, .string ⟨#[]⟩, fp, .slice none 0 0] 71 ∧ _ := hN 14 (by decide)
         have hc := hrow.1.cell 2
         have hf := hrow.1.free 2
         simp only [List.getElem?_toArray, List.getElem?_cons_zero, List.getElem?_cons_succ] at hc
         have f1 := slot_at e96
         have hbs := HBS.out
         have hbf := HBF.out
         obtain ⟨u, hu⟩ : ∃ u, u = slot ac 95 := ⟨_, rfl⟩
         have f2 := slot_at hu.symm
         have hown : OwnP w7.heap.size w (slot ac 95) (Lp ++ [(⟨kk, (tp.size : Int)⟩ : Pt)]) ∧ _ := hN 11 (by decide)
         rw [← hu] at hown
         obtain ⟨_, ua, uc, hue, _, _⟩ := hown.1.is
         subst hue
         have hs := hrow.1.set 2 (.slice ua (Lp ++ [(⟨kk, (tp.size : Int)⟩ : Pt)]).length uc)
         exact wp_skip (w' := w.setCell ⟨bf, 2, none⟩ (.slice ua (Lp ++ [(⟨kk, (tp.size : Int)⟩ : Pt)]).length uc)) (by unfold execOp; go_simp) ⟨undef, rfl, appTs_at (by decide) (rwR_set' hrow.1 HVP.out hbf.1 hbf.2.1 HWW.out _), ⟨hG.below.setCell (p := ⟨bf, 2, none⟩) hbf.2.2 _, by have := hG.size; simpa [World.setCell] using this⟩, by
          show Row _ bf #[.int .i64 2, .string ⟨#[]⟩, exV _ 13 ac, .slice none 0 0] _
          rw [show exV draE 13 ac = slot ac 95 from rfl, ← hu]
          exact hs⟩
       case behind =>
        intro ac w5 hG hV hS ha
        have h11 : OwnP w7.heap.size w5 (slot ac 95) (Lp ++ [(⟨kk, (tp.size : Int)⟩ : Pt)]) ∧ bf < w7.heap.size := hV 11 (by decide) (by decide)
        have h13 : Row w5 bf #[.int .i64 2, .string ⟨#[]⟩, (slot ac 95), .slice none 0 0] 71 := hV 13 (by decide) (by decide)
        have h16 : TxtC w5 tb to Ps ∧ tb < w5.heap.size ∧ fp.ownBlock ≠ some tb := hV 16 (by decide) (by decide)
        have h18 : RawIn w0 W0 #[.int .i64 mn, .int .i64 av, .int .i64 mx] bn V.heap.size w5 v9 MM vp (preE c I k td j) := hV 18 (by decide) (by decide)
        have h19 : Row w5 eb #[.string z, .int .i64 2, .bool x.e, .string ⟨#[]⟩] 89 := hV 19 (by decide) (by decide)
        generalize slot ac = sl at ha h13 h11
        subst ha
        simp only [patchL, List.contains_cons, List.contains_nil, Nat.reduceBEq, Bool.or_false, Bool.or_true, if_true, Bool.false_eq_true, if_false, Nat.reduceAdd]
        generalize sl 84 = s84
        generalize sl 85 = s85
        generalize sl 86 = s86
        generalize sl 87 = s87
        generalize sl 88 = s88
        generalize sl 89 = s89
        generalize sl 90 = s90
        generalize sl 91 = s91
        generalize sl 92 = s92
        generalize sl 93 = s93
        generalize sl 94 = s94
        generalize sl 95 = s95 at h13 h11 ⊢
        generalize sl 96 = s96
        clear hV hS
        have HR9 := Lib.hid h13; have HO9 := Lib.hid h11.1; have HT9 := Lib.hid h16; have HD9 := Lib.hid h18; have HE9 := Lib.hid h19
        have HZ9 := Lib.hid hG.size
        clear hG h11 h13 h16 h18 h19
        obtain ⟨_, ua, uc, hue, _, _⟩ := HO9.out.is
        subst hue
        go_wp2
        go_roundw
        case rel => exact ⟨q + 1, _, by omega, by go_num, by rw [HST.out]; exact HD9.out, HR9.out, by rw [HSP.out]; exact HO9.out, HE9.out, HT9.out.1, HNT.out, HZ9.out⟩
        case measure => simp [intOf]; omega
      ·have hke : Ps.take q = Ps := List.take_of_length_le (by omega)
       have hge : decide ((q : Int) < (Ps.length : Int)) = false := by simp; omega
       rw [hke] at HOq hMq
       have hml2 : (Ps.map partP).length = Ps.length := List.length_map ..
       obtain ⟨_, va, vc, hve, _, _⟩ := HOq.out.is
       rw [hml2] at hve
       subst hve
       have x0 := HRq.out.cell 0; have x1 := HRq.out.cell 1; have x2 := HRq.out.cell 2; have x3 := HRq.out.cell 3
       simp only [List.getElem?_toArray, List.getElem?_cons_zero, List.getElem?_cons_succ] at x0 x1 x2 x3
       obtain ⟨S2, hS2⟩ : ∃ S2 : ByteArray, S2 = ⟨(wrN (fileN c x.b)).toArray⟩ := ⟨_, rfl⟩
       have CW2 : Hid (Calls Tryz.prog 66 #[.agg #[.int .i64 2, .string ⟨#[]⟩, .slice va Ps.length vc, .slice none 0 0]] wr fun e w' => e = .returned (.string S2) ∧ Below wr.heap.size wr w') := Lib.hid (by
        rw [hS2]; exact rWrite_any (fileN c x.b) (.slice va Ps.length vc) (.slice none 0 0) wr (by unfold fileN; rw [← HPS.out]; exact HOq.out.is) (entries_nil _))
       have hS2l : S2.data.toList = wrN (fileN c x.b) := by rw [hS2]
       have HLI : Hid (M ++ (preS c I k td (j + 1)).map wrN = Mq ++ [wrN (fileN c x.b)]) := Lib.hid (by rw [hMq, HIN.out]; unfold seqF; rw [← HPS.out]; simp)
       have HS2 := Lib.hid hS2l
       have hol : Mq.length ≤ 1000000 := by omega
       clear hke hMq hml2 hS2 hS2l
       go_wp2_with fail
       with_reducible refine CW2.out.mono ?_
       rintro e wf ⟨rfl, hbf8⟩
       have HDf := Lib.hid (HDq.out.stays hbf8); have HREf := Lib.hid (HEq.out.step hbf8)
       have hzf : W0.heap.size ≤ wf.heap.size := HDf.out.below.size
       clear hbf8 x0 x1 x2 x3
       go_wp2_with (at_builtin; refine wpList_append_txt_at rfl _ _ rfl HDf.out.txt hzf rfl rfl rfl hol ?_)
       intro v9 wt hown9 hgt _
       rw [HS2.out, ← HLI.out] at hown9
       have kt : Kept W0.heap.size wf wt := Kept.grown hgt fun g e => HDf.out.txt.row e
       have HDt := Lib.hid (HDf.out.text hgt hown9)
       have HREt := Lib.hid (row_kept HREf.out (by decide) kt)
       have HMI := HLI
       clear hown9 hgt kt hzf
       obtain ⟨L7, b7, o7, cp7, hv7, hpos7, hmm7, q7⟩ := last_of HDt.out.txt.strs HMI.out
       subst hv7
       obtain ⟨zz, hzz⟩ : ∃ zz : ByteArray, zz = ⟨(wrN (fileN c x.b)).toArray⟩ := ⟨_, rfl⟩
       rw [← hzz] at q7
       have CSM := Lib.hid (fun W => refSum_any zz (by rw [Lib.size_eq, hzz]; have := wrN_len HFS.out; show (wrN (fileN c x.b)).length ≤ _; omega) W)
       obtain ⟨K, hK⟩ : ∃ K : ByteArray, K = ⟨(keyN (fileN c x.b)).toArray⟩ := ⟨_, rfl⟩
       rw [show (⟨(shaSum zz.data.toList).toArray⟩ : ByteArray) = K by rw [hK, hzz, keyN_fit HFS.out, wrN_fit HFS.out]] at CSM
       have hEN : entE x (keyN (fileN c x.b)) = ⟨z, 2, x.e, K⟩ := by unfold entE; rw [HEN.out, hK, hxd]; rfl
       rw [hEN] at EIN
       have hw7 : IntKind.i64.wrap ((L7.length : Int) - 1) = ((L7.length - 1 : Nat) : Int) := (IntWalk.i64_in _ (by omega)).trans (by omega)
       clear hK hEN hzz hxd
       go_wp2_with fail
       refine (CSM.out _).mono ?_
       rintro e w8 ⟨rfl, hb8⟩
       have hR7 := HREt.out.step hb8
       have HD7 := Lib.hid (HDt.out.stays hb8)
       have hge7 : eb < w8.heap.size := hR7.lt
       clear hb8 q7 hpos7 hmm7 hw7
       have r0 := hR7.cell 0; have r1 := hR7.cell 1; have r2 := hR7.cell 2; have r3 := hR7.cell 3
       have n3 := hR7.free 3
       simp only [List.getElem?_toArray, List.getElem?_cons_zero, List.getElem?_cons_succ] at r0 r1 r2 r3
       have hR8 : Row (w8.setCell ⟨eb, 3, none⟩ (.string K)) eb #[.string z, .int .i64 2, .bool x.e, .string K] 89 := by simpa using hR7.set 3 (.string K)
       have HD8 := Lib.hid (HD7.out.other (grownBy_set w8 eb 3 (.string K)) HWW.out (fun g e => by cases e; exact ⟨hweb, by omega, HGE.out, _, _, hR7, by decide⟩))
       have s0 := hR8.cell 0; have s1 := hR8.cell 1; have s2 := hR8.cell 2; have s3 := hR8.cell 3
       have x0 := HD8.out.node.cell 0; have x1 := HD8.out.node.cell 1; have x2 := HD8.out.node.cell 2; have x3 := HD8.out.node.cell 3
       simp only [List.getElem?_toArray, List.getElem?_cons_zero, List.getElem?_cons_succ] at s0 s1 s2 s3 x0 x1 x2 x3
       have hw8 := HD8.out.size
       have HZ8 : Hid (w8.heap.size = (w8.setCell ⟨eb, 3, none⟩ (.string K)).heap.size) := Lib.hid (by simp [World.setCell])
       have hel : (preE c I k td j).length ≤ 1000000 := by have := preE_len c I k td j; omega
       clear hR7 hR8
       go_wp2_with (at_builtin; refine wpList_append_entries2 (y := ⟨z, 2, x.e, K⟩) rfl _ _ rfl HD8.out.own hw8 HZ8.out rfl rfl hel ?_)
       intro v' w9 hown9 hg9
       have hn9 := row_grownE HD8.out.node HD8.out.own hg9 hz9
       have HD9 := Lib.hid (HD8.out.added hg9 hown9 hz9 (by have := HBN.out; omega) HWW.out)
       have z0 := hn9.cell 0; have z1 := hn9.cell 1; have z2 := hn9.cell 2; have z3 := hn9.cell 3
       have m3 := hn9.free 3
       simp only [List.getElem?_toArray, List.getElem?_cons_zero, List.getElem?_cons_succ] at z0 z1 z2 z3
       obtain ⟨_, va2, vc2, hve, _, _⟩ := hown9.is
       subst hve
       rw [← EIN.out] at HD9 ⊢
       obtain ⟨En2, hEn2⟩ : ∃ En2, En2 = preE c I k td (j + 1) := ⟨_, rfl⟩
       rw [← hEn2] at HD9 ⊢
       have HE2 := Lib.hid hEn2
       clear hg9 hown9 hn9 s0 s1 s2 s3 x0 x1 x2 x3 hEn2
       go_wp2
       go_roundw
       case rel => exact ⟨j + 1, _, by omega, by go_num, by rw [← HE2.out]; exact HD9.out⟩
       case measure => simp [intOf]; omega
    ·rw [hxd] at e1
     have HD6 := Lib.hid (HD5.out.other (grownBy_set W5 eb 1 (.int .i64 3)) HWW.out (fun g e => by cases e; exact ⟨hweb, by omega, HGE.out, _, _, HRE.out, by decide⟩))
     have hR6 := HRE.out.set 1 (.int .i64 3)
     have HRE6 : Hid (Row (W5.setCell ⟨eb, 1, none⟩ (.int .i64 3)) eb #[.string z, .int .i64 3, .bool x.e, .string ⟨#[]⟩] 89) := Lib.hid (by simpa using hR6)
     have r0 := HRE.out.cell 0; have r1 := HRE.out.cell 1; have r2 := HRE.out.cell 2; have r3 := HRE.out.cell 3
     have n1 := HRE.out.free 1
     simp only [List.getElem?_toArray, List.getElem?_cons_zero, List.getElem?_cons_succ] at r0 r1 r2 r3
     clear hR6
     have i0 : (W5.setCell ⟨eb, 1, none⟩ (.int .i64 3)).cell? ⟨wr.heap.size, 0, none⟩ = some (.string x.p) := (World.cell?_setCell_other _ _ _ _ (fun e => hxe (by cases e))).trans e0
     have hq : sqT c I k x = seqD c I k x.t := by unfold sqT; rw [if_pos hxd]
     have hsub : subN c I k x = dirN c I k x.t := by unfold subN; rw [if_pos hxd]
     rw [hq] at HIN HLE; rw [hsub] at EIN
     have HFS : Hid (fitN (dirN c I k x.t) = true) := Lib.hid (dir_fit HRD.out k x.t)
     have CKK := Lib.hid (IH.out (dp + 1) (by omega) W0 u2 (.slice (some ⟨b1, off, none⟩) I.length cap1) (M ++ (preS c I k td j).map wrN) x.p (W5.setCell ⟨eb, 1, none⟩ (.int .i64 3)) HD6.out.below HD6.out.txt HI0.out (by
      rw [← HCC.out, show x.p.data.toList = x.t from rfl, List.length_append, List.length_map]
      have := HLN.out; have := HLE.out; omega))
     rw [← HCC.out, show x.p.data.toList = x.t from rfl, List.append_assoc, ← List.map_append, ← HIN.out] at CKK
     have HMI : Hid (∃ Mi, M ++ (preS c I k td (j + 1)).map wrN = Mi ++ [wrN (dirN c I k x.t)]) := Lib.hid (by
      rw [HIN.out]
      obtain ⟨S0, hS0⟩ : ∃ S0, seqD c I k x.t = S0 ++ [dirN c I k x.t] := by cases k with
       | zero => exact ⟨[], rfl⟩
       | succ k => exact ⟨_, rfl⟩
      exact ⟨M ++ ((preS c I k td j) ++ S0).map wrN, by rw [hS0]; simp⟩)
     have HMI := Lib.hid HMI.out.choose_spec
     have p0 := HD6.out.params.cell 0; have p1 := HD6.out.params.cell 1; have p2 := HD6.out.params.cell 2
     simp only [List.getElem?_toArray, List.getElem?_cons_zero, List.getElem?_cons_succ] at p0 p1 p2
     clear hq hsub
     go_wp2_with fail
     refine CKK.out.mono ?_
     rintro e w7 ⟨v7, rfl, ho7, hk7⟩
     have HREt := Lib.hid (row_kept HRE6.out (by decide) hk7)
     have HDt := Lib.hid (HD6.out.call hk7 ho7)
     clear ho7 hk7 p0 p1 p2 e0 e1 e2 e3 r0 r1 r2 r3 n1 i0
     obtain ⟨L7, b7, o7, cp7, hv7, hpos7, hmm7, q7⟩ := last_of HDt.out.txt.strs HMI.out
     subst hv7
     obtain ⟨zz, hzz⟩ : ∃ zz : ByteArray, zz = ⟨(wrN (dirN c I k x.t)).toArray⟩ := ⟨_, rfl⟩
     rw [← hzz] at q7
     have CSM := Lib.hid (fun W => refSum_any zz (by rw [Lib.size_eq, hzz]; have := wrN_len HFS.out; show (wrN (dirN c I k x.t)).length ≤ _; omega) W)
     obtain ⟨K, hK⟩ : ∃ K : ByteArray, K = ⟨(keyN (dirN c I k x.t)).toArray⟩ := ⟨_, rfl⟩
     rw [show (⟨(shaSum zz.data.toList).toArray⟩ : ByteArray) = K by rw [hK, hzz, keyN_fit HFS.out, wrN_fit HFS.out]] at CSM
     have hEN : entE x (keyN (dirN c I k x.t)) = ⟨z, 3, x.e, K⟩ := by unfold entE; rw [HEN.out, hK, hxd]; rfl
     rw [hEN] at EIN
     have hw7 : IntKind.i64.wrap ((L7.length : Int) - 1) = ((L7.length - 1 : Nat) : Int) := (IntWalk.i64_in _ (by omega)).trans (by omega)
     clear hK hEN hzz hxd
     go_wp2_with fail
     refine (CSM.out _).mono ?_
     rintro e w8 ⟨rfl, hb8⟩
     have hR7 := HREt.out.step hb8
     have HD7 := Lib.hid (HDt.out.stays hb8)
     have hge7 : eb < w8.heap.size := hR7.lt
     clear hb8 q7 hpos7 hmm7 hw7
     have r0 := hR7.cell 0; have r1 := hR7.cell 1; have r2 := hR7.cell 2; have r3 := hR7.cell 3
     have n3 := hR7.free 3
     simp only [List.getElem?_toArray, List.getElem?_cons_zero, List.getElem?_cons_succ] at r0 r1 r2 r3
     have hR8 : Row (w8.setCell ⟨eb, 3, none⟩ (.string K)) eb #[.string z, .int .i64 3, .bool x.e, .string K] 89 := by simpa using hR7.set 3 (.string K)
     have HD8 := Lib.hid (HD7.out.other (grownBy_set w8 eb 3 (.string K)) HWW.out (fun g e => by cases e; exact ⟨hweb, by omega, HGE.out, _, _, hR7, by decide⟩))
     have s0 := hR8.cell 0; have s1 := hR8.cell 1; have s2 := hR8.cell 2; have s3 := hR8.cell 3
     have x0 := HD8.out.node.cell 0; have x1 := HD8.out.node.cell 1; have x2 := HD8.out.node.cell 2; have x3 := HD8.out.node.cell 3
     simp only [List.getElem?_toArray, List.getElem?_cons_zero, List.getElem?_cons_succ] at s0 s1 s2 s3 x0 x1 x2 x3
     have hw8 := HD8.out.size
     have HZ8 : Hid (w8.heap.size = (w8.setCell ⟨eb, 3, none⟩ (.string K)).heap.size) := Lib.hid (by simp [World.setCell])
     have hel : (preE c I k td j).length ≤ 1000000 := by have := preE_len c I k td j; omega
     clear hR7 hR8
     go_wp2_with (at_builtin; refine wpList_append_entries2 (y := ⟨z, 3, x.e, K⟩) rfl _ _ rfl HD8.out.own hw8 HZ8.out rfl rfl hel ?_)
     intro v' w9 hown9 hg9
     have hn9 := row_grownE HD8.out.node HD8.out.own hg9 hz9
     have HD9 := Lib.hid (HD8.out.added hg9 hown9 hz9 (by have := HBN.out; omega) HWW.out)
     have z0 := hn9.cell 0; have z1 := hn9.cell 1; have z2 := hn9.cell 2; have z3 := hn9.cell 3
     have m3 := hn9.free 3
     simp only [List.getElem?_toArray, List.getElem?_cons_zero, List.getElem?_cons_succ] at z0 z1 z2 z3
     obtain ⟨_, va2, vc2, hve, _, _⟩ := hown9.is
     subst hve
     rw [← EIN.out] at HD9 ⊢
     obtain ⟨En2, hEn2⟩ : ∃ En2, En2 = preE c I k td (j + 1) := ⟨_, rfl⟩
     rw [← hEn2] at HD9 ⊢
     have HE2 := Lib.hid hEn2
     clear hg9 hown9 hn9 s0 s1 s2 s3 x0 x1 x2 x3 hEn2
     go_wp2
     go_roundw
     case rel => exact ⟨j + 1, _, by omega, by go_num, by rw [← HE2.out]; exact HD9.out⟩
     case measure => simp [intOf]; omega
   ·have f1 : ((dirS x.t) == d.toList) = false := by rw [beq_eq_false_iff_ne, Lib.toList_data, ← HT.out]; exact hd
    have HIN := Lib.hid (hout hd); have EIN := Lib.hid (eout hd)
    clear hin hout ein eout hle hd hxp hxs hpl
    go_wp2_with fail
    refine (C.out _).mono ?_
    rintro e w1 ⟨rfl, hb1⟩
    have HD3 := Lib.hid (HD2.out.stays hb1)
    clear c0 c1 c2 c3 hb1 HX HD2 hB
    go_wp2_with fail
    go_roundw
    case rel => exact ⟨j + 1, vp, by omega, by go_num, by rw [HIN.out, EIN.out]; exact HD3.out⟩
    case measure => simp [intOf]; omega
  ·have hge : decide ((j : Int) < (I.length : Int)) = false := by simp; omega
   obtain ⟨PA1, PA2⟩ := pre_all c I k td (i := j) (by omega)
   have HPA := Lib.hid PA1; have HPB := Lib.hid PA2
   obtain ⟨_, va, vc, hve, _, _⟩ := HD.out.own.is
   obtain ⟨ez, hez⟩ : ∃ ez, ez = (preE c I k td j).length := ⟨_, rfl⟩
   rw [← hez] at hve
   subst hve
   have x0 := HD.out.node.cell 0; have x1 := HD.out.node.cell 1; have x2 := HD.out.node.cell 2; have x3 := HD.out.node.cell 3
   simp only [List.getElem?_toArray, List.getElem?_cons_zero, List.getElem?_cons_succ] at x0 x1 x2 x3
   obtain ⟨S2, hS2⟩ : ∃ S2 : ByteArray, S2 = ⟨(wrN (dirN c I (k + 1) td)).toArray⟩ := ⟨_, rfl⟩
   have CW2 : Hid (Calls Tryz.prog 66 #[.agg #[.int .i64 3, .string ⟨#[]⟩, .slice none 0 0, .slice va ez vc]] wr fun e w' => e = .returned (.string S2) ∧ Below wr.heap.size wr w') := Lib.hid (by
    rw [hS2]; exact rWrite_any (dirN c I (k + 1) td) (.slice none 0 0) (.slice va ez vc) wr (parts_nil _) (by rw [HPB.out]; exact HD.out.own.is))
   have HS2 : Hid (S2.data.toList = wrN (dirN c I (k + 1) td)) := Lib.hid (by rw [hS2])
   have hol : (M ++ (preS c I k td j).map wrN).length ≤ 1000000 := by rw [List.length_append, List.length_map]; have := HLN.out; omega
   have hb0 := HD.out.kept
   clear PA1 PA2 hez hpl hB hS2
   go_wp2_with fail
   with_reducible refine CW2.out.mono ?_
   rintro e w8 ⟨rfl, hb8⟩
   have HD8 := Lib.hid (HD.out.stays hb8)
   have hz8 := HD8.out.below.size
   clear hb8 x0 x1 x2 x3 hb0
   go_wp2_with (at_builtin; refine wpList_append_txt_at rfl _ _ rfl HD8.out.txt hz8 rfl rfl rfl hol ?_)
   intro v' w9 hown9 hg9 _
   have HD9 := Lib.hid (HD8.out.text hg9 hown9)
   have HS9 := Lib.hid hown9
   clear hown9 hg9
   go_wp2
   go_ret
   exact ⟨v', rfl, by
    have e : M ++ (seqD c I (k + 1) td).map wrN = M ++ (preS c I k td j).map wrN ++ [S2.data.toList] := by rw [HPA.out, HS2.out]; simp
    rw [e, List.append_assoc]; exact HS9.out, HD9.out.kept⟩
set_option maxRecDepth 100000 in
set_option maxHeartbeats 8000000 in
theorem raw_zero (mn av b mx : Nat) (I : List It) : RawAt mn av b mx I 0 := by
 intro dp hdp W0 v iv M d w hbw ho hi hL
 obtain ⟨V, hV⟩ : ∃ V, V = (w.alloc (.cells #[.int .i64 mn, .int .i64 av, .int .i64 mx] 23)).alloc (.cells #[.int .i64 3, .string ⟨#[]⟩, .slice none 0 0, .slice none 0 0] 71) := ⟨_, rfl⟩
 have hbV : Below w.heap.size w V := by rw [hV]; exact ((Below.refl _ _).alloc (Nat.le_refl _) _).alloc (by simp) _
 have hRN : Row V (w.heap.size + 1) #[.int .i64 3, .string ⟨#[]⟩, .slice none 0 0, .slice none 0 0] 71 := by
  have := Row.made (w.alloc (.cells #[.int .i64 mn, .int .i64 av, .int .i64 mx] 23)) #[.int .i64 3, .string ⟨#[]⟩, .slice none 0 0, .slice none 0 0] 71
  rw [hV]; simpa using this
 have x0 := hRN.cell 0; have x1 := hRN.cell 1; have x2 := hRN.cell 2; have x3 := hRN.cell 3
 simp only [List.getElem?_toArray, List.getElem?_cons_zero, List.getElem?_cons_succ] at x0 x1 x2 x3
 have q8 : decide ((dp : Int) ≤ 8) = false := by simp; omega
 have HV := Lib.hid hV; have HB0 := Lib.hid hbV
 have HO := Lib.hid (ho.stays hbV); have HBW := Lib.hid (below_step hbw hbV)
 obtain ⟨S, hS⟩ : ∃ S : ByteArray, S = ⟨(wrN ⟨3, ⟨#[]⟩, [], []⟩).toArray⟩ := ⟨_, rfl⟩
 have CW : Hid (∀ W, Calls Tryz.prog 66 #[.agg #[.int .i64 3, .string ⟨#[]⟩, .slice none 0 0, .slice none 0 0]] W fun e w' => e = .returned (.string S) ∧ Below W.heap.size W w') := Lib.hid (fun W => by
  rw [hS]; exact rWrite_any ⟨3, ⟨#[]⟩, [], []⟩ (.slice none 0 0) (.slice none 0 0) W (parts_nil _) (entries_nil _))
 have HE : Hid (M ++ (seqD (cutN mn b mx) I 0 d.data.toList).map wrN = M ++ [S.data.toList]) := Lib.hid (by rw [hS]; rfl)
 rw [HE.out]
 obtain ⟨hm1, a1, cap1, rfl, _, _⟩ := hi
 have hmm : I.length ≤ 9223372036854775807 := by unfold maxLen at hm1; omega
 have hol : M.length ≤ 1000000 := by omega
 clear hV hbV hRN hm1 hL HE hS
 rcases h0 : decide ((0 : Int) < (I.length : Int)) with _ | _
 ·have h1 : ¬ 0 < I.length := by simpa using h0
  go_enter Tryz.func37, Tryz.ntmps37
  go_wp2_with fail
  rw [← HV.out]
  refine wp_loop_rounds 1 ?_
  rw [rounds_succ]
  go_wp2_with fail
  with_reducible refine (CW.out _).mono ?_
  rintro e w8 ⟨rfl, hb8⟩
  have HO8 := Lib.hid (HO.out.stays hb8)
  have hz8 : W0.heap.size ≤ w8.heap.size := (below_step HBW.out hb8).size
  have hk8 := Kept.of_below (B := W0.heap.size) (below_step HB0.out hb8)
  have HK8 := Lib.hid hk8
  clear hb8 x0 x1 x2 x3 hk8
  go_wp2_with (at_builtin; refine wpList_append_txt_at rfl _ _ rfl HO8.out hz8 rfl rfl rfl hol ?_)
  intro v' w9 hown9 hg9 _
  have HK9 := Lib.hid (HK8.out.trans (Kept.grown hg9 fun g e => HO8.out.row e))
  have HS9 := Lib.hid hown9
  clear hown9 hg9
  go_wp2
  go_ret
  exact ⟨v', rfl, HS9.out, HK9.out⟩
 ·have h1 : 0 < I.length := by simpa using h0
  go_enter Tryz.func37, Tryz.ntmps37
  go_wp2_with fail
  rw [← HV.out]
  refine wp_loop_rounds 1 ?_
  rw [rounds_succ]
  go_wp2_with fail
  with_reducible refine (CW.out _).mono ?_
  rintro e w8 ⟨rfl, hb8⟩
  have HO8 := Lib.hid (HO.out.stays hb8)
  have hz8 : W0.heap.size ≤ w8.heap.size := (below_step HBW.out hb8).size
  have hk8 := Kept.of_below (B := W0.heap.size) (below_step HB0.out hb8)
  have HK8 := Lib.hid hk8
  clear hb8 x0 x1 x2 x3 hk8
  go_wp2_with (at_builtin; refine wpList_append_txt_at rfl _ _ rfl HO8.out hz8 rfl rfl rfl hol ?_)
  intro v' w9 hown9 hg9 _
  have HK9 := Lib.hid (HK8.out.trans (Kept.grown hg9 fun g e => HO8.out.row e))
  have HS9 := Lib.hid hown9
  clear hown9 hg9
  go_wp2
  go_ret
  exact ⟨v', rfl, HS9.out, HK9.out⟩
theorem rawAt_all (mn av b mx : Nat) (hF : FitAt mn av mx b) (I : List It) (R : ReadyT (cutN mn b mx) I) (hs : ∀ x ∈ I, x.p.size ≤ 100000 ∧ x.c.size ≤ 100000) : ∀ k, RawAt mn av b mx I k
 | 0 => raw_zero mn av b mx I
 | k + 1 => raw_step mn av b mx hF I R hs k (rawAt_all mn av b mx hF I R hs k)
set_option maxRecDepth 100000 in
set_option maxHeartbeats 8000000 in
theorem rRaws_any (mn av b mx : Nat) (hF : FitAt mn av mx b) (iv : Value) (I : List It) (w : World) (hi : IsItems w iv I) (R : ReadyT (cutN mn b mx) I) (hs : ∀ x ∈ I, x.p.size ≤ 100000 ∧ x.c.size ≤ 100000) :
  Calls Tryz.prog 13 #[pV mn av mx, iv] w fun e w' => ∃ v', e = .returned v' ∧ OwnTxt w w' v' (rawsT (cutN mn b mx) I) ∧ Below w.heap.size w w' := by
 have hlen := seqT_len R
 obtain ⟨V, hV⟩ : ∃ V, V = w.alloc (.cells #[.int .i64 mn, .int .i64 av, .int .i64 mx] 23) := ⟨_, rfl⟩
 have hbV : Below w.heap.size w V := by rw [hV]; exact (Below.refl _ _).alloc (Nat.le_refl _) _
 have hR0 : Row V w.heap.size #[.int .i64 mn, .int .i64 av, .int .i64 mx] 23 := by rw [hV]; exact Row.made _ _ _
 have p0 := hR0.cell 0; have p1 := hR0.cell 1; have p2 := hR0.cell 2
 simp only [List.getElem?_toArray, List.getElem?_cons_zero, List.getElem?_cons_succ] at p0 p1 p2
 have CK : Hid (Calls Tryz.prog 37 #[pV mn av mx, iv, .slice none 0 0, .string ⟨#[]⟩, .int .i64 0] V (RetRaw w (rawsT (cutN mn b mx) I) V)) := Lib.hid
  (rawAt_all mn av b mx hF I R hs 9 0 rfl w (.slice none 0 0) iv [] ⟨#[]⟩ V hbV ((ownTxt_nil w).stays hbV) hi (by
   have : (seqD (cutN mn b mx) I 9 (⟨#[]⟩ : ByteArray).data.toList).length ≤ 70000 := hlen
   have h7 : (seqD (cutN mn b mx) I 9 (⟨#[]⟩ : ByteArray).data.toList).length ≤ 700000 := by omega
   simpa using h7))
 have HV := Lib.hid hV; have HB0 := Lib.hid hbV
 obtain ⟨_, a1, cap1, rfl, _, _⟩ := hi
 clear hF hs hlen hV hbV hR0 R
 go_enter Tryz.func13, Tryz.ntmps13
 go_wp2_with fail
 rw [← HV.out]
 go_wp2_with fail
 with_reducible refine CK.out.mono ?_
 rintro e w8 ⟨v8, rfl, ho8, hk8⟩
 have HO8 := Lib.hid ho8
 have HB8 := Lib.hid (hk8.below HB0.out HB0.out.size)
 clear ho8 hk8 p0 p1 p2
 go_wp2
 go_ret
 exact ⟨v8, rfl, HO8.out, HB8.out⟩
end Go.Proofs.YtjpjpmkadoaipaaGreatDoor
namespace Go.Proofs.YtjpjpmkadoaipaaGreatDoor
theorem inP_iff {A B : List (List UInt8)} : inP A B = true ↔ ∃ r, r ≠ [] ∧ B = A ++ r := by
 unfold inP
 rw [decide_eq_true_eq]
 constructor
 ·rintro ⟨h1, h2⟩
  refine ⟨B.drop A.length, fun e => ?_, ?_⟩
  ·have := congrArg List.length e
   rw [List.length_drop] at this
   simp at this; omega
  ·conv => lhs; rw [← List.take_append_drop A.length B, h2]
 ·rintro ⟨r, hr, rfl⟩
  refine ⟨?_, by simp⟩
  rw [List.length_append]
  have := List.length_pos_iff.2 hr
  omega
def blkT (L : List It) (d : List UInt8) : List It := L.filter fun y => inP (cs d) (cs y.t)
theorem mem_blk {L : List It} {d : List UInt8} {y : It} : y ∈ blkT L d ↔ y ∈ L ∧ inP (cs d) (cs y.t) = true := by unfold blkT; simp
theorem order_cs {L : List It} (F : TFit L) {x y : It} (hx : x ∈ L) (hy : y ∈ L) : orderS x.t y.t = cmpP (cs x.t) (cs y.t) := by
 rw [(path_ok (F.path x hx)).pts, (path_ok (F.path y hy)).pts]; rfl
theorem it_one {L : List It} (F : TFit L) {x y : It} (hx : x ∈ L) (hy : y ∈ L) (e : x.t = y.t) : x = y := by
 have key : ∀ L : List It, Rise L → ∀ x ∈ L, ∀ y ∈ L, x.t = y.t → x = y := by
  intro L
  induction L with
  | nil => intro _ x hx; cases hx
  | cons a L ih =>
   intro h x hx y hy e
   obtain ⟨h1, h2⟩ := List.pairwise_cons.1 h
   rcases List.mem_cons.1 hx with rfl | hx' <;> rcases List.mem_cons.1 hy with rfl | hy'
   ·rfl
   ·exact absurd e (order_ne (h1 y hy'))
   ·exact absurd e.symm (order_ne (h1 x hx'))
   ·exact ih h2 x hx' y hy' e
 exact key L F.rise x hx y hy e
theorem rise_ext_it : ∀ {L M : List It}, Rise L → Rise M → (∀ y, y ∈ L ↔ y ∈ M) → L = M
 | [], [], _, _, _ => rfl
 | [], y :: M, _, _, h => absurd ((h y).2 (by simp)) (by simp)
 | x :: L, [], _, _, h => absurd ((h x).1 (by simp)) (by simp)
 | x :: L, y :: M, hL, hM, h => by
  obtain ⟨a1, a2⟩ := List.pairwise_cons.1 hL
  obtain ⟨b1, b2⟩ := List.pairwise_cons.1 hM
  have irr : ∀ z : It, orderS z.t z.t ≠ -1 := fun z e => by rw [order_self] at e; cases e
  have hxy : x = y := by
   rcases List.mem_cons.1 ((h x).1 (by simp)) with e | e
   ·exact e
   ·rcases List.mem_cons.1 ((h y).2 (by simp)) with e' | e'
    ·exact e'.symm
    ·exact absurd (order_trans (b1 x e) (a1 y e')) (irr y)
  subst hxy
  congr 1
  refine rise_ext_it a2 b2 (fun z => ⟨fun hz => ?_, fun hz => ?_⟩)
  ·rcases List.mem_cons.1 ((h z).1 (List.mem_cons_of_mem _ hz)) with e | e
   ·exact absurd (e ▸ a1 z hz) (irr _)
   ·exact e
  ·rcases List.mem_cons.1 ((h z).2 (List.mem_cons_of_mem _ hz)) with e | e
   ·exact absurd (e ▸ b1 z hz) (irr _)
   ·exact e
theorem in_cs {L : List It} (F : TFit L) {d : List UInt8} {x : It} (hx : x ∈ inD L d) : cs x.t = cs d ++ [lastN x.t] := (dir_iff (F.path x (mem_inD.1 hx).1)).1 (mem_inD.1 hx).2
theorem in_blk {L : List It} (F : TFit L) {d : List UInt8} {x : It} (hx : x ∈ inD L d) : inP (cs d) (cs x.t) = true := inP_iff.2 ⟨_, by simp, in_cs F hx⟩
theorem sub_blk {L : List It} (F : TFit L) {d : List UInt8} {x y : It} (hx : x ∈ inD L d) (hy : inP (cs x.t) (cs y.t) = true) : inP (cs d) (cs y.t) = true := by
 obtain ⟨r, hr, e⟩ := inP_iff.1 hy
 exact inP_iff.2 ⟨[lastN x.t] ++ r, by simp, by rw [e, in_cs F hx, List.append_assoc]⟩
theorem blk_eq {L : List It} (F : TFit L) (d : List UInt8) : blkT L d = (inD L d).flatMap fun x => x :: blkT L x.t := by
 refine rise_ext_it (F.rise.sublist List.filter_sublist) ?_ (fun y => ?_)
 ·unfold Rise
  rw [List.pairwise_flatMap]
  refine ⟨fun x hx => List.pairwise_cons.2 ⟨fun y hy => ?_, F.rise.sublist List.filter_sublist⟩, ?_⟩
  ·obtain ⟨h1, h2⟩ := mem_blk.1 hy
   obtain ⟨r, hr, e⟩ := inP_iff.1 h2
   rw [order_cs F (mem_inD.1 hx).1 h1, e]
   exact cmp_below _ hr
  ·have hs : (inD L d).Pairwise fun a b => orderS a.t b.t = -1 := F.rise.sublist List.filter_sublist
   refine hs.imp_of_mem fun {x1 x2} m1 m2 ho a ha b hb => ?_
   have hl : ∀ {x z : It}, x ∈ inD L d → z ∈ x :: blkT L x.t → z ∈ L ∧ ∃ r, cs z.t = cs d ++ lastN x.t :: r := fun {x z} hx hz => by
    rcases List.mem_cons.1 hz with e | hz
    ·subst e; exact ⟨(mem_inD.1 hx).1, [], in_cs F hx⟩
    ·obtain ⟨h1, h2⟩ := mem_blk.1 hz
     obtain ⟨r, hr, e⟩ := inP_iff.1 h2
     exact ⟨h1, r, by rw [e, in_cs F hx, List.append_assoc]; rfl⟩
   obtain ⟨ha1, ra, ea⟩ := hl m1 ha
   obtain ⟨hb1, rb, eb⟩ := hl m2 hb
   rw [order_cs F (mem_inD.1 m1).1 (mem_inD.1 m2).1, in_cs F m1, in_cs F m2, cmp_app] at ho
   rw [order_cs F ha1 hb1, ea, eb, cmp_app, cmp_cons, if_pos (cmp_names ho)]
 ·rw [mem_blk, List.mem_flatMap]
  constructor
  ·rintro ⟨h1, h2⟩
   obtain ⟨r, hr, e⟩ := inP_iff.1 h2
   cases r with
   | nil => exact absurd rfl hr
   | cons n r =>
    cases r with
    | nil =>
     refine ⟨y, mem_inD.2 ⟨h1, (dir_of (F.path y h1) e).1⟩, by simp⟩
    | cons m r =>
     have e' : cs y.t = (cs d ++ [n]) ++ (m :: r) := by rw [e]; simp
     obtain ⟨z, hz, hzc, _⟩ := above_dir F (cs d ++ [n]) (by simp) r.length (m :: r) y rfl h1 e'
     refine ⟨z, mem_inD.2 ⟨hz, (dir_of (F.path z hz) hzc).1⟩, List.mem_cons_of_mem _ (mem_blk.2 ⟨h1, inP_iff.2 ⟨m :: r, by simp, by rw [e', hzc]⟩⟩)⟩
  ·rintro ⟨x, hx, hy⟩
   rcases List.mem_cons.1 hy with e | hy
   ·subst e; exact ⟨(mem_inD.1 hx).1, in_blk F hx⟩
   ·obtain ⟨h1, h2⟩ := mem_blk.1 hy
    exact ⟨h1, sub_blk F hx h2⟩
theorem file_blk {L : List It} (F : TFit L) {x : It} (hx : x ∈ L) (hd : x.d = false) : blkT L x.t = [] := by
 refine List.filter_eq_nil_iff.2 fun y hy hp => ?_
 obtain ⟨r, hr, e⟩ := inP_iff.1 hp
 obtain ⟨m, r', rfl⟩ := List.exists_cons_of_ne_nil hr
 obtain ⟨z, hz, hzc, hzd⟩ := above_dir F (cs x.t) (path_ok (F.path x hx)).nil r'.length (m :: r') y rfl hy e
 have := it_one F hz hx (cs_inj hzc)
 rw [this, hd] at hzd; cases hzd
theorem blk_top {L : List It} (F : TFit L) : blkT L [] = L := by
 refine List.filter_eq_self.2 fun y hy => inP_iff.2 ⟨cs y.t, (path_ok (F.path y hy)).nil, rfl⟩
end Go.Proofs.YtjpjpmkadoaipaaGreatDoor
set_option linter.unusedVariables false
namespace Go.Proofs.YtjpjpmkadoaipaaGreatDoor
open Classical in
noncomputable def readN (s : List UInt8) : Option Nd := if h : ∃ n, fitN n = true ∧ wrL n = s then some h.choose else none
theorem readN_wr {n : Nd} (h : fitN n = true) : readN (wrL n) = some n := by
 have hx : ∃ m, fitN m = true ∧ wrL m = wrL n := ⟨n, h, rfl⟩
 unfold readN
 rw [dif_pos hx]
 exact congrArg some (wrL_inj hx.choose_spec.1 h hx.choose_spec.2)
theorem readN_some {s : List UInt8} {n : Nd} (h : readN s = some n) : fitN n = true ∧ wrL n = s := by
 unfold readN at h
 by_cases hx : ∃ n, fitN n = true ∧ wrL n = s
 ·rw [dif_pos hx] at h
  rw [← Option.some.inj h]
  exact hx.choose_spec
 ·rw [dif_neg hx] at h; cases h
theorem readN_rd {s : List UInt8} {n : Nd} {e : Int} (h : RdOk s n e) : (e = 0 ∧ readN s = some n) ∨ (e = 2 ∧ n = zeroNd ∧ readN s = none) := by
 rcases h with ⟨h1, h2, h3⟩ | ⟨h1, h2, h3⟩
 ·exact .inl ⟨h1, by rw [← h3]; exact readN_wr h2⟩
 ·refine .inr ⟨h1, h2, ?_⟩
  cases hr : readN s with
  | none => rfl
  | some m => exact absurd (readN_some hr).2 (h3 m (readN_some hr).1)
noncomputable def loadE (O : List Ob) (t : List UInt8) (kd : Int) : Except Int Nd :=
 match getO O t with
 | none => .error 5
 | some y => if shaSum y.u = t then (match readN y.u with
  | none => .error 2
  | some n => if n.kd = kd then .ok n else .error 10) else .error 11
noncomputable def partsE (O : List Ob) : List Pt → Int → List UInt8 → Except Int (List UInt8)
 | [], _, s => .ok s
 | p :: P, room, s => match loadE O p.k.data.toList 1 with
  | .error e => .error e
  | .ok n => if (n.d.size : Int) = p.n ∧ (n.d.size : Int) ≤ room - s.length then partsE O P room (s ++ n.d.data.toList) else .error 4
noncomputable def fileE (O : List Ob) (t : List UInt8) (room : Int) : Except Int (List UInt8) :=
 match loadE O t 2 with
 | .error e => .error e
 | .ok n => partsE O n.ps room []
noncomputable def ent1E (O : List Ob) (sub : List UInt8 → List UInt8 → List It → Except Int (List It)) (dp : List UInt8) (out : List It) (e : En) : Except Int (List It) :=
 if 60 ≤ out.length then .error 9 else
 if e.kd = 3 then sub e.k.data.toList (dp ++ e.m.data.toList ++ [47]) (out ++ [⟨⟨(dp ++ e.m.data.toList).toArray⟩, true, false, ⟨#[]⟩⟩])
 else match fileE O e.k.data.toList (65536 - (sizeT out : Int)) with
  | .error x => .error x
  | .ok s => .ok (out ++ [⟨⟨(dp ++ e.m.data.toList).toArray⟩, false, e.x, ⟨s.toArray⟩⟩])
noncomputable def entsE (f : List It → En → Except Int (List It)) : List En → List It → Except Int (List It)
 | [], out => .ok out
 | e :: E, out => match f out e with
  | .error x => .error x
  | .ok out' => entsE f E out'
noncomputable def dirE (O : List Ob) : Nat → List UInt8 → List UInt8 → List It → Except Int (List It)
 | 0, key, dp, out => match loadE O key 3 with
  | .error x => .error x
  | .ok n => entsE (fun _ _ => .error 8) n.es out
 | k + 1, key, dp, out => match loadE O key 3 with
  | .error x => .error x
  | .ok n => entsE (ent1E O (dirE O k) dp) n.es out
noncomputable def treeE (O : List Ob) (key : List UInt8) : Except Int (List It) := dirE O 8 key [] []
theorem entsE_ok {f : List It → En → Except Int (List It)} {e : En} {E : List En} {out o : List It} (h : f out e = .ok o) : entsE f (e :: E) out = entsE f E o := by
 conv => lhs; unfold entsE
 rw [h]
theorem ent1_dir {O : List Ob} {sub : List UInt8 → List UInt8 → List It → Except Int (List It)} {dp : List UInt8} {out : List It} {e : En} (h : out.length < 60) (hk : e.kd = 3) :
  ent1E O sub dp out e = sub e.k.data.toList (dp ++ e.m.data.toList ++ [47]) (out ++ [⟨⟨(dp ++ e.m.data.toList).toArray⟩, true, false, ⟨#[]⟩⟩]) := by
 unfold ent1E
 rw [if_neg (by omega), if_pos hk]
theorem ent1_file {O : List Ob} {sub : List UInt8 → List UInt8 → List It → Except Int (List It)} {dp : List UInt8} {out : List It} {e : En} (h : out.length < 60) (hk : e.kd ≠ 3) {s : List UInt8} (hf : fileE O e.k.data.toList (65536 - (sizeT out : Int)) = .ok s) :
  ent1E O sub dp out e = .ok (out ++ [⟨⟨(dp ++ e.m.data.toList).toArray⟩, false, e.x, ⟨s.toArray⟩⟩]) := by
 unfold ent1E
 rw [if_neg (by omega), if_neg hk, hf]
theorem ent1_err {O : List Ob} {sub : List UInt8 → List UInt8 → List It → Except Int (List It)} {dp : List UInt8} {out : List It} {e : En} (h : out.length < 60) (hk : e.kd ≠ 3) {x : Int} (hf : fileE O e.k.data.toList (65536 - (sizeT out : Int)) = .error x) :
  ent1E O sub dp out e = .error x := by
 unfold ent1E
 rw [if_neg (by omega), if_neg hk, hf]
def HasN (O : List Ob) (n : Nd) : Prop := ∃ y, getO O (keyN n) = some y ∧ y.u = wrN n
theorem load_has {O : List Ob} {n : Nd} (h : HasN O n) (hf : fitN n = true) {kd : Int} (hk : n.kd = kd) : loadE O (keyN n) kd = .ok n := by
 obtain ⟨y, h1, h2⟩ := h
 unfold loadE
 rw [h1]
 show (if shaSum y.u = keyN n then _ else _) = _
 rw [h2, wrN_fit hf, if_pos (keyN_fit hf).symm, readN_wr hf]
 exact if_pos hk
theorem parts_ok {O : List Ob} {room : Int} : ∀ (P : List (List UInt8)) (s : List UInt8), (∀ t ∈ P, HasN O (pieceN t) ∧ fitN (pieceN t) = true) → (s.length + P.flatten.length : Int) ≤ room → partsE O (P.map partP) room s = .ok (s ++ P.flatten)
 | [], s, _, _ => by simp [partsE]
 | t :: P, s, h, hr => by
  obtain ⟨h1, h2⟩ := h t (by simp)
  have hk : (partP t).k.data.toList = keyN (pieceN t) := by simp [partP]
  have hd : (pieceN t).d.size = t.length := by unfold pieceN; rw [Lib.size_eq]
  have hl : (pieceN t).d.data.toList = t := by simp [pieceN]
  rw [List.flatten_cons, List.length_append] at hr
  rw [List.map_cons]
  unfold partsE
  rw [hk, load_has h1 h2 (kd := 1) rfl]
  show (if _ then _ else _) = _
  rw [if_pos ⟨by rw [hd]; rfl, by rw [hd]; omega⟩, hl, parts_ok P (s ++ t) (fun u hu => h u (List.mem_cons_of_mem _ hu)) (by rw [List.length_append]; omega)]
  rw [List.flatten_cons, List.append_assoc]
theorem file_flat {c : List UInt8 → Nat} {L : List It} (R : ReadyT c L) (l : List UInt8) : (pcs c l).flatten = l := by
 obtain ⟨mn, mx, H, _⟩ := R.cut
 exact pcs_flat H.pos l.length l (Nat.le_refl _)
theorem file_ok {c : List UInt8 → Nat} {L : List It} (R : ReadyT c L) {O : List Ob} {x : It} (hx : x ∈ L) {room : Int} (h : ∀ n ∈ seqF c x.b, HasN O n) (hr : (x.b.length : Int) ≤ room) :
  fileE O (keyN (fileN c x.b)) room = .ok x.b := by
 unfold fileE
 rw [load_has (h _ (file_mem _ _)) (file_fit R hx) (kd := 2) rfl]
 show partsE O ((pcs c x.b).map partP) room [] = _
 rw [parts_ok _ _ (fun t ht => ⟨h _ (piece_mem ht), by have := pcs_sizes R x.b t ht; exact piece_fit this.1 this.2⟩) (by rw [file_flat R]; simpa using hr), file_flat R, List.nil_append]
def preD (d : List UInt8) : List UInt8 := if d = [] then [] else d ++ [47]
theorem pre_name {L : List It} (F : TFit L) {d : List UInt8} {x : It} (hx : x ∈ inD L d) : preD d ++ lastN x.t = x.t := by
 have hp := F.path x (mem_inD.1 hx).1
 have h1 := in_cs F hx
 rw [(path_ok hp).pts] at h1
 have h2 := joinS_pts x.t
 rw [h1] at h2
 unfold preD
 by_cases hd : d = []
 ·rw [if_pos hd]
  subst hd
  rw [cs_nil] at h2
  exact h2
 ·rw [if_neg hd]
  have h3 : cs d = pts d := if_neg hd
  rw [h3, joinS_snoc (pts_ne d), joinS_pts] at h2
  rw [List.append_assoc]; exact h2
theorem it_made {L : List It} (F : TFit L) {d : List UInt8} {x : It} (hx : x ∈ inD L d) :
  (x.d = true → (⟨⟨(preD d ++ lastN x.t).toArray⟩, true, false, ⟨#[]⟩⟩ : It) = x) ∧ (x.d = false → (⟨⟨(preD d ++ lastN x.t).toArray⟩, false, x.e, ⟨x.b.toArray⟩⟩ : It) = x) := by
 have hb := F.form x (mem_inD.1 hx).1
 rw [pre_name F hx]
 refine ⟨fun hd => ?_, fun hd => ?_⟩
 ·unfold badI at hb
  rw [hd] at hb
  simp at hb
  refine it_ext (by simp [It.t]) hd.symm hb.2.symm (ba_ext ?_)
  rw [hb.1]; rfl
 ·exact it_ext (by simp [It.t]) hd.symm rfl (ba_ext (by simp [It.b]))
theorem no_deep {L : List It} (F : TFit L) {d : List UInt8} (h : (cs d).length = 8) : inD L d = [] := by
 refine List.eq_nil_iff_forall_not_mem.2 fun x hx => ?_
 have h1 := in_cs F hx
 have h2 := (path_ok (F.path x (mem_inD.1 hx).1)).len
 rw [h1, List.length_append, h] at h2
 simp at h2
theorem dir_ok {c : List UInt8 → Nat} {L : List It} (R : ReadyT c L) {O : List Ob} : ∀ (k : Nat) (d : List UInt8) (out : List It), (cs d).length + k = 8 → (∀ n ∈ seqD c L (k + 1) d, HasN O n) →
  out.length + (blkT L d).length ≤ 60 → sizeT out + sizeT (blkT L d) ≤ 65536 → dirE O k (keyN (dirN c L (k + 1) d)) (preD d) out = .ok (out ++ blkT L d)
 | 0, d, out, hk, h, _, _ => by
  have h0 := no_deep R.fit hk
  have hb : blkT L d = [] := by rw [blk_eq R.fit, h0]; rfl
  unfold dirE
  rw [load_has (h _ (top_mem _ _ _ _)) (dir_fit R _ _) (dirN_kd ..)]
  show entsE _ (dirN c L (0 + 1) d).es out = _
  rw [dirN_es, h0, hb]
  simp [entsE]
 | k + 1, d, out, hk, h, hl, hs => by
  unfold dirE
  rw [load_has (h _ (top_mem _ _ _ _)) (dir_fit R _ _) (dirN_kd ..)]
  show entsE _ (dirN c L (k + 1 + 1) d).es out = _
  rw [dirN_es]
  have step : ∀ (C : List It) (out : List It), (∀ x ∈ C, x ∈ inD L d) → out.length + (C.flatMap fun x => x :: blkT L x.t).length ≤ 60 → sizeT out + sizeT (C.flatMap fun x => x :: blkT L x.t) ≤ 65536 →
    entsE (ent1E O (dirE O k) (preD d)) (C.map fun x => entE x (keyN (subN c L (k + 1) x))) out = .ok (out ++ C.flatMap fun x => x :: blkT L x.t) := by
   intro C
   induction C with
   | nil => intro out _ _ _; simp [entsE]
   | cons x C ih =>
    intro out hC hl hs
    have hx := hC x (by simp)
    have hm := (mem_inD.1 hx).1
    rw [List.flatMap_cons, List.cons_append, List.length_cons, List.length_append] at hl
    rw [List.flatMap_cons, List.cons_append, sizeT_cons, sizeT_app] at hs
    obtain ⟨m1, m2⟩ := it_made R.fit hx
    have e1 : (entE x (keyN (subN c L (k + 1) x))).k.data.toList = keyN (subN c L (k + 1) x) := by simp [entE]
    have e2 : (entE x (keyN (subN c L (k + 1) x))).m.data.toList = lastN x.t := by simp [entE]
    have e5 : (entE x (keyN (subN c L (k + 1) x))).x = x.e := rfl
    have hsz0 : sizeT [] = 0 := rfl
    rw [List.map_cons, List.flatMap_cons]
    have h60 : out.length < 60 := by omega
    cases hd : x.d
    ·have e3 : (entE x (keyN (subN c L (k + 1) x))).kd ≠ 3 := by show (if x.d then (3 : Int) else 2) ≠ 3; rw [hd]; decide
     have e4 : subN c L (k + 1) x = fileN c x.b := by unfold subN; rw [hd]; rfl
     have hb := file_blk R.fit hm hd
     have hfl := file_ok R hm (O := O) (room := 65536 - (sizeT out : Int)) (fun n hn => h n (sub_file hx hd hn)) (by
      have : x.b.length = x.c.size := by unfold It.b; rw [Lib.size_eq]
      omega)
     rw [← e4, ← e1] at hfl
     rw [entsE_ok (ent1_file h60 e3 hfl), e2, e5, m2 hd]
     rw [hb] at hl hs ⊢
     rw [ih (out ++ [x]) (fun y hy => hC y (List.mem_cons_of_mem _ hy)) (by rw [List.length_append]; simp at hl ⊢; omega) (by rw [sizeT_app, sizeT_cons]; omega)]
     simp
    ·have e3 : (entE x (keyN (subN c L (k + 1) x))).kd = 3 := by show (if x.d then (3 : Int) else 2) = 3; rw [hd]; rfl
     have e4 : subN c L (k + 1) x = dirN c L (k + 1) x.t := by unfold subN; rw [hd]; rfl
     have hp : preD d ++ lastN x.t ++ [47] = preD x.t := by
      rw [pre_name R.fit hx]
      unfold preD
      rw [if_neg (fun e => (path_ok (R.fit.path x hm)).nil (by rw [e, cs_nil]))]
     have hcl : (cs x.t).length + k = 8 := by rw [in_cs R.fit hx, List.length_append]; simp; omega
     have hsub := dir_ok R (O := O) k x.t (out ++ [x]) hcl (fun n hn => h n (sub_dir hx hd hn)) (by rw [List.length_append]; simp; omega) (by rw [sizeT_app, sizeT_cons]; have : sizeT [] = 0 := rfl; omega)
     rw [entsE_ok ((ent1_dir h60 e3).trans (by rw [e1, e2, e4, hp, m1 hd]; exact hsub))]
     rw [ih (out ++ [x] ++ blkT L x.t) (fun y hy => hC y (List.mem_cons_of_mem _ hy)) (by rw [List.length_append, List.length_append, List.length_singleton]; omega) (by rw [sizeT_app, sizeT_app, sizeT_cons]; have : sizeT [] = 0 := rfl; omega)]
     simp
  have hb := blk_eq R.fit d
  rw [hb] at hl hs ⊢
  exact step (inD L d) out (fun _ hx => hx) hl hs
theorem tree_ok {c : List UInt8 → Nat} {L : List It} (R : ReadyT c L) {O : List Ob} (h : ∀ n ∈ seqT c L, HasN O n) : treeE O (keyN (topT c L)) = .ok L := by
 have hb := blk_top R.fit
 have := dir_ok R (O := O) 8 [] [] (by rw [cs_nil]; rfl) h (by rw [hb]; simpa using R.fit.len) (by rw [hb]; have := R.fit.size; have h0 : sizeT [] = 0 := rfl; omega)
 rw [hb, List.nil_append] at this
 exact this
theorem objs_has {c : List UInt8 → Nat} {L : List It} (R : ReadyT c L) (hc : ¬ Clash (rawsT c L)) {n : Nd} (hn : n ∈ seqT c L) : HasN (objsT c L) n ∧ obN n ∈ objsT c L := by
 obtain ⟨y, hy, e⟩ := objs_key R hn
 obtain ⟨m, hm, rfl⟩ := objs_mem hy
 rw [obN_t] at e
 have := same_node hc (seqT_fit R m hm) (seqT_fit R n hn) (raw_mem hm) (raw_mem hn) e
 subst this
 exact ⟨⟨obN m, (getO_some (objs_fit c L).1).2 ⟨hy, obN_t m⟩, obN_u m⟩, hy⟩
end Go.Proofs.YtjpjpmkadoaipaaGreatDoor
set_option linter.unusedVariables false
namespace Go.Proofs.YtjpjpmkadoaipaaGreatDoor
noncomputable def nodeO (O : List Ob) (t : Txt) : Option Nd := (getO O t).bind fun y => readN y.u
noncomputable def kidsO (O : List Ob) (t : Txt) : List Txt := match nodeO O t with
 | none => []
 | some n => kidsN n
inductive ReachO (O : List Ob) (F : List Txt) : Txt → Prop
 | start {t : Txt} : t ∈ F → t.length = 32 → ReachO O F t
 | kid {t u : Txt} : ReachO O F t → u ∈ kidsO O t → ReachO O F u
def WholeO (O : List Ob) (F : List Txt) : Prop := ∀ t, ReachO O F t → (nodeO O t).isSome = true
theorem kidsN_len {n : Nd} (h : fitN n = true) : ∀ t ∈ kidsN n, t.length = 32 := by
 intro t ht
 rcases fit_kinds h with e | e | e
 ·obtain ⟨_, _, h1, h2⟩ := fit1 e h
  unfold kidsN at ht
  rw [h1, h2] at ht
  cases ht
 ·obtain ⟨_, h1, _, h2⟩ := fit2 e h
  unfold kidsN at ht
  rw [h1] at ht
  rcases List.mem_append.1 ht with ht | ht
  ·obtain ⟨p, hp, rfl⟩ := List.mem_map.1 ht
   have := (okPt_iff.1 ((fitFile_iff.1 h2).1 p hp)).1
   rw [← Lib.size_eq]; exact this
  ·cases ht
 ·obtain ⟨_, h1, _, h2⟩ := fit3 e h
  unfold kidsN at ht
  rw [h1] at ht
  rcases List.mem_append.1 ht with ht | ht
  ·cases ht
  ·obtain ⟨p, hp, rfl⟩ := List.mem_map.1 ht
   have := (okEn_iff.1 ((fitDir_iff.1 h2).1 p hp)).2.1
   rw [← Lib.size_eq]; exact this
theorem nodeO_fit {O : List Ob} {t : Txt} {n : Nd} (h : nodeO O t = some n) : fitN n = true := by
 unfold nodeO at h
 cases hg : getO O t with
 | none => rw [hg] at h; cases h
 | some y => rw [hg] at h; exact (readN_some h).1
theorem kidsO_len {O : List Ob} {t u : Txt} (h : u ∈ kidsO O t) : u.length = 32 := by
 unfold kidsO at h
 cases hn : nodeO O t with
 | none => rw [hn] at h; cases h
 | some n => rw [hn] at h; exact kidsN_len (nodeO_fit hn) u h
theorem reach_len {O : List Ob} {F : List Txt} {t : Txt} (h : ReachO O F t) : t.length = 32 := by
 induction h with
 | start _ h => exact h
 | kid _ h _ => exact kidsO_len h
theorem reach_mono {O : List Ob} {F G : List Txt} (h : ∀ t ∈ F, t.length = 32 → ReachO O G t) {t : Txt} (ht : ReachO O F t) : ReachO O G t := by
 induction ht with
 | start h1 h2 => exact h _ h1 h2
 | kid _ h1 ih => exact .kid ih h1
theorem reach_again {O : List Ob} {F G : List Txt} (h : ∀ t, t ∈ G ↔ ReachO O F t) (t : Txt) : ReachO O G t ↔ ReachO O F t :=
 ⟨reach_mono fun u hu _ => (h u).1 hu, fun ht => .start ((h t).2 ht) (reach_len ht)⟩
theorem reach_two {O : List Ob} {F G : List Txt} (t : Txt) : ReachO O (F ++ G) t ↔ ReachO O F t ∨ ReachO O G t := by
 constructor
 ·intro h
  induction h with
  | start h1 h2 => exact (List.mem_append.1 h1).imp (.start · h2) (.start · h2)
  | kid _ h1 ih => exact ih.imp (.kid · h1) (.kid · h1)
 ·rintro (h | h)
  ·exact reach_mono (fun u hu h2 => .start (List.mem_append_left _ hu) h2) h
  ·exact reach_mono (fun u hu h2 => .start (List.mem_append_right _ hu) h2) h
theorem whole_again {O : List Ob} {F G : List Txt} (h : ∀ t, t ∈ G ↔ ReachO O F t) : WholeO O G ↔ WholeO O F :=
 forall_congr' fun t => by rw [reach_again h]
theorem whole_two {O : List Ob} {F G : List Txt} : WholeO O (F ++ G) ↔ WholeO O F ∧ WholeO O G :=
 ⟨fun h => ⟨fun t ht => h t ((reach_two t).2 (.inl ht)), fun t ht => h t ((reach_two t).2 (.inr ht))⟩, fun h t ht => ((reach_two t).1 ht).elim (h.1 t) (h.2 t)⟩
theorem has_node {O : List Ob} {n : Nd} (h : HasN O n) (hf : fitN n = true) : nodeO O (keyN n) = some n := by
 obtain ⟨y, h1, h2⟩ := h
 unfold nodeO
 rw [h1]
 show readN y.u = _
 rw [h2, wrN_fit hf, readN_wr hf]
theorem has_kids {O : List Ob} {n : Nd} (h : HasN O n) (hf : fitN n = true) : kidsO O (keyN n) = kidsN n := by
 unfold kidsO; rw [has_node h hf]
theorem reach_dir {c : List UInt8 → Nat} {L : List It} (R : ReadyT c L) {O : List Ob} {F : List Txt} : ∀ (k : Nat) (d : List UInt8), (∀ n ∈ seqD c L k d, HasN O n) → ReachO O F (keyN (dirN c L k d)) → ∀ n ∈ seqD c L k d, ReachO O F (keyN n)
 | 0, d, h, hr, n, hn => by rw [List.mem_singleton.1 hn]; exact hr
 | k + 1, d, h, hr, n, hn => by
  rcases List.mem_append.1 hn with h1 | h1
  ·obtain ⟨x, hx, h2⟩ := List.mem_flatMap.1 h1
   have hs : ReachO O F (keyN (subN c L k x)) := by
    refine .kid hr ?_
    rw [has_kids (h _ (top_mem _ _ _ _)) (dir_fit R _ _)]
    refine List.mem_append_right _ (List.mem_map.2 ⟨entE x (keyN (subN c L k x)), ?_, by simp [entE]⟩)
    rw [dirN_es]
    exact List.mem_map.2 ⟨x, hx, rfl⟩
   unfold subN at hs
   cases hd : x.d
   ·rw [hd] at h2 hs
    have hx2 := (mem_inD.1 hx).1
    rcases List.mem_append.1 h2 with h3 | h3
    ·refine .kid hs ?_
     rw [if_neg (by decide), has_kids (h _ (sub_file hx hd (file_mem _ _))) (file_fit R hx2)]
     obtain ⟨t, ht, rfl⟩ := List.mem_map.1 h3
     exact List.mem_append_left _ (List.mem_map.2 ⟨partP t, List.mem_map.2 ⟨t, ht, rfl⟩, by simp [partP]⟩)
    ·rw [List.mem_singleton.1 h3]
     exact hs
   ·rw [hd] at h2 hs
    exact reach_dir R k x.t (fun n hn => h n (sub_dir hx hd hn)) hs n h2
  ·rw [List.mem_singleton.1 h1]; exact hr
theorem reach_tree {c : List UInt8 → Nat} {L : List It} (R : ReadyT c L) (hc : ¬ Clash (rawsT c L)) :
  (∀ t, ReachO (objsT c L) [keyN (topT c L)] t ↔ t ∈ (objsT c L).map Ob.t) ∧ WholeO (objsT c L) [keyN (topT c L)] := by
 have hall : ∀ n ∈ seqT c L, HasN (objsT c L) n := fun n hn => (objs_has R hc hn).1
 have hin : ∀ t, ReachO (objsT c L) [keyN (topT c L)] t → ∃ n ∈ seqT c L, t = keyN n := by
  intro t ht
  induction ht with
  | start h1 _ => exact ⟨_, topT_mem c L, List.mem_singleton.1 h1⟩
  | kid _ h1 ih =>
   obtain ⟨n, hn, rfl⟩ := ih
   rw [has_kids (hall n hn) (seqT_fit R n hn)] at h1
   obtain ⟨k1, k2⟩ := kids_in 9 [] n hn
   rcases List.mem_append.1 h1 with h2 | h2
   ·obtain ⟨p, hp, rfl⟩ := List.mem_map.1 h2
    obtain ⟨m, hm, e⟩ := k1 p hp
    exact ⟨m, hm, e.symm⟩
   ·obtain ⟨p, hp, rfl⟩ := List.mem_map.1 h2
    obtain ⟨m, hm, e⟩ := k2 p hp
    exact ⟨m, hm, e.symm⟩
 refine ⟨fun t => ⟨fun h => ?_, fun h => ?_⟩, fun t h => ?_⟩
 ·obtain ⟨n, hn, rfl⟩ := hin t h
  exact List.mem_map.2 ⟨obN n, (objs_has R hc hn).2, obN_t n⟩
 ·obtain ⟨y, hy, rfl⟩ := List.mem_map.1 h
  obtain ⟨n, hn, rfl⟩ := objs_mem hy
  rw [obN_t]
  exact reach_dir R 9 [] hall (.start (List.mem_singleton.2 rfl) (keyN_len (seqT_fit R _ (topT_mem c L)))) n hn
 ·obtain ⟨n, hn, rfl⟩ := hin t h
  rw [has_node (hall n hn) (seqT_fit R n hn)]; rfl
end Go.Proofs.YtjpjpmkadoaipaaGreatDoor

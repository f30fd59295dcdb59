/-
  Contracts over this translation: awake, the law's bytes, Join.
-/
import Derived.WalkKit
import Derived.LoopTactic
import Derived.Outline
import Derived.Laws.BitsAllLaws
import Derived.Lib.Hide
import Derived.Below
import Derived.Laws.Rows
import Derived.Laws.CopyOwn
import Derived.Test.YtmaipdlioehigaaProg
import Derived.Test.YtmaipdlioehigaaShm
import Derived.Test.YtmaipdlioehigaaShr
import Derived.Test.YtmaipdlioehigaaStr
import Derived.Great.BuildSlice
import Derived.BigRegion
import Derived.Deep.QuietTactic
import Derived.BigQuiet
import Derived.StillTailTactics
import Derived.IntWalk
import Derived.WalkSmall
import Derived.RegionTactic
set_option linter.unusedVariables false
set_option pp.maxSteps 200000
namespace Go.Proofs.Ytmaipdlioehigaa
open Go.RowKit

set_option maxRecDepth 100000 in
set_option maxHeartbeats 1000000 in

theorem abc_str : (⟨#[97, 98, 99]⟩ : ByteArray).data.toList = abcL := rfl
set_option maxRecDepth 100000 in
set_option maxHeartbeats 2000000 in
theorem awake_any (w : World) : Calls Try.prog 12 #[] w fun e w' => e = .returned (.bool true) ∧ Below w.heap.size w w' := by
  have CS := Lib.hid (fun w => Sum_any ⟨#[97, 98, 99]⟩ (by decide) w)
  rw [abc_str, sha_abc] at CS
  go_enter Try.func12, Try.ntmps12
  go_wp2_with fail
  refine (CS.out _).mono ?_
  rintro e w1 ⟨rfl, hb⟩
  go_wp2_with fail
  go_ret
  exact ⟨rfl, hb⟩

theorem wbytes_cells2 (x : Nat) (hx : x < 4294967296) : [Value.int .u8 ((x : Int) / 16777216), .int .u8 ((x : Int) / 65536 % 256), .int .u8 ((x : Int) / 256 % 256), .int .u8 ((x : Int) % 256)] = Lib.byteCells (wbytes x) := by
  rw [← wbytes_cells]
  have e : ∀ a : Int, IntKind.u8.wrap a = a % 256 := fun a => rfl
  rw [e, e, e, e, show (x : Int) / 16777216 % 256 = (x : Int) / 16777216 by omega]
theorem news4' (W : World) (v0 v1 v2 v3 : Value) : ∀ j u, [v0, v1, v2, v3][j]? = some u → (W.alloc (.cells #[v0, v1, v2, v3] 5)).cell? ((⟨W.heap.size, 0, none⟩ : Addr).add j) = some u := by
  intro j u hj
  match j, hj with
  | 0, hj | 1, hj | 2, hj | 3, hj => simp at hj; subst hj; simp [Addr.add]
set_option maxRecDepth 100000 in
set_option maxHeartbeats 4000000 in
theorem lawBytes_any (f : St) (hok : f.ok) (w : World) : Calls Try.prog 16 #[.agg (numV f.list)] w fun e w' => e = .returned (.string ⟨f.bytes.toArray⟩) ∧ Below w.heap.size w w' := by
  obtain ⟨i0, hi, hz0, hz1, hz2⟩ := info_parts infoByte
  have q0 := Row.made w (numV f.list) 24
  have b0 : Below w.heap.size w (w.alloc (.cells (numV f.list) 24)) := (Below.refl _ _).alloc (Nat.le_refl _) _
  have Q0 := Lib.hid q0
  clear q0
  go_enter Try.func16, Try.ntmps16
  go_wp2_with (refine wpList_load_row rfl 24 _ rfl w.heap.size rfl 24 (numV f.list) (0, 0) _ Q0.out Try.underlying24 rfl (by rw [numV_size]; exact size24) ?_)
  go_loopw [7, 3, 5] (fun i v _ wr => ∃ k : Nat, k ≤ 8 ∧ i = .int .i64 k ∧ wr.ownsRow w.heap.size 5 1 v (4 * k) (Lib.byteCells (f.bytes.take (4 * k))) ∧ Below w.heap.size w wr) (fun i _ _ _ => 8 - (intOf i).toNat)
  case atStart => exact ⟨0, by omega, rfl, World.ownsRow_nil _ _ _ _, b0⟩
  case round =>
    clear Q0 b0
    obtain ⟨k, hk, rfl, hown, hbr⟩ := hrel
    by_cases hlt : k < 8
    · have hbk : decide ((k : Int) < 8) = true := by simpa using (show (k : Int) < 8 by omega)
      obtain ⟨x, hx⟩ : ∃ x, x = f.list.getD k 0 := ⟨_, rfl⟩
      have hxv : (numV f.list)[k]? = some (.int .u32 x) := by rw [numV_get _ _ (by rw [list_len]; exact hlt), hx]
      have lx : x < 4294967296 := by rw [hx]; exact getD_ok hok k
      have hsz := hbr.size
      have HO := Lib.hid hown; have HX := Lib.hid hx
      clear hown hx
      go_wp2_with (first
        | refine wpList_index_arr rfl 24 _ _ rfl 8 22 .i64 k (numV f.list) (.int .u32 x) rfl rfl Try.underlying24 hlt (by kernel_rfl) (fun w => by kernel_rfl) hxv ?_
        | (at_builtin; refine wpList_append_own _ rfl (.tmp 10) (.tmp 22) 36 rfl w.heap.size 5 i0 (.int .u8 0) 1 1 Try.underlying36 hi hz0 hz1 hz2 rfl (by decide) _ (4 * k) _ rfl (World.ownsRow.alloc HO.out _) ⟨wr.heap.size, 0, none⟩ 4 4 _ rfl rfl (news4' wr _ _ _ _) (one4 _ _ _ _ _) (by unfold maxLen; omega) (by omega) (by simp; omega) ?_))
      intro v2 w2 hown2 hg2 _
      have hb2 : Below w.heap.size w w2 := (hbr.alloc hsz _).grown hg2 (by simp; omega) (fun j hj => (HO.out.lt j hj).1)
      have hown3 : w2.ownsRow w.heap.size 5 1 v2 (4 * (k + 1)) (Lib.byteCells (f.bytes.take (4 * (k + 1)))) := by
        rw [wbytes_cells2 x lx, ← Lib.byteCells_append, HX.out, ← bytes_take f k hlt] at hown2
        exact hown2
      have HO3 := Lib.hid hown3
      clear hown2 hown3 hg2
      go_wp2_with fail
      refine ⟨⟨k + 1, by omega, by go_num, HO3.out, hb2⟩, ?_⟩
      simp only [intOf]; omega
    · have hk8 : k = 8 := by omega
      have hbk8 : decide ((k : Int) < 8) = false := by rw [hk8]; rfl
      rw [hk8] at hown
      obtain ⟨g5, cap5, rfl⟩ := ownsRow_slice' (n := 31) hown
      have hfb : f.bytes.take (4 * 8) = f.bytes := List.take_of_length_le (by rw [bytes_len]; decide)
      rw [hfb] at hown
      have hcv := run_convert_bytes_back (P := Try.prog) wr 36 9 5 ⟨g5, 0, none⟩ cap5 f.bytes Try.underlying36 Try.underlying5 Try.underlying9
        (fun j hj => hown.cells (g := g5) rfl j _ (by simp [Lib.byteCells, hj]))
      rw [bytes_len] at hcv
      have HCV := Lib.hid hcv
      clear hown hfb hcv hk8
      go_wp2_with (refine wpList_convert rfl _ _ _ rfl _ _ _ rfl HCV.out ?_)
      go_ret
      exact ⟨rfl, hbr⟩

def catL (L : List ByteArray) : List UInt8 := L.flatMap fun b => b.data.toList
theorem catL_take (L : List ByteArray) (k : Nat) (h : k < L.length) : catL (L.take (k + 1)) = catL (L.take k) ++ L[k].data.toList := by
  unfold catL
  rw [List.take_succ_eq_append_getElem h, List.flatMap_append, List.flatMap_singleton]
def Total (L : List ByteArray) : Nat := (catL L).length
theorem catL_le (L : List ByteArray) (k : Nat) : (catL (L.take k)).length ≤ Total L := by
  unfold Total
  conv => rhs; rw [← List.take_append_drop k L]
  unfold catL
  rw [List.flatMap_append, List.length_append]; omega
set_option maxRecDepth 100000 in
set_option maxHeartbeats 4000000 in
theorem Join_any (v : Value) (L : List ByteArray) (hT : Total L ≤ 1152921504606846976) (w : World) (hL : IsStrs w v L) :
    Calls Try.prog 15 #[v] w fun e w' => e = .returned (.string ⟨(shaSum (catL L)).toArray⟩) ∧ Below w.heap.size w w' := by
  obtain ⟨hm, a, cap, rfl, hnil, hcells⟩ := hL
  unfold maxLen at hm
  have HC := Lib.hid hcells
  clear hcells hnil
  go_enter Try.func15, Try.ntmps15
  go_wp2_with fail
  refine (newReader_any _).mono ?_
  rintro e w1 ⟨B, hB, rfl, hF1, hb1⟩
  have HF1 := Lib.hid hF1
  clear hF1
  go_wp2_with fail
  go_loopw [9, 5] (fun i _ wr => ∃ k : Nat, k ≤ L.length ∧ i = .int .i64 k ∧ FedTo B wr (absorb first (catL (L.take k))).1 (absorb first (catL (L.take k))).2 (catL (L.take k)).length ∧ Below w.heap.size w wr) (fun i _ _ => L.length - (intOf i).toNat)
  case atStart => exact ⟨0, by omega, rfl, by rw [List.take_zero, show catL [] = [] from rfl, absorb_lt _ (by decide)]; exact HF1.out, hb1⟩
  case round =>
    clear HF1 hb1
    obtain ⟨k, hk, rfl, hF, hb⟩ := hrel
    by_cases hlt : k < L.length
    · have hbk : decide ((k : Int) < (L.length : Int)) = true := by simpa using hlt
      obtain ⟨b, off, rfl, hbl, hcell⟩ := HC.out (by omega)
      have c0 := hcell k hlt
      rw [← hb.cell (p := ⟨b, off + k, none⟩) hbl] at c0
      obtain ⟨t, ht⟩ : ∃ t, t = L[k] := ⟨_, rfl⟩
      rw [← ht] at c0
      have hle := catL_le L (k + 1)
      have hle0 := catL_le L k
      have hst := Lib.size_eq t
      have HT := Lib.hid (catL_take L k hlt)
      rw [← ht] at HT
      have hts : t.size ≤ 1152921504606846976 := by
        have h1 := HT.out
        have h2 := congrArg List.length h1
        rw [List.length_append] at h2
        omega
      have HST := Lib.hid hst
      have HF := Lib.hid hF
      have hok := absorb_ok (catL (L.take k)) first_ok
      clear hcell hF hst ht hle
      have b0 : (0 : Int) ≤ (k : Int) ∧ (k : Int) < (L.length : Int) := by omega
      go_wp2_with fail
      refine (feed_any B _ hok _ (catL (L.take k)).length t _ HF.out (by unfold maxLen; omega) (by omega)).mono ?_
      rintro e w2 ⟨rfl, hF2, hb2⟩
      rw [absorb_append, ← HT.out, show (catL (L.take k)).length + t.size = (catL (L.take (k + 1))).length by rw [HT.out, List.length_append, ← HST.out]] at hF2
      have HF2 := Lib.hid hF2
      clear hF2
      go_wp2_with fail
      refine ⟨⟨k + 1, by omega, by go_num, HF2.out, hb.trans (hb2.mono hB)⟩, ?_⟩
      simp only [intOf]; omega
    · have hkL : k = L.length := by omega
      have hbk : decide ((k : Int) < (L.length : Int)) = false := by rw [hkL]; simp
      rw [hkL, List.take_length] at hF
      have HF := Lib.hid hF
      clear hF hkL
      go_wp2_with fail
      refine (sum_any B (catL L) _ hT rfl _ HF.out).mono ?_
      rintro e w3 ⟨rfl, hb3⟩
      go_wp2_with fail
      go_ret
      exact ⟨rfl, hb.trans (hb3.mono hB)⟩
end Go.Proofs.Ytmaipdlioehigaa

/-
  Layer 3: the statement FrameTorn as a walk over this translation.
-/
import Derived.Test.YtnoacceihaedbaaFwa
import Derived.Test.YtnoacceihaedbaaOps
import Derived.Laws.IdiomStrings
import Derived.Laws.BitsAllLaws
set_option linter.unusedVariables false
namespace Go.Proofs.Ytnoacceihaedbaa
open Go.RowKit

/-- What a string's bytes are, as soon as they can be written. -/
structure Laid (w : World) (x : ByteArray) (B cap : Nat) (W : World) : Prop where
  below : RowKit.Below w.heap.size w W
  at_ : B = w.heap.size
  cell : ∀ j (h : j < x.size), W.cell? ⟨B, j, none⟩ = some (.int .u8 (x[j].toNat : Nat))
  free : ∀ j, j < x.size → W.frozen? ⟨B, j, none⟩ = false
theorem conv_laid (w : World) (x : ByteArray) : ∃ B cap W, (convert 9 36 (.string x)).run Try.prog w = .ok (.slice (some ⟨B, 0, none⟩) x.size cap) W ∧ Laid w x B cap W := by
  refine ⟨_, _, _, run_bytes_of_string w 9 36 5 x Try.underlying9 Try.underlying36 Try.underlying5, ?_, rfl, ?_, ?_⟩
  · exact ((Below.refl _ w).drew).trans ⟨rfl, rfl, rfl, by simp, fun k hk => by simp [World.alloc, World.drew, -World.alloc_eq, -World.drew_eq, Array.getElem?_push, Nat.ne_of_lt hk]⟩
  · intro j h
    have hg := heap_alloc_new w.drew (.cells (bytesRow x (grownCap w x.size 0 5)) 5 ((bytesRow x (grownCap w x.size 0 5)).size, (bytesRow x (grownCap w x.size 0 5)).size + 1))
    rw [cell_of_row _ w.heap.size j _ _ _ hg]
    simp [bytesRow, Array.getElem?_append, h]
    rfl
  · intro j h
    have hg := heap_alloc_new w.drew (.cells (bytesRow x (grownCap w x.size 0 5)) 5 ((bytesRow x (grownCap w x.size 0 5)).size, (bytesRow x (grownCap w x.size 0 5)).size + 1))
    have hz : x.size ≤ (bytesRow x (grownCap w x.size 0 5)).size := by simp [bytesRow]
    simp only [World.frozen?]
    rw [show (w.drew.alloc (.cells (bytesRow x (grownCap w x.size 0 5)) 5 ((bytesRow x (grownCap w x.size 0 5)).size, (bytesRow x (grownCap w x.size 0 5)).size + 1))).heap[w.heap.size]? = _ from hg]
    simp
    omega

theorem Laid.stays {w W W' : World} {x : ByteArray} {B cap : Nat} (h : Laid w x B cap W) (hb : RowKit.Below W.heap.size W W') (hB : B < W.heap.size) : Laid w x B cap W' :=
  ⟨h.below.trans (hb.mono h.below.size), h.at_, fun j hj => (hb.cell (p := ⟨B, j, none⟩) hB).trans (h.cell j hj), fun j hj => (hb.frozen (p := ⟨B, j, none⟩) hB).trans (h.free j hj)⟩

/-- A string with one byte another one. -/
def setB (x : ByteArray) (k : Nat) (y : UInt8) : ByteArray := ⟨(x.data.toList.set k y).toArray⟩
theorem conv_set {w W : World} {x : ByteArray} {B cap : Nat} (h : Laid w x B cap W) (k : Nat) (hk : k < x.size) (y : UInt8) :
    (convert 36 9 (.slice (some ⟨B, 0, none⟩) x.size cap)).run Try.prog (W.setCell ⟨B, k, none⟩ (.int .u8 (y.toNat : Nat))) = .ok (.string (setB x k y)) (W.setCell ⟨B, k, none⟩ (.int .u8 (y.toNat : Nat))) := by
  have hl : (x.data.toList.set k y).length = x.size := by rw [List.length_set, ← Lib.size_eq]
  have := run_convert_bytes_back (P := Try.prog) (W.setCell ⟨B, k, none⟩ (.int .u8 (y.toNat : Nat))) 36 9 5 ⟨B, 0, none⟩ cap (x.data.toList.set k y) Try.underlying36 Try.underlying5 Try.underlying9 (fun j hj => by
    rw [hl] at hj
    rw [add_plain', Nat.zero_add]
    by_cases e : k = j
    · subst e
      rw [World.cell?_setCell_same _ _ _ (h.cell k hk)]
      simp
    · rw [World.cell?_setCell_other _ _ _ _ (by intro e2; cases e2; exact e rfl), h.cell j hj, List.getElem_set_ne e]; rfl)
  rw [hl] at this
  exact this

theorem setB_same {x : ByteArray} {k : Nat} (hk : k < x.size) : setB x k x[k] = x := by
  rw [data_eq]
  show x.data.toList.set k _ = _
  exact List.set_getElem_self _
theorem xor_zero8 (u : UInt8) (b : UInt8) : u ^^^ b = u ↔ b = 0 := by
  constructor
  · intro h
    have := congrArg (u ^^^ ·) h
    simpa [← UInt8.xor_assoc] using this
  · rintro rfl; simp

set_option maxRecDepth 100000 in
set_option maxHeartbeats 2000000 in
theorem FrameTorn_walk (s : ByteArray) (hs : s.size ≤ maxLen) (at_ : Nat) (hat : at_ < 65536) (by_ : Nat) (hby : by_ < 256) (w : World) :
    Calls Try.prog 5 #[.string s, .int .u16 at_, .int .u8 by_] w fun e w' => e = .returned (.bool true) ∧ Below w.heap.size w w' := by
  by_cases g1 : s.size ≤ 1000
  · have HS := Lib.hid (Lib.size_eq s)
    have h6 : s.data.toList.length ≤ 65536 := by rw [← HS.out]; omega
    obtain ⟨hh, hl⟩ := head_eq h6
    obtain ⟨hd, hhd⟩ : ∃ hd, hd = (vput s.data.toList.length).length := ⟨_, rfl⟩
    have hp1 := vput_pos s.data.toList.length
    have hp2 := vput_len s.data.toList.length
    obtain ⟨x, hx⟩ : ∃ x : ByteArray, x = ⟨(fwrap s.data.toList).toArray⟩ := ⟨_, rfl⟩
    have hxs : x.size = hd + s.size + 4 := by rw [hx, size_mk, hl, hhd, ← HS.out]
    rw [← hhd] at hp1 hp2
    obtain ⟨r, hr⟩ : ∃ r, r = at_ % (s.size + 4) := ⟨_, rfl⟩
    have hr4 : r < s.size + 4 := by rw [hr]; exact Nat.mod_lt _ (by omega)
    have hk : hd + r < x.size := by omega
    obtain ⟨y, hy⟩ : ∃ y, y = x[hd + r] ^^^ UInt8.ofNat by_ := ⟨_, rfl⟩
    have hxl : fwrap s.data.toList = x.data.toList := by rw [hx]
    have hkl : hd + r < (fwrap s.data.toList).length := by rw [hl, ← hhd, ← HS.out]; omega
    have hP := fun W => Wrap_any s hs W
    rw [← hx] at hP
    have hO2 := fun W => Open_any (x.extract 0 (hd + r)) (by rw [ByteArray.size_extract]; unfold maxLen; omega) W
    rw [Lib.extract_data, List.drop_zero, Nat.sub_zero, ← hxl, fopen_short h6 (by rw [← hhd]; omega) hkl] at hO2
    have hO1 := fun W => Open_any (setB x (hd + r) y) (by show (x.data.toList.set _ _).toArray.size ≤ _; rw [List.size_toArray, List.length_set, ← Lib.size_eq]; unfold maxLen; omega) W
    have hxor : bits .xor .u8 ((x[hd + r].toNat : Nat) : Int) (by_ : Int) = ((y.toNat : Nat) : Int) := by
      rw [u8_xor_nat _ _ x[hd + r].toNat_lt hby, hy]
      simp [Nat.mod_eq_of_lt hby]
    have hrt : (at_ : Int).tmod ((x.size : Int) - (hd : Int)) = (r : Int) := by
      rw [hr, show (x.size : Int) - (hd : Int) = ((s.size + 4 : Nat) : Int) by omega, Int.tmod_eq_emod_of_nonneg (by omega)]; omega
    have hrn : (x.size : Int) - (hd : Int) ≠ 0 := by omega
    have HRT := Lib.hid hrt; have HRN := Lib.hid hrn; clear hrt hrn
    have hhdi : (x.size : Int) - (s.size : Int) - 4 = (hd : Int) := by omega
    have hge3 : ¬ (hd : Int) < 1 := by omega
    have hge4 : decide ((hd : Int) < 1) = false := by simpa using hge3
    have HX := Lib.hid hxs
    have HP := Lib.hid hP; have HO2 := Lib.hid hO2
    have hsl := fun W => run_slice_to (P := Try.prog) Try.underlying9 x (hd + r) (by omega) W
    rw [Int.natCast_add] at hsl
    clear hP hO2 hx hl hh hp1 hr
    by_cases h0 : by_ = 0
    · have hy0 : y = x[hd + r] := by rw [hy, h0]; simp
      have hO3 := hO1
      rw [hy0, setB_same hk, ← hxl] at hO3
      rw [show fopen (fwrap s.data.toList) = (s.data.toList, (fwrap s.data.toList).length, 0) by have := fopen_fwrap h6 []; rwa [List.append_nil] at this] at hO3
      have hz : setB x (hd + r) y = x := by rw [hy0, setB_same hk]
      have HO1 := Lib.hid hO3
      have hby0 : ((by_ : Int) == 0) = true := by rw [h0]; rfl
      have hby1 : ((by_ : Int) != 0) = false := by rw [h0]; rfl
      clear h0 hy0 hO1 hO3
      go_enter Try.func5, Try.ntmps5
      go_wp2_with fail
      refine (HP.out _).mono ?_
      rintro e w1 ⟨rfl, hb1⟩
      obtain ⟨B, cap, W, hconv, hL⟩ := conv_laid w1 x
      have hlo : x.size ≤ hd + s.size + 4 := by omega
      have hhi : hd + s.size + 4 ≤ x.size := by omega
      clear hxs hxl hkl hy hhd
      have HZ := Lib.hid hz
      have hcc := hL.cell _ hk
      have hff := hL.free _ hk
      have hconv2 : (convert 36 9 (.slice (some ⟨B, 0, none⟩) x.size cap)).run Try.prog (W.setCell ⟨B, hd + r, none⟩ (.int .u8 (bits .xor .u8 ((x[hd + r].toNat : Nat) : Int) (by_ : Int)))) = .ok (.string x) (W.setCell ⟨B, hd + r, none⟩ (.int .u8 (bits .xor .u8 ((x[hd + r].toNat : Nat) : Int) (by_ : Int)))) := by rw [hxor]; rw [conv_set hL _ hk y, hz]
      have hb2 : Below w1.heap.size w1 (W.setCell ⟨B, hd + r, none⟩ (.int .u8 (bits .xor .u8 ((x[hd + r].toNat : Nat) : Int) (by_ : Int)))) := hL.below.setCell (p := ⟨B, hd + r, none⟩) (by rw [hL.at_]; exact Nat.le_refl _) _
      have hlt : (hd : Int) + (r : Int) ≤ (x.size : Int) := by omega
      clear hxor
      go_wp2_with (first | (refine wpList_rem rfl _ _ _ _ rfl .i64 _ _ (r : Int) rfl rfl HRN.out HRT.out ?_) | (refine wpList_convert rfl _ _ (.tmp 31) rfl _ _ _ rfl hconv ?_) | (refine wpList_convert rfl _ _ (.tmp 50) rfl _ _ _ rfl hconv2 ?_))
      refine (HO1.out _).mono ?_
      rintro e w3 ⟨rfl, hb3⟩
      go_wp2_with fail
      refine (HO2.out _).mono ?_
      rintro e w4 ⟨rfl, hb4⟩
      go_wp2_with fail
      refine (awake_any _).mono ?_
      rintro e w5 ⟨rfl, hb5⟩
      go_wp2_with fail
      go_ret
      exact ⟨rfl, below_step (below_step (below_step (below_step hb1 hb2) hb3) hb4) hb5⟩
    · have hyn : y ≠ (fwrap s.data.toList)[hd + r]'hkl := by
        intro e
        have e2 : (fwrap s.data.toList)[hd + r]'hkl = x[hd + r] := by simp only [hxl]; rfl
        rw [e2, hy] at e
        have := (xor_zero8 _ _).1 e
        have := congrArg UInt8.toNat this
        simp [Nat.mod_eq_of_lt hby] at this
        exact h0 this
      have hd1 : (setB x (hd + r) y).data.toList = (fwrap s.data.toList).set (hd + r) y := by rw [hxl]; rfl
      rw [hd1, fopen_torn h6 (by rw [← hhd]; omega) hkl hyn] at hO1
      have HO1 := Lib.hid hO1
      have hby0 : ((by_ : Int) == 0) = false := beq_eq_false_iff_ne.2 (by omega)
      have hby1 : ((by_ : Int) != 0) = true := by simp; omega
      clear h0 hO1 hyn hd1
      go_enter Try.func5, Try.ntmps5
      go_wp2_with fail
      refine (HP.out _).mono ?_
      rintro e w1 ⟨rfl, hb1⟩
      obtain ⟨B, cap, W, hconv, hL⟩ := conv_laid w1 x
      have hlo : x.size ≤ hd + s.size + 4 := by omega
      have hhi : hd + s.size + 4 ≤ x.size := by omega
      clear hxs hxl hkl hy hhd
      have hcc := hL.cell _ hk
      have hff := hL.free _ hk
      have hconv2 : (convert 36 9 (.slice (some ⟨B, 0, none⟩) x.size cap)).run Try.prog (W.setCell ⟨B, hd + r, none⟩ (.int .u8 (bits .xor .u8 ((x[hd + r].toNat : Nat) : Int) (by_ : Int)))) = .ok (.string (setB x (hd + r) y)) (W.setCell ⟨B, hd + r, none⟩ (.int .u8 (bits .xor .u8 ((x[hd + r].toNat : Nat) : Int) (by_ : Int)))) := by rw [hxor]; exact conv_set hL _ hk y
      have hb2 : Below w1.heap.size w1 (W.setCell ⟨B, hd + r, none⟩ (.int .u8 (bits .xor .u8 ((x[hd + r].toNat : Nat) : Int) (by_ : Int)))) := hL.below.setCell (p := ⟨B, hd + r, none⟩) (by rw [hL.at_]; exact Nat.le_refl _) _
      have hlt : (hd : Int) + (r : Int) ≤ (x.size : Int) := by omega
      clear hxor
      go_wp2_with (first | (refine wpList_rem rfl _ _ _ _ rfl .i64 _ _ (r : Int) rfl rfl HRN.out HRT.out ?_) | (refine wpList_convert rfl _ _ (.tmp 31) rfl _ _ _ rfl hconv ?_) | (refine wpList_convert rfl _ _ (.tmp 50) rfl _ _ _ rfl hconv2 ?_))
      refine (HO1.out _).mono ?_
      rintro e w3 ⟨rfl, hb3⟩
      go_wp2_with fail
      refine (HO2.out _).mono ?_
      rintro e w4 ⟨rfl, hb4⟩
      go_wp2_with fail
      refine (awake_any _).mono ?_
      rintro e w5 ⟨rfl, hb5⟩
      go_wp2_with fail
      go_ret
      exact ⟨rfl, below_step (below_step (below_step (below_step hb1 hb2) hb3) hb4) hb5⟩
  · go_enter Try.func5, Try.ntmps5
    go_wp2_with fail
    refine (awake_any _).mono ?_
    rintro e w5 ⟨rfl, hb5⟩
    go_wp2_with fail
    go_ret
    exact ⟨rfl, hb5⟩
end Go.Proofs.Ytnoacceihaedbaa

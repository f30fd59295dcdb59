/-
  Layer 9: PathBack.
-/
import Derived.Test.YtkodbobjaejgjaaDoorPba
import Derived.Lib.QuietBelow
set_option linter.unusedVariables false
namespace Go.Proofs.YtkodbobjaejgjaaDoor
open Go.RowKit Go.Shelf
attribute [local go_sem] Oper.semAt_some

theorem str_back {l : List UInt8} {s : ByteArray} (h : l = s.data.toList) : (⟨l.toArray⟩ : ByteArray) = s := by subst h; simp

set_option maxRecDepth 100000 in
set_option maxHeartbeats 4000000 in
theorem PathBack_walk (s : ByteArray) (w : World) : Calls Tryd.prog 5 #[.string s] w fun e w' => e = .returned (.bool true) ∧ Below w.heap.size w w' := by
  have AW := Lib.hid awake_any
  by_cases h1 : 1000 < s.size
  · have e1 : decide ((1000 : Int) < (s.size : Int)) = true := decide_eq_true (by omega)
    clear h1
    go_enter Tryd.func5, Tryd.ntmps5
    go_wp2_with fail
    refine (AW.out _).mono ?_
    rintro e w1 ⟨rfl, hb⟩
    go_wp2
    go_ret
    exact ⟨rfl, hb⟩
  · have e1 : decide ((1000 : Int) < (s.size : Int)) = false := decide_eq_false (by omega)
    have C1 := Lib.hid (Split_any s (by omega))
    have C2 := Lib.hid (Fit_any s (by omega))
    have C3 := Lib.hid (Dir_any s (by omega))
    have JN := Lib.hid Join_any
    have NM := Lib.hid Name_any
    clear h1
    by_cases hp : 0 < (splitS s.data.toList).length
    · -- a path
      have hfit : isPath s.data.toList = true := decide_eq_true hp
      rw [hfit] at C2
      have HJ := Lib.hid (join_split (l := s.data.toList) (List.length_pos_iff.1 hp))
      have hle := splitS_le s.data.toList
      have HALL := Lib.hid (splitS_all s.data.toList)
      have HLEN := Lib.hid (strsOf_len (splitS s.data.toList))
      have HT := Lib.hid (txts_strsOf (splitS s.data.toList))
      have HI := Lib.hid (strsOf_at (splitS s.data.toList))
      have HD : Hid (dirS s.data.toList = joinN (splitS s.data.toList).dropLast) := rfl
      obtain ⟨M, hM⟩ : ∃ M, M = splitS s.data.toList := ⟨_, rfl⟩
      rw [← hM] at hp hle C1 HJ HALL HLEN HT HI HD
      obtain ⟨y, hy⟩ : ∃ y : ByteArray, y = ⟨(dirS s.data.toList).toArray⟩ := ⟨_, rfl⟩
      rw [← hy] at C3
      have HY := Lib.hid hy
      clear hM hfit hy
      go_enter Tryd.func5, Tryd.ntmps5
      go_wp2_with fail
      refine (C1.out _).mono ?_
      rintro e w1 ⟨v, rfl, hv, hb1⟩
      have HV := Lib.hid hv
      clear hv
      go_wp2_with fail
      refine (C2.out _).mono ?_
      rintro e w2 ⟨rfl, hb2⟩
      have hv2 := HV.out.stays hb2
      have hB := below_step hb1 hb2
      have HV2 := Lib.hid hv2
      clear HV hb1 hb2
      obtain ⟨hm, a, cap, rfl, ⟨_, hcap⟩, hc⟩ := hv2
      have J1 := Lib.hid (JN.out _ _ w2 HV2.out)
      obtain ⟨L, hL⟩ : ∃ L, L = strsOf M := ⟨_, rfl⟩
      rw [← hL] at HV2 HLEN HT HI hm hcap hc J1 ⊢
      clear hL
      rw [HT.out, HJ.out, str_back rfl] at J1
      have hmm : L.length ≤ 9223372036854775807 := by unfold maxLen at hm; omega
      have hl1 : ¬ L.length < 1 := by rw [HLEN.out]; omega
      have hl8 : ¬ 8 < L.length := by rw [HLEN.out]; omega
      have d1 : decide ((L.length : Int) < 1) = false := decide_eq_false (by omega)
      have d8 : decide ((8 : Int) < (L.length : Int)) = false := decide_eq_false (by omega)
      have HC := Lib.hid hc
      clear hm hc
      go_wp2_with fail
      refine J1.out.mono ?_
      rintro e w3 ⟨rfl, hb3⟩
      have HV3 := Lib.hid (HV2.out.stays hb3)
      have hB3 := below_step hB hb3
      have hz3 := hb3.size
      have hc3 : Hid (0 < L.length → ∃ b off, a = some ⟨b, off, none⟩ ∧ b < w2.heap.size ∧ ∀ i (h : i < L.length), w3.cell? ⟨b, off + i, none⟩ = some (.string L[i])) := fun h0 => by
        obtain ⟨b, off, e, hlt, hc⟩ := HC.out h0
        exact ⟨b, off, e, hlt, fun i hi => (hb3.cell (p := ⟨b, off + i, none⟩) hlt).trans (hc i hi)⟩
      clear hb3 HC HV2
      go_wp2_with fail
      go_loopw [42] (fun i wr => ∃ (k : Nat), k ≤ L.length ∧ i = .int .i64 k ∧ Below w3.heap.size w3 wr) (fun i _ => L.length - (intOf i).toNat)
      case atStart => exact ⟨0, Nat.zero_le _, rfl, Below.refl _ _⟩
      case round =>
        obtain ⟨k, hk, rfl, hb4⟩ := hrel
        by_cases hlt : k < L.length
        · obtain ⟨b1, o1, rfl, hbl, g1⟩ := hc3.out (by omega)
          have q1 := (hb4.cell (p := ⟨b1, o1 + k, none⟩) (by show b1 < w3.heap.size; omega)).trans (g1 k hlt)
          have hin := HI.out k hlt (by rw [← HLEN.out]; exact hlt)
          have hnm : nameB (L[k].data.toList) = true := by rw [hin]; exact List.all_eq_true.1 HALL.out _ (List.getElem_mem _)
          obtain ⟨z, hz⟩ : ∃ z, z = L[k] := ⟨_, rfl⟩
          rw [← hz] at q1 hnm
          have R := Lib.hid (NM.out z)
          rw [hnm] at R
          have hbk : decide ((k : Int) < (L.length : Int)) = true := by simpa using (show (k : Int) < L.length by omega)
          clear hz hin hnm g1
          go_wp2_with fail
          refine (R.out _).mono ?_
          rintro e w5 ⟨rfl, hb5⟩
          have hb6 := hb4.trans (hb5.mono hb4.size)
          clear hb5
          go_wp2_with fail
          go_roundw
          case rel => exact ⟨k + 1, by omega, by go_num, hb6⟩
          case measure => simp [intOf]; omega
        · obtain rfl : k = L.length := by omega
          have hbk : decide ((L.length : Int) < (L.length : Int)) = false := by simp
          have hl1' : 0 < L.length := by rw [HLEN.out]; exact hp
          obtain ⟨b, off, rfl, hblt, hcell⟩ := hc3.out hl1'
          have hV2 : IsStrs wr (.slice (some ⟨b, off, none⟩) (L.length - 1) cap) L.dropLast := by
            have hm := HV3.out.1
            refine ⟨by rw [List.length_dropLast]; omega, some ⟨b, off, none⟩, cap, by rw [List.length_dropLast], ⟨fun h => (by cases h), by rw [List.length_dropLast]; omega⟩, fun _ => ⟨b, off, rfl, by have := hb4.size; omega, fun i hi => ?_⟩⟩
            rw [List.length_dropLast] at hi
            refine (hb4.cell (p := ⟨b, off + i, none⟩) (by show b < w3.heap.size; omega)).trans ?_
            rw [hcell i (by omega), List.getElem_dropLast]
          have HV2 := Lib.hid hV2
          have J2 := Lib.hid (fun W hW => JN.out (.slice (some ⟨b, off, none⟩) (L.length - 1) cap) L.dropLast W hW)
          have hjd : (⟨(joinN (txts L.dropLast)).toArray⟩ : ByteArray) = y := by
            rw [HY.out, HD.out, show txts L.dropLast = (txts L).dropLast by simp [txts], HT.out]
          rw [hjd] at J2
          have hsum : IntKind.i64.wrap ((L.length : Int) - 1) = (L.length : Int) - 1 := by rw [IntKind.wrap_i64]; omega
          have hB4 := hB3.trans (hb4.mono hB3.size)
          have hsl : ∀ W, (Instr.slice 25 (.slice (some ⟨b, off, none⟩) L.length cap) none (some (.int .i64 ((L.length : Int) - 1))) none).run Tryd.prog W = .ok (.slice (some ⟨b, off, none⟩) (L.length - 1) cap) W := fun W => by
            have hcL : L.length ≤ cap := hcap
            have h2 : ¬ cap < L.length - 1 := by omega
            simp [Instr.slice, run_underlying Tryd.underlying25, Instr.sliceBounds, Instr.sliceBound, asIntOf, go_sem]
            intro h; exact absurd (h (by omega)) (by omega)
          clear hV2 hcell hb4 hjd
          go_wp2_with fail
          refine wp_region_quiet_below (by kernel_rfl) (by kernel_rfl) ?_
          repeat (first | go_big_quiet_step ((first | (go_at_call 16; exact Calls.regrown_of (C3.out _)) | (go_at_call 20; exact Calls.regrown_of (J2.out _ (HV2.out.stays (below_regrown _ _ _)))) | (go_at_call 8; exact Calls.regrown_of (AW.out _)))) | quiet_step ((first | (go_at_call 16; exact Calls.regrown_of (C3.out _)) | (go_at_call 20; exact Calls.regrown_of (J2.out _ (HV2.out.stays (below_regrown _ _ _)))) | (go_at_call 8; exact Calls.regrown_of (AW.out _)))))
          refine wpQuiet_nil ?_
          intro wq hwq
          have hbq : Below wr.heap.size wr wq := by obtain ⟨p, rfl⟩ := hwq; exact below_regrown _ _ _
          clear hwq
          go_wp2
          go_ret
          exact ⟨rfl, hB4.trans (hbq.mono hB4.size)⟩
    · have hfit : isPath s.data.toList = false := decide_eq_false hp
      rw [hfit] at C2
      have hnil : splitS s.data.toList = [] := List.eq_nil_of_length_eq_zero (by omega)
      rw [hnil] at C1
      rw [dirS_none hnil] at C3
      clear hp hfit hnil
      go_enter Tryd.func5, Tryd.ntmps5
      go_wp2_with fail
      refine (C1.out _).mono ?_
      rintro e w1 ⟨v, rfl, hv, hb1⟩
      obtain ⟨_, a, cap, rfl, _, _⟩ := hv
      go_wp2_with fail
      refine (C2.out _).mono ?_
      rintro e w2 ⟨rfl, hb2⟩
      have hB := below_step hb1 hb2
      clear hb1 hb2
      go_wp2_with fail
      refine (C3.out _).mono ?_
      rintro e w3 ⟨rfl, hb3⟩
      replace hB := below_step hB hb3
      clear hb3
      go_wp2_with fail
      refine (AW.out _).mono ?_
      rintro e w4 ⟨rfl, hb3⟩
      replace hB := below_step hB hb3
      clear hb3
      go_wp2
      go_ret
      exact ⟨rfl, hB⟩
end Go.Proofs.YtkodbobjaejgjaaDoor

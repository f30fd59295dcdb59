/-
  Layer 5: the statements KeysTexts and KeysOrder as walks over this translation.
-/
import Derived.Test.YteiflmdnakhekaaKwa
set_option linter.unusedVariables false
namespace Go.Proofs.Yteiflmdnakhekaa
open Go.RowKit
attribute [local go_sem] Oper.semAt_some

theorem unhex_kind (s : List UInt8) : (Good s ∧ unhexV s = (unTo s 32, 0)) ∨ (¬ Good s ∧ unhexV s = ([], 2)) := by
  by_cases h : Good s
  · exact .inl ⟨h, unhexV_good h⟩
  · exact .inr ⟨h, unhexV_bad h⟩
theorem mk_toList (l : List UInt8) : (⟨l.toArray⟩ : ByteArray).data.toList = l := rfl
theorem str_mk (s : ByteArray) : (⟨s.data.toList.toArray⟩ : ByteArray) = s := by simp
def Gives (f : FuncId) (x : ByteArray) (v : Value) : Prop := ∀ W : World, Calls Try.prog f #[.string x] W fun e w' => e = .returned v ∧ Below W.heap.size W w'
theorem unhex_good {s : ByteArray} (h : Good s.data.toList) : Gives 23 s (.tuple #[.string ⟨(unTo s.data.toList 32).toArray⟩, .int .i64 0]) := fun W => by
  have := Unhex_any s W
  unfold RetUn at this; rw [unhexV_good h] at this; exact this
theorem unhex_bad {s : ByteArray} (h : ¬ Good s.data.toList) : Gives 23 s (.tuple #[.string ⟨#[]⟩, .int .i64 2]) := fun W => by
  have := Unhex_any s W
  unfold RetUn at this; rw [unhexV_bad h] at this; exact this
theorem refUnhex_good {s : ByteArray} (h : Good s.data.toList) : Gives 24 s (.tuple #[.string ⟨(unTo s.data.toList 32).toArray⟩, .int .i64 0]) := fun W => by
  have := refUnhex_any s W
  unfold RetUn at this; rw [unhexV_good h] at this; exact this
theorem refUnhex_bad {s : ByteArray} (h : ¬ Good s.data.toList) : Gives 24 s (.tuple #[.string ⟨#[]⟩, .int .i64 2]) := fun W => by
  have := refUnhex_any s W
  unfold RetUn at this; rw [unhexV_bad h] at this; exact this
theorem hex_back {s A : ByteArray} (h : Good s.data.toList) (hA : A = ⟨(unTo s.data.toList 32).toArray⟩) : Gives 25 A (.string s) := fun W => by
  have := Hex_any A (by rw [hA, Lib.size_eq, mk_toList, unTo_len]; decide) W
  rw [hA, mk_toList, hex_unTo h, str_mk, ← hA] at this; exact this
theorem unhex_of_hex {k X : ByteArray} (hX : X = ⟨(hexL k.data.toList).toArray⟩) (h : k.size = 32) : Gives 23 X (.tuple #[.string k, .int .i64 0]) := fun W => by
  have := Unhex_any X W
  unfold RetUn at this
  rw [hX, mk_toList, unhex_hex (by rw [← Lib.size_eq]; exact h), ← hX] at this
  simp only [str_mk] at this; exact this
theorem unhex_of_short {k X : ByteArray} (hX : X = ⟨(hexL k.data.toList).toArray⟩) (h : k.size ≠ 32) : Gives 23 X (.tuple #[.string ⟨#[]⟩, .int .i64 2]) := fun W => by
  have := Unhex_any X W
  unfold RetUn at this
  rw [hX, mk_toList, unhex_short (by rw [← Lib.size_eq]; exact h), ← hX] at this
  exact this

set_option maxRecDepth 100000 in
set_option maxHeartbeats 4000000 in
theorem KeysTexts_walk (k s : ByteArray) (hk : k.size ≤ maxLen) (hs : s.size ≤ maxLen) (w : World) :
    Calls Try.prog 5 #[.string k, .string s] w fun e w' => e = .returned (.bool true) ∧ Below w.heap.size w w' := by
  have CW := Lib.hid awake_any
  have hB : Below w.heap.size w w := Below.refl _ _
  by_cases g1 : k.size ≤ 200
  · have b1 : decide ((200 : Int) < (k.size : Int)) = false := by simp; omega
    by_cases g2 : s.size ≤ 300
    · have b2 : decide ((300 : Int) < (s.size : Int)) = false := by simp; omega
      have CH : Hid (Gives 25 k (.string ⟨(hexL k.data.toList).toArray⟩)) := Lib.hid (fun W => Hex_any k (by omega) W)
      have CRH : Hid (Gives 26 k (.string ⟨(hexL k.data.toList).toArray⟩)) := Lib.hid (fun W => refHex_any k (by omega) W)
      obtain ⟨X, hX⟩ : ∃ X : ByteArray, X = ⟨(hexL k.data.toList).toArray⟩ := ⟨_, rfl⟩
      rw [← hX] at CH CRH
      by_cases hg : Good s.data.toList
      · have CU := Lib.hid (unhex_good hg)
        have CR := Lib.hid (refUnhex_good hg)
        obtain ⟨A, hA⟩ : ∃ A : ByteArray, A = ⟨(unTo s.data.toList 32).toArray⟩ := ⟨_, rfl⟩
        have CA := Lib.hid (hex_back hg hA)
        rw [← hA] at CU CR
        clear hA hg
        by_cases h32 : k.size = 32
        · have b3 : (((k.size : Nat) : Int) != 32) = false := by rw [h32]; rfl
          have C2 := Lib.hid (unhex_of_hex hX h32)
          clear h32 hX
          unfold Gives at CU CR CH CRH CA C2
          go_enter Try.func5, Try.ntmps5
          go_wp2_with (first
            | ((with_reducible refine (CU.out _).mono ?_); rintro e w1 ⟨rfl, hb1⟩; replace hB := below_step hB hb1; clear hb1)
            | ((with_reducible refine (CR.out _).mono ?_); rintro e w1 ⟨rfl, hb1⟩; replace hB := below_step hB hb1; clear hb1)
            | ((with_reducible refine (CH.out _).mono ?_); rintro e w1 ⟨rfl, hb1⟩; replace hB := below_step hB hb1; clear hb1)
            | ((with_reducible refine (CRH.out _).mono ?_); rintro e w1 ⟨rfl, hb1⟩; replace hB := below_step hB hb1; clear hb1)
            | ((with_reducible refine (CA.out _).mono ?_); rintro e w1 ⟨rfl, hb1⟩; replace hB := below_step hB hb1; clear hb1)
            | ((with_reducible refine (C2.out _).mono ?_); rintro e w1 ⟨rfl, hb1⟩; replace hB := below_step hB hb1; clear hb1)
            | ((with_reducible refine (CW.out _).mono ?_); rintro e w1 ⟨rfl, hb1⟩; replace hB := below_step hB hb1; clear hb1))
          go_ret
          exact ⟨rfl, hB⟩
        · have b3 : (((k.size : Nat) : Int) != 32) = true := by simp; omega
          have C2 := Lib.hid (unhex_of_short hX h32)
          clear hX
          unfold Gives at CU CR CH CRH CA C2
          go_enter Try.func5, Try.ntmps5
          go_wp2_with (first
            | ((with_reducible refine (CU.out _).mono ?_); rintro e w1 ⟨rfl, hb1⟩; replace hB := below_step hB hb1; clear hb1)
            | ((with_reducible refine (CR.out _).mono ?_); rintro e w1 ⟨rfl, hb1⟩; replace hB := below_step hB hb1; clear hb1)
            | ((with_reducible refine (CH.out _).mono ?_); rintro e w1 ⟨rfl, hb1⟩; replace hB := below_step hB hb1; clear hb1)
            | ((with_reducible refine (CRH.out _).mono ?_); rintro e w1 ⟨rfl, hb1⟩; replace hB := below_step hB hb1; clear hb1)
            | ((with_reducible refine (CA.out _).mono ?_); rintro e w1 ⟨rfl, hb1⟩; replace hB := below_step hB hb1; clear hb1)
            | ((with_reducible refine (C2.out _).mono ?_); rintro e w1 ⟨rfl, hb1⟩; replace hB := below_step hB hb1; clear hb1)
            | ((with_reducible refine (CW.out _).mono ?_); rintro e w1 ⟨rfl, hb1⟩; replace hB := below_step hB hb1; clear hb1))
          go_ret
          exact ⟨rfl, hB⟩
      · have CU := Lib.hid (unhex_bad hg)
        have CR := Lib.hid (refUnhex_bad hg)
        clear hg
        by_cases h32 : k.size = 32
        · have b3 : (((k.size : Nat) : Int) != 32) = false := by rw [h32]; rfl
          have C2 := Lib.hid (unhex_of_hex hX h32)
          clear h32 hX
          unfold Gives at CU CR CH CRH C2
          go_enter Try.func5, Try.ntmps5
          go_wp2_with (first
            | ((with_reducible refine (CU.out _).mono ?_); rintro e w1 ⟨rfl, hb1⟩; replace hB := below_step hB hb1; clear hb1)
            | ((with_reducible refine (CR.out _).mono ?_); rintro e w1 ⟨rfl, hb1⟩; replace hB := below_step hB hb1; clear hb1)
            | ((with_reducible refine (CH.out _).mono ?_); rintro e w1 ⟨rfl, hb1⟩; replace hB := below_step hB hb1; clear hb1)
            | ((with_reducible refine (CRH.out _).mono ?_); rintro e w1 ⟨rfl, hb1⟩; replace hB := below_step hB hb1; clear hb1)
            | ((with_reducible refine (C2.out _).mono ?_); rintro e w1 ⟨rfl, hb1⟩; replace hB := below_step hB hb1; clear hb1)
            | ((with_reducible refine (CW.out _).mono ?_); rintro e w1 ⟨rfl, hb1⟩; replace hB := below_step hB hb1; clear hb1))
          go_ret
          exact ⟨rfl, hB⟩
        · have b3 : (((k.size : Nat) : Int) != 32) = true := by simp; omega
          have C2 := Lib.hid (unhex_of_short hX h32)
          clear hX
          unfold Gives at CU CR CH CRH C2
          go_enter Try.func5, Try.ntmps5
          go_wp2_with (first
            | ((with_reducible refine (CU.out _).mono ?_); rintro e w1 ⟨rfl, hb1⟩; replace hB := below_step hB hb1; clear hb1)
            | ((with_reducible refine (CR.out _).mono ?_); rintro e w1 ⟨rfl, hb1⟩; replace hB := below_step hB hb1; clear hb1)
            | ((with_reducible refine (CH.out _).mono ?_); rintro e w1 ⟨rfl, hb1⟩; replace hB := below_step hB hb1; clear hb1)
            | ((with_reducible refine (CRH.out _).mono ?_); rintro e w1 ⟨rfl, hb1⟩; replace hB := below_step hB hb1; clear hb1)
            | ((with_reducible refine (C2.out _).mono ?_); rintro e w1 ⟨rfl, hb1⟩; replace hB := below_step hB hb1; clear hb1)
            | ((with_reducible refine (CW.out _).mono ?_); rintro e w1 ⟨rfl, hb1⟩; replace hB := below_step hB hb1; clear hb1))
          go_ret
          exact ⟨rfl, hB⟩
    · have b2 : decide ((300 : Int) < (s.size : Int)) = true := by simp; omega
      go_enter Try.func5, Try.ntmps5
      go_wp2_with (first
        | ((with_reducible refine (CW.out _).mono ?_); rintro e w1 ⟨rfl, hb1⟩; replace hB := below_step hB hb1; clear hb1))
      go_ret
      exact ⟨rfl, hB⟩
  · have b1 : decide ((200 : Int) < (k.size : Int)) = true := by simp; omega
    go_enter Try.func5, Try.ntmps5
    go_wp2_with (first
      | ((with_reducible refine (CW.out _).mono ?_); rintro e w1 ⟨rfl, hb1⟩; replace hB := below_step hB hb1; clear hb1))
    go_ret
    exact ⟨rfl, hB⟩

end Go.Proofs.Yteiflmdnakhekaa

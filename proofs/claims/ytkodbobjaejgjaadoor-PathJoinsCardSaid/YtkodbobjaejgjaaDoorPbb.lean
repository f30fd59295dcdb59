/-
  Layer 9: PathJoins.
-/
import Derived.Test.YtkodbobjaejgjaaDoorPba
set_option linter.unusedVariables false
namespace Go.Proofs.YtkodbobjaejgjaaDoor
open Go.RowKit Go.Shelf
attribute [local go_sem] Oper.semAt_some

set_option maxRecDepth 100000 in
set_option maxHeartbeats 4000000 in
theorem PathJoins_walk (v : Value) (L : List ByteArray) (w : World) (hv : IsStrs w v L) : Calls Tryd.prog 4 #[v] w fun e w' => e = .returned (.bool true) ∧ Below w.heap.size w w' := by
  have AW := Lib.hid awake_any
  have HV := Lib.hid hv
  obtain ⟨hm, a, cap, rfl, _, hc⟩ := hv
  have hmm : L.length ≤ 9223372036854775807 := by unfold maxLen at hm; omega
  have HC := Lib.hid hc
  clear hm hc
  by_cases h8 : 30 < L.length
  · have e1 : decide ((30 : Int) < (L.length : Int)) = true := decide_eq_true (by omega)
    clear h8
    go_enter Tryd.func4, Tryd.ntmps4
    go_wp2_with fail
    refine (AW.out _).mono ?_
    rintro e w1 ⟨rfl, hb⟩
    go_wp2
    go_ret
    exact ⟨rfl, hb⟩
  · have e1 : decide ((30 : Int) < (L.length : Int)) = false := decide_eq_false (by omega)
    have C := Lib.hid (Join_any _ L w HV.out)
    have D := Lib.hid (fun W hW => refJoin_any _ L W (HV.out.stays (w' := W) hW))
    obtain ⟨y, hy⟩ : ∃ y : ByteArray, y = ⟨(joinN (txts L)).toArray⟩ := ⟨_, rfl⟩
    rw [← hy] at C D
    clear hy
    go_enter Tryd.func4, Tryd.ntmps4
    go_wp2_with fail
    go_loop [11] (fun i => ∃ (k : Nat), k ≤ L.length ∧ i = .int .i64 k) (fun i => L.length - (intOf i).toNat)
    case atStart => exact ⟨0, Nat.zero_le _, rfl⟩
    case round =>
      obtain ⟨k, hk, rfl⟩ := hrel
      by_cases hlt : k < L.length
      · obtain ⟨b1, o1, rfl, hbl, g1⟩ := HC.out (by omega)
        have q1 := g1 k hlt
        clear g1
        obtain ⟨y, hy⟩ : ∃ y, y = L[k] := ⟨_, rfl⟩
        rw [← hy] at q1
        clear hy
        have hbk : decide ((k : Int) < (L.length : Int)) = true := by simpa using (show (k : Int) < L.length by omega)
        by_cases h100 : 100 < y.size
        · have e2 : decide ((100 : Int) < (y.size : Int)) = true := decide_eq_true (by omega)
          clear h100
          go_wp2_with fail
          refine (AW.out _).mono ?_
          rintro e w1 ⟨rfl, hb⟩
          go_wp2
          go_ret
          exact ⟨rfl, hb⟩
        · have e2 : decide ((100 : Int) < (y.size : Int)) = false := decide_eq_false (by omega)
          clear h100
          go_wp2_with fail
          go_round
          case rel => exact ⟨k + 1, by omega, by go_num⟩
          case measure => simp [intOf]; omega
      · obtain rfl : k = L.length := by omega
        go_wp2_with fail
        refine C.out.mono ?_
        rintro e w1 ⟨rfl, hb⟩
        have D1 := Lib.hid (D.out _ hb)
        go_wp2_with fail
        refine D1.out.mono ?_
        rintro e w2 ⟨rfl, rfl⟩
        go_wp2_with fail
        refine (AW.out _).mono ?_
        rintro e w3 ⟨rfl, hb3⟩
        have hB := below_step hb hb3
        go_wp2
        go_ret
        exact ⟨rfl, hB⟩
end Go.Proofs.YtkodbobjaejgjaaDoor

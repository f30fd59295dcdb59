/-
  The chapter's examples over this translation.
-/
import Derived.Test.YtohicccbaenegaaGreatDoorYNdq
import Derived.Test.YtohicccbaenegaaGreatDoorYNdi
set_option linter.unusedVariables false
namespace Go.Proofs.YtohicccbaenegaaGreatDoor
open Go.RowKit
attribute [local go_sem] Oper.semAt_some

def dirN0 : Nd := ⟨3, ⟨#[]⟩, [], []⟩
theorem ex_dir : RdOk [3, 0] dirN0 0 := .inl ⟨rfl, by decide +kernel, by decide +kernel⟩
theorem ex_piece : wrN ⟨1, ⟨#[97]⟩, [], []⟩ = [1, 97] := by decide +kernel
theorem ex_file : wrN ⟨2, ⟨#[]⟩, [], []⟩ = [2, 0] := by decide +kernel
theorem ex_read (w : World) (hT : ErrT w) : Calls Tryz.prog 20 #[.string ⟨#[3, 0]⟩] w fun e w' => ∃ a1 c1 a2 c2, e = .returned (.tuple #[.agg #[.int .i64 3, .string ⟨#[]⟩, .slice a1 0 c1, .slice a2 0 c2], .int .i64 0]) ∧ Below w.heap.size w w' := by
  refine (pRead_any ⟨#[3, 0]⟩ (by decide) w hT).mono ?_
  rintro e w' ⟨n, err, hR, pv, ev, rfl, hp, he, hb⟩
  obtain ⟨rfl, rfl⟩ := rdOk_same hR ex_dir
  obtain ⟨_, a1, c1, rfl, _, _⟩ := hp
  obtain ⟨_, a2, c2, rfl, _, _⟩ := he
  exact ⟨a1, c1, a2, c2, rfl, hb⟩
theorem ex_w1 (w : World) : Calls Tryz.prog 13 #[.agg #[.int .i64 1, .string ⟨#[97]⟩, .slice none 0 0, .slice none 0 0]] w fun e w' => e = .returned (.string ⟨#[1, 97]⟩) ∧ Below w.heap.size w w' := by
  have := pWrite_any ⟨1, ⟨#[97]⟩, [], []⟩ (.slice none 0 0) (.slice none 0 0) w (parts_nil _) (entries_nil _) (by decide)
  rw [ex_piece] at this; exact this
theorem ex_w2 (w : World) : Calls Tryz.prog 13 #[.agg #[.int .i64 2, .string ⟨#[]⟩, .slice none 0 0, .slice none 0 0]] w fun e w' => e = .returned (.string ⟨#[2, 0]⟩) ∧ Below w.heap.size w w' := by
  have := pWrite_any ⟨2, ⟨#[]⟩, [], []⟩ (.slice none 0 0) (.slice none 0 0) w (parts_nil _) (entries_nil _) (by decide)
  rw [ex_file] at this; exact this
set_option maxRecDepth 100000 in
set_option maxHeartbeats 1000000 in
theorem awake_any (w : World) (hT : ErrT w) : Calls Tryz.prog 8 #[] w fun e w' => e = .returned (.bool true) ∧ Below w.heap.size w w' := by
  have ER := Lib.hid (ex_read w hT)
  have W1 := Lib.hid ex_w1; have W2 := Lib.hid ex_w2
  clear hT
  go_enter Tryz.func8, Tryz.ntmps8
  go_wp2_with fail
  with_reducible refine ER.out.mono ?_
  rintro e w1 ⟨a1, c1, a2, c2, rfl, hb1⟩
  go_wp2_with fail
  have hb2 := (Below.refl w1.heap.size w1).alloc (Nat.le_refl _) (.cells #[.int .i64 3, .string ⟨#[]⟩, .slice a1 0 c1, .slice a2 0 c2] 25)
  have HB1 := Lib.hid (below_step hb1 hb2)
  with_reducible refine (W1.out _).mono ?_
  rintro e w3 ⟨rfl, hb3⟩
  have HX3 := Lib.hid ((ndBox_new w1 ⟨3, ⟨#[]⟩, [], []⟩ (.slice a1 0 c1) (.slice a2 0 c2) 25).stays hb3)
  have HB3 := Lib.hid (below_step HB1.out hb3)
  clear hb1 hb2 hb3
  go_wp2_with fail
  with_reducible refine (W2.out _).mono ?_
  rintro e w4 ⟨rfl, hb4⟩
  obtain ⟨x0, x1, x2, x3⟩ := (HX3.out.stays hb4).cells
  simp only at x0 x1
  have HB4 := Lib.hid (below_step HB3.out hb4)
  clear hb4
  go_wp2
  go_ret
  exact ⟨rfl, HB4.out⟩
end Go.Proofs.YtohicccbaenegaaGreatDoor

/-
  Contracts over this translation: the statements ShaSums and ShaBlocks as walks.
-/
import Derived.WalkKit
import Derived.LoopTactic
import Derived.Outline
import Derived.Laws.BitsAllLaws
import Derived.Lib.Hide
import Derived.Below
import Derived.Laws.Rows
import Derived.Laws.CopyOwn
import Derived.Test.YtmaipdlioehigaaProg
import Derived.Test.YtmaipdlioehigaaShm
import Derived.Test.YtmaipdlioehigaaSwa
import Derived.Lib.QuietBelow
import Derived.Great.BuildSlice
import Derived.BigRegion
import Derived.Deep.QuietTactic
import Derived.BigQuiet
import Derived.StillTailTactics
import Derived.IntWalk
import Derived.WalkSmall
import Derived.RegionTactic
set_option linter.unusedVariables false
set_option pp.maxSteps 200000
namespace Go.Proofs.Ytmaipdlioehigaa
open Go.RowKit Go.Sort

/-- A row is read, in a region of quiet calls that make memory. -/
theorem wpQuiet_run {P : Program} {ops : Array Oper} {C : World → Prop} {Q : Act → Prop} {a : Act} {o : Oper} {rest : List Oper} (hw : Region.wanted o (yielded ops a.tmps) = true) (v : Value)
    (hrun : ∀ w, C w → (execOp a.eval o).run P w = .ok (.value v) w) (h : wpQuiet P ops C Q rest (a.put o.dst v)) : wpQuiet P ops C Q (o :: rest) a := by
  refine wpQuiet_step fun K hK => ?_
  rw [if_pos hw]
  refine ⟨v, fun w hC => ?_, hK _ h⟩
  unfold Oper.quietAt
  rw [hrun w hC]
  exact ⟨rfl, rfl⟩
theorem row_grown {w : World} {B : Nat} {xs : Array Value} {T : TypeId} (h : Row w B xs T) (d : Nat) (os : Array Obj) : Row (grow (redrawn w d) os) B xs T := h.step (below_regrown w d os)
theorem wpQuiet_load_row {P : Program} {ops : Array Oper} {w0 : World} {Q : Act → Prop} {a : Act} {o : Oper} {rest : List Oper} (hw : Region.wanted o (yielded ops a.tmps) = true) (ty : TypeId) (x : Operand) (ho : o.op = .load ty x)
    (B : Nat) (hx : a.eval x = .pointer (some ⟨B, 0, none⟩)) (xs : Array Value) (T : TypeId) (hR : Row w0 B xs T) (d : TypeDesc) (hu : P.underlying ty = some d) (hd : d.isRow = true) (hi : (P.info? ty).map (·.size) = some xs.size)
    (h : wpQuiet P ops (fun w' => ∃ p : Regrown, w' = grow (redrawn w0 p.d) p.os) Q rest (a.put o.dst (.agg xs))) : wpQuiet P ops (fun w' => ∃ p : Regrown, w' = grow (redrawn w0 p.d) p.os) Q (o :: rest) a := by
  refine wpQuiet_run hw _ (fun w hC => ?_) h
  obtain ⟨p, rfl⟩ := hC
  have hr := Row.rangeA (A := []) (M := xs) (C := []) (by simpa using row_grown hR p.d p.os) 0 rfl
  unfold execOp
  simp only [ho, hx, Instr.loadAt, Instr.sureAddr, Sem.run_bind, Sem.run_pure, Result.andThen_ok, run_loadVar_mid _ B 0 ty xs.toList d hr hu hd (by rw [Array.length_toList]; exact hi), Array.toArray_toList]

set_option maxRecDepth 100000 in
set_option maxHeartbeats 4000000 in
theorem ShaSums_walk (s : ByteArray) (w : World) :
    Calls Try.prog 4 #[.string s] w fun e w' => e = .returned (.bool true) ∧ Below w.heap.size w w' := by
  by_cases h : s.size ≤ 3000
  · have CS := Lib.hid (fun w => Sum_any s (by omega) w)
    have CR := Lib.hid (fun w => refSum_any s (by omega) w)
    have hb : decide ((3000 : Int) < (s.size : Int)) = false := by simpa using (show ¬ (3000 : Int) < (s.size : Int) by omega)
    go_enter Try.func4, Try.ntmps4
    go_wp2_with fail
    refine (CS.out _).mono ?_
    rintro e w1 ⟨rfl, hb1⟩
    go_wp2_with fail
    refine (CR.out _).mono ?_
    rintro e w2 ⟨rfl, hb2⟩
    go_wp2_with fail
    refine (awake_any _).mono ?_
    rintro e w3 ⟨rfl, hb3⟩
    go_wp2_with fail
    go_ret
    exact ⟨rfl, below_step (below_step hb1 hb2) hb3⟩
  · have hb : decide ((3000 : Int) < (s.size : Int)) = true := by simpa using (show (3000 : Int) < (s.size : Int) by omega)
    go_enter Try.func4, Try.ntmps4
    go_wp2_with fail
    refine (awake_any _).mono ?_
    rintro e w3 ⟨rfl, hb3⟩
    go_wp2_with fail
    go_ret
    exact ⟨rfl, hb3⟩

theorem eqItems_same (w : World) (xs : Array Value) (n : Nat) (hx : ∀ i, i < n → ∃ z : Nat, xs[i]? = some (.int .u32 z)) : ∀ is : List Nat, (∀ i ∈ is, i < n) → (Op.eqItems 9999 22 1 xs xs is).run Try.prog w = .ok true w
  | [], _ => by simp [Op.eqItems]
  | i :: is, h => by
    obtain ⟨z, hz⟩ := hx i (h i List.mem_cons_self)
    have h' : xs.getD i undef = .int .u32 z := by simp [hz]
    have e : (isAgg 22).run Try.prog w = .ok false w := by kernel_rfl
    have hp : (part 22 xs i).run Try.prog w = .ok (.int .u32 z) w := by simp [part, Sem.run_bind, e, hz, go_sem]
    have he := run_equalIn_int (P := Try.prog) w 9998 22 .u32 .u32 (z : Int) (z : Int) Try.underlying22
    have ih := eqItems_same w xs n hx is (fun j hj => h j (List.mem_cons_of_mem _ hj))
    simp only [Op.eqItems, Sem.run_bind, Nat.mul_one, hp, Result.andThen_ok, he, beq_self_eq_true]
    simp [ih]
theorem eq_hash (l : List Nat) (hl : l.length = 8) (w : World) : (Op.equalIn 10000 24 (.agg (numV l)) (.agg (numV l))).run Try.prog w = .ok true w := by
  obtain ⟨i, hi⟩ : ∃ i, Try.prog.info? 22 = some i := Option.isSome_iff_exists.1 (by kernel_rfl)
  rw [run_equalIn_array w 9999 _ _ Try.underlying24 hi, show Try.prog.cellsOf 22 = 1 by kernel_rfl]
  exact eqItems_same w (numV l) 8 (fun i hi => ⟨_, numV_get l i (by omega)⟩) _ (fun i hi => List.mem_range.1 hi)

set_option maxRecDepth 100000 in
set_option maxHeartbeats 4000000 in
theorem ShaBlocks_walk (l : List UInt8) (hl : l.length = 64) (s : St) (hs : s.ok) (w : World) :
    Calls Try.prog 3 #[.agg (numV s.list), .agg (bytV l)] w fun e w' => e = .returned (.bool true) ∧ RowKit.Below w.heap.size w w' := by
  have C1 := Lib.hid (fun w => First_any w)
  have C2 := Lib.hid (fun w => refFirst_any w)
  have C3 := Lib.hid (fun w => Block_any l hl s hs w)
  have C4 := Lib.hid (fun w => refBlock_any l hl s hs w)
  obtain ⟨f, hf⟩ : ∃ f, f = blkS s (fun i => (l.getD i 0).toNat) := ⟨_, rfl⟩
  rw [← hf] at C3 C4
  have hV8 : (numV s.list).size = 8 := by rw [numV_size]; rfl
  have hX8 : (bytV l).size = 64 := by rw [bytV_size, hl]
  obtain ⟨V, hV⟩ : ∃ V, V = numV s.list := ⟨_, rfl⟩
  obtain ⟨X, hX⟩ : ∃ X, X = bytV l := ⟨_, rfl⟩
  rw [← hV, ← hX] at C3 C4
  rw [← hV] at hV8 ⊢
  rw [← hX] at hX8 ⊢
  have HV8 := Lib.hid hV8; have HX8 := Lib.hid hX8
  have hea := fun W => eq_hash first.list rfl W
  have heb := fun W => eq_hash f.list rfl W
  clear hf hV hX hV8 hX8
  go_enter Try.func3, Try.ntmps3
  go_wp2_with fail
  obtain ⟨W, hW⟩ : ∃ W, W = (w.alloc (.cells V 24)).alloc (.cells X 25) := ⟨_, rfl⟩
  rw [← hW]
  have q1 : Row W w.heap.size V 24 := by rw [hW]; exact (Row.made _ _ _).alloc _
  have q2 : Row W (w.heap.size + 1) X 25 := by
    rw [hW]
    have := Row.made (w.alloc (.cells V 24)) X 25
    simpa using this
  have h0 : RowKit.Below w.heap.size w W := by rw [hW]; exact ((RowKit.Below.refl _ _).alloc (Nat.le_refl _) _).alloc (by simp) _
  have Q1 := Lib.hid q1; have Q2 := Lib.hid q2
  clear hW q1 q2
  refine wp_region_quiet_below (by kernel_rfl) (by kernel_rfl) ?_
  repeat (first
    | refine wpQuiet_load_row (by rfl) 24 _ rfl w.heap.size rfl V _ Q1.out _ Try.underlying24 rfl (by rw [HV8.out]; exact size24) ?_
    | refine wpQuiet_load_row (by rfl) 25 _ rfl (w.heap.size + 1) rfl X _ Q2.out _ Try.underlying25 rfl (by rw [HX8.out]; exact size25) ?_
    | go_big_quiet_step ((first | (go_at_call 8; exact Calls.regrown_of (C1.out _)) | (go_at_call 9; exact Calls.regrown_of (C2.out _)) | (go_at_call 10; exact Calls.regrown_of (C3.out _)) | (go_at_call 11; exact Calls.regrown_of (C4.out _)) | (go_at_call 12; exact Calls.regrown_of (awake_any _))))
    | quiet_step ((first | (go_at_call 8; exact Calls.regrown_of (C1.out _)) | (go_at_call 9; exact Calls.regrown_of (C2.out _)) | (go_at_call 10; exact Calls.regrown_of (C3.out _)) | (go_at_call 11; exact Calls.regrown_of (C4.out _)) | (go_at_call 12; exact Calls.regrown_of (awake_any _)))))
  refine wpQuiet_nil ?_
  intro wq hwq
  have hbq : RowKit.Below W.heap.size W wq := by obtain ⟨p, rfl⟩ := hwq; exact below_regrown _ _ _
  clear hwq
  go_wp2
  go_ret
  exact ⟨rfl, below_step h0 hbq⟩
end Go.Proofs.Ytmaipdlioehigaa

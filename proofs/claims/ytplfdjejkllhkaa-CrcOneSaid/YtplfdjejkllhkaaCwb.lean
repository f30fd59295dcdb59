/-
  Layer 2: the statement CrcOne as a walk over this translation.
-/
import Derived.Test.YtplfdjejkllhkaaCwa
import Derived.Deep.QuietTactic
import Derived.BigQuiet
import Derived.Lib.QuietBelow
set_option linter.unusedVariables false
namespace Go.Proofs.Ytplfdjejkllhkaa
open Go.RowKit Go.Sort

def arr4 (x0 x1 x2 x3 : UInt8) : ByteArray := ⟨#[x0, x1, x2, x3]⟩
theorem heap_regrown {w : World} {B : Nat} {o : Obj} (h : w.heap[B]? = some o) (d : Nat) (os : Array Obj) : (grow (redrawn w d) os).heap[B]? = some o := by
  rw [(below_regrown w d os).block B (Array.getElem?_eq_some_iff.1 h).1]; exact h
theorem conv4 (w : World) (B : Nat) (t : TypeId) (x0 x1 x2 x3 : UInt8) (h : w.heap[B]? = some (.cells #[.int .u8 x0.toNat, .int .u8 x1.toNat, .int .u8 x2.toNat, .int .u8 x3.toNat] t (0, 0))) (d : Nat) (os : Array Obj) :
    (convert 30 9 (.slice (some ⟨B, 0, none⟩) 4 4)).run Try.prog (grow (redrawn w d) os) = .ok (.string (arr4 x0 x1 x2 x3)) (grow (redrawn w d) os) := by
  rw [conv_row 30 5 9 Try.underlying30 Try.underlying5 Try.underlying9 _ B t (0, 0) [(x0.toNat : Int), x1.toNat, x2.toNat, x3.toNat] (heap_regrown h d os) 4 4 rfl]
  simp [strOfNums, arr4]

/-- Two arrays of four bytes are the same. -/
def arrEq (x0 x1 x2 x3 y0 y1 y2 y3 : UInt8) : Bool := decide (x0 = y0 ∧ x1 = y1 ∧ x2 = y2 ∧ x3 = y3)
theorem part_byte (xs : Array Value) (k : IntKind) (n : Int) (i : Nat) (h : xs[i]? = some (.int k n)) (w : World) : (part 5 xs i).run Try.prog w = .ok (.int k n) w := by
  have h' : xs.getD i undef = .int k n := by simp [h]
  have e : (isAgg 5).run Try.prog w = .ok false w := by kernel_rfl
  simp [part, Sem.run_bind, e, h, go_sem]
theorem cells8 : Try.prog.cellsOf 5 = 1 := by kernel_rfl
theorem byte_ne {a b : UInt8} (h : ¬ a = b) : (((a.toNat : Int)) == (b.toNat : Int)) = false := by
  rw [beq_eq_false_iff_ne]
  intro e; exact h (UInt8.toNat_inj.1 (by omega))
theorem eq_arr4 (x0 x1 x2 x3 y0 y1 y2 y3 : UInt8) (w : World) :
    (Op.equalIn 10000 29 (.agg #[.int .u8 x0.toNat, .int .u8 x1.toNat, .int .u8 x2.toNat, .int .u8 x3.toNat]) (.agg #[.int .u8 y0.toNat, .int .u8 y1.toNat, .int .u8 y2.toNat, .int .u8 y3.toNat])).run Try.prog w = .ok (arrEq x0 x1 x2 x3 y0 y1 y2 y3) w := by
  obtain ⟨i, hi⟩ : ∃ i, Try.prog.info? 5 = some i := Option.isSome_iff_exists.1 (by kernel_rfl)
  rw [run_equalIn_array w 9999 _ _ Try.underlying29 hi, cells8]
  have one : ∀ (xs ys : Array Value) (j : Nat) (is : List Nat) (a b : UInt8), xs[j]? = some (.int .u8 a.toNat) → ys[j]? = some (.int .u8 b.toNat) →
      (Op.eqItems 9999 5 1 xs ys (j :: is)).run Try.prog w = if a = b then (Op.eqItems 9999 5 1 xs ys is).run Try.prog w else .ok false w := fun xs ys j is a b hx hy => by
    have e := run_equalIn_int (P := Try.prog) w 9998 5 .u8 .u8 (a.toNat : Int) (b.toNat : Int) Try.underlying5
    simp only [Op.eqItems, Sem.run_bind, Nat.mul_one, part_byte xs _ _ j hx, part_byte ys _ _ j hy, Result.andThen_ok, e]
    by_cases h : a = b
    · subst h; simp
    · rw [byte_ne h, if_neg h]; simp
  rw [show List.range 4 = [0, 1, 2, 3] from rfl, one _ _ 0 _ x0 y0 rfl rfl, one _ _ 1 _ x1 y1 rfl rfl, one _ _ 2 _ x2 y2 rfl rfl, one _ _ 3 _ x3 y3 rfl rfl]
  unfold arrEq
  by_cases h0 : x0 = y0
  · by_cases h1 : x1 = y1
    · by_cases h2 : x2 = y2
      · by_cases h3 : x3 = y3
        · simp [h0, h1, h2, h3, Op.eqItems]
        · simp [h0, h1, h2, h3]
      · simp [h0, h1, h2]
    · simp [h0, h1]
  · simp [h0]
theorem sum_arr (a b : ByteArray) (x0 x1 x2 x3 y0 y1 y2 y3 : UInt8) :
    ((((crcMore 0 (a.data.toList ++ ((arr4 x0 x1 x2 x3).data.toList ++ b.data.toList)) : Nat) : Int) == ((crcMore 0 (a.data.toList ++ ((arr4 y0 y1 y2 y3).data.toList ++ b.data.toList)) : Nat) : Int)) == arrEq x0 x1 x2 x3 y0 y1 y2 y3) = true := by
  have h := crcMore_four 0 a.data.toList b.data.toList x0 x1 x2 x3 y0 y1 y2 y3
  rw [List.append_assoc, List.append_assoc] at h
  show ((((crcMore 0 (a.data.toList ++ ([x0, x1, x2, x3] ++ b.data.toList)) : Nat) : Int) == ((crcMore 0 (a.data.toList ++ ([y0, y1, y2, y3] ++ b.data.toList)) : Nat) : Int)) == arrEq x0 x1 x2 x3 y0 y1 y2 y3) = true
  unfold arrEq
  by_cases e : x0 = y0 ∧ x1 = y1 ∧ x2 = y2 ∧ x3 = y3
  · rw [h.2 e, decide_eq_true e]; simp
  · rw [decide_eq_false e, show ((((crcMore 0 (a.data.toList ++ ([x0, x1, x2, x3] ++ b.data.toList)) : Nat) : Int) == ((crcMore 0 (a.data.toList ++ ([y0, y1, y2, y3] ++ b.data.toList)) : Nat) : Int))) = false from by
      rw [beq_eq_false_iff_ne]; intro q; exact e (h.1 (by omega))]
    rfl

set_option maxRecDepth 100000 in
set_option maxHeartbeats 1000000 in
theorem CrcOne_walk (a : ByteArray) (ha : a.size ≤ maxLen) (b : ByteArray) (hb : b.size ≤ maxLen) (x0 x1 x2 x3 y0 y1 y2 y3 : UInt8) (w : World) :
    Calls Try.prog 5 #[.string a, .string b, .agg #[.int .u8 x0.toNat, .int .u8 x1.toNat, .int .u8 x2.toNat, .int .u8 x3.toNat], .agg #[.int .u8 y0.toNat, .int .u8 y1.toNat, .int .u8 y2.toNat, .int .u8 y3.toNat]] w fun e w' => e = .returned (.bool true) ∧ Below w.heap.size w w' := by
  by_cases h1 : a.size ≤ 5000
  · by_cases h2 : b.size ≤ 5000
    · have hax : (a ++ arr4 x0 x1 x2 x3 ++ b).size ≤ maxLen := by rw [size_app, size_app]; unfold maxLen; show _ + 4 + _ ≤ _; omega
      have hay : (a ++ arr4 y0 y1 y2 y3 ++ b).size ≤ maxLen := by rw [size_app, size_app]; unfold maxLen; show _ + 4 + _ ≤ _; omega
      have c1 := fun w => Sum_any _ hax w
      have c2 := fun w => Sum_any _ hay w
      have C1 := Lib.hid c1; have C2 := Lib.hid c2
      clear c1 c2
      obtain ⟨W, hW⟩ : ∃ W, W = (w.alloc (.cells #[.int .u8 x0.toNat, .int .u8 x1.toNat, .int .u8 x2.toNat, .int .u8 x3.toNat] 29)).alloc (.cells #[.int .u8 y0.toNat, .int .u8 y1.toNat, .int .u8 y2.toNat, .int .u8 y3.toNat] 29) := ⟨_, rfl⟩
      have hx : W.heap[w.heap.size]? = some (.cells #[.int .u8 x0.toNat, .int .u8 x1.toNat, .int .u8 x2.toNat, .int .u8 x3.toNat] 29) := by rw [hW]; exact heap_alloc2_old _ _ _
      have hy : W.heap[w.heap.size + 1]? = some (.cells #[.int .u8 y0.toNat, .int .u8 y1.toNat, .int .u8 y2.toNat, .int .u8 y3.toNat] 29) := by rw [hW]; exact heap_alloc2_new _ _ _
      have sx : (arr4 x0 x1 x2 x3).size = 4 := rfl
      have sy : (arr4 y0 y1 y2 y3).size = 4 := rfl
      have hcx := conv4 W _ _ _ _ _ _ hx
      have hcy := conv4 W _ _ _ _ _ _ hy
      have HX := Lib.hid hx; have HY := Lib.hid hy; clear hx hy
      have HW := Lib.hid hW; clear hW
      go_enter Try.func5, Try.ntmps5
      go_wp2_with fail
      rw [← HW.out]
      refine wp_region_quiet_below (by kernel_rfl) (by kernel_rfl) ?_
      repeat (first | go_big_quiet_step ((first | exact Calls.regrown_of (C1.out _) | exact Calls.regrown_of (C2.out _))) | quiet_step ((first | exact Calls.regrown_of (C1.out _) | exact Calls.regrown_of (C2.out _))))
      refine wpQuiet_nil ?_
      intro wq hwq
      have hbq : Below W.heap.size W wq := by obtain ⟨p, rfl⟩ := hwq; exact below_regrown _ _ _
      clear hwq
      have hqx : wq.heap[w.heap.size]? = some (.cells #[.int .u8 x0.toNat, .int .u8 x1.toNat, .int .u8 x2.toNat, .int .u8 x3.toNat] 29) := by rw [hbq.block _ (Array.getElem?_eq_some_iff.1 HX.out).1]; exact HX.out
      have hqy : wq.heap[w.heap.size + 1]? = some (.cells #[.int .u8 y0.toNat, .int .u8 y1.toNat, .int .u8 y2.toNat, .int .u8 y3.toNat] 29) := by rw [hbq.block _ (Array.getElem?_eq_some_iff.1 HY.out).1]; exact HY.out
      have HQX := Lib.hid hqx; have HQY := Lib.hid hqy; clear hqx hqy hcx hcy sx sy
      have hea := eq_arr4 x0 x1 x2 x3 y0 y1 y2 y3
      have hsa := sum_arr a b x0 x1 x2 x3 y0 y1 y2 y3
      go_wp2_with (first
        | refine wpList_load_row rfl 29 (.tmp 6) rfl w.heap.size rfl 29 _ (0, 0) _ HQX.out Try.underlying29 rfl (by kernel_rfl) ?_
        | refine wpList_load_row rfl 29 (.tmp 7) rfl (w.heap.size + 1) rfl 29 _ (0, 0) _ HQY.out Try.underlying29 rfl (by kernel_rfl) ?_
        | (go_at_call 8; refine (awake_any _).mono ?_; rintro e w5 ⟨rfl, hb5⟩))
      go_ret
      have h0 : RowKit.Below w.heap.size w W := by rw [HW.out]; exact ((RowKit.Below.refl _ _).alloc (Nat.le_refl _) _).alloc (by simp) _
      exact ⟨rfl, below_step (below_step h0 hbq) hb5⟩
    · go_enter Try.func5, Try.ntmps5
      go_wp2_with fail
      refine (awake_any _).mono ?_
      rintro e w5 ⟨rfl, hb5⟩
      go_wp2_with fail
      go_ret
      exact ⟨rfl, below_step (((Below.refl _ _).alloc (Nat.le_refl _) _).alloc (by simp) _) hb5⟩
  · go_enter Try.func5, Try.ntmps5
    go_wp2_with fail
    refine (awake_any _).mono ?_
    rintro e w5 ⟨rfl, hb5⟩
    go_wp2_with fail
    go_ret
    exact ⟨rfl, below_step (((Below.refl _ _).alloc (Nat.le_refl _) _).alloc (by simp) _) hb5⟩
/-- CrcOne, of arrays as they come. -/
theorem CrcOne_walk' (a b : ByteArray) (x y : List UInt8) (ha : a.size ≤ maxLen) (hb : b.size ≤ maxLen) (hx : x.length = 4) (hy : y.length = 4) (w : World) :
    Calls Try.prog 5 #[.string a, .string b, .agg ((x.map fun u => (u.toNat : Int)).map (Value.int .u8)).toArray, .agg ((y.map fun u => (u.toNat : Int)).map (Value.int .u8)).toArray] w fun e w' => e = .returned (.bool true) ∧ RowKit.Below w.heap.size w w' := by
  match x, y, hx, hy with
  | [x0, x1, x2, x3], [y0, y1, y2, y3], _, _ => exact CrcOne_walk a ha b hb x0 x1 x2 x3 y0 y1 y2 y3 w
end Go.Proofs.Ytplfdjejkllhkaa

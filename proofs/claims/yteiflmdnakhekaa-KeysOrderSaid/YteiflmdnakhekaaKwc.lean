/-
  Layer 5: the statement KeysOrder as a walk over this translation.
-/
import Derived.Test.YteiflmdnakhekaaKwb
set_option linter.unusedVariables false
namespace Go.Proofs.Yteiflmdnakhekaa
open Go.RowKit
attribute [local go_sem] Oper.semAt_some

theorem conv_drewN {W : World} {B : Nat} {l : List UInt8} {T : TypeId} (h : Row W B (bytV l) T) (hn : l.length = 32) (n : Nat) :
    (convert 40 9 (.slice (some ⟨B, 0, none⟩) 32 32)).run Try.prog (W.drewN n) = .ok (.string ⟨l.toArray⟩) (W.drewN n) := conv_bytes (h.drewN n) 32 32 hn

theorem wpQuiet_conv_d {P : Program} {ops : Array Oper} {w0 : World} {Q : Act → Prop} {a : Act} {o : Oper} {rest : List Oper} (hw : Region.wanted o (yielded ops a.tmps) = true) (t t' : TypeId) (x : Operand) (ho : o.op = .convert t t' x)
    {v y : Value} (hr : ∀ n, (convert t t' v).run P (w0.drewN n) = .ok y (w0.drewN n)) (hx : a.eval x = v)
    (h : wpQuiet P ops (fun w' => ∃ n, w' = w0.drewN n) Q rest (a.put o.dst y)) : wpQuiet P ops (fun w' => ∃ n, w' = w0.drewN n) Q (o :: rest) a := by
  refine wpQuiet_step fun K hK => ?_
  rw [if_pos hw]
  refine ⟨y, fun w hC => ?_, hK _ h⟩
  obtain ⟨n, rfl⟩ := hC
  unfold Oper.quietAt execOp
  simp only [ho, hx, hr, Sem.run_bind, Sem.run_pure, Result.andThen_ok]
  exact ⟨rfl, rfl⟩

set_option maxRecDepth 100000 in
set_option maxHeartbeats 4000000 in
theorem KeysOrder_walk (a b : List UInt8) (ha : a.length = 32) (hb : b.length = 32) (w : World) :
    Calls Try.prog 7 #[.agg (bytV a), .agg (bytV b)] w fun e w' => e = .returned (.bool true) ∧ Below w.heap.size w w' := by
  have CW := Lib.hid awake_any
  obtain ⟨x, hx⟩ : ∃ x : ByteArray, x = ⟨a.toArray⟩ := ⟨_, rfl⟩
  obtain ⟨y, hy⟩ : ∃ y : ByteArray, y = ⟨b.toArray⟩ := ⟨_, rfl⟩
  have hxa : x.data.toList = a := by rw [hx]
  have hyb : y.data.toList = b := by rw [hy]
  have CX : Hid (Gives 25 x (.string ⟨(hexL a).toArray⟩)) := Lib.hid (fun W => by have := Hex_any x (by rw [Lib.size_eq, hxa]; omega) W; rw [hxa] at this; exact this)
  have CY : Hid (Gives 25 y (.string ⟨(hexL b).toArray⟩)) := Lib.hid (fun W => by have := Hex_any y (by rw [Lib.size_eq, hyb]; omega) W; rw [hyb] at this; exact this)
  obtain ⟨X, hX⟩ : ∃ X : ByteArray, X = ⟨(hexL a).toArray⟩ := ⟨_, rfl⟩
  obtain ⟨Y, hY⟩ : ∃ Y : ByteArray, Y = ⟨(hexL b).toArray⟩ := ⟨_, rfl⟩
  have hXs : X.size = 64 := by rw [hX, Lib.size_eq, mk_toList, hexL_len, ha]
  have hXb : (((X.size : Nat) : Int) == 64) = true := by rw [hXs]; rfl
  obtain ⟨c, hc⟩ : ∃ c : Bool, c = decide (a < b) := ⟨_, rfl⟩
  have l1 : Op.bytesLess x.toList y.toList = c := by rw [less_eq, hxa, hyb, hc]
  have l2 : Op.bytesLess X.toList Y.toList = c := by rw [less_eq, hX, hY, mk_toList, mk_toList, hc]; exact decide_eq_decide.2 (hexL_iff a b)
  rw [← hX] at CX; rw [← hY] at CY
  have R1 : Row ((w.alloc (.cells (bytV a) 39)).alloc (.cells (bytV b) 39)) w.heap.size (bytV a) 39 := (Row.made w _ _).alloc _
  have R2 : Row ((w.alloc (.cells (bytV a) 39)).alloc (.cells (bytV b) 39)) (w.heap.size + 1) (bytV b) 39 := by
    have := Row.made (w.alloc (.cells (bytV a) 39)) (bytV b) 39
    simpa using this
  have V1 := conv_drewN R1 ha
  have V2 := conv_drewN R2 hb
  rw [← hx] at V1; rw [← hy] at V2
  have hB : Below w.heap.size w ((w.alloc (.cells (bytV a) 39)).alloc (.cells (bytV b) 39)) := ((Below.refl _ _).alloc (Nat.le_refl _) _).alloc (by simp) _
  obtain ⟨A, hA⟩ : ∃ A, A = bytV a := ⟨_, rfl⟩
  obtain ⟨B, hBv⟩ : ∃ B, B = bytV b := ⟨_, rfl⟩
  have sA : A.size = 32 := by rw [hA, bytV_size, ha]
  have sB : B.size = 32 := by rw [hBv, bytV_size, hb]
  rw [← hA, ← hBv] at V1 V2 hB ⊢
  clear hx hy hxa hyb hX hY hXs hc hA hBv R1 R2
  unfold Gives at CX CY
  cases c <;>
  (go_enter Try.func7, Try.ntmps7
   go_wp2_with fail
   refine wp_region_quiet_lit (by kernel_rfl) (by kernel_rfl) ?_
   repeat (first | refine wpQuiet_conv_d (by rfl) _ _ _ rfl V1 rfl ?_ | refine wpQuiet_conv_d (by rfl) _ _ _ rfl V2 rfl ?_ | quiet_step (fail))
   refine wpQuiet_nil ?_
   intro w2 hw2
   obtain ⟨nq, rfl⟩ := hw2
   replace hB := below_drewN hB nq
   clear V1 V2
   go_wp2_with (first
     | ((with_reducible refine (CX.out _).mono ?_); rintro e w1 ⟨rfl, hb1⟩; replace hB := below_step hB hb1; clear hb1)
     | ((with_reducible refine (CY.out _).mono ?_); rintro e w1 ⟨rfl, hb1⟩; replace hB := below_step hB hb1; clear hb1)
     | ((with_reducible refine (CW.out _).mono ?_); rintro e w1 ⟨rfl, hb1⟩; replace hB := below_step hB hb1; clear hb1))
   go_ret
   exact ⟨rfl, hB⟩)
end Go.Proofs.Yteiflmdnakhekaa

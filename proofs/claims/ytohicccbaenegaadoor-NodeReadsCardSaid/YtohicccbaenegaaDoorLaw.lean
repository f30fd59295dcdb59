/-
  Small laws on operations, of no program: slices of strings.
-/
import Derived.Laws.PanicsMore
import Derived.Lib.Strings
import Derived.WalkKit
namespace Go.Proofs.YtohicccbaenegaaDoor
open Go.RowKit

theorem run_slice_str {P : Program} {t : TypeId} (ht : P.underlying t = some .string) (s : ByteArray) (a b : Int) (h0 : 0 ≤ a) (h1 : a ≤ b) (h2 : b ≤ s.size) (w : World) :
    (Instr.slice t (.string s) (some (.int .i64 a)) (some (.int .i64 b)) none).run P w = .ok (.string (s.extract a.toNat b.toNat)) w := by
  have e2 : 0 ≤ b := Int.le_trans h0 h1
  have eb : ∀ (y : Nat) code, b ≤ y → (Instr.sliceBound (.int .i64 b) y code).run P w = .ok b.toNat w := fun y code hy => by
    simp [Instr.sliceBound, asIntOf, e2, go_sem]
    omega
  have ea : ∀ (y : Nat) code, a ≤ y → (Instr.sliceBound (.int .i64 a) y code).run P w = .ok a.toNat w := fun y code hy => by
    simp [Instr.sliceBound, asIntOf, h0, go_sem]
    omega
  simp [Instr.slice, run_underlying ht, Instr.sliceBounds, eb s.size _ h2, go_sem]
  omega

theorem run_slice_to {P : Program} {t : TypeId} (ht : P.underlying t = some .string) (s : ByteArray) (b : Nat) (h2 : b ≤ s.size) (w : World) :
    (Instr.slice t (.string s) none (some (.int .i64 (b : Int))) none).run P w = .ok (.string (s.extract 0 b)) w := by
  have eb : ∀ (y : Nat) code, b ≤ y → (Instr.sliceBound (.int .i64 (b : Int)) y code).run P w = .ok b w := fun y code hy => by
    simp [Instr.sliceBound, asIntOf, go_sem]
    omega
  simp [Instr.slice, run_underlying ht, Instr.sliceBounds, eb s.size _ h2, go_sem]
theorem run_slice_from {P : Program} {t : TypeId} (ht : P.underlying t = some .string) (s : ByteArray) (a : Nat) (h2 : a ≤ s.size) (w : World) :
    (Instr.slice t (.string s) (some (.int .i64 (a : Int))) none none).run P w = .ok (.string (s.extract a s.size)) w := by
  have ea : ∀ (y : Nat) code, a ≤ y → (Instr.sliceBound (.int .i64 (a : Int)) y code).run P w = .ok a w := fun y code hy => by
    simp [Instr.sliceBound, asIntOf, go_sem]
    omega
  simp [Instr.slice, run_underlying ht, Instr.sliceBounds, ea s.size _ h2, go_sem]
/-- Three steps, each over what lies ahead of it. -/
theorem below_step {a b c : World} (h : Below a.heap.size a b) (k : Below b.heap.size b c) : Below a.heap.size a c := h.trans (k.mono h.size)
end Go.Proofs.YtohicccbaenegaaDoor

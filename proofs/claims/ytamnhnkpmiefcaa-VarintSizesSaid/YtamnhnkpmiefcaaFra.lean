/-
  From 'the number fits its kind' to bounds; of no program.
-/
import Derived.Test.YtamnhnkpmiefcaaVam
import Derived.Test.YtamnhnkpmiefcaaZig
namespace Go.Proofs.Ytamnhnkpmiefcaa

theorem w64_of_wf {a : Int} (h : (Lit.int .u64 a).wf = true) : W64 a := by
  simp [Lit.wf, IntKind.min, IntKind.max, IntKind.signed, IntKind.bits] at h
  unfold W64; omega
theorem i64_of_wf {a : Int} (h : (Lit.int .i64 a).wf = true) : I64 a := by
  simp [Lit.wf, IntKind.min, IntKind.max, IntKind.signed, IntKind.bits] at h
  unfold I64; omega
theorem u64_of_wf {a : Int} (h : (Lit.int .u64 a).wf = true) : ∃ n : Nat, a = n ∧ U64 n := by
  have := w64_of_wf h
  unfold W64 at this
  exact ⟨a.toNat, by omega, by unfold U64; omega⟩
end Go.Proofs.Ytamnhnkpmiefcaa

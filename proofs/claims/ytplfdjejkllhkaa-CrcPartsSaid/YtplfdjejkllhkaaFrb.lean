/-
  From 'the number fits its kind' to bounds; of no program.
-/
import Derived.Test.YtplfdjejkllhkaaCrm
import GoSem.Claim
namespace Go.Proofs.Ytplfdjejkllhkaa

theorem u32_of_wf {a : Int} (h : (Lit.int .u32 a).wf = true) : ∃ n : Nat, a = n ∧ U32 n := by
  simp [Lit.wf, IntKind.min, IntKind.max, IntKind.signed, IntKind.bits] at h
  exact ⟨a.toNat, by omega, by unfold U32; omega⟩
theorem u8_of_wf {a : Int} (h : (Lit.int .u8 a).wf = true) : ∃ u : UInt8, a = u.toNat := by
  simp [Lit.wf, IntKind.min, IntKind.max, IntKind.signed, IntKind.bits] at h
  exact ⟨UInt8.ofNat a.toNat, by simp; omega⟩
end Go.Proofs.Ytplfdjejkllhkaa

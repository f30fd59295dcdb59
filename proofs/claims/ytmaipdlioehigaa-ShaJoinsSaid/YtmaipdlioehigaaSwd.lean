/-
  Layer 4: the walks of ShaSums, ShaBlocks and ShaPads over arguments as they come.
-/
import Derived.Test.YtmaipdlioehigaaSwc
import Derived.Test.YtmaipdlioehigaaLft
import Derived.Test.YtmaipdlioehigaaWff
set_option linter.unusedVariables false
namespace Go.Proofs.Ytmaipdlioehigaa
open Go.RowKit Go.ChangeShapes Go.WideShapes

theorem ShaSums_walk' (s : ByteArray) (hs : s.size ≤ maxLen) (w : World) :
    Calls Try.prog 4 #[.string s] w fun e w' => e = .returned (.bool true) ∧ RowKit.Below w.heap.size w w' := ShaSums_walk s w
theorem ShaPads_walk' (s : ByteArray) (b : List UInt8) (hs : s.size ≤ maxLen) (hb : b.length = 64) (w : World) :
    Calls Try.prog 6 #[.string s, .agg ((b.map fun u => (u.toNat : Int)).map (Value.int .u8)).toArray] w fun e w' => e = .returned (.bool true) ∧ RowKit.Below w.heap.size w w' := by
  rw [← bytV_ints]; exact ShaPads_walk s b hb w
theorem nats_of_wf : ∀ {ns : List Int}, (∀ z ∈ ns, (Lit.int .u32 z).wf = true) → ∃ l : List Nat, ns = l.map (fun n : Nat => (n : Int)) ∧ ∀ n ∈ l, n < 4294967296
  | [], _ => ⟨[], rfl, fun _ h => by cases h⟩
  | z :: ns, h => by
    obtain ⟨n, rfl, hn⟩ := nat_of_wf_u32 (h z List.mem_cons_self)
    obtain ⟨l, rfl, hl⟩ := nats_of_wf (fun y hy => h y (List.mem_cons_of_mem _ hy))
    exact ⟨n :: l, rfl, by simp only [List.mem_cons, forall_eq_or_imp]; exact ⟨hn, hl⟩⟩
theorem st_of : ∀ {l : List Nat}, l.length = 8 → (∀ n ∈ l, n < 4294967296) → ∃ s : St, s.ok ∧ s.list = l
  | [a, b, c, d, e, f, g, h], _, hl => ⟨⟨a, b, c, d, e, f, g, h⟩, ⟨hl a (by simp), hl b (by simp), hl c (by simp), hl d (by simp), hl e (by simp), hl f (by simp), hl g (by simp), hl h (by simp)⟩, rfl⟩
/-- ShaBlocks, of a hash as it comes. -/
theorem ShaBlocks_walk' {H : Type} {enc : TypeId × Value → H} {base : Nat} {spare : Nat → Bool} {held : Bool} {r : Reach} {b0 : Nat} (v : Value) (d : DataW H) (p : List MemPlace) (b : List UInt8) {W : World} (hval : Value.okWide Try.prog W r b0 24 v) (h : DataW.Trod enc Try.prog W base spare held 24 v d p) (hb : b.length = 64) (w : World) (hw : w = W) :
    Calls Try.prog 3 #[v, .agg ((b.map fun u => (u.toNat : Int)).map (Value.int .u8)).toArray] w fun e w' => e = .returned (.bool true) ∧ RowKit.Below w.heap.size w w' := by
  subst hw
  obtain ⟨ns, hl, rfl, hwf⟩ := open_ints_arr Try.underlying24 Try.underlying22 (by kernel_rfl) (by kernel_rfl) hval h
  obtain ⟨l, rfl, hn⟩ := nats_of_wf hwf
  obtain ⟨s, hs, rfl⟩ := st_of (by simpa using hl) hn
  rw [← bytV_ints, List.map_map]
  exact ShaBlocks_walk b hb s hs w
end Go.Proofs.Ytmaipdlioehigaa

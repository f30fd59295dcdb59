/-
  Contracts over this translation: oneByte; the document's Write.
-/
import Derived.Test.YtlccihidedfemaaGreatDoorYaNdc
import Derived.Test.YtlccihidedfemaaGreatDoorQa2
import Derived.Lib.QuietBelow
import Derived.IntWalk
set_option linter.unusedVariables false
namespace Go.Proofs.YtlccihidedfemaaGreatDoor
open Go.RowKit
attribute [local go_sem] Oper.semAt_some
theorem conv_byte (c : UInt8) (w : World) (cap : Nat) : (convert 83 9 (.slice (some ⟨w.heap.size, 0, none⟩) 1 cap)).run Tryz.prog (w.alloc (.cells #[.int .u8 c.toNat] 5)) = .ok (.string ⟨#[c]⟩) (w.alloc (.cells #[.int .u8 c.toNat] 5)) :=
  conv_of (l := [c]) (Row.made w #[.int .u8 c.toNat] 5) 1 cap rfl
theorem ex_str (l : List UInt8) : ∃ S : ByteArray, S = ⟨l.toArray⟩ ∧ S.data.toList = l := ⟨_, rfl, rfl⟩
theorem str_list {S : ByteArray} {l : List UInt8} (h : S.data.toList = l) : S = ⟨l.toArray⟩ := str_eq' h
set_option maxRecDepth 100000 in
set_option maxHeartbeats 2000000 in
theorem oneByte_any (c : UInt8) (w : World) :
    Calls Tryz.prog 104 #[.int .i64 c.toNat] w fun e w' => e = .returned (.string ⟨#[c]⟩) ∧ Below w.heap.size w w' := by
  have hc : c.toNat < 256 := c.toNat_lt
  have HC := conv_byte c w 1
  go_enter Tryz.func104, Tryz.ntmps104
  go_wp2
  go_ret
  exact ⟨rfl, (Below.refl _ _).alloc (Nat.le_refl _) _⟩
theorem psB_step {L : List Pt} {k : Nat} (hk : k < L.length) : psB (L.take (k + 1)) = psB (L.take k) ++ ptB L[k] := by
  rw [List.take_succ_eq_append_getElem hk, psB_app, psB_one]
theorem esB_step {L : List En} {k : Nat} (hk : k < L.length) : esB (L.take (k + 1)) = esB (L.take k) ++ enB L[k] := by
  rw [List.take_succ_eq_append_getElem hk, esB_app, esB_one]
theorem psB_take {L : List Pt} (h : ∀ p ∈ L, p.k.size = 32) (k : Nat) (hl : L.length ≤ 1024) : (psB (L.take k)).length ≤ 50000 := by
  have := psB_len (L.take k) (fun p hp => h p (List.mem_of_mem_take hp))
  rw [List.length_take] at this; omega
theorem esB_take {L : List En} (h : ∀ p ∈ L, okEn p = true) (k : Nat) (hl : L.length ≤ 60) : (esB (L.take k)).length ≤ 50000 := by
  have := esB_len (L.take k) (fun p hp => h p (List.mem_of_mem_take hp))
  rw [List.length_take] at this; omega
theorem calls_valN {f : FuncId} {args : Array Value} {w : World} {v : Value} (h : Calls Tryz.prog f args w fun e w' => e = .returned v ∧ Below w.heap.size w w') : Calls Tryz.prog f args w fun e w' => ∃ u, e = .returned u ∧ u = v ∧ Below w.heap.size w w' :=
  h.mono fun _ _ ⟨h1, h2⟩ => ⟨v, h1, rfl, h2⟩
def NdBox (w : World) (b : Nat) (n : Nd) (pv ev : Value) : Prop := (w.cell? ⟨b, 0, none⟩ = some (.int .i64 n.kd) ∧ w.cell? ⟨b, 1, none⟩ = some (.string n.d) ∧ w.cell? ⟨b, 2, none⟩ = some pv ∧ w.cell? ⟨b, 3, none⟩ = some ev) ∧ b < w.heap.size
theorem NdBox.cells {w : World} {b : Nat} {n : Nd} {pv ev : Value} (h : NdBox w b n pv ev) : w.cell? ⟨b, 0, none⟩ = some (.int .i64 n.kd) ∧ w.cell? ⟨b, 1, none⟩ = some (.string n.d) ∧ w.cell? ⟨b, 2, none⟩ = some pv ∧ w.cell? ⟨b, 3, none⟩ = some ev := h.1
theorem NdBox.stays {w w' : World} {b : Nat} {n : Nd} {pv ev : Value} (h : NdBox w b n pv ev) (hb : Below w.heap.size w w') : NdBox w' b n pv ev :=
  ⟨⟨(hb.cell (p := ⟨b, 0, none⟩) h.2).trans h.1.1, (hb.cell (p := ⟨b, 1, none⟩) h.2).trans h.1.2.1, (hb.cell (p := ⟨b, 2, none⟩) h.2).trans h.1.2.2.1, (hb.cell (p := ⟨b, 3, none⟩) h.2).trans h.1.2.2.2⟩, Nat.lt_of_lt_of_le h.2 hb.size⟩
theorem ndBox_new (w : World) (n : Nd) (pv ev : Value) (t : TypeId) : NdBox (w.alloc (.cells #[.int .i64 n.kd, .string n.d, pv, ev] t)) w.heap.size n pv ev := ⟨⟨by simp, by simp, by simp, by simp⟩, by simp⟩
end Go.Proofs.YtlccihidedfemaaGreatDoor

/-
  Contract over this translation: disk's Crash.
-/
import Derived.Test.YtninfmlemdnjbaaQa3
import Derived.Test.YtninfmlemdnjbaaQa1
set_option linter.unusedVariables false
namespace Go.Proofs.Ytninfmlemdnjbaa
open Go.RowKit Go.Sort Go.Shelf
attribute [local go_sem] Oper.semAt_some
theorem wp_build_dop {o : Oper} {a : Act} {K : Act → World → Prop} {Q : Exit → Act → World → Prop} {w : World} (ho : o.op = .buildSlice 45 1 #[(0, .tmp 60)]) {x : Dop}
    (hx : a.eval (.tmp 60) = .agg #[.int .i64 x.at_, .string x.d]) (hk : K (a.put o.dst (.slice (some ⟨w.heap.size, 0, none⟩) 1 1)) (w.alloc (.cells #[.int .i64 x.at_, .string x.d] 52))) : o.wp Try.prog a w K Q := by
  refine wp_value (v := .slice (some ⟨w.heap.size, 0, none⟩) 1 1) (w' := w.alloc (.cells #[.int .i64 x.at_, .string x.d] 52)) ?_ hk
  have f : a.tmps[60]?.getD undef = .agg #[.int .i64 x.at_, .string x.d] := by
    have h : a.tmps.getD 60 undef = .agg #[.int .i64 x.at_, .string x.d] := hx
    rwa [Array.getD_eq_getD_getElem?] at h
  unfold execOp
  rw [ho]
  go_simp
theorem wp_append_run {o : Oper} {a : Act} {K : Act → World → Prop} {Q : Exit → Act → World → Prop} {w : World} {s x : Operand} (ho : o.op = .call { callee := .builtin .append, args := #[s, x], argTypes := #[45, 45] })
    {v u : Value} (hs : a.eval s = v) (hx : a.eval x = u) {v' : Value} {w' : World} (hr : (Builtin.append_ #[45, 45] o.type #[v, u]).run Try.prog w = .ok v' w') (hk : K (a.put o.dst v') w') : o.wp Try.prog a w K Q := by
  unfold Oper.wp execOp
  simp only [ho, resolve, invoke, builtin, Sem.run_bind, Sem.run_pure, Result.andThen_ok, List.map_toArray, List.map_cons, List.map_nil, hs, hx, hr]
  exact hk
theorem wp_store_slice {o : Oper} {a : Act} {K : Act → World → Prop} {Q : Exit → Act → World → Prop} {w : World} (ho : o.op = .store 45 (.tmp 64) (.tmp 62)) {g i : Nat} {av : Option Addr} {z c : Nat} {u : Value}
    (h1 : a.eval (.tmp 64) = .pointer (some ⟨g, i, none⟩)) (h2 : a.eval (.tmp 62) = .slice av z c) (hc : w.cell? ⟨g, i, none⟩ = some u) (hf : w.frozen? ⟨g, i, none⟩ = false)
    (hk : K (a.put o.dst undef) (w.setCell ⟨g, i, none⟩ (.slice av z c))) : o.wp Try.prog a w K Q := by
  refine wp_skip (w' := w.setCell ⟨g, i, none⟩ (.slice av z c)) ?_ hk
  unfold execOp
  rw [ho]
  simp only [h1, h2]
  clear hk
  go_simp
structure EndI (V : World) (kb pb rb D : Nat) (v : Value) (fs : List Dfl) (off : Bool) (fuse : Int) (W : World) : Prop where
  mch : ∃ R, Mch V.heap.size kb W v R ⟨fs, off, fuse⟩
  pt : Row W pb #[.pointer (some ⟨kb, 0, none⟩)] 62
  res : Row W rb #[.slice none 0 0, .bool false, .int .i64 0] 24
  below : Below V.heap.size V W
  dfr : W.heap[D]? = some (.deferred (some []))
section
variable {V W W' : World} {kb pb rb D : Nat} {v : Value} {fs : List Dfl} {off : Bool} {fuse : Int}
theorem EndI.stays (h : EndI V kb pb rb D v fs off fuse W) (hb : Below W.heap.size W W') : EndI V kb pb rb D v fs off fuse W' := by
  obtain ⟨R, hR⟩ := h.mch
  exact ⟨⟨R, hR.stays hb⟩, h.pt.step hb, h.res.step hb, below_step h.below hb, (hb.block D (Array.getElem?_eq_some_iff.1 h.dfr).1).trans h.dfr⟩
theorem EndI.far (h : EndI V kb pb rb D v fs off fuse W) : pb ≠ kb ∧ rb ≠ kb ∧ D ≠ kb := by
  obtain ⟨R, hR⟩ := h.mch
  have h3 := hR.row
  unfold Row at h3
  refine ⟨fun e => ?_, fun e => ?_, fun e => ?_⟩
  · have h1 := h.pt; unfold Row at h1; rw [e, h3] at h1; cases h1
  · have h1 := h.res; unfold Row at h1; rw [e, h3] at h1; cases h1
  · have h1 := h.dfr; rw [e, h3] at h1; cases h1
theorem EndI.cell1 (h : EndI V kb pb rb D v fs off fuse W) : W.cell? ⟨kb, 1, none⟩ = some (.bool off) ∧ W.frozen? ⟨kb, 1, none⟩ = false := by
  obtain ⟨R, hR⟩ := h.mch
  exact ⟨hR.cell.2.1, hR.cell.2.2.2 1⟩
theorem EndI.cell2 (h : EndI V kb pb rb D v fs off fuse W) : W.cell? ⟨kb, 2, none⟩ = some (.int .i64 fuse) ∧ W.frozen? ⟨kb, 2, none⟩ = false := by
  obtain ⟨R, hR⟩ := h.mch
  exact ⟨hR.cell.2.2.1, hR.cell.2.2.2 2⟩
theorem EndI.set1 (h : EndI V kb pb rb D v fs off fuse W) : EndI V kb pb rb D v fs false fuse (W.setCell ⟨kb, 1, none⟩ (.bool false)) := by
  obtain ⟨f1, f2, f3⟩ := h.far
  obtain ⟨R, hR⟩ := h.mch
  exact ⟨⟨R, hR.turnRow (xs := #[]) 1 _ (by have := hR.row.set 1 (.bool false); exact this)⟩, h.pt.other ⟨kb, 1, none⟩ _ f1, h.res.other ⟨kb, 1, none⟩ _ f2, h.below.setCell (p := ⟨kb, 1, none⟩) hR.from_ _, by rw [Below.heap_setCell _ _ _ D f3]; exact h.dfr⟩
theorem EndI.set2 (h : EndI V kb pb rb D v fs off fuse W) : EndI V kb pb rb D v fs off (-1) (W.setCell ⟨kb, 2, none⟩ (.int .i64 (-1))) := by
  obtain ⟨f1, f2, f3⟩ := h.far
  obtain ⟨R, hR⟩ := h.mch
  exact ⟨⟨R, hR.setFuse (-1)⟩, h.pt.other ⟨kb, 2, none⟩ _ f1, h.res.other ⟨kb, 2, none⟩ _ f2, h.below.setCell (p := ⟨kb, 2, none⟩) hR.from_ _, by rw [Below.heap_setCell _ _ _ D f3]; exact h.dfr⟩
end
theorem wp_store_bool {o : Oper} {a : Act} {K : Act → World → Prop} {Q : Exit → Act → World → Prop} {w : World} (ho : o.op = .store 4 (.tmp 90) (.const (.bool false))) {g i : Nat} {u : Value}
    (h1 : a.eval (.tmp 90) = .pointer (some ⟨g, i, none⟩)) (hc : w.cell? ⟨g, i, none⟩ = some u) (hf : w.frozen? ⟨g, i, none⟩ = false)
    (hk : K (a.put o.dst undef) (w.setCell ⟨g, i, none⟩ (.bool false))) : o.wp Try.prog a w K Q := by
  refine wp_skip (w' := w.setCell ⟨g, i, none⟩ (.bool false)) ?_ hk
  unfold execOp
  rw [ho]
  simp only [h1]
  clear hk
  go_simp
theorem wp_store_int {o : Oper} {a : Act} {K : Act → World → Prop} {Q : Exit → Act → World → Prop} {w : World} (ho : o.op = .store 3 (.tmp 93) (.const (.int .i64 (-1)))) {g i : Nat} {u : Value}
    (h1 : a.eval (.tmp 93) = .pointer (some ⟨g, i, none⟩)) (hc : w.cell? ⟨g, i, none⟩ = some u) (hf : w.frozen? ⟨g, i, none⟩ = false)
    (hk : K (a.put o.dst undef) (w.setCell ⟨g, i, none⟩ (.int .i64 (-1)))) : o.wp Try.prog a w K Q := by
  refine wp_skip (w' := w.setCell ⟨g, i, none⟩ (.int .i64 (-1))) ?_ hk
  unfold execOp
  rw [ho]
  simp only [h1]
  clear hk
  go_simp
theorem wp_store_file {o : Oper} {a : Act} {K : Act → World → Prop} {Q : Exit → Act → World → Prop} {w : World} (ho : o.op = .store 47 (.tmp 84) (.tmp 83)) {g q : Nat} {n dd : ByteArray} {u1 u2 u3 : Value}
    (h1 : a.eval (.tmp 84) = .pointer (some ⟨g, q * 3, none⟩)) (h2 : a.eval (.tmp 83) = .agg #[.string n, .string dd, .slice none 0 0]) (c0 : w.cell? ⟨g, q * 3, none⟩ = some u1) (c1 : w.cell? ⟨g, q * 3 + 1, none⟩ = some u2) (c2 : w.cell? ⟨g, q * 3 + 2, none⟩ = some u3) (hf : ∀ i, w.frozen? ⟨g, i, none⟩ = false)
    (hk : K (a.put o.dst undef) (((w.setCell ⟨g, q * 3, none⟩ (.string n)).setCell ⟨g, q * 3 + 1, none⟩ (.string dd)).setCell ⟨g, q * 3 + 2, none⟩ (.slice none 0 0))) : o.wp Try.prog a w K Q := by
  refine wp_skip (w' := ((w.setCell ⟨g, q * 3, none⟩ (.string n)).setCell ⟨g, q * 3 + 1, none⟩ (.string dd)).setCell ⟨g, q * 3 + 2, none⟩ (.slice none 0 0)) ?_ hk
  unfold execOp
  rw [ho]
  simp only [h1, h2]
  clear hk
  go_simp
-- WORDS16
def dcsU (V W1 : World) (kb pb kp rb db fb g k c4 q D : Nat) (dv kv : Value) (d : Dsk) (fs gs : List Dfl) (f : Dfl) (r : Dfr) : Nat → Value → Value → World → Prop
  | 0 => fun v _ _ => v = .pointer (some ⟨kb, 0, none⟩)
  | 1 => fun v _ _ => v = .pointer (some ⟨kb, 0, none⟩)
  | 2 => fun v _ _ => v = .pointer (some ⟨kb, 0, none⟩)
  | 3 => fun v _ _ => v = .pointer (some ⟨kb, 0, none⟩)
  | 4 => fun v _ _ => v = .slice (some ⟨g, 0, none⟩) k c4
  | 5 => fun v _ _ => v = .int .i64 q
  | 6 => fun v _ _ => v = .agg #[.string f.n, .string f.d, .slice r.a r.z r.c]
  | 7 => fun v _ _ => v = .agg #[.string f.n, .string (strT (seenF f)), .slice none 0 0]
  | 8 => fun v _ _ => v = .pointer (some ⟨g, q * 3, none⟩)
  | 9 => fun _ _ wz => CrI V kb pb kp rb db dv kv (.slice (some ⟨g, 0, none⟩) k c4) d gs wz ∧ wz.heap[D]? = some (.deferred (some []))
  | 10 => fun _ _ wz => CrI V kb pb kp rb db dv kv (.slice (some ⟨g, 0, none⟩) k c4) d fs wz ∧ wz.heap[D]? = some (.deferred (some []))
  | 11 => fun _ _ wz => Below W1.heap.size W1 wz
  | _ => fun _ _ _ => True
def dcsN : List (List Nat) := [[10, 11], [0], [1], [2], [3, 10, 11], [], [10, 11], [6, 11], [4, 5], [8, 7, 10]]
def dcsE : Nat → Option Tmp
  | _ => none
def dcsB : List (Nat × Nat) := [(9, 10), (9, 11)]
theorem dcs_T (V W1 : World) (kb pb kp rb db fb g k c4 q D : Nat) (dv kv : Value) (d : Dsk) (fs gs : List Dfl) (f : Dfl) (r : Dfr) (ix kx : Nat) (v e : Value) (w w' : World) (hk : kx < 12) (hne : kx ≠ ix) (hbd : (ix, kx) ∉ dcsB) (hU : (dcsU V W1 kb pb kp rb db fb g k c4 q D dv kv d fs gs f r) kx v e w) (hT : (appT 9 (fun _ _ => True)) ix w w') : (dcsU V W1 kb pb kp rb db fb g k c4 q D dv kv d fs gs f r) kx v e w' := by
  by_cases hi9 : ix = 9
  · subst hi9
    have hR := appT_in hT
    rcases (show kx = 0 ∨ kx = 1 ∨ kx = 2 ∨ kx = 3 ∨ kx = 4 ∨ kx = 5 ∨ kx = 6 ∨ kx = 7 ∨ kx = 8 ∨ kx = 9 ∨ kx = 10 ∨ kx = 11 by omega) with rfl | rfl | rfl | rfl | rfl | rfl | rfl | rfl | rfl | rfl | rfl | rfl
    iterate 9 exact hU
    · exact absurd rfl hne
    · exact absurd (by decide) hbd
    · exact absurd (by decide) hbd
  have hb : Below w.heap.size w w' := appT_out hi9 hT
  rcases (show kx = 0 ∨ kx = 1 ∨ kx = 2 ∨ kx = 3 ∨ kx = 4 ∨ kx = 5 ∨ kx = 6 ∨ kx = 7 ∨ kx = 8 ∨ kx = 9 ∨ kx = 10 ∨ kx = 11 by omega) with rfl | rfl | rfl | rfl | rfl | rfl | rfl | rfl | rfl | rfl | rfl | rfl
  iterate 9 exact hU
  · exact ⟨hU.1.stays hb, (hb.block _ (Array.getElem?_eq_some_iff.1 hU.2).1).trans hU.2⟩
  · exact ⟨hU.1.stays hb, (hb.block _ (Array.getElem?_eq_some_iff.1 hU.2).1).trans hU.2⟩
  · exact below_step hU hb
-- WORDS16END
-- WORDS18
def dceU (V : World) (kb pb rb D : Nat) (vv : Value) (fs : List Dfl) (off : Bool) (fuse : Int) : Nat → Value → Value → World → Prop
  | 0 => fun v _ _ => v = .pointer (some ⟨kb, 0, none⟩)
  | 1 => fun v _ _ => v = .pointer (some ⟨kb, 0, none⟩)
  | 2 => fun v _ _ => v = .pointer (some ⟨kb, 0, none⟩)
  | 3 => fun v _ _ => v = .pointer (some ⟨kb, 0, none⟩)
  | 4 => fun v _ _ => v = .pointer (some ⟨kb, 1, none⟩)
  | 5 => fun _ _ wz => EndI V kb pb rb D vv fs false fuse wz
  | 6 => fun v _ _ => v = .pointer (some ⟨kb, 0, none⟩)
  | 7 => fun v _ _ => v = .pointer (some ⟨kb, 0, none⟩)
  | 8 => fun v _ _ => v = .pointer (some ⟨kb, 2, none⟩)
  | 9 => fun _ _ wz => EndI V kb pb rb D vv fs false (-1) wz
  | 10 => fun _ _ wz => Row wz pb #[.pointer (some ⟨kb, 0, none⟩)] 62 ∧ pb ≠ kb
  | 11 => fun _ _ wz => EndI V kb pb rb D vv fs off fuse wz
  | _ => fun _ _ _ => True
def dceN : List (List Nat) := [[10], [10], [0], [2], [3], [4, 11], [1], [6], [7], [8, 5]]
def dceE : Nat → Option Tmp
  | _ => none
def dceB : List (Nat × Nat) := [(5, 9), (5, 11), (9, 5), (9, 11)]
theorem dce_T (V : World) (kb pb rb D : Nat) (vv : Value) (fs : List Dfl) (off : Bool) (fuse : Int) (ix kx : Nat) (v e : Value) (w w' : World) (hk : kx < 12) (hne : kx ≠ ix) (hbd : (ix, kx) ∉ dceB) (hU : (dceU V kb pb rb D vv fs off fuse) kx v e w) (hT : (appTs [5, 9] (fun _ w w' => ∃ i u, w' = w.setCell ⟨kb, i, none⟩ u)) ix w w') : (dceU V kb pb rb D vv fs off fuse) kx v e w' := by
  by_cases hi5 : ix = 5
  · subst hi5
    have hR := appTs_in (by decide) hT
    rcases (show kx = 0 ∨ kx = 1 ∨ kx = 2 ∨ kx = 3 ∨ kx = 4 ∨ kx = 5 ∨ kx = 6 ∨ kx = 7 ∨ kx = 8 ∨ kx = 9 ∨ kx = 10 ∨ kx = 11 by omega) with rfl | rfl | rfl | rfl | rfl | rfl | rfl | rfl | rfl | rfl | rfl | rfl
    iterate 5 exact hU
    · exact absurd rfl hne
    iterate 3 exact hU
    · exact absurd (by decide) hbd
    · exact (by obtain ⟨i, u, rfl⟩ := hR; exact ⟨hU.1.other ⟨kb, i, none⟩ u hU.2, hU.2⟩)
    · exact absurd (by decide) hbd
  by_cases hi9 : ix = 9
  · subst hi9
    have hR := appTs_in (by decide) hT
    rcases (show kx = 0 ∨ kx = 1 ∨ kx = 2 ∨ kx = 3 ∨ kx = 4 ∨ kx = 5 ∨ kx = 6 ∨ kx = 7 ∨ kx = 8 ∨ kx = 9 ∨ kx = 10 ∨ kx = 11 by omega) with rfl | rfl | rfl | rfl | rfl | rfl | rfl | rfl | rfl | rfl | rfl | rfl
    iterate 5 exact hU
    · exact absurd (by decide) hbd
    iterate 3 exact hU
    · exact absurd rfl hne
    · exact (by obtain ⟨i, u, rfl⟩ := hR; exact ⟨hU.1.other ⟨kb, i, none⟩ u hU.2, hU.2⟩)
    · exact absurd (by decide) hbd
  have hi : ix ∉ [5, 9] := by simp [hi5, hi9]
  have hb : Below w.heap.size w w' := appTs_out hi hT
  rcases (show kx = 0 ∨ kx = 1 ∨ kx = 2 ∨ kx = 3 ∨ kx = 4 ∨ kx = 5 ∨ kx = 6 ∨ kx = 7 ∨ kx = 8 ∨ kx = 9 ∨ kx = 10 ∨ kx = 11 by omega) with rfl | rfl | rfl | rfl | rfl | rfl | rfl | rfl | rfl | rfl | rfl | rfl
  iterate 5 exact hU
  · exact EndI.stays hU hb
  iterate 3 exact hU
  · exact EndI.stays hU hb
  · exact ⟨hU.1.step hb, hU.2⟩
  · exact EndI.stays hU hb
-- WORDS18END
-- WORDS
def dcqU (X : World) (kb pb fb g k c4 fi : Nat) : Nat → Value → Value → World → Prop
  | 0 => fun v _ _ => v = .pointer (some ⟨kb, 0, none⟩)
  | 1 => fun v _ _ => v = .pointer (some ⟨kb, 0, none⟩)
  | 2 => fun v _ _ => v = .pointer (some ⟨kb, 0, none⟩)
  | 3 => fun v _ _ => v = .pointer (some ⟨kb, 0, none⟩)
  | 4 => fun v _ _ => v = .slice (some ⟨g, 0, none⟩) k c4
  | 5 => fun v _ _ => v = .pointer (some ⟨fb, 2, none⟩)
  | 6 => fun v _ _ => v = .int .i64 fi
  | 7 => fun v _ _ => v = .pointer (some ⟨g, fi * 3, none⟩)
  | 8 => fun v _ _ => v = .pointer (some ⟨g, fi * 3, none⟩)
  | 9 => fun _ _ wz => Below X.heap.size X wz
  | _ => fun _ _ _ => True
def dcqN : List (List Nat) := [[9], [0], [1], [2], [3, 9], [], [5, 9], [4, 6], [7]]
def dcqE : Nat → Option Tmp
  | _ => none
def dcqB : List (Nat × Nat) := []
theorem dcq_T (X : World) (kb pb fb g k c4 fi : Nat) (ix kx : Nat) (v e : Value) (w w' : World) (hk : kx < 10) (hne : kx ≠ ix) (hbd : (ix, kx) ∉ dcqB) (hU : (dcqU X kb pb fb g k c4 fi) kx v e w) (hT : allT ix w w') : (dcqU X kb pb fb g k c4 fi) kx v e w' := by
  have hb : Below w.heap.size w w' := hT
  rcases (show kx = 0 ∨ kx = 1 ∨ kx = 2 ∨ kx = 3 ∨ kx = 4 ∨ kx = 5 ∨ kx = 6 ∨ kx = 7 ∨ kx = 8 ∨ kx = 9 by omega) with rfl | rfl | rfl | rfl | rfl | rfl | rfl | rfl | rfl | rfl
  iterate 9 exact hU
  · exact below_step hU hb
def dcwU (V X : World) (kb pb kp rb db fb g k c4 fi : Nat) (dv kv : Value) (d : Dsk) (fs : List Dfl) (R : List Dfr) (r : Dfr) (op : Dop) (P : List Dop) : Nat → Value → Value → World → Prop
  | 0 => fun v _ _ => v = .pointer (some ⟨g, fi * 3, none⟩)
  | 1 => fun v _ _ => v = .pointer (some ⟨g, fi * 3, none⟩)
  | 2 => fun v _ _ => v = .pointer (some ⟨g, fi * 3, none⟩)
  | 3 => fun v _ _ => v = .pointer (some ⟨g, fi * 3 + 2, none⟩)
  | 4 => fun v _ _ => v = .slice r.a r.z r.c
  | 5 => fun v _ _ => v = .pointer (some ⟨fb, 0, none⟩)
  | 6 => fun v _ _ => v = .agg #[.int .i64 op.at_, .string op.d]
  | 7 => fun v _ wz => ∃ A, v = .slice (some ⟨A, 0, none⟩) 1 1 ∧ Row wz A #[.int .i64 op.at_, .string op.d] 52 ∧ X.heap.size ≤ A
  | 8 => fun v _ wz => ∃ a5 n5 c5, v = .slice a5 n5 c5 ∧ AppS V X kb pb kp rb db dv kv (.slice (some ⟨g, 0, none⟩) k c4) d fs fi R P (.slice a5 n5 c5) wz
  | 9 => fun v _ _ => v = .pointer (some ⟨g, fi * 3, none⟩)
  | 10 => fun v _ _ => v = .pointer (some ⟨g, fi * 3 + 2, none⟩)
  | 11 => fun _ _ wz => CrI V kb pb kp rb db dv kv (.slice (some ⟨g, 0, none⟩) k c4) d (fs.set fi ⟨(fs.getD fi ⟨⟨#[]⟩, ⟨#[]⟩, []⟩).n, (fs.getD fi ⟨⟨#[]⟩, ⟨#[]⟩, []⟩).d, P⟩) wz ∧ KeepsLD_Dlu X wz
  | 12 => fun _ _ wz => Below X.heap.size X wz
  | _ => fun _ _ _ => True
def dcwN : List (List Nat) := [[], [], [1], [2], [3, 12], [], [5, 12], [6, 12], [4, 7, 12], [0], [9], [10, 8]]
def dcwE : Nat → Option Tmp
  | _ => none
def dcwB : List (Nat × Nat) := [(8, 7), (8, 11), (8, 12), (11, 7), (11, 8), (11, 12)]
theorem dcw_T (V X : World) (kb pb kp rb db fb g k c4 fi : Nat) (dv kv : Value) (d : Dsk) (fs : List Dfl) (R : List Dfr) (r : Dfr) (op : Dop) (P : List Dop) (ix kx : Nat) (v e : Value) (w w' : World) (hk : kx < 13) (hne : kx ≠ ix) (hbd : (ix, kx) ∉ dcwB) (hU : (dcwU V X kb pb kp rb db fb g k c4 fi dv kv d fs R r op P) kx v e w) (hT : (appTs [8, 11] (fun _ _ _ => True)) ix w w') : (dcwU V X kb pb kp rb db fb g k c4 fi dv kv d fs R r op P) kx v e w' := by
  by_cases hi8 : ix = 8
  · subst hi8
    have hR := appTs_in (by decide) hT
    rcases (show kx = 0 ∨ kx = 1 ∨ kx = 2 ∨ kx = 3 ∨ kx = 4 ∨ kx = 5 ∨ kx = 6 ∨ kx = 7 ∨ kx = 8 ∨ kx = 9 ∨ kx = 10 ∨ kx = 11 ∨ kx = 12 by omega) with rfl | rfl | rfl | rfl | rfl | rfl | rfl | rfl | rfl | rfl | rfl | rfl | rfl
    iterate 7 exact hU
    · exact absurd (by decide) hbd
    · exact absurd rfl hne
    · exact hU
    · exact hU
    · exact absurd (by decide) hbd
    · exact absurd (by decide) hbd
  by_cases hi11 : ix = 11
  · subst hi11
    have hR := appTs_in (by decide) hT
    rcases (show kx = 0 ∨ kx = 1 ∨ kx = 2 ∨ kx = 3 ∨ kx = 4 ∨ kx = 5 ∨ kx = 6 ∨ kx = 7 ∨ kx = 8 ∨ kx = 9 ∨ kx = 10 ∨ kx = 11 ∨ kx = 12 by omega) with rfl | rfl | rfl | rfl | rfl | rfl | rfl | rfl | rfl | rfl | rfl | rfl | rfl
    iterate 7 exact hU
    · exact absurd (by decide) hbd
    · exact absurd (by decide) hbd
    · exact hU
    · exact hU
    · exact absurd rfl hne
    · exact absurd (by decide) hbd
  have hi : ix ∉ [8, 11] := by simp [hi8, hi11]
  have hb : Below w.heap.size w w' := appTs_out hi hT
  rcases (show kx = 0 ∨ kx = 1 ∨ kx = 2 ∨ kx = 3 ∨ kx = 4 ∨ kx = 5 ∨ kx = 6 ∨ kx = 7 ∨ kx = 8 ∨ kx = 9 ∨ kx = 10 ∨ kx = 11 ∨ kx = 12 by omega) with rfl | rfl | rfl | rfl | rfl | rfl | rfl | rfl | rfl | rfl | rfl | rfl | rfl
  iterate 7 exact hU
  · exact (by obtain ⟨A, h1, h2, h3⟩ := hU; exact ⟨A, h1, h2.step hb, h3⟩)
  · exact (by obtain ⟨a5, n5, c5, h1, h2⟩ := hU; exact ⟨a5, n5, c5, h1, h2.stays hb⟩)
  · exact hU
  · exact hU
  · exact ⟨hU.1.stays hb, hU.2.trans (KeepsLD_Dlu.below hb)⟩
  · exact below_step hU hb
-- WORDSEND
set_option maxRecDepth 100000 in
set_option maxHeartbeats 8000000 in
theorem pCrash_any (d : Dsk) (v0 kv : Value) (keep : List Bool) (w0 : World) (h : IsDfs w0 v0 d.fs) (hk : IsBls w0 kv keep) (hf : FitD nameB d) :
    Calls Try.prog 25 #[dskV v0 d, kv] w0 fun e w' => ∃ v, e = .returned (dskV v (crashD d keep)) ∧ IsDfs w' v (crashD d keep).fs ∧ Below w0.heap.size w0 w' := by
  have hl8 := hf.many
  have hops : opsL d.fs ≤ 1600 := opsL_max hf
  have ho : ∀ f ∈ d.fs, f.ops.length ≤ 1000 := fun f hm => Nat.le_trans (hf.files f hm).many (by decide)
  obtain ⟨_, a, cap, hu, _, _⟩ := id h
  obtain ⟨z, hz⟩ : ∃ z, z = d.fs.length := ⟨_, rfl⟩
  rw [← hz] at hu hl8
  subst hu
  obtain ⟨_, ka, kcap, hku, _, _⟩ := id hk
  obtain ⟨kz, hkz⟩ : ∃ z, z = keep.length := ⟨_, rfl⟩
  rw [← hkz] at hku
  subst hku
  obtain ⟨V, hV⟩ : ∃ V, V = ((w0.alloc (.cells #[.slice a z cap, .bool d.off, .int .i64 d.fuse] 24)).alloc (.cells #[.slice ka kz kcap] 40)).alloc (.cells #[.slice none 0 0, .bool false, .int .i64 0] 24) := ⟨_, rfl⟩
  have hbV : Below w0.heap.size w0 V := by rw [hV]; exact (((Below.refl _ _).alloc (Nat.le_refl _) _).alloc (by simp) _).alloc (by simp; omega) _
  obtain ⟨hR0, hR1, hR2, _, hV3⟩ := alloc3 w0 #[.slice a z cap, .bool d.off, .int .i64 d.fuse] #[.slice ka kz kcap] #[.slice none 0 0, .bool false, .int .i64 0] 24 40 24
  rw [← hV] at hR0 hR1 hR2 hV3
  have CM := Lib.hid (newMachine_any d (.slice a z cap) V (h.stays hbV) (by omega) ho)
  have HV := Lib.hid hV; have HBV := Lib.hid hbV; have HF := Lib.hid hf; have HZ := Lib.hid hz; have HKZ := Lib.hid hkz
  have HK := Lib.hid hk; have HI := Lib.hid h; have HR0 := Lib.hid hR0; have HR1 := Lib.hid hR1; have HR2 := Lib.hid hR2; have HOPS := Lib.hid hops
  obtain ⟨c0, c1, c2⟩ : V.cell? ⟨w0.heap.size, 0, none⟩ = some (.slice a z cap) ∧ V.cell? ⟨w0.heap.size, 1, none⟩ = some (.bool d.off) ∧ V.cell? ⟨w0.heap.size, 2, none⟩ = some (.int .i64 d.fuse) := by
    have p0 := hR0.cell 0; have p1 := hR0.cell 1; have p2 := hR0.cell 2
    simp only [List.getElem?_toArray, List.getElem?_cons_zero, List.getElem?_cons_succ] at p0 p1 p2
    exact ⟨p0, p1, p2⟩
  clear hV hbV h hk hz hkz ho hf hR0 hR1 hR2 hops
  unfold dskV
  have hro : Fence.wide.round = none := rfl
  refine (callsIn_wide (n := 9)).1 ?_
  refine callsIn_of_wp_marks Try.func25 rfl trivial ?_ hro
  simp only [Try.ntmps25, List.size_toArray, List.length_cons, List.length_nil, Nat.reduceAdd, Nat.reduceSub, Array.replicate_succ, Array.replicate_zero, List.push_toArray, List.append_toArray, List.nil_append, List.cons_append]
  refine wpIn_wide.2 ?_
  go_wp2_with fail
  rw [← HV.out]
  go_wp2_with fail
  refine CM.out.mono ?_
  rintro e w1 ⟨kb, v, R, rfl, hM, hb1⟩
  obtain ⟨U, hU⟩ : ∃ U, U = w1.alloc (.cells #[.pointer (some ⟨kb, 0, none⟩)] 62) := ⟨_, rfl⟩
  have hbU : Below w1.heap.size w1 U := by rw [hU]; exact (Below.refl _ _).alloc (Nat.le_refl _) _
  have hPB : Row U w1.heap.size #[.pointer (some ⟨kb, 0, none⟩)] 62 := by rw [hU]; exact Row.made _ _ _
  have hbVU := below_step hb1 hbU
  have hC : CrI V kb w1.heap.size (w0.heap.size + 1) (w0.heap.size + 2) w0.heap.size (.slice a z cap) (.slice ka kz kcap) v d d.fs U := ⟨⟨R, hM.stays hbU⟩, hPB, HR1.out.step hbVU, HR2.out.step hbVU, HR0.out.step hbVU, hbVU⟩
  have HC := Lib.hid hC; have HU := Lib.hid hU; have HRU := Lib.hid (HR0.out.step hbVU)
  obtain ⟨a4, n4, c4, hv4⟩ := hM.own.len
  subst hv4
  have hn4 : n4 = z := by
    have h1 := hM.own.rws
    obtain ⟨_, _, _, e, _⟩ := h1
    rw [(Value.slice.inj e).2.1, hM.rows.len, HZ.out]
  subst hn4
  have hpw : w1.heap.size < U.heap.size := hPB.lt
  obtain ⟨m0, m1, m2, fm⟩ := hM.cell
  have hkw : kb < w1.heap.size := hM.row.lt
  clear hC hU hbU hPB hbVU hM hb1 c0 c1 c2
  go_wp2_with fail
  rw [← HU.out]
  go_loopw [20] (fun i wr => ∃ k : Nat, k ≤ n4 ∧ i = .int .i64 k ∧ CrI V kb w1.heap.size (w0.heap.size + 1) (w0.heap.size + 2) w0.heap.size (.slice a n4 cap) (.slice ka kz kcap) (.slice a4 n4 c4) d ((d.fs.take k).map clearF ++ d.fs.drop k) wr) (fun i _ => n4 - (intOf i).toNat)
  case atStart => exact ⟨0, Nat.zero_le _, rfl, by simpa using HC.out⟩
  case round =>
    obtain ⟨k, hk, rfl, hI⟩ := hrel
    clear HC m0 m1 m2 fm
    have HII := Lib.hid hI
    obtain ⟨R1, hM1⟩ := hI.mch
    obtain ⟨m0, m1, m2, fm⟩ := hM1.cell
    obtain ⟨u0, _⟩ := row_one hI.pt
    by_cases hlt : k < n4
    · have hko : k < d.fs.length := by have := HZ.out; omega
      obtain ⟨hk2, hke⟩ := half_get clearF hko
      obtain ⟨g, cp, e1, e2, e3, e4, e5, e6, ⟨u9, e7⟩, R2, hM2⟩ := Mch.put_ops (k := k) (d := ⟨(d.fs.take k).map clearF ++ d.fs.drop k, d.off, d.fuse⟩) hM1.row hM1.own hM1.rows.len (fun j h1 h2 => ⟨(hM1.rows.get j h1 h2).1, (hM1.rows.get j h1 h2).2.1, fun _ => hM1.rows.get j h1 h2⟩) hM1.from_ hM1.sep hk2 (ownP15_nil _ _) (fun j hj hne g e => by cases e)
      have HNX : Hid (CrI V kb w1.heap.size (w0.heap.size + 1) (w0.heap.size + 2) w0.heap.size (.slice a n4 cap) (.slice ka kz kcap) (.slice a4 n4 c4) d ((d.fs.take (k + 1)).map clearF ++ d.fs.drop (k + 1)) (wr.setCell ⟨g, k * 3 + 2, none⟩ (.slice none 0 0))) := Lib.hid (by
        rw [← clear_step hko]
        have hge : ∀ {b : Nat} {xs : Array Value} {T : TypeId}, Row wr b xs T → T ≠ 47 → b ≠ g := fun {b xs T} h1 h2 e => by
          rcases hM1.own.2 with ⟨e9, _⟩ | ⟨g', cap', cur, e9, _, hg', _⟩
          · rw [e9] at e1; cases e1
          · rw [e9] at e1
            have e10 : some g' = some g := congrArg Value.ownBlock e1
            obtain rfl : g' = g := Option.some.inj e10
            unfold Row at h1
            rw [e, hg'] at h1; cases h1; exact h2 rfl
        refine ⟨⟨R2, ?_⟩, hI.pt.other ⟨g, _, none⟩ _ (hge hI.pt (by decide)), hI.keep.other ⟨g, _, none⟩ _ (hge hI.keep (by decide)), hI.res.other ⟨g, _, none⟩ _ (hge hI.res (by decide)), hI.dbox.other ⟨g, _, none⟩ _ (hge hI.dbox (by decide)), hI.below.setCell (p := ⟨g, k * 3 + 2, none⟩) e4 _⟩
        have : (⟨(((d.fs.take k).map clearF ++ d.fs.drop k)[k]'hk2).n, (((d.fs.take k).map clearF ++ d.fs.drop k)[k]'hk2).d, []⟩ : Dfl) = clearF (d.fs[k]'hko) := by rw [hke]; rfl
        dsimp only at hM2
        rw [this] at hM2
        exact hM2)
      have hn4 : ((d.fs.take k).map clearF ++ d.fs.drop k).length = n4 := by rw [half_len clearF (by omega), HZ.out]
      dsimp only at e1 e2
      rw [hn4] at e1 e2
      cases e1
      have hbk : decide ((k : Int) < (n4 : Int)) = true := by simpa using (show (k : Int) < n4 by omega)
      clear hM1 hM2 hI hke hk2 hn4
      go_wp2
      go_roundw
      case rel => exact ⟨k + 1, by omega, by go_num, HNX.out⟩
      case measure => simp [intOf]; omega
    · obtain rfl : k = n4 := by omega
      have hbk : decide ((k : Int) < (k : Int)) = false := by simp
      have HI2 : Hid (CrI V kb w1.heap.size (w0.heap.size + 1) (w0.heap.size + 2) w0.heap.size (.slice a k cap) (.slice ka kz kcap) (.slice a4 k c4) d (d.fs.map clearF) wr) := Lib.hid (by
        have h1 := HII.out
        rw [List.take_of_length_le (by rw [← HZ.out]; exact Nat.le_refl _), List.drop_of_length_le (by rw [← HZ.out]; exact Nat.le_refl _), List.append_nil] at h1
        exact h1)
      clear hM1 hI
      have hd0 := HI2.out.dbox.cell 0; have hd1 := HI2.out.dbox.cell 1; have hd2 := HI2.out.dbox.cell 2
      simp only [List.getElem?_toArray, List.getElem?_cons_zero, List.getElem?_cons_succ] at hd0 hd1 hd2
      have CO := Lib.hid (ops_any (.slice a k cap) d wr)
      unfold dskV at CO
      go_wp2_with fail
      refine CO.out.mono ?_
      rintro e wO ⟨rfl, hWO⟩
      have hbO : Below wr.heap.size wr wO := by rw [← hWO]; exact (Below.refl _ _).alloc (Nat.le_refl _) _
      have hRO : Row wO wr.heap.size #[.slice a k cap, .bool d.off, .int .i64 d.fuse] 24 := by rw [← hWO]; exact Row.made _ _ _
      have HI3 := Lib.hid (HI2.out.stays hbO)
      have HRO := Lib.hid hRO
      have HB0O : Hid (Below w0.heap.size w0 wO) := Lib.hid (below_step HBV.out HI3.out.below)
      have hzl : d.fs.length ≤ 1000 := by rw [← HZ.out]; omega
      have hol : opsL d.fs ≤ 1000000 := Nat.le_trans HOPS.out (by decide)
      have HSEQ := Lib.hid (ops_seq 8 (by decide) wr.heap.size (.slice a k cap) d wO (HI.out.stays HB0O.out) hRO hzl hol 0 w0 HI.out)
      have HV0 : Hid (V.heap.size ≤ wO.heap.size) := Lib.hid HI3.out.below.size
      clear hWO hbO hRO hd0 hd1 hd2 m0 m1 m2 fm u0
      go_wp2_with fail
      refine (wpIn_wide (n := 9)).1 ?_
      refine wpIn_rangeFunc_seqB hro (by decide) (gf := 69) (lb := #[.pointer (some ⟨wr.heap.size, 0, none⟩)]) (by simp [Act.eval]) trivial (enters_of Try.func69 (by kernel_rfl) rfl)
        HSEQ.out (Below.refl _ _) (fun x => rfl)
        (fun q X => CrI V kb w1.heap.size (w0.heap.size + 1) (w0.heap.size + 2) w0.heap.size (.slice a k cap) (.slice ka kz kcap) (.slice a4 k c4) d (fsK keep d.fs q) X)
        (fun q X h => below_step HBV.out h.below) (fun q X Y h hb => h.stays hb) (fun q X l o o' h hl ho => h.put ho (Nat.le_trans HV0.out hl)) (by rw [fsK_zero]; exact HI3.out)
        (fun x W => { tmps := ((.agg #[.slice a k cap, .bool d.off, .int .i64 d.fuse]) :: (.slice ka kz kcap) :: (.pointer (some ⟨w0.heap.size, 0, none⟩)) :: (.pointer (some ⟨w0.heap.size + 1, 0, none⟩)) :: (.pointer (some ⟨w0.heap.size + 1 + 1, 0, none⟩)) :: (.pointer (some ⟨w1.heap.size, 0, none⟩)) :: (u6) :: (.int .i64 x.place) :: (.pointer (some ⟨W.heap.size, 0, none⟩)) :: (undef) :: (undef) :: (undef) :: (.agg #[.slice a k cap, .bool d.off, .int .i64 d.fuse]) :: (.pointer (some ⟨kb, 0, none⟩)) :: (.pointer (some ⟨kb, 0, none⟩)) :: (.pointer (some ⟨kb, 0, none⟩)) :: (.pointer (some ⟨kb, 0, none⟩)) :: (.pointer (some ⟨kb, 0, none⟩)) :: (.slice a4 k c4) :: (.int .i64 k) :: (.int .i64 k) :: (.bool false) :: (u22) :: (u23) :: (u24) :: (u25) :: (u26) :: (u27) :: (u28) :: (u29) :: (u30) :: (u31) :: (.agg #[.slice a k cap, .bool d.off, .int .i64 d.fuse]) :: (opsV wr.heap.size) :: (.int .i64 x.place) :: (fopV x) :: (undef) :: (undef) :: (undef) :: (undef) :: (undef) :: (undef) :: (undef) :: (undef) :: (undef) :: (undef) :: (undef) :: (undef) :: (undef) :: (undef) :: (undef) :: (undef) :: (undef) :: (undef) :: (undef) :: (undef) :: (undef) :: (undef) :: (undef) :: (undef) :: (undef) :: (undef) :: (undef) :: (undef) :: (undef) :: (undef) :: (undef) :: (undef) :: (undef) :: (undef) :: (undef) :: (undef) :: (undef) :: (undef) :: (undef) :: (undef) :: (undef) :: (undef) :: (undef) :: (undef) :: (undef) :: (undef) :: (undef) :: (undef) :: (undef) :: (undef) :: (undef) :: (undef) :: (undef) :: (undef) :: (undef) :: (undef) :: (undef) :: (undef) :: (undef) :: (undef) :: (undef) :: (undef) :: ([] : List Value)).toArray, defers := [] })
        (fun x W => W.alloc (.cells #[.int .i64 x.op.at_, .string x.op.d, .int .i64 x.file] 81)) (fun x W => (Below.refl _ _).alloc (Nat.le_refl _) _) ?assign ?body ?done
      case assign =>
        intro l x W' K hK
        unfold encF
        gi_wp2
        exact hK
      case body =>
        intro l q hq W X hI hrow
        have HII2 := Lib.hid hI
        obtain ⟨x, hx⟩ : ∃ x, x = (enumF 0 0 d.fs)[q]'hq := ⟨_, rfl⟩
        have hpl := enumF_place d.fs 0 0 q hq
        have hfl := enumF_file d.fs 0 0 _ (List.getElem_mem hq)
        have hst := fsK_step keep d.fs hq
        have hql : q ≤ 1600 := by have h1 := enumF_len 0 0 d.fs; have h2 := HOPS.out; omega
        rw [← hx] at hpl hfl hst hrow ⊢
        rw [Nat.zero_add] at hpl hfl
        have hfb := hrow _ _ _ (Row.made W #[.int .i64 x.op.at_, .string x.op.d, .int .i64 x.file] 81)
        obtain ⟨fb, hfbn⟩ : ∃ fb, fb = W.heap.size := ⟨_, rfl⟩
        rw [← hfbn] at hfb ⊢
        clear hrow hfbn hx
        obtain ⟨pl, op, fi⟩ := x
        dsimp only at hpl hfl hfb ⊢
        subst hpl
        have hkx := hI.keep.cell 0
        simp only [List.getElem?_toArray, List.getElem?_cons_zero] at hkx
        have hkb := HK.out.stays (below_step HBV.out hI.below)
        obtain ⟨_, _, _, hke, _, hkc⟩ := hkb
        rw [← HKZ.out] at hke
        cases hke
        by_cases hpk : pl < kz
        · obtain ⟨kb1, ko1, rfl, hkl, hkg⟩ := hkc (by have := HKZ.out; omega)
          have hkv := hkg pl (by have := HKZ.out; omega)
          have hb1 : decide ((pl : Int) < (kz : Int)) = true := decide_eq_true (by omega)
          have hkd : keep.getD pl false = keep[pl]'(by have := HKZ.out; omega) := by rw [List.getD_eq_getElem?_getD, List.getElem?_eq_getElem (by have := HKZ.out; omega)]; rfl
          have hkzz : kz ≤ 9223372036854775807 := by have h1 := HK.out.1; have h2 := HKZ.out; unfold maxLen at h1; omega
          rcases hbb : keep[pl]'(by have := HKZ.out; omega) with _ | _
          · rw [hbb] at hkv hkd
            have HST : Hid (fsK keep d.fs (pl + 1) = fsK keep d.fs pl) := Lib.hid (by rw [hst]; unfold stepK; dsimp only; rw [if_neg (by rw [hkd]; simp)])
            clear hkg hkc hbb hst hkd hI
            gi_wp2
            exact ⟨fun _ _ h _ => h, by rw [HST.out]; exact HII2.out⟩
          · rw [hbb] at hkv hkd
            clear hkg hkc hbb
            have hk0 : (fsK keep d.fs pl).length = k := by rw [fsK_len keep d.fs pl (Nat.le_of_lt hq), HZ.out]
            have hfk : fi < (fsK keep d.fs pl).length := by rw [hk0, HZ.out]; exact hfl
            have hfik : fi < k := by rw [← hk0]; exact hfk
            obtain ⟨R1, hM1⟩ := hI.mch
            have hfR : fi < R1.length := by rw [hM1.rows.len]; exact hfk
            rcases hM1.own.2 with ⟨_, h0⟩ | ⟨g, cp, cur, hve, _, hgr, _⟩
            · rw [h0] at hfR; exact absurd hfR (by simp)
            obtain rfl := (Value.slice.inj hve).1
            have hgd : (fsK keep d.fs pl).getD fi ⟨⟨#[]⟩, ⟨#[]⟩, []⟩ = (fsK keep d.fs pl)[fi]'hfk := by rw [List.getD_eq_getElem?_getD, List.getElem?_eq_getElem hfk]; rfl
            have HSTP : Hid (fsK keep d.fs (pl + 1) = (fsK keep d.fs pl).set fi ⟨((fsK keep d.fs pl)[fi]'hfk).n, ((fsK keep d.fs pl)[fi]'hfk).d, ((fsK keep d.fs pl)[fi]'hfk).ops ++ [op]⟩) := Lib.hid (by
              rw [hst]; unfold stepK; dsimp only
              rw [if_pos hkd, List.getElem?_eq_getElem hfk])
            have hlo : ((fsK keep d.fs pl)[fi]'hfk).ops.length ≤ 1000000 := Nat.le_trans (fsK_ops keep d.fs pl (Nat.le_of_lt hq) _ (List.getElem_mem hfk)) (by omega)
            have HPT := Lib.hid hI.pt; have HM0 := Lib.hid hM1.cell.1; have HFB := Lib.hid hfb
            have hkbl : kb < X.heap.size := hM1.row.lt
            have hgl0 : g < X.heap.size := (Array.getElem?_eq_some_iff.1 hgr).1
            have hcc := hM1.own.rws
            obtain ⟨_, a9, cp9, e9, _, hc9⟩ := hcc
            obtain rfl := (Value.slice.inj e9).1
            obtain ⟨b9, o9, e8, _, g9⟩ := hc9 (by omega)
            cases e8
            clear e9
            obtain ⟨_, _, hr2⟩ := g9 fi hfR
            rw [Nat.zero_add] at hr2
            have HR20 := Lib.hid hr2
            have HMX0 := Lib.hid hM1
            clear hst hkd hI hM1 hve hgr hc9 g9 hr2
            have hk9 : k ≤ 9223372036854775807 := by omega
            gi_wp2
            -- ROUND1
            refine wpIn_region_round (by kernel_rfl) (by kernel_rfl) ?hq1 ?_
            case hq1 =>
              rintro ⟨a9, w9, h9⟩
              exact absurd h9.1 (by simp)
            refine wp_any_wordsG (by kernel_rfl) allT (fun _ => True) dcqE (dcqU X kb w1.heap.size fb g k c4 fi) 10 dcqN [8, 9] (by kernel_rfl) (by kernel_rfl) (by kernel_rfl)
              dcqB (by kernel_rfl) (fun ix kx v e w w' hi hk hne hb hU hT => dcq_T _ _ _ _ _ _ _ _  ix kx v e w w' hk hne hb hU hT) (by decide) trivial (fun kx hk hge => ?hv01)
              [46, 47, 48, 49, 50, 51, 52, 53, 9] (by kernel_rfl) (forall_ops ?steps1) ?behind1
            case hv01 =>
              have hge' : 9 ≤ kx := hge
              rcases (show kx = 9 by omega) with rfl
              · exact (Below.refl _ _).drew
            case steps1 =>
              refine ⟨?_, ?_, ?_, ?_, ?_, ?_, ?_, ?_, ?_, trivial⟩
              · refine stepG_of rfl ?_
                exact stepR_value (t := 46) (.pointer (some ⟨kb, 0, none⟩)) rfl (fun _ => Below.refl _ _) (fun ac w hG hN hO => by
                  have e5 : slot ac 5 = .pointer (some ⟨w1.heap.size, 0, none⟩) := hO 5 (by kernel_rfl)
                  have hx : Below X.heap.size X w := hN 9 (by decide)
                  obtain ⟨q0, _⟩ := row_one (HPT.out.step hx)
                  have hm0 : w.cell? ⟨kb, 0, none⟩ = some (.slice (some ⟨g, 0, none⟩) k c4) := (hx.cell (p := ⟨kb, 0, none⟩) hkbl).trans HM0.out
                  have hf2 : w.cell? ⟨fb, 2, none⟩ = some (.int .i64 fi) := (hx.cell (p := ⟨fb, 2, none⟩) HFB.out.lt).trans (by have := HFB.out.cell 2; simpa using this)
                  have f5 := slot_at e5
                  unfold execOp; go_simp) (fun ac w hG hN => rfl)
              · refine stepG_of rfl ?_
                exact stepR_value (t := 47) (.pointer (some ⟨kb, 0, none⟩)) rfl (fun _ => Below.refl _ _) (fun ac w hG hN hO => by
                  have e46 : slot ac 46 = .pointer (some ⟨kb, 0, none⟩) := hN 0 (by decide)
                  have f46 := slot_at e46
                  unfold execOp; go_simp) (fun ac w hG hN => rfl)
              · refine stepG_of rfl ?_
                exact stepR_value (t := 48) (.pointer (some ⟨kb, 0, none⟩)) rfl (fun _ => Below.refl _ _) (fun ac w hG hN hO => by
                  have e47 : slot ac 47 = .pointer (some ⟨kb, 0, none⟩) := hN 1 (by decide)
                  have f47 := slot_at e47
                  unfold execOp; go_simp) (fun ac w hG hN => rfl)
              · refine stepG_of rfl ?_
                exact stepR_value (t := 49) (.pointer (some ⟨kb, 0, none⟩)) rfl (fun _ => Below.refl _ _) (fun ac w hG hN hO => by
                  have e48 : slot ac 48 = .pointer (some ⟨kb, 0, none⟩) := hN 2 (by decide)
                  have f48 := slot_at e48
                  unfold execOp; go_simp) (fun ac w hG hN => rfl)
              · refine stepG_of rfl ?_
                exact stepR_value (t := 50) (.slice (some ⟨g, 0, none⟩) k c4) rfl (fun _ => Below.refl _ _) (fun ac w hG hN hO => by
                  have e49 : slot ac 49 = .pointer (some ⟨kb, 0, none⟩) := hN 3 (by decide)
                  have hx : Below X.heap.size X w := hN 9 (by decide)
                  obtain ⟨q0, _⟩ := row_one (HPT.out.step hx)
                  have hm0 : w.cell? ⟨kb, 0, none⟩ = some (.slice (some ⟨g, 0, none⟩) k c4) := (hx.cell (p := ⟨kb, 0, none⟩) hkbl).trans HM0.out
                  have hf2 : w.cell? ⟨fb, 2, none⟩ = some (.int .i64 fi) := (hx.cell (p := ⟨fb, 2, none⟩) HFB.out.lt).trans (by have := HFB.out.cell 2; simpa using this)
                  have f49 := slot_at e49
                  unfold execOp; go_simp) (fun ac w hG hN => rfl)
              · refine stepG_of rfl ?_
                exact stepR_value (t := 51) (.pointer (some ⟨fb, 2, none⟩)) rfl (fun _ => Below.refl _ _) (fun ac w hG hN hO => by
                  have e8 : slot ac 8 = .pointer (some ⟨fb, 0, none⟩) := hO 8 (by kernel_rfl)
                  have f8 := slot_at e8
                  unfold execOp; go_simp) (fun ac w hG hN => rfl)
              · refine stepG_of rfl ?_
                exact stepR_value (t := 52) (.int .i64 fi) rfl (fun _ => Below.refl _ _) (fun ac w hG hN hO => by
                  have e51 : slot ac 51 = .pointer (some ⟨fb, 2, none⟩) := hN 5 (by decide)
                  have hx : Below X.heap.size X w := hN 9 (by decide)
                  obtain ⟨q0, _⟩ := row_one (HPT.out.step hx)
                  have hm0 : w.cell? ⟨kb, 0, none⟩ = some (.slice (some ⟨g, 0, none⟩) k c4) := (hx.cell (p := ⟨kb, 0, none⟩) hkbl).trans HM0.out
                  have hf2 : w.cell? ⟨fb, 2, none⟩ = some (.int .i64 fi) := (hx.cell (p := ⟨fb, 2, none⟩) HFB.out.lt).trans (by have := HFB.out.cell 2; simpa using this)
                  have f51 := slot_at e51
                  unfold execOp; go_simp) (fun ac w hG hN => rfl)
              · refine stepG_of rfl ?_
                exact stepR_value (t := 53) (.pointer (some ⟨g, fi * 3, none⟩)) rfl (fun _ => Below.refl _ _) (fun ac w hG hN hO => by
                  have e50 : slot ac 50 = .slice (some ⟨g, 0, none⟩) k c4 := hN 4 (by decide)
                  have e52 : slot ac 52 = .int .i64 fi := hN 6 (by decide)
                  have f50 := slot_at e50
                  have f52 := slot_at e52
                  unfold execOp; go_simp) (fun ac w hG hN => rfl)
              · refine stepG_of rfl ?_
                exact stepR_value (t := 9) (.pointer (some ⟨g, fi * 3, none⟩)) rfl (fun _ => Below.refl _ _) (fun ac w hG hN hO => by
                  have e53 : slot ac 53 = .pointer (some ⟨g, fi * 3, none⟩) := hN 7 (by decide)
                  exact run_move_slot (.inr rfl) e53) (fun ac w hG hN => rfl)
            case behind1 =>
              intro ac X5 hG hV hS ha
              have hX5 : Below X.heap.size X X5 := hV 9 (by decide) (by decide)
              have h8 : slot ac 9 = .pointer (some ⟨g, fi * 3, none⟩) := hV 8 (by decide) (by decide)
              generalize slot ac = sl at ha h8
              subst ha
              simp only [patchL, List.contains_cons, List.contains_nil, Nat.reduceBEq, Bool.or_false, Bool.or_true, if_true, Bool.false_eq_true, if_false, Nat.reduceAdd]
              generalize sl 46 = s46
              generalize sl 47 = s47
              generalize sl 48 = s48
              generalize sl 49 = s49
              generalize sl 50 = s50
              generalize sl 51 = s51
              generalize sl 52 = s52
              generalize sl 53 = s53
              generalize sl 9 = s9 at h8 ⊢
              subst h8
              clear hV hS
              have HX5 := Lib.hid (show Below X.heap.size X X5 from hX5)
            -- ROUND1END
              have HCX := Lib.hid (HII2.out.stays HX5.out)
              have HMX := Lib.hid (HMX0.out.stays HX5.out)
              have HLD5 : Hid (KeepsLD_Dlu X X5) := Lib.hid (KeepsLD_Dlu.below HX5.out)
              have HFB0 := HFB
              have HFB := Lib.hid (HFB0.out.step HX5.out)
              have HR2 := Lib.hid ((HX5.out.cell (p := ⟨g, fi * 3 + 2, none⟩) hgl0).trans HR20.out)
              have hgl : g < X5.heap.size := Nat.lt_of_lt_of_le hgl0 HX5.out.size
              clear HFB0
              gi_wp2
-- ROUND2
              refine wpIn_region_round (by kernel_rfl) (by kernel_rfl) ?hq2 ?_
              case hq2 =>
                rintro ⟨a9, w9, h9⟩
                exact absurd h9.1 (by simp)
              refine wp_any_wordsG (by kernel_rfl) (appTs [8, 11] (fun _ _ _ => True)) (fun _ => True) dcwE (dcwU V X5 kb w1.heap.size (w0.heap.size + 1) (w0.heap.size + 2) w0.heap.size fb g k c4 fi (.slice a k cap) (.slice (some ⟨kb1, ko1, none⟩) kz kcap) d (fsK keep d.fs pl) R1 (R1[fi]'hfR) op ((fsK keep d.fs pl)[fi].ops ++ [op])) 13 dcwN [11] (by kernel_rfl) (by kernel_rfl) (by kernel_rfl)
                dcwB (by kernel_rfl) (fun ix kx v e w w' hi hk hne hb hU hT => dcw_T _ _ _ _ _ _ _ _ _ _ _ _ _ _ _ _ _ _ _ _  ix kx v e w w' hk hne hb hU hT) (by decide) trivial (fun kx hk hge => ?hv02)
                [54, 55, 56, 57, 58, 59, 60, 61, 62, 63, 64] (by kernel_rfl) (forall_ops ?steps2) ?behind2
              case hv02 =>
                have hge' : 12 ≤ kx := hge
                rcases (show kx = 12 by omega) with rfl
                · exact (Below.refl _ _).drew
              case steps2 =>
                refine ⟨?_, ?_, ?_, ?_, ?_, ?_, ?_, ?_, ?_, ?_, ?_, ?_, trivial⟩
                · refine stepG_of rfl ?_
                  exact stepR_value (t := 54) (.pointer (some ⟨g, fi * 3, none⟩)) rfl (fun _ => appTs_other (by decide) (Below.refl _ _)) (fun ac w hG hN hO => by
                    have e9 : slot ac 9 = .pointer (some ⟨g, fi * 3, none⟩) := hO 9 (by kernel_rfl)
                    exact run_move_slot (.inl rfl) e9) (fun ac w hG hN => rfl)
                · refine stepG_of rfl ?_
                  exact stepR_value (t := 55) (.pointer (some ⟨g, fi * 3, none⟩)) rfl (fun _ => appTs_other (by decide) (Below.refl _ _)) (fun ac w hG hN hO => by
                    have e9 : slot ac 9 = .pointer (some ⟨g, fi * 3, none⟩) := hO 9 (by kernel_rfl)
                    exact run_move_slot (.inl rfl) e9) (fun ac w hG hN => rfl)
                · refine stepG_of rfl ?_
                  exact stepR_value (t := 56) (.pointer (some ⟨g, fi * 3, none⟩)) rfl (fun _ => appTs_other (by decide) (Below.refl _ _)) (fun ac w hG hN hO => by
                    have e55 : slot ac 55 = .pointer (some ⟨g, fi * 3, none⟩) := hN 1 (by decide)
                    have f55 := slot_at e55
                    unfold execOp; go_simp) (fun ac w hG hN => rfl)
                · refine stepG_of rfl ?_
                  exact stepR_value (t := 57) (.pointer (some ⟨g, fi * 3 + 2, none⟩)) rfl (fun _ => appTs_other (by decide) (Below.refl _ _)) (fun ac w hG hN hO => by
                    have e56 : slot ac 56 = .pointer (some ⟨g, fi * 3, none⟩) := hN 2 (by decide)
                    have f56 := slot_at e56
                    unfold execOp; go_simp) (fun ac w hG hN => rfl)
                · refine stepG_of rfl ?_
                  exact stepR_value (t := 58) (.slice (R1[fi]'hfR).a (R1[fi]'hfR).z (R1[fi]'hfR).c) rfl (fun _ => appTs_other (by decide) (Below.refl _ _)) (fun ac w hG hN hO => by
                    have e57 : slot ac 57 = .pointer (some ⟨g, fi * 3 + 2, none⟩) := hN 3 (by decide)
                    have hx : Below X5.heap.size X5 w := hN 12 (by decide)
                    have hr2 : w.cell? ⟨g, fi * 3 + 2, none⟩ = some (.slice (R1[fi]'hfR).a (R1[fi]'hfR).z (R1[fi]'hfR).c) := (hx.cell (p := ⟨g, fi * 3 + 2, none⟩) hgl).trans HR2.out
                    have hf0 : w.cell? ⟨fb, 0, none⟩ = some (.int .i64 op.at_) := (hx.cell (p := ⟨fb, 0, none⟩) HFB.out.lt).trans (by have := HFB.out.cell 0; simpa using this)
                    have hf1 : w.cell? ⟨fb, 1, none⟩ = some (.string op.d) := (hx.cell (p := ⟨fb, 1, none⟩) HFB.out.lt).trans (by have := HFB.out.cell 1; simpa using this)
                    have f57 := slot_at e57
                    unfold execOp; go_simp) (fun ac w hG hN => rfl)
                · refine stepG_of rfl ?_
                  exact stepR_value (t := 59) (.pointer (some ⟨fb, 0, none⟩)) rfl (fun _ => appTs_other (by decide) (Below.refl _ _)) (fun ac w hG hN hO => by
                    have e8 : slot ac 8 = .pointer (some ⟨fb, 0, none⟩) := hO 8 (by kernel_rfl)
                    have f8 := slot_at e8
                    unfold execOp; go_simp) (fun ac w hG hN => rfl)
                · refine stepG_of rfl ?_
                  exact stepR_value (t := 60) (.agg #[.int .i64 op.at_, .string op.d]) rfl (fun _ => appTs_other (by decide) (Below.refl _ _)) (fun ac w hG hN hO => by
                    have e59 : slot ac 59 = .pointer (some ⟨fb, 0, none⟩) := hN 5 (by decide)
                    have hx : Below X5.heap.size X5 w := hN 12 (by decide)
                    have hr2 : w.cell? ⟨g, fi * 3 + 2, none⟩ = some (.slice (R1[fi]'hfR).a (R1[fi]'hfR).z (R1[fi]'hfR).c) := (hx.cell (p := ⟨g, fi * 3 + 2, none⟩) hgl).trans HR2.out
                    have hf0 : w.cell? ⟨fb, 0, none⟩ = some (.int .i64 op.at_) := (hx.cell (p := ⟨fb, 0, none⟩) HFB.out.lt).trans (by have := HFB.out.cell 0; simpa using this)
                    have hf1 : w.cell? ⟨fb, 1, none⟩ = some (.string op.d) := (hx.cell (p := ⟨fb, 1, none⟩) HFB.out.lt).trans (by have := HFB.out.cell 1; simpa using this)
                    have f59 := slot_at e59
                    unfold execOp; go_simp) (fun ac w hG hN => rfl)
                · refine stepG_of rfl ?_
                  intro ac wx hG hN hO
                  have e60 : slot ac 60 = .agg #[.int .i64 op.at_, .string op.d] := hN 6 (by decide)
                  have hx : Below X5.heap.size X5 wx := hN 12 (by decide)
                  refine wp_build_dop rfl (slotE e60) ?_
                  exact ⟨_, rfl, appTs_other (by decide) ((Below.refl _ _).alloc (Nat.le_refl _) _), trivial, ⟨_, rfl, Row.made _ _ _, hx.size⟩⟩
                · refine stepG_of rfl ?_
                  intro ac wx hG hN hO
                  have e58 : slot ac 58 = .slice (R1[fi]'hfR).a (R1[fi]'hfR).z (R1[fi]'hfR).c := hN 4 (by decide)
                  have h7 : ∃ A, slot ac 61 = .slice (some ⟨A, 0, none⟩) 1 1 ∧ Row wx A #[.int .i64 op.at_, .string op.d] 52 ∧ X5.heap.size ≤ A := hN 7 (by decide)
                  have hx : Below X5.heap.size X5 wx := hN 12 (by decide)
                  obtain ⟨A, e61, hA1, hA2⟩ := h7
                  obtain ⟨a5, n5, c5, w', hr, hs⟩ := app_any HCX.out HMX.out hfk hfR hx hA1 hA2 hlo 45
                  refine wp_append_run rfl (slotE e58) (slotE e61) hr ?_
                  exact ⟨_, rfl, appTs_at (by decide) trivial, trivial, a5, n5, c5, rfl, hs⟩
                · refine stepG_of rfl ?_
                  exact stepR_value (t := 63) (.pointer (some ⟨g, fi * 3, none⟩)) rfl (fun _ => appTs_other (by decide) (Below.refl _ _)) (fun ac w hG hN hO => by
                    have e54 : slot ac 54 = .pointer (some ⟨g, fi * 3, none⟩) := hN 0 (by decide)
                    have f54 := slot_at e54
                    unfold execOp; go_simp) (fun ac w hG hN => rfl)
                · refine stepG_of rfl ?_
                  exact stepR_value (t := 64) (.pointer (some ⟨g, fi * 3 + 2, none⟩)) rfl (fun _ => appTs_other (by decide) (Below.refl _ _)) (fun ac w hG hN hO => by
                    have e63 : slot ac 63 = .pointer (some ⟨g, fi * 3, none⟩) := hN 9 (by decide)
                    have f63 := slot_at e63
                    unfold execOp; go_simp) (fun ac w hG hN => rfl)
                · refine stepG_of rfl ?_
                  intro ac wx hG hN hO
                  have e64 : slot ac 64 = .pointer (some ⟨g, fi * 3 + 2, none⟩) := hN 10 (by decide)
                  have h8 : ∃ a5 n5 c5, slot ac 62 = .slice a5 n5 c5 ∧ AppS V X5 kb w1.heap.size (w0.heap.size + 1) (w0.heap.size + 2) w0.heap.size (.slice a k cap) (.slice (some ⟨kb1, ko1, none⟩) kz kcap) (.slice (some ⟨g, 0, none⟩) k c4) d (fsK keep d.fs pl) fi R1 ((fsK keep d.fs pl)[fi].ops ++ [op]) (.slice a5 n5 c5) wx := hN 8 (by decide)
                  obtain ⟨a5, n5, c5, e62, hs⟩ := h8
                  obtain ⟨g', cp', e1, hfz, ⟨u9, hcu⟩, hC, hK⟩ := hs.put hfk
                  have hgg : g' = g := by have : some g = some g' := congrArg Value.ownBlock e1; exact (Option.some.inj this).symm
                  subst hgg
                  refine wp_store_slice rfl (slotE e64) (slotE e62) hcu hfz ?_
                  exact ⟨_, rfl, appTs_at (by decide) trivial, trivial, by rw [hgd]; exact hC, hK⟩
              case behind2 =>
                intro ac w5 hG hV hS ha
                have h11 : CrI V kb w1.heap.size (w0.heap.size + 1) (w0.heap.size + 2) w0.heap.size (.slice a k cap) (.slice (some ⟨kb1, ko1, none⟩) kz kcap) (.slice (some ⟨g, 0, none⟩) k c4) d ((fsK keep d.fs pl).set fi ⟨((fsK keep d.fs pl).getD fi ⟨⟨#[]⟩, ⟨#[]⟩, []⟩).n, ((fsK keep d.fs pl).getD fi ⟨⟨#[]⟩, ⟨#[]⟩, []⟩).d, (fsK keep d.fs pl)[fi].ops ++ [op]⟩) w5 ∧ KeepsLD_Dlu X5 w5 := hV 11 (by decide) (by decide)
                generalize slot ac = sl at ha 
                subst ha
                simp only [patchL, List.contains_cons, List.contains_nil, Nat.reduceBEq, Bool.or_false, Bool.or_true, if_true, Bool.false_eq_true, if_false, Nat.reduceAdd]
                generalize sl 54 = s54
                generalize sl 55 = s55
                generalize sl 56 = s56
                generalize sl 57 = s57
                generalize sl 58 = s58
                generalize sl 59 = s59
                generalize sl 60 = s60
                generalize sl 61 = s61
                generalize sl 62 = s62
                generalize sl 63 = s63
                generalize sl 64 = s64
                clear hV hS
                have H11 := Lib.hid h11
                clear hG h11
                gi_wp2
                exact ⟨HLD5.out.trans H11.out.2, by have h := H11.out.1; rw [hgd] at h; rw [HSTP.out]; exact h⟩
              -- ROUND2END
        · have hb1 : decide ((pl : Int) < (kz : Int)) = false := decide_eq_false (by omega)
          have HST : Hid (fsK keep d.fs (pl + 1) = fsK keep d.fs pl) := Lib.hid (by
            rw [hst]; unfold stepK; dsimp only
            rw [if_neg (by rw [List.getD_eq_getElem?_getD, List.getElem?_eq_none (by have := HKZ.out; omega)]; simp)])
          clear hkc hst hI
          gi_wp2
          exact ⟨fun _ _ h _ => h, by rw [HST.out]; exact HII2.out⟩
      case done =>
        intro D Wz hD hI hdef
        rw [fsK_all] at hI
        have HII4 := Lib.hid hI
        obtain ⟨F, hF⟩ : ∃ F, F = keptL keep 0 d.fs := ⟨_, rfl⟩
        have HFL : Hid (F.length = k) := Lib.hid (by rw [hF, keptL_len, HZ.out])
        have HFM : Hid (∀ x ∈ F, x.d.size ≤ 262144 ∧ ∀ o ∈ x.ops, opOk o) := Lib.hid (by
          rw [hF]
          intro x hx
          obtain ⟨f, hf, _, e2, e3⟩ := keptL_mem keep d.fs 0 x hx
          exact ⟨by rw [e2]; exact (HF.out.files f hf).bytes, fun o ho => (HF.out.files f hf).ops o (e3 o ho)⟩)
        have HFC : Hid (F.map settleF = crashL keep 0 d.fs) := Lib.hid (by rw [hF, crashL_kept])
        rw [← hF] at HII4
        have HDD := Lib.hid hdef
        obtain ⟨R4, hM4⟩ := HII4.out.mch
        obtain ⟨m0, m1, m2, fm⟩ := hM4.cell
        obtain ⟨u0, _⟩ := row_one HII4.out.pt
        have hDV : V.heap.size ≤ D := Nat.le_trans HV0.out hD
        clear hI hF hM4 hdef
        go_wp2_with fail
        go_loopw [71] (fun i wr => ∃ q : Nat, q ≤ k ∧ i = .int .i64 q ∧ CrI V kb w1.heap.size (w0.heap.size + 1) (w0.heap.size + 2) w0.heap.size (.slice a k cap) (.slice ka kz kcap) (.slice a4 k c4) d ((F.take q).map settleF ++ F.drop q) wr ∧ wr.heap[D]? = some (.deferred (some []))) (fun i _ => k - (intOf i).toNat)
        case atStart => exact ⟨0, Nat.zero_le _, rfl, by simpa using HII4.out, HDD.out⟩
        case round =>
          clear m0 m1 m2 fm u0 HDD
          obtain ⟨q, hq, rfl, hI, hdd⟩ := hrel
          have HI5 := Lib.hid hI; have HD5 := Lib.hid hdd
          obtain ⟨R5, hM5⟩ := hI.mch
          by_cases hlt : q < k
          · have hqF : q < F.length := by rw [HFL.out]; exact hlt
            obtain ⟨hq2, hqe⟩ := half_get settleF hqF
            obtain ⟨f, hf⟩ : ∃ f, f = F[q]'hqF := ⟨_, rfl⟩
            have hqR : q < R5.length := by rw [hM5.rows.len]; exact hq2
            have hrq := hM5.rows.get q hqR hq2
            dsimp only at hrq
            rw [hqe, ← hf] at hrq
            have hn5 : ((F.take q).map settleF ++ F.drop q).length = k := by rw [half_len settleF (by omega), HFL.out]
            rcases hM5.own.2 with ⟨_, h0⟩ | ⟨g, cp, cur, hve, _, hgr, _⟩
            · rw [h0] at hqR; exact absurd hqR (by simp)
            obtain rfl := (Value.slice.inj hve).1
            obtain ⟨_, a9, cp9, e9, _, hc9⟩ := hM5.own.rws
            obtain rfl := (Value.slice.inj e9).1
            obtain ⟨b9, o9, e8, _, g9⟩ := hc9 (by omega)
            cases e8
            obtain ⟨c0, c1, c2⟩ := g9 q hqR
            rw [Nat.zero_add] at c0 c1 c2
            rw [hrq.1] at c0
            rw [hrq.2.1] at c1
            have hfm := HFM.out f (by rw [hf]; exact List.getElem_mem hqF)
            have hgl : g < wr.heap.size := (Array.getElem?_eq_some_iff.1 hgr).1
            have HST : Hid (((F.take q).map settleF ++ F.drop q).set q (settleF f) = (F.take (q + 1)).map settleF ++ F.drop (q + 1)) := Lib.hid (by rw [hf]; exact settle_step hqF)
            have CSR : Hid (∀ W2, Below wr.heap.size wr W2 → Calls Try.prog 46 #[.agg #[.string f.n, .string f.d, .slice (R5[q]'hqR).a (R5[q]'hqR).z (R5[q]'hqR).c]] W2 fun e w' => e = .returned (.agg #[.string f.n, .string (strT (seenF f)), .slice none 0 0]) ∧ Below W2.heap.size W2 w') := Lib.hid fun W2 hW2 =>
              settled_any f (.slice (R5[q]'hqR).a (R5[q]'hqR).z (R5[q]'hqR).c) W2 (hrq.2.2.is.stays hW2) hfm.1 hfm.2
            have hbk2 : decide ((q : Int) < (k : Int)) = true := by simpa using (show (q : Int) < k by omega)
            obtain ⟨W, hW⟩ : ∃ W, W = wr.alloc (.cells #[.string f.n, .string f.d, .slice (R5[q]'hqR).a (R5[q]'hqR).z (R5[q]'hqR).c] 47) := ⟨_, rfl⟩
            have hbW : Below wr.heap.size wr W := by rw [hW]; exact (Below.refl _ _).alloc (Nat.le_refl _) _
            have hRW : Row W wr.heap.size #[.string f.n, .string f.d, .slice (R5[q]'hqR).a (R5[q]'hqR).z (R5[q]'hqR).c] 47 := by rw [hW]; exact Row.made _ _ _
            have HWE := Lib.hid hW
            have HBW2 := Lib.hid hbW
            have HBX := Lib.hid hRW
            have CS2 := Lib.hid (fun W2 (h : Below W.heap.size W W2) => CSR.out W2 (below_step hbW h))
            have HI5W : Hid (_ ∧ _) := Lib.hid (And.intro (HI5.out.stays hbW) ((hbW.block D (Array.getElem?_eq_some_iff.1 HD5.out).1).trans HD5.out))
            obtain ⟨r0, r1, r2, fr⟩ := row_cells hRW
            obtain ⟨u0, _⟩ := row_one (hI.pt.step hbW)
            have m0 : W.cell? ⟨kb, 0, none⟩ = some (.slice (some ⟨g, 0, none⟩) k c4) := (hbW.cell (p := ⟨kb, 0, none⟩) hM5.row.lt).trans hM5.cell.1
            have hk99 : k ≤ 9223372036854775807 := by omega
            clear hW hbW hRW hI hdd hM5 hrq hqe hf hfm hc9 g9 hve hgr e9 hn5
            go_wp2_with fail
            rw [← HWE.out]
            go_wp2_with fail
            -- ROUND16
            refine wp_region_wordsG (by kernel_rfl) (by kernel_rfl) (appT 9 (fun _ _ => True)) (fun _ => True) dcsE (dcsU V W kb w1.heap.size (w0.heap.size + 1) (w0.heap.size + 2) w0.heap.size wr.heap.size g k c4 q D (.slice a k cap) (.slice ka kz kcap) d ((F.take q).map settleF ++ F.drop q) ((F.take (q + 1)).map settleF ++ F.drop (q + 1)) f (R5[q]'hqR)) 12 dcsN [9] (by kernel_rfl) (by kernel_rfl) (by kernel_rfl)
              dcsB (by kernel_rfl) (fun ix kx v e w w' hi hk hne hb hU hT => dcs_T _ _ _ _ _ _ _ _ _ _ _ _ _ _ _ _ _ _ _ _  ix kx v e w w' hk hne hb hU hT) (by decide) trivial (fun kx hk hge => ?hv016)
              [76, 77, 78, 79, 80, 81, 82, 83, 84] (by kernel_rfl) (forall_ops ?steps16) ?behind16
            case hv016 =>
              have hge' : 10 ≤ kx := hge
              rcases (show kx = 10 ∨ kx = 11 by omega) with rfl | rfl
              · exact ⟨HI5W.out.1.stays (Below.refl _ _).drew, HI5W.out.2⟩
              · exact (Below.refl _ _).drew
            case steps16 =>
              refine ⟨?_, ?_, ?_, ?_, ?_, ?_, ?_, ?_, ?_, ?_, trivial⟩
              · refine stepG_of rfl ?_
                exact stepR_value (t := 76) (.pointer (some ⟨kb, 0, none⟩)) rfl (fun _ => appT_other (by decide) (Below.refl _ _)) (fun ac w hG hN hO => by
                  have e5 : slot ac 5 = .pointer (some ⟨w1.heap.size, 0, none⟩) := hO 5 (by kernel_rfl)
                  have hx : CrI V kb w1.heap.size (w0.heap.size + 1) (w0.heap.size + 2) w0.heap.size (.slice a k cap) (.slice ka kz kcap) (.slice (some ⟨g, 0, none⟩) k c4) d ((F.take q).map settleF ++ F.drop q) w ∧ w.heap[D]? = some (.deferred (some [])) := hN 10 (by decide)
                  have hy : Below W.heap.size W w := hN 11 (by decide)
                  obtain ⟨q0, _⟩ := row_one hx.1.pt
                  obtain ⟨R9, hM9⟩ := hx.1.mch
                  obtain ⟨hm0, _, _, _⟩ := hM9.cell
                  obtain ⟨b0, b1, b2, _⟩ := row_cells (HBX.out.step hy)
                  clear hM9
                  have f5 := slot_at e5
                  unfold execOp; go_simp) (fun ac w hG hN => rfl)
              · refine stepG_of rfl ?_
                exact stepR_value (t := 77) (.pointer (some ⟨kb, 0, none⟩)) rfl (fun _ => appT_other (by decide) (Below.refl _ _)) (fun ac w hG hN hO => by
                  have e76 : slot ac 76 = .pointer (some ⟨kb, 0, none⟩) := hN 0 (by decide)
                  have f76 := slot_at e76
                  unfold execOp; go_simp) (fun ac w hG hN => rfl)
              · refine stepG_of rfl ?_
                exact stepR_value (t := 78) (.pointer (some ⟨kb, 0, none⟩)) rfl (fun _ => appT_other (by decide) (Below.refl _ _)) (fun ac w hG hN hO => by
                  have e77 : slot ac 77 = .pointer (some ⟨kb, 0, none⟩) := hN 1 (by decide)
                  have f77 := slot_at e77
                  unfold execOp; go_simp) (fun ac w hG hN => rfl)
              · refine stepG_of rfl ?_
                exact stepR_value (t := 79) (.pointer (some ⟨kb, 0, none⟩)) rfl (fun _ => appT_other (by decide) (Below.refl _ _)) (fun ac w hG hN hO => by
                  have e78 : slot ac 78 = .pointer (some ⟨kb, 0, none⟩) := hN 2 (by decide)
                  have f78 := slot_at e78
                  unfold execOp; go_simp) (fun ac w hG hN => rfl)
              · refine stepG_of rfl ?_
                exact stepR_value (t := 80) (.slice (some ⟨g, 0, none⟩) k c4) rfl (fun _ => appT_other (by decide) (Below.refl _ _)) (fun ac w hG hN hO => by
                  have e79 : slot ac 79 = .pointer (some ⟨kb, 0, none⟩) := hN 3 (by decide)
                  have hx : CrI V kb w1.heap.size (w0.heap.size + 1) (w0.heap.size + 2) w0.heap.size (.slice a k cap) (.slice ka kz kcap) (.slice (some ⟨g, 0, none⟩) k c4) d ((F.take q).map settleF ++ F.drop q) w ∧ w.heap[D]? = some (.deferred (some [])) := hN 10 (by decide)
                  have hy : Below W.heap.size W w := hN 11 (by decide)
                  obtain ⟨q0, _⟩ := row_one hx.1.pt
                  obtain ⟨R9, hM9⟩ := hx.1.mch
                  obtain ⟨hm0, _, _, _⟩ := hM9.cell
                  obtain ⟨b0, b1, b2, _⟩ := row_cells (HBX.out.step hy)
                  clear hM9
                  have f79 := slot_at e79
                  unfold execOp; go_simp) (fun ac w hG hN => rfl)
              · refine stepG_of rfl ?_
                exact stepR_value (t := 81) (.int .i64 q) rfl (fun _ => appT_other (by decide) (Below.refl _ _)) (fun ac w hG hN hO => by
                  have e10 : slot ac 10 = .int .i64 q := hO 10 (by kernel_rfl)
                  exact run_move_slot (.inl rfl) e10) (fun ac w hG hN => rfl)
              · refine stepG_of rfl ?_
                exact stepR_value (t := 82) (.agg #[.string f.n, .string f.d, .slice (R5[q]'hqR).a (R5[q]'hqR).z (R5[q]'hqR).c]) rfl (fun _ => appT_other (by decide) (Below.refl _ _)) (fun ac w hG hN hO => by
                  have e11 : slot ac 11 = .pointer (some ⟨wr.heap.size, 0, none⟩) := hO 11 (by kernel_rfl)
                  have hx : CrI V kb w1.heap.size (w0.heap.size + 1) (w0.heap.size + 2) w0.heap.size (.slice a k cap) (.slice ka kz kcap) (.slice (some ⟨g, 0, none⟩) k c4) d ((F.take q).map settleF ++ F.drop q) w ∧ w.heap[D]? = some (.deferred (some [])) := hN 10 (by decide)
                  have hy : Below W.heap.size W w := hN 11 (by decide)
                  obtain ⟨q0, _⟩ := row_one hx.1.pt
                  obtain ⟨R9, hM9⟩ := hx.1.mch
                  obtain ⟨hm0, _, _, _⟩ := hM9.cell
                  obtain ⟨b0, b1, b2, _⟩ := row_cells (HBX.out.step hy)
                  clear hM9
                  have f11 := slot_at e11
                  unfold execOp; go_simp) (fun ac w hG hN => rfl)
              · refine stepG_of rfl ?_
                intro ac wx hG hN hO
                have e82 : slot ac 82 = .agg #[.string f.n, .string f.d, .slice (R5[q]'hqR).a (R5[q]'hqR).z (R5[q]'hqR).c] := hN 6 (by decide)
                have hy : Below W.heap.size W wx := hN 11 (by decide)
                refine wp_callx 46 _ _ rfl (enters_of Try.func46 (by kernel_rfl) rfl) #[.agg #[.string f.n, .string f.d, .slice (R5[q]'hqR).a (R5[q]'hqR).z (R5[q]'hqR).c]] (by simp [eval_slot, e82]) (R := fun v wz => v = .agg #[.string f.n, .string (strT (seenF f)), .slice none 0 0] ∧ Below wx.heap.size wx wz) ((CS2.out wx hy).mono fun e wz hz => ⟨_, hz.1, rfl, hz.2⟩) ?_
                rintro v wz ⟨hv, hb⟩
                exact ⟨v, rfl, appT_other (by decide) hb, trivial, hv⟩
              · refine stepG_of rfl ?_
                exact stepR_value (t := 84) (.pointer (some ⟨g, q * 3, none⟩)) rfl (fun _ => appT_other (by decide) (Below.refl _ _)) (fun ac w hG hN hO => by
                  have e80 : slot ac 80 = .slice (some ⟨g, 0, none⟩) k c4 := hN 4 (by decide)
                  have e81 : slot ac 81 = .int .i64 q := hN 5 (by decide)
                  have f80 := slot_at e80
                  have f81 := slot_at e81
                  unfold execOp; go_simp) (fun ac w hG hN => rfl)
              · refine stepG_of rfl ?_
                intro ac wx hG hN hO
                have e84 : slot ac 84 = .pointer (some ⟨g, q * 3, none⟩) := hN 8 (by decide)
                have e83 : slot ac 83 = .agg #[.string f.n, .string (strT (seenF f)), .slice none 0 0] := hN 7 (by decide)
                have hx : CrI V kb w1.heap.size (w0.heap.size + 1) (w0.heap.size + 2) w0.heap.size (.slice a k cap) (.slice ka kz kcap) (.slice (some ⟨g, 0, none⟩) k c4) d ((F.take q).map settleF ++ F.drop q) wx ∧ wx.heap[D]? = some (.deferred (some [])) := hN 10 (by decide)
                obtain ⟨g', cp', e1, e6, ⟨y1, y2, y3, e7, e8, e9⟩, hC, hK⟩ := hx.1.file hq2 f.n (strT (seenF f))
                have hgg : g' = g := by have : some g = some g' := congrArg Value.ownBlock e1; exact (Option.some.inj this).symm
                subst hgg
                refine wp_store_file rfl (slotE e84) (slotE e83) e7 e8 e9 e6 ?_
                exact ⟨_, rfl, appT_at trivial, trivial, by rw [← HST.out]; exact hC, hK D _ hx.2 (.inr ⟨_, rfl⟩)⟩
            case behind16 =>
              intro ac w5 hG hV hS ha
              have h9 : CrI V kb w1.heap.size (w0.heap.size + 1) (w0.heap.size + 2) w0.heap.size (.slice a k cap) (.slice ka kz kcap) (.slice (some ⟨g, 0, none⟩) k c4) d ((F.take (q + 1)).map settleF ++ F.drop (q + 1)) w5 ∧ w5.heap[D]? = some (.deferred (some [])) := hV 9 (by decide) (by decide)
              generalize slot ac = sl at ha 
              subst ha
              simp only [patchL, List.contains_cons, List.contains_nil, Nat.reduceBEq, Bool.or_false, Bool.or_true, if_true, Bool.false_eq_true, if_false, Nat.reduceAdd]
              generalize sl 76 = s76
              generalize sl 77 = s77
              generalize sl 78 = s78
              generalize sl 79 = s79
              generalize sl 80 = s80
              generalize sl 81 = s81
              generalize sl 82 = s82
              generalize sl 83 = s83
              generalize sl 84 = s84
              clear hV hS
              have HE9 := Lib.hid h9
              clear hG h9
              go_wp2
              go_roundw
              case rel => exact ⟨q + 1, by omega, by go_num, HE9.out.1, HE9.out.2⟩
              case measure => simp [intOf]; omega
            -- ROUND16END
          · obtain rfl : q = k := by omega
            have hbk2 : decide ((q : Int) < (q : Int)) = false := by simp
            have HI6 : Hid (CrI V kb w1.heap.size (w0.heap.size + 1) (w0.heap.size + 2) w0.heap.size (.slice a q cap) (.slice ka kz kcap) (.slice a4 q c4) d (crashL keep 0 d.fs) wr) := Lib.hid (by
              have h1 := HI5.out
              rw [List.take_of_length_le (by rw [HFL.out]; exact Nat.le_refl _), List.drop_of_length_le (by rw [HFL.out]; exact Nat.le_refl _), List.append_nil, HFC.out] at h1
              exact h1)
            obtain ⟨R7, hM7⟩ := HI6.out.mch
            have HEI : Hid (EndI V kb w1.heap.size (w0.heap.size + 1 + 1) D (.slice a4 q c4) (crashL keep 0 d.fs) d.off d.fuse wr) := Lib.hid ⟨⟨R7, hM7⟩, HI6.out.pt, HI6.out.res, HI6.out.below, HD5.out⟩
            have hpk : w1.heap.size ≠ kb := HEI.out.far.1
            have hrV : w0.heap.size + 1 + 1 < V.heap.size := by omega
            clear hI hdd hM5 hM7
            go_wp2_with fail
            -- ROUND18
            refine wp_region_wordsG (by kernel_rfl) (by kernel_rfl) (appTs [5, 9] (fun _ w w' => ∃ i u, w' = w.setCell ⟨kb, i, none⟩ u)) (fun _ => True) dceE (dceU V kb w1.heap.size (w0.heap.size + 1 + 1) D (.slice a4 q c4) (crashL keep 0 d.fs) d.off d.fuse) 12 dceN [9] (by kernel_rfl) (by kernel_rfl) (by kernel_rfl)
              dceB (by kernel_rfl) (fun ix kx v e w w' hi hk hne hb hU hT => dce_T _ _ _ _ _ _ _ _ _  ix kx v e w w' hk hne hb hU hT) (by decide) trivial (fun kx hk hge => ?hv0)
              [86, 87, 88, 89, 90, 91, 92, 93] (by kernel_rfl) (forall_ops ?steps) ?behind
            case hv0 =>
              have hge' : 10 ≤ kx := hge
              rcases (show kx = 10 ∨ kx = 11 by omega) with rfl | rfl
              · exact ⟨HI6.out.pt.drew, hpk⟩
              · exact HEI.out.stays (Below.refl _ _).drew
            case steps =>
              refine ⟨?_, ?_, ?_, ?_, ?_, ?_, ?_, ?_, ?_, ?_, trivial⟩
              · refine stepG_of rfl ?_
                exact stepR_value (t := 86) (.pointer (some ⟨kb, 0, none⟩)) rfl (fun _ => appTs_other (by decide) (Below.refl _ _)) (fun ac w hG hN hO => by
                  have e5 : slot ac 5 = .pointer (some ⟨w1.heap.size, 0, none⟩) := hO 5 (by kernel_rfl)
                  have hx : Row w w1.heap.size #[.pointer (some ⟨kb, 0, none⟩)] 62 ∧ w1.heap.size ≠ kb := hN 10 (by decide)
                  obtain ⟨q0, _⟩ := row_one hx.1
                  have f5 := slot_at e5
                  unfold execOp; go_simp) (fun ac w hG hN => rfl)
              · refine stepG_of rfl ?_
                exact stepR_value (t := 87) (.pointer (some ⟨kb, 0, none⟩)) rfl (fun _ => appTs_other (by decide) (Below.refl _ _)) (fun ac w hG hN hO => by
                  have e5 : slot ac 5 = .pointer (some ⟨w1.heap.size, 0, none⟩) := hO 5 (by kernel_rfl)
                  have hx : Row w w1.heap.size #[.pointer (some ⟨kb, 0, none⟩)] 62 ∧ w1.heap.size ≠ kb := hN 10 (by decide)
                  obtain ⟨q0, _⟩ := row_one hx.1
                  have f5 := slot_at e5
                  unfold execOp; go_simp) (fun ac w hG hN => rfl)
              · refine stepG_of rfl ?_
                exact stepR_value (t := 88) (.pointer (some ⟨kb, 0, none⟩)) rfl (fun _ => appTs_other (by decide) (Below.refl _ _)) (fun ac w hG hN hO => by
                  have e86 : slot ac 86 = .pointer (some ⟨kb, 0, none⟩) := hN 0 (by decide)
                  have f86 := slot_at e86
                  unfold execOp; go_simp) (fun ac w hG hN => rfl)
              · refine stepG_of rfl ?_
                exact stepR_value (t := 89) (.pointer (some ⟨kb, 0, none⟩)) rfl (fun _ => appTs_other (by decide) (Below.refl _ _)) (fun ac w hG hN hO => by
                  have e88 : slot ac 88 = .pointer (some ⟨kb, 0, none⟩) := hN 2 (by decide)
                  have f88 := slot_at e88
                  unfold execOp; go_simp) (fun ac w hG hN => rfl)
              · refine stepG_of rfl ?_
                exact stepR_value (t := 90) (.pointer (some ⟨kb, 1, none⟩)) rfl (fun _ => appTs_other (by decide) (Below.refl _ _)) (fun ac w hG hN hO => by
                  have e89 : slot ac 89 = .pointer (some ⟨kb, 0, none⟩) := hN 3 (by decide)
                  have f89 := slot_at e89
                  unfold execOp; go_simp) (fun ac w hG hN => rfl)
              · refine stepG_of rfl ?_
                intro ac wx hG hN hO
                have e90 : slot ac 90 = .pointer (some ⟨kb, 1, none⟩) := hN 4 (by decide)
                have h11 : EndI V kb w1.heap.size (w0.heap.size + 1 + 1) D (.slice a4 q c4) (crashL keep 0 d.fs) d.off d.fuse wx := hN 11 (by decide)
                refine wp_store_bool rfl (slotE e90) h11.cell1.1 h11.cell1.2 ?_
                exact ⟨_, rfl, appTs_at (by decide) ⟨_, _, rfl⟩, trivial, h11.set1⟩
              · refine stepG_of rfl ?_
                exact stepR_value (t := 91) (.pointer (some ⟨kb, 0, none⟩)) rfl (fun _ => appTs_other (by decide) (Below.refl _ _)) (fun ac w hG hN hO => by
                  have e87 : slot ac 87 = .pointer (some ⟨kb, 0, none⟩) := hN 1 (by decide)
                  have f87 := slot_at e87
                  unfold execOp; go_simp) (fun ac w hG hN => rfl)
              · refine stepG_of rfl ?_
                exact stepR_value (t := 92) (.pointer (some ⟨kb, 0, none⟩)) rfl (fun _ => appTs_other (by decide) (Below.refl _ _)) (fun ac w hG hN hO => by
                  have e91 : slot ac 91 = .pointer (some ⟨kb, 0, none⟩) := hN 6 (by decide)
                  have f91 := slot_at e91
                  unfold execOp; go_simp) (fun ac w hG hN => rfl)
              · refine stepG_of rfl ?_
                exact stepR_value (t := 93) (.pointer (some ⟨kb, 2, none⟩)) rfl (fun _ => appTs_other (by decide) (Below.refl _ _)) (fun ac w hG hN hO => by
                  have e92 : slot ac 92 = .pointer (some ⟨kb, 0, none⟩) := hN 7 (by decide)
                  have f92 := slot_at e92
                  unfold execOp; go_simp) (fun ac w hG hN => rfl)
              · refine stepG_of rfl ?_
                intro ac wx hG hN hO
                have e93 : slot ac 93 = .pointer (some ⟨kb, 2, none⟩) := hN 8 (by decide)
                have h5 : EndI V kb w1.heap.size (w0.heap.size + 1 + 1) D (.slice a4 q c4) (crashL keep 0 d.fs) false d.fuse wx := hN 5 (by decide)
                refine wp_store_int rfl (slotE e93) h5.cell2.1 h5.cell2.2 ?_
                exact ⟨_, rfl, appTs_at (by decide) ⟨_, _, rfl⟩, trivial, h5.set2⟩
            case behind =>
              intro ac w5 hG hV hS ha
              have h9 : EndI V kb w1.heap.size (w0.heap.size + 1 + 1) D (.slice a4 q c4) (crashL keep 0 d.fs) false (-1) w5 := hV 9 (by decide) (by decide)
              generalize slot ac = sl at ha 
              subst ha
              simp only [patchL, List.contains_cons, List.contains_nil, Nat.reduceBEq, Bool.or_false, Bool.or_true, if_true, Bool.false_eq_true, if_false, Nat.reduceAdd]
              generalize sl 86 = s86
              generalize sl 87 = s87
              generalize sl 88 = s88
              generalize sl 89 = s89
              generalize sl 90 = s90
              generalize sl 91 = s91
              generalize sl 92 = s92
              generalize sl 93 = s93
              clear hV hS
              have HE9 := Lib.hid h9
              clear hG h9
            -- ROUND18END
              obtain ⟨R9, hM9⟩ := HE9.out.mch
              obtain ⟨m0, m1, m2, fm⟩ := hM9.cell
              obtain ⟨u0, _⟩ := row_one HE9.out.pt
              have hres := HE9.out.res
              obtain ⟨z0, z1, z2, fz⟩ : w5.cell? ⟨w0.heap.size + 1 + 1, 0, none⟩ = some (.slice none 0 0) ∧ w5.cell? ⟨w0.heap.size + 1 + 1, 1, none⟩ = some (.bool false) ∧ w5.cell? ⟨w0.heap.size + 1 + 1, 2, none⟩ = some (.int .i64 0) ∧ ∀ i, w5.frozen? ⟨w0.heap.size + 1 + 1, i, none⟩ = false := by
                have p0 := hres.cell 0; have p1 := hres.cell 1; have p2 := hres.cell 2
                simp only [List.getElem?_toArray, List.getElem?_cons_zero, List.getElem?_cons_succ] at p0 p1 p2
                exact ⟨p0, p1, p2, fun i => hres.free i⟩
              have hrD : w0.heap.size + 1 + 1 ≠ D := fun e => by
                have h1 := HE9.out.dfr
                unfold Row at hres
                rw [← e, hres] at h1; cases h1
              obtain ⟨Wf, hWf⟩ : ∃ Wf, Wf = ((w5.setCell ⟨w0.heap.size + 1 + 1, 0, none⟩ (.slice a4 q c4)).setCell ⟨w0.heap.size + 1 + 1, 1, none⟩ (.bool false)).setCell ⟨w0.heap.size + 1 + 1, 2, none⟩ (.int .i64 (-1)) := ⟨_, rfl⟩
              have HRF : Hid (Row Wf (w0.heap.size + 1 + 1) #[.slice a4 q c4, .bool false, .int .i64 (-1)] 24) := Lib.hid (by
                rw [hWf]
                have := ((hres.set 0 (.slice a4 q c4)).set 1 (.bool false)).set 2 (.int .i64 (-1))
                exact this)
              have HDF : Hid (Wf.heap[D]? = some (.deferred (some []))) := Lib.hid (by
                rw [hWf, Below.heap_setCell _ _ _ D (fun e => hrD e.symm), Below.heap_setCell _ _ _ D (fun e => hrD e.symm), Below.heap_setCell _ _ _ D (fun e => hrD e.symm)]
                exact HE9.out.dfr)
              have HFN : Hid (IsDfs (Wf.putObj D (.deferred none)) (.slice a4 q c4) (crashL keep 0 d.fs) ∧ Below w0.heap.size w0 (Wf.putObj D (.deferred none)) ∧ Row (Wf.putObj D (.deferred none)) (w0.heap.size + 1 + 1) #[.slice a4 q c4, .bool false, .int .i64 (-1)] 24) := Lib.hid (by
                have t1 := ownD_set (i := 2) (u := .int .i64 (-1)) (ownD_set (i := 1) (u := .bool false) (ownD_set (i := 0) (u := .slice a4 q c4) hM9.own hrV) hrV) hrV
                rw [← hWf] at t1
                have t2 : OwnD V.heap.size (Wf.putObj D (.deferred none)) (.slice a4 q c4) R9 := ownsRow_putObj t1 (.deferred none) HDF.out rfl
                have hop : ∀ (i : Nat) (u : Value) (W : World) (y : Dfr) (x : Dfl), RowP V.heap.size W y x → RowP V.heap.size (W.setCell ⟨w0.heap.size + 1 + 1, i, none⟩ u) y x := fun i u W y x hx => ⟨hx.1, hx.2.1, hx.2.2.turned (grownBy_set_Dlh W _ i u) hrV⟩
                have t3 : RowsS (RowF (Wf.putObj D (.deferred none))) R9 (crashL keep 0 d.fs) := hM9.rows.imp fun y x hx => by
                  have h1 := hop 2 (.int .i64 (-1)) _ _ _ (hop 1 (.bool false) _ _ _ (hop 0 (.slice a4 q c4) _ _ _ hx))
                  rw [← hWf] at h1
                  exact ⟨h1.1, h1.2.1, OwnP15.is (B := V.heap.size) (ownsRow_putObj h1.2.2 (.deferred none) HDF.out rfl)⟩
                refine ⟨t2.is t3 fun y x h => h, ?_, ?_⟩
                · have hbf : Below w0.heap.size w0 Wf := by
                    rw [hWf]
                    exact (((below_step HBV.out HE9.out.below).setCell (p := ⟨w0.heap.size + 1 + 1, 0, none⟩) (by simp; omega) _).setCell (p := ⟨w0.heap.size + 1 + 1, 1, none⟩) (by simp; omega) _).setCell (p := ⟨w0.heap.size + 1 + 1, 2, none⟩) (by simp; omega) _
                  exact hbf.grown (grownBy_putObj' Wf D (.deferred none)) hbf.size (fun g e => by cases e; exact Nat.le_trans HBV.out.size hDV)
                · unfold Row
                  exact (World.putObj_heap_other hrD).trans HRF.out)
              have HWF := Lib.hid hWf
              clear hWf hres hM9
              go_wp2
              rw [← HWF.out]
              refine ⟨by simp, .inl ⟨_, _, rfl, run_takeDeferred HDF.out, ?_⟩⟩
              have r0' := HFN.out.2.2.cell 0; have r1' := HFN.out.2.2.cell 1; have r2' := HFN.out.2.2.cell 2
              simp only [List.getElem?_toArray, List.getElem?_cons_zero, List.getElem?_cons_succ] at r0' r1' r2'
              exact ⟨.agg #[.slice a4 q c4, .bool false, .int .i64 (-1)], by simp [results, Try.f25, go_sem, r0', r1', r2'], .slice a4 q c4, rfl, HFN.out.1, HFN.out.2.1⟩
end Go.Proofs.Ytninfmlemdnjbaa

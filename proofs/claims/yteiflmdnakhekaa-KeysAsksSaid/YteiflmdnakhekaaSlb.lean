/-
  Slices of bytes of the call's own over this translation: some bytes appended; the slice as a string.
-/
import Derived.Test.YteiflmdnakhekaaSls
import Derived.Test.YteiflmdnakhekaaCon
import Derived.Test.YteiflmdnakhekaaBul
import Derived.Laws.IdiomStrings
import Derived.Laws.Rows
import Derived.Lib.BufferWrite
set_option linter.unusedVariables false
namespace Go.Proofs.Yteiflmdnakhekaa
open Go.RowKit

/-- A slice of the call's own (which began at W) that reads as bytes. -/
def OwnByt (W wr : World) (v : Value) (l : List UInt8) : Prop := wr.ownsRow W.heap.size 5 1 v l.length (Lib.byteCells l)
theorem ownByt_nil (W : World) : OwnByt W W (.slice none 0 0) [] := World.ownsRow_nil _ _ _ _
theorem OwnByt.stays {W a b : World} {v : Value} {l : List UInt8} (h : OwnByt W a v l) (hb : Below a.heap.size a b) : OwnByt W b v l :=
  World.ownsRow.kept h (grownBy_of_below hb) (by cases hv : v.ownBlock <;> simp)
theorem OwnByt.conv {W wr : World} {v : Value} {l : List UInt8} (h : OwnByt W wr v l) : (convert 40 9 v).run Try.prog wr = .ok (.string ⟨l.toArray⟩) wr := by
  have hc := fun g hg => World.ownsRow.cells (g := g) h hg
  rcases h.2 with ⟨rfl, hn⟩ | ⟨g, cap, cur, rfl, _⟩
  · obtain rfl := List.length_eq_zero_iff.1 hn
    rfl
  · refine run_convert_bytes_back (P := Try.prog) wr 40 9 5 ⟨g, 0, none⟩ cap l Try.underlying40 Try.underlying5 Try.underlying9 (fun j hj => hc g rfl j _ (by simp [Lib.byteCells, hj]))
theorem wpList_append_byt {ops : Array Oper} {rest : List Oper} {o : Oper} {a : Act} {W w0 : World} {Q : Exit → Act → World → Prop} (hgd : o.guard = none) (s x : Operand)
    (ho : o.op = .call { callee := .builtin .append, args := #[s, x], argTypes := #[40, 40] })
    {v : Value} {l : List UInt8} (news : List UInt8) {cs : Array Value} (hown : OwnByt W w0 v l) (hb : Below W.heap.size W w0) (hcs : cs.toList = Lib.byteCells news) (n : Nat) (hn : news.length = n) (hlen : l.length + n ≤ 1000000) (hs : a.eval s = v)
    (hx : a.eval x = .slice (some ⟨w0.heap.size, 0, none⟩) n n)
    (h : ∀ v' w', OwnByt W w' v' (l ++ news) → Below W.heap.size W w' → wpList Try.prog ops Q rest (a.put o.dst v') w') :
    wpList Try.prog ops Q (o :: rest) a (w0.alloc (.cells cs 5)) := by
  obtain ⟨i0, hi, hz0, hz1, hz2⟩ := info_parts infoByte
  have hsz := hb.size
  subst hn
  have hlb : (Lib.byteCells news).length = news.length := Lib.byteCells_length _
  refine wpList_append_own _ hgd s x 40 ho W.heap.size 5 i0 (.int .u8 0) 1 1 Try.underlying40 hi hz0 hz1 hz2 rfl (by decide) v l.length (Lib.byteCells l) hs (World.ownsRow.alloc hown _) ⟨w0.heap.size, 0, none⟩ news.length news.length (Lib.byteCells news) hx (by omega) ?_ (Lib.byteCells_one news) (by unfold maxLen; omega) (by omega) (by simp; omega) ?_
  · intro j u hj
    have : cs[j]? = some u := by rw [← Array.getElem?_toList, hcs]; exact hj
    rw [add_plain', Nat.zero_add]
    have hbk : (w0.alloc (.cells cs 5)).heap[w0.heap.size]? = some (.cells cs 5 (0, 0)) := heap_alloc_new _ _
    rw [cell_of_row _ _ j _ _ _ hbk]; exact this
  · intro v' w' hown' hg _
    refine h v' w' ?_ ((hb.alloc hsz _).grown hg (by simp; omega) (fun j hj => (World.ownsRow.lt hown j hj).1))
    unfold OwnByt; rw [List.length_append, Lib.byteCells_append]; exact hown'
end Go.Proofs.Yteiflmdnakhekaa

/-
  Small general things: values in endings, a text's beginning, bytes of an array as a string.
-/
import Derived.WalkKit
import Derived.Below
import Derived.Test.YtohicccbaenegaaDoorProg
import Derived.Test.YtohicccbaenegaaDoorArr
import Derived.Test.YtohicccbaenegaaDoorCon
set_option linter.unusedVariables false
namespace Go.Proofs.YtohicccbaenegaaDoor
open Go.RowKit

theorem ret_i {k : IntKind} {a b : Int} (h : a = b) : Ending.returned (.int k a) = .returned (.int k b) := by rw [h]
theorem val_i {k : IntKind} {a b : Int} (h : a = b) : Value.int k a = .int k b := by rw [h]
theorem take_on (s : ByteArray) (k : Nat) (h : k < s.size) : s.data.toList.take (k + 1) = s.data.toList.take k ++ [s[k]] := by
  rw [List.take_succ_eq_append_getElem (by simpa using h)]; rfl
theorem take_all (s : ByteArray) (k : Nat) (h : s.size ≤ k) : s.data.toList.take k = s.data.toList := List.take_of_length_le (by simp; omega)
theorem nums_bytes (l : List UInt8) : strOfNums (l.map fun u : UInt8 => (u.toNat : Int)) = ⟨l.toArray⟩ := by
  unfold strOfNums
  rw [List.map_map]
  congr 2
  exact (List.map_congr_left (fun u _ => by simp)).trans (List.map_id l)
theorem bytV_of (l : List UInt8) : bytV l = ((l.map fun u : UInt8 => (u.toNat : Int)).map (Value.int .u8)).toArray := by simp [bytV]
/-- A row of bytes, from its start, as a string. -/
theorem conv_of {W : World} {B : Nat} {l : List UInt8} {T : TypeId} (h : Row W B (bytV l) T) (n cap : Nat) (hn : l.length = n) :
    (convert 83 9 (.slice (some ⟨B, 0, none⟩) n cap)).run Tryd.prog W = .ok (.string ⟨l.toArray⟩) W := by
  have h' : W.heap[B]? = some (.cells ((l.map fun u : UInt8 => (u.toNat : Int)).map (Value.int .u8)).toArray T (0, 0)) := by rw [← bytV_of]; exact h
  rw [conv_row 83 5 9 Tryd.underlying83 Tryd.underlying5 Tryd.underlying9 W B T (0, 0) _ h' n cap (by simpa using hn), nums_bytes]
theorem bytes_app (a b : ByteArray) : (a ++ b).data.toList = a.data.toList ++ b.data.toList := by simp
theorem size_of_app (a b : ByteArray) : (a ++ b).size = a.size + b.size := ByteArray.size_append
end Go.Proofs.YtohicccbaenegaaDoor

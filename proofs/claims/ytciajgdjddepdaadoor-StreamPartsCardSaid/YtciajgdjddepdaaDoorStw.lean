/-
  Contracts over this translation: a stream's worker: isSure, take, surePieces.
-/
import Derived.Test.YtciajgdjddepdaaDoorCdp
import Derived.Test.YtciajgdjddepdaaDoorStm
import Derived.Test.YtciajgdjddepdaaDoorRow
import Derived.BigQuiet
import Derived.Lib.QuietBelow
set_option linter.unusedVariables false
namespace Go.Proofs.YtciajgdjddepdaaDoor
open Go.RowKit Go.Shelf

/-- A worker's cells. -/
abbrev wC (r : ByteArray) (mn av mx : Nat) : Array Value := #[.string r, .int .i64 mn, .int .i64 av, .int .i64 mx]
theorem grown_some {W W' : World} {B : Nat} (h : Below W.heap.size W W') : W.grownBy W' (some B) := ⟨h.os, h.tape, h.output, h.size, fun k hk _ => h.block k hk⟩
theorem grown_set {W W' : World} {B : Nat} (v : Value) (h : Below W.heap.size W W') : W.grownBy (W'.setCell ⟨B, 0, none⟩ v) (some B) :=
  ⟨h.os, h.tape, h.output, Nat.le_trans h.size (KeepsWalks.setCell W' _ v).size, fun k hk hne => (Below.heap_setCell _ _ _ k (fun e => hne (by rw [e]))).trans (h.block k hk)⟩

set_option maxRecDepth 100000 in
set_option maxHeartbeats 1000000 in
theorem isSure_any (mn av b mx : Nat) (hF : FitAt mn av mx b) (r : ByteArray) (B : Nat) (w : World) (hR : Row w B (wC r mn av mx) 40) (d : Bool) (hd : decide (mx ≤ r.size) = d) :
    Calls Tryd.prog 23 #[.pointer (some ⟨B, 0, none⟩)] w fun e w' => e = .returned (.bool d) ∧ Below w.heap.size w w' := by
  have HD := Lib.hid hd
  clear hd
  have fitV := fitB_of hF
  have fitT := Lib.hid (fun W => Fit_any mn av mx W)
  rw [fitV] at fitT
  clear fitV hF
  have c0 := hR.cell 0; have c1 := hR.cell 1; have c2 := hR.cell 2; have c3 := hR.cell 3
  simp only [List.getElem?_toArray, List.getElem?_cons_zero, List.getElem?_cons_succ] at c0 c1 c2 c3
  have k0 := fun d os => cell_regrown c0 d os
  have k1 := fun d os => cell_regrown c1 d os
  have k2 := fun d os => cell_regrown c2 d os
  have k3 := fun d os => cell_regrown c3 d os
  clear hR
  go_enter Tryd.func23, Tryd.ntmps23
  go_wp2_with fail
  refine wp_region_quiet_below (by kernel_rfl) (by kernel_rfl) ?_
  repeat (first | go_big_quiet_step (exact Calls.regrown_of (fitT.out _)) | quiet_step (exact Calls.regrown_of (fitT.out _)))
  refine wpQuiet_nil ?_
  intro wq hwq
  have hbq : Below w.heap.size w wq := by obtain ⟨p, rfl⟩ := hwq; exact below_regrown _ _ _
  clear hwq
  go_wp2
  go_ret
  exact ⟨by rw [← HD.out]; rfl, hbq⟩

set_option maxRecDepth 100000 in
set_option maxHeartbeats 1000000 in
theorem take_any (mn av b mx : Nat) (hF : FitAt mn av mx b) (r : ByteArray) (hr : r.size ≤ 1000000) (B : Nat) (w : World) (hR : Row w B (wC r mn av mx) 40) (hT : Tabs w) :
    Calls Tryd.prog 24 #[.pointer (some ⟨B, 0, none⟩)] w fun e w' => e = .returned (.string (r.extract 0 (cutN mn b mx r.data.toList))) ∧ w.grownBy w' (some B) ∧
      Row w' B (wC (r.extract (cutN mn b mx r.data.toList) r.size) mn av mx) 40 := by
  have C := fun W => Cut_any mn av b mx hF r (by unfold maxLen; omega) W
  have hn2 := cutN_le mn b mx r.data.toList
  rw [← Lib.size_eq] at hn2
  obtain ⟨n, hn⟩ : ∃ n, n = cutN mn b mx r.data.toList := ⟨_, rfl⟩
  rw [← hn] at C hn2 ⊢
  have hd1 := fun W => run_slice_to (P := Tryd.prog) Tryd.underlying9 r n hn2 W
  have hd2 := fun W => run_slice_from (P := Tryd.prog) Tryd.underlying9 r n hn2 W
  have hts : (r.extract 0 n).size ≤ 281474976710656 := by rw [ByteArray.size_extract]; omega
  have CL := Lib.hid (fun W => Clone_any (r.extract 0 n) hts W)
  obtain ⟨t, ht⟩ : ∃ t, t = r.extract 0 n := ⟨_, rfl⟩
  obtain ⟨y, hy⟩ : ∃ y, y = r.extract n r.size := ⟨_, rfl⟩
  rw [← ht] at hd1 CL ⊢
  rw [← hy] at hd2 ⊢
  have C := Lib.hid C
  have HT := Lib.hid hT; have HR := Lib.hid hR
  clear hn ht hy hts hF hT
  have c0 := hR.cell 0; have c1 := hR.cell 1; have c2 := hR.cell 2; have c3 := hR.cell 3
  simp only [List.getElem?_toArray, List.getElem?_cons_zero, List.getElem?_cons_succ] at c0 c1 c2 c3
  have k0 := fun d os => cell_regrown c0 d os
  have k1 := fun d os => cell_regrown c1 d os
  have k2 := fun d os => cell_regrown c2 d os
  have k3 := fun d os => cell_regrown c3 d os
  clear hR
  go_enter Tryd.func24, Tryd.ntmps24
  go_wp2_with fail
  refine wp_region_quiet_below (by kernel_rfl) (by kernel_rfl) ?_
  repeat (first | go_big_quiet_step (exact Calls.regrown_of (C.out _ (HT.out.stays (below_regrown _ _ _)))) | quiet_step (exact Calls.regrown_of (C.out _ (HT.out.stays (below_regrown _ _ _)))))
  refine wpQuiet_nil ?_
  intro wq hwq
  have hbq : Below w.heap.size w wq := by obtain ⟨p, rfl⟩ := hwq; exact below_regrown _ _ _
  clear hwq c0 c1 c2 c3 k0 k1 k2 k3
  have hR1 := HR.out.step hbq
  have c0 := hR1.cell 0
  simp only [List.getElem?_toArray, List.getElem?_cons_zero] at c0
  have HR1 := Lib.hid hR1
  clear hR1 HR
  go_wp2_with fail
  refine (CL.out _).mono ?_
  rintro e w2 ⟨rfl, hb2⟩
  have hR2 := HR1.out.step hb2
  clear c0
  have c0 := hR2.cell 0
  have f0 := hR2.free 0
  simp only [List.getElem?_toArray, List.getElem?_cons_zero] at c0
  have hbw := below_step hbq hb2
  have HR2 := Lib.hid hR2; have HB := Lib.hid hbw
  clear hR2 HR1 hbq hb2 hbw
  go_wp2
  go_ret
  exact ⟨rfl, grown_set _ HB.out, HR2.out.set 0 _⟩

theorem surePieces_any (B : Nat) (w : World) :
    Calls Tryd.prog 16 #[.pointer (some ⟨B, 0, none⟩)] w fun e w' => e = .returned (.func (.func 22) #[] #[.pointer (some ⟨w.heap.size, 0, none⟩)]) ∧ w' = w.alloc (.cells #[.pointer (some ⟨B, 0, none⟩)] 47) := by
  go_enter Tryd.func16, Tryd.ntmps16
  go_wp2
  go_ret
  exact ⟨rfl, rfl⟩
end Go.Proofs.YtciajgdjddepdaaDoor

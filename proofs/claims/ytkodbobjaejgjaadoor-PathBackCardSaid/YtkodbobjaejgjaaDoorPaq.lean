/-
  Contracts over this translation: strings.SplitSeq at a slash, its iterator.
-/
import Derived.RegionTactic
import Derived.BigRegionIn
import Derived.Sort.CutIn
import Derived.ChangeAlike
import Derived.Outline
import Derived.OwnWalkIn
import Derived.Test.YtkodbobjaejgjaaDoorRgs
import Derived.Test.YtkodbobjaejgjaaDoorArr
import Derived.Test.YtkodbobjaejgjaaDoorPap
set_option linter.unusedVariables false
namespace Go.Proofs.YtkodbobjaejgjaaDoor
open Go.RowKit Go.Shelf
attribute [local go_sem] Oper.semAt_some

abbrev encP (x : ByteArray) : Array Value := #[.string x]
abbrev sep1 : ByteArray := ⟨#[47]⟩

theorem Index_any (x : ByteArray) (w : World) : Calls Tryd.prog 46 #[.string x, .string sep1] w fun e w' => e = .returned (.int .i64 (Lib.indexByte x.data.toList 47)) ∧ w = w' := by
  have C := Any.strings_Index_one Tryd.lays143 x 47 w
  change Calls Tryd.prog 46 _ _ _ at C
  exact C.mono fun e w' ⟨h1, h2⟩ => ⟨h1, h2.symm⟩

theorem index_parts (l : List UInt8) : (Lib.indexByte l 47 = -1 ∧ pts l = [l]) ∨ ∃ k : Nat, Lib.indexByte l 47 = k ∧ k < l.length ∧ pts l = l.take k :: pts (l.drop (k + 1)) := by
  induction l with
  | nil => exact .inl ⟨rfl, rfl⟩
  | cons c r ih =>
    by_cases hc : c = 47
    · subst hc
      exact .inr ⟨0, by simp [Lib.indexByte], by simp, by rw [pts_slash]; rfl⟩
    · have hb : (c == 47) = false := beq_eq_false_iff_ne.2 hc
      obtain ⟨h, t, e⟩ := List.exists_cons_of_ne_nil (pts_ne r)
      rcases ih with ⟨h1, h2⟩ | ⟨k, h1, h2, h3⟩
      · refine .inl ⟨?_, pts_other hc h2⟩
        simp only [Lib.indexByte, hb]
        rw [if_neg (by decide), h1]; rfl
      · refine .inr ⟨k + 1, ?_, by simp; omega, ?_⟩
        · simp only [Lib.indexByte, hb]
          rw [if_neg (by decide), h1, if_neg (by simp)]
          simp
        · rw [pts_other hc h3]; rfl

theorem pts_len (l : List UInt8) : (pts l).length ≤ l.length + 1 ∧ 1 ≤ (pts l).length := by
  refine ⟨?_, List.length_pos_iff.2 (pts_ne l)⟩
  induction l with
  | nil => simp [pts]
  | cons c r ih =>
    by_cases hc : c = 47
    · subst hc; rw [pts_slash]; simp; exact ih
    · obtain ⟨h, t, e⟩ := List.exists_cons_of_ne_nil (pts_ne r)
      rw [pts_other hc e]; rw [e] at ih; simp at ih ⊢; omega

/-- The boxes of SplitSeq. -/
def seqW (s : ByteArray) (w : World) : World := ((w.alloc (.cells #[.string s] 9)).alloc (.cells #[.string sep1] 9)).alloc (.cells #[.int .i64 0] 3)
abbrev seqV (n : Nat) : Value := .func (.func 53) #[] #[.pointer (some ⟨n + 1, 0, none⟩), .pointer (some ⟨n, 0, none⟩), .pointer (some ⟨n + 2, 0, none⟩)]
set_option maxRecDepth 100000 in
theorem splitSeq_any (s : ByteArray) (w : World) : Calls Tryd.prog 42 #[.string s, .string sep1, .int .i64 0] w fun e w' => e = .returned (seqV w.heap.size) ∧ seqW s w = w' := by
  go_enter Tryd.func42, Tryd.ntmps42
  go_wp2
  go_ret
  exact ⟨rfl, rfl⟩
set_option maxRecDepth 100000 in
theorem SplitSeq_any (s : ByteArray) (w : World) : Calls Tryd.prog 31 #[.string s, .string sep1] w fun e w' => e = .returned (seqV w.heap.size) ∧ seqW s w = w' := by
  have C := Lib.hid (splitSeq_any s)
  go_enter Tryd.func31, Tryd.ntmps31
  go_wp2_with fail
  refine (C.out _).mono ?_
  rintro e w1 ⟨rfl, rfl⟩
  go_wp2
  go_ret
  exact ⟨rfl, rfl⟩
theorem seqW_rows (s : ByteArray) (w : World) : Row (seqW s w) w.heap.size #[.string s] 9 ∧ Row (seqW s w) (w.heap.size + 1) #[.string sep1] 9 ∧ Row (seqW s w) (w.heap.size + 2) #[.int .i64 0] 3 ∧ Below w.heap.size w (seqW s w) ∧ (seqW s w).heap.size = w.heap.size + 3 := by
  unfold seqW
  refine ⟨?_, ?_, ?_, ?_, by simp⟩
  · exact ((Row.made w #[.string s] 9).alloc _).alloc _
  · have := (Row.made (w.alloc (.cells #[.string s] 9)) #[.string sep1] 9).alloc (.cells #[.int .i64 0] 3)
    simpa using this
  · have := Row.made ((w.alloc (.cells #[.string s] 9)).alloc (.cells #[.string sep1] 9)) #[.int .i64 0] 3
    simpa using this
  · exact ((((Below.refl _ _).alloc (Nat.le_refl _) _).alloc (by simp) _).alloc (by simp; omega) _)

/-- The text that is left. -/
def leftN (W : World) (B : Nat) : Nat := match W.cell? ⟨B, 0, none⟩ with
  | some (.string x) => x.size
  | _ => 0
theorem leftN_row {W : World} {B : Nat} {x : ByteArray} {T : TypeId} (h : Row W B #[.string x] T) : leftN W B = x.size := by
  unfold leftN; rw [h.cell 0]; rfl
def sepA (B : Nat) (_ b : Nat) : Prop := b = B ∨ b = B + 1 ∨ b = B + 2
theorem keeps_row {A : Nat → Prop} {X Y : World} (h : KeepsAt A X Y) {k : Nat} {xs : Array Value} {t : TypeId} (hR : Row X k xs t) (hk : A k) : Row Y k xs t := (h k hk).trans hR
/-- What has come is a beginning. -/
def Began (l : List UInt8) (pre : List ByteArray) (x : ByteArray) : Prop := txts pre ++ pts x.data.toList = pts l ∧ x.size ≤ l.length
theorem began_len {l : List UInt8} {pre : List ByteArray} {x : ByteArray} (h : Began l pre x) : pre.length < l.length + 1 := by
  have h1 := congrArg List.length h.1
  rw [List.length_append, txts_len] at h1
  have := pts_len l; have := pts_len x.data.toList; omega

set_option maxHeartbeats 4000000 in
set_option maxRecDepth 100000 in
theorem seq_own (n : Nat) (hn : 1 ≤ n) (stops : Prop) (B : Nat) (s : ByteArray) (hs : s.size ≤ 1000000) (w : World)
    (h1 : Row w B #[.string s] 9) (h2 : Row w (B + 1) #[.string sep1] 9) (h3 : Row w (B + 2) #[.int .i64 0] 3) :
    SeqOwn Fence.wide n Tryd.prog 53 #[.pointer (some ⟨B + 1, 0, none⟩), .pointer (some ⟨B, 0, none⟩), .pointer (some ⟨B + 2, 0, none⟩)] encP (sepA B) 0 stops
      (fun xs => txts xs = pts s.data.toList) (fun pre => ∃ rest, txts pre ++ rest = pts s.data.toList) (s.data.toList.length + 1) w := fun l J Jx W hW hst hJ hJx hY h0 => by
  have hro : Fence.wide.round = none := rfl
  have IX := Lib.hid Index_any
  refine callsIn_of_wp Tryd.func53 rfl trivial ?_ hro
  simp only [Tryd.ntmps53, List.size_toArray, List.length_cons, List.length_nil, Nat.reduceAdd, Nat.reduceSub, Array.replicate_succ, Array.replicate_zero, List.push_toArray, List.append_toArray, List.nil_append, List.cons_append]
  have r1 := h1.step hW; have r2 := h2.step hW; have r3 := h3.step hW
  have c2 := r2.cell 0
  simp only [List.getElem?_toArray, List.getElem?_cons_zero] at c2
  gi_wp2
  gi_loopw [7, 8] (fun _ _ wr => ∃ (pre : List ByteArray) (x : ByteArray), Began s.data.toList pre x ∧ J pre wr ∧ Row wr B #[.string x] 9 ∧ Row wr (B + 1) #[.string sep1] 9 ∧ Row wr (B + 2) #[.int .i64 0] 3)
    (fun _ _ wr => leftN wr B)
  case atStart => exact ⟨[], s, ⟨rfl, by rw [Lib.size_eq]; exact Nat.le_refl _⟩, h0, r1, r2, r3⟩
  case round =>
    obtain ⟨pre, x, hC, hj, g1, g2, g3⟩ := hrel
    clear r1 r2 r3 c2 h1 h2 h3
    have hless := began_len hC
    have hxs := hC.2
    rw [← Lib.size_eq] at hxs
    have HC := Lib.hid hC
    have p1 := g1.cell 0; have p2 := g2.cell 0; have p3 := g3.cell 0; have f1 := g1.free 0
    simp only [List.getElem?_toArray, List.getElem?_cons_zero] at p1 p2 p3
    have G1 := Lib.hid g1; have G2 := Lib.hid g2; have G3 := Lib.hid g3
    clear hC g1 g2 g3
    rcases index_parts x.data.toList with ⟨hi, hp⟩ | ⟨k, hi, hk, hp⟩
    · have I1 := Lib.hid (IX.out x)
      rw [hi] at I1
      obtain ⟨fn, tmps, assign, body, hy, hRd⟩ := hY pre x _ hj hless (fun h => absurd h (by decide))
      simp only [encP] at hy
      have HFIN : Hid (txts (pre ++ [x]) = pts s.data.toList) := by
        show _ = _
        rw [← HC.out.1, hp]; simp [txts]
      clear hY hi hp
      gi_wp2_with (refine ⟨trivial, ?_⟩; gi_at_call 46; refine (callsIn_wide.2 (I1.out _)).mono ?_; rintro e w1 ⟨rfl, rfl⟩)
      refine hRd.mono ?_
      rintro e W3 (⟨rfl, hJ3, _⟩ | ⟨rfl, hJ3⟩)
      · gi_wp2
        go_end0
        exact ⟨⟨_, rfl⟩, .inl ⟨_, HFIN.out, hJ3⟩⟩
      · gi_wp2
        go_end0
        exact ⟨⟨_, rfl⟩, .inr ⟨_, ⟨[], by rw [List.append_nil]; exact HFIN.out⟩, hJ3⟩⟩
    · have I1 := Lib.hid (IX.out x)
      rw [hi] at I1
      rw [← Lib.size_eq] at hk
      have hd1 := fun W => run_slice_to (P := Tryd.prog) Tryd.underlying9 x k (by omega) W
      have hx1 := Lib.extract_data x 0 k
      have hx2 := Lib.extract_to_end x (k + 1)
      have hys : (x.extract (k + 1) x.size).size = x.size - (k + 1) := by rw [ByteArray.size_extract]; omega
      obtain ⟨t, ht⟩ : ∃ t, t = x.extract 0 k := ⟨_, rfl⟩
      obtain ⟨y, hyy⟩ : ∃ y, y = x.extract (k + 1) x.size := ⟨_, rfl⟩
      rw [← ht] at hd1 hx1
      rw [← hyy] at hx2 hys
      have HYY := Lib.hid hyy
      have HB : Hid (Began s.data.toList (pre ++ [t]) y) := by
        refine ⟨?_, by rw [← Lib.size_eq]; omega⟩
        rw [← HC.out.1, hp, hx2]; simp [txts, hx1]
      have HLT : Hid (y.size < x.size) := by show _ < _; omega
      have hneg : ¬ (k : Int) < 0 := by omega
      obtain ⟨fn, tmps, assign, body, hy, hRd⟩ := hY pre t _ hj hless (fun h => absurd h (by decide))
      simp only [encP] at hy
      clear hY hi hp ht hyy hx1 hx2 hys
      gi_wp2_with (refine ⟨trivial, ?_⟩; gi_at_call 46; refine (callsIn_wide.2 (I1.out _)).mono ?_; rintro e w1 ⟨rfl, rfl⟩)
      refine hRd.mono ?_
      rintro e W3 (⟨rfl, hJ3, hk3⟩ | ⟨rfl, hJ3⟩)
      · have r1 := keeps_row hk3 G1.out (.inl rfl); have r2 := keeps_row hk3 G2.out (.inr (.inl rfl)); have r3 := keeps_row hk3 G3.out (.inr (.inr rfl))
        have p1 := r1.cell 0; have p2 := r2.cell 0; have p3 := r3.cell 0; have f1 := r1.free 0
        simp only [List.getElem?_toArray, List.getElem?_cons_zero] at p1 p2 p3
        have R1 := Lib.hid r1; have R2 := Lib.hid r2; have R3 := Lib.hid r3
        clear r1 r2 r3 hk3
        gi_wp2
        rw [← HYY.out]
        have q1 : Row (W3.setCell ⟨B, 0, none⟩ (.string y)) B #[.string y] 9 := R1.out.set 0 _
        go_roundw
        case rel => exact ⟨_, y, HB.out, hJ _ B _ _ (.inl rfl) hJ3 (grownBy_setCell' _ _ _), q1, R2.out.other _ _ (by show B + 1 ≠ B; omega), R3.out.other _ _ (by show B + 2 ≠ B; omega)⟩
        case measure => rw [leftN_row q1, leftN_row G1.out]; exact HLT.out
      · gi_wp2
        refine bodyPost_ret (results_none rfl _ _ _) rfl ?_
        have HB1 := HB.out.1
        exact ⟨⟨_, rfl⟩, .inr ⟨_, ⟨_, HB1⟩, hJ3⟩⟩
end Go.Proofs.YtkodbobjaejgjaaDoor

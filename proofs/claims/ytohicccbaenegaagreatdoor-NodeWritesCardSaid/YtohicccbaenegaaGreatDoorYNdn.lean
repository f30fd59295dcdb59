/-
  Contracts over this translation: so many parts, so many entries out of a reader.
-/
import Derived.Test.YtohicccbaenegaaGreatDoorYNdk
set_option linter.unusedVariables false
namespace Go.Proofs.YtohicccbaenegaaGreatDoor
open Go.RowKit
attribute [local go_sem] Oper.semAt_some

theorem pList_zero {α : Type} (next : List UInt8 → Option (α × List UInt8)) (l : List UInt8) : pList next 0 l = some ([], l) := rfl
theorem pList_none {α : Type} {next : List UInt8 → Option (α × List UInt8)} {c : Nat} {l : List UInt8} (h : next l = none) : pList next (c + 1) l = none := by simp only [pList, h]
theorem pList_some {α : Type} {next : List UInt8 → Option (α × List UInt8)} {c : Nat} {l r : List UInt8} {x : α} (h : next l = some (x, r)) : pList next (c + 1) l = (pList next c r).map fun y => (x :: y.1, y.2) := by
  simp only [pList, h]
  cases pList next c r with
  | none => rfl
  | some y => rfl
/-- What a list under way still gives: k are read, L, and r is left. -/
def Went {α : Type} (next : List UInt8 → Option (α × List UInt8)) (n : Nat) (l : List UInt8) (k : Nat) (L : List α) (r : List UInt8) : Prop :=
  L.length = k ∧ k ≤ n ∧ L.length + r.length ≤ l.length ∧ pList next n l = (pList next (n - k) r).map fun y => (L ++ y.1, y.2)
theorem went_zero {α : Type} (next : List UInt8 → Option (α × List UInt8)) (n : Nat) (l : List UInt8) : Went next n l 0 [] l :=
  ⟨rfl, Nat.zero_le _, by simp, by rw [Nat.sub_zero]; cases pList next n l <;> rfl⟩
theorem went_none {α : Type} {next : List UInt8 → Option (α × List UInt8)} {n k : Nat} {l r : List UInt8} {L : List α} (h : Went next n l k L r) (hk : k < n) (hn : next r = none) : pList next n l = none := by
  rw [h.2.2.2, show n - k = (n - k - 1) + 1 by omega, pList_none hn]; rfl
theorem went_some {α : Type} {next : List UInt8 → Option (α × List UInt8)} {n k : Nat} {l r r' : List UInt8} {L : List α} {x : α} (h : Went next n l k L r) (hk : k < n) (hn : next r = some (x, r')) (hr : r'.length < r.length) : Went next n l (k + 1) (L ++ [x]) r' := by
  refine ⟨by rw [List.length_append, h.1]; rfl, by omega, by rw [List.length_append]; have := h.2.2.1; simp; omega, ?_⟩
  rw [h.2.2.2, show n - k = (n - (k + 1)) + 1 by omega, pList_some hn, Option.map_map]
  congr 1
  funext y
  simp
theorem went_done {α : Type} {next : List UInt8 → Option (α × List UInt8)} {n k : Nat} {l r : List UInt8} {L : List α} (h : Went next n l k L r) (hk : n ≤ k) : pList next n l = some (L, r) := by
  have := h.2.1
  rw [h.2.2.2, show n - k = 0 by omega]
  simp [pList]

theorem pPart_less {l r : List UInt8} {p : Pt} (h : pPart l = some (p, r)) : r.length < l.length := (pPart_sound h).2.2.2.2

/-! ## Part -/
def RetPts (b : Nat) (w : World) (o : Option (List Pt × List UInt8)) (e : Ending) (w' : World) : Prop :=
  match o with
  | some x => (∃ v, e = .returned v ∧ OwnP w.heap.size w' v x.1) ∧ w.grownBy w' (some b) ∧ Rd w' b x.2
  | none => Threw b w e w'
theorem oPart_none {l : List UInt8} (h : pPart l = none) : oPart l = none := by unfold oPart; rw [h]; rfl
theorem oPart_some {l r : List UInt8} {x : Pt} (h : pPart l = some (x, r)) : oPart l = some (.agg #[.string x.k, .int .i64 x.n], r) := by unfold oPart; rw [h]; rfl
set_option maxRecDepth 100000 in
set_option maxHeartbeats 4000000 in
theorem listP_any (b n : Nat) (hn : U64 n) (l : List UInt8) (hl : l.length ≤ 1000000) (w : World) (hR : Rd w b l) :
    Calls Tryz.prog 82 #[.int .u64 n, .func (.func 84) #[.pointer (some ⟨b, 0, none⟩)] #[]] w (RetPts b w (pList pPart n l)) := by
  have hlt := hR.lt
  have PA := Lib.hid (fun l hl w hR => part_any b l hl w hR)
  have HU := Lib.hid hn
  have HR0 := Lib.hid hR
  clear hR hn
  go_enter Tryz.func82, Tryz.ntmps82
  go_wp2
  go_loopw [5, 7] (fun v i wr => ∃ (k : Nat) (L : List Pt) (r : List UInt8), i = .int .u64 k ∧ Went pPart n l k L r ∧ OwnP w.heap.size wr v L ∧ w.grownBy wr (some b) ∧ Rd wr b r) (fun _ i _ => n - (intOf i).toNat)
  case atStart => exact ⟨0, [], l, rfl, went_zero _ _ _, parts_own_nil _ _, grownBy_refl _ _, HR0.out⟩
  case round =>
    obtain ⟨k, L, r, rfl, hW, hO, hG, hR⟩ := hrel
    have HW := Lib.hid hW; have HO := Lib.hid hO; have HG := Lib.hid hG; have HR := Lib.hid hR
    have hkn := hW.2.1
    have hrl : r.length ≤ 1000000 := by have := hW.2.2.1; omega
    have hLl : L.length ≤ 1000000 := by have := hW.2.2.1; omega
    clear hW hO hG hR
    by_cases hk : k < n
    · have hk2 : k + 1 ≤ n := hk
      have q1 : decide (k < n) = true := decide_eq_true hk
      have hw1 : IntKind.u64.wrap ((k : Int) + 1) = (k : Int) + 1 := by rw [IntKind.wrap_u64]; have := HU.out; unfold U64 at this; omega
      have P1 := Lib.hid (PA.out r hrl _ HR.out)
      cases hp : pPart r with
      | none =>
        have HN := Lib.hid (went_none HW.out hk hp)
        rw [oPart_none hp] at P1
        clear hp hk
        go_wp2_with fail
        refine P1.out.mono ?_
        rintro e w1 ⟨⟨j, rfl⟩, hg1⟩
        have HG1 := Lib.hid (grownBy_trans HG.out hg1)
        clear hg1
        go_wp2
        refine ⟨rfl, ?_⟩
        rw [HN.out]
        exact ⟨⟨j, rfl⟩, HG1.out⟩
      | some x =>
        obtain ⟨x, r'⟩ := x
        have HN := Lib.hid (went_some HW.out hk hp (pPart_less hp))
        rw [oPart_some hp] at P1
        clear hp hk
        go_wp2_with fail
        refine P1.out.mono ?_
        rintro e w1 ⟨rfl, hg1, hR1⟩
        have HO1 := Lib.hid (HO.out.turned hg1 hlt)
        have HG1 := Lib.hid (grownBy_trans HG.out hg1)
        have HR1 := Lib.hid hR1
        have hsz : w.heap.size ≤ w1.heap.size := HG1.out.size
        clear hg1 hR1
        go_wp2_with (at_builtin; refine wpList_append_parts rfl _ _ rfl HO1.out hsz rfl rfl hLl ?_)
        intro v' w2 hown hg2
        have HR2 : Hid (Rd w2 b r') := Lib.hid (by
          obtain ⟨S, h1, h2⟩ := HR1.out
          refine ⟨S, h1, ?_⟩
          unfold Row
          rw [hg2.block b h2.lt (fun e => by have := (HO1.out.lt b e.symm).1; omega)]
          exact h2)
        have HG2 : Hid (w.grownBy w2 (some b)) := Lib.hid ⟨hg2.os.trans HG1.out.os, hg2.tape.trans HG1.out.tape, hg2.output.trans HG1.out.output, Nat.le_trans HG1.out.size hg2.size, fun i hi hr =>
          (hg2.block i (Nat.lt_of_lt_of_le hi hsz) (fun e => by have := (HO1.out.lt i e.symm).1; omega)).trans (HG1.out.block i hi hr)⟩
        have HO2 := Lib.hid hown
        clear hown hg2 HR1 HG1 HO1
        go_wp2
        go_roundw
        case rel => exact ⟨k + 1, L ++ [x], r', by go_num, HN.out, HO2.out, HG2.out, HR2.out⟩
        case measure => simp [intOf]; omega
    · have q1 : decide (k < n) = false := decide_eq_false hk
      have HN := Lib.hid (went_done HW.out (by omega))
      go_wp2
      go_ret
      rw [HN.out]
      exact ⟨⟨_, rfl, HO.out⟩, HG.out, HR.out⟩

/-! ## Entry -/
def RetEns (b : Nat) (w : World) (o : Option (List En × List UInt8)) (e : Ending) (w' : World) : Prop :=
  match o with
  | some x => (∃ v, e = .returned v ∧ OwnE w.heap.size w' v x.1) ∧ w.grownBy w' (some b) ∧ Rd w' b x.2
  | none => Threw b w e w'
theorem oEntry_none {l : List UInt8} (h : pEntry l = none) : oEntry l = none := by unfold oEntry; rw [h]; rfl
theorem oEntry_some {l r : List UInt8} {x : En} (h : pEntry l = some (x, r)) : oEntry l = some (.agg #[.string x.m, .int .i64 x.kd, .bool x.x, .string x.k], r) := by unfold oEntry; rw [h]; rfl
set_option maxRecDepth 100000 in
set_option maxHeartbeats 4000000 in
theorem listE_any (b n : Nat) (hn : U64 n) (l : List UInt8) (hl : l.length ≤ 1000000) (w : World) (hR : Rd w b l) :
    Calls Tryz.prog 85 #[.int .u64 n, .func (.func 86) #[.pointer (some ⟨b, 0, none⟩)] #[]] w (RetEns b w (pList pEntry n l)) := by
  have hlt := hR.lt
  have PA := Lib.hid (fun l hl w hR => entry_any b l hl w hR)
  have HU := Lib.hid hn
  have HR0 := Lib.hid hR
  clear hR hn
  go_enter Tryz.func85, Tryz.ntmps85
  go_wp2
  go_loopw [5, 7] (fun v i wr => ∃ (k : Nat) (L : List En) (r : List UInt8), i = .int .u64 k ∧ Went pEntry n l k L r ∧ OwnE w.heap.size wr v L ∧ w.grownBy wr (some b) ∧ Rd wr b r) (fun _ i _ => n - (intOf i).toNat)
  case atStart => exact ⟨0, [], l, rfl, went_zero _ _ _, entries_own_nil _ _, grownBy_refl _ _, HR0.out⟩
  case round =>
    obtain ⟨k, L, r, rfl, hW, hO, hG, hR⟩ := hrel
    have HW := Lib.hid hW; have HO := Lib.hid hO; have HG := Lib.hid hG; have HR := Lib.hid hR
    have hkn := hW.2.1
    have hrl : r.length ≤ 1000000 := by have := hW.2.2.1; omega
    have hLl : L.length ≤ 1000000 := by have := hW.2.2.1; omega
    clear hW hO hG hR
    by_cases hk : k < n
    · have hk2 : k + 1 ≤ n := hk
      have q1 : decide (k < n) = true := decide_eq_true hk
      have hw1 : IntKind.u64.wrap ((k : Int) + 1) = (k : Int) + 1 := by rw [IntKind.wrap_u64]; have := HU.out; unfold U64 at this; omega
      have P1 := Lib.hid (PA.out r hrl _ HR.out)
      cases hp : pEntry r with
      | none =>
        have HN := Lib.hid (went_none HW.out hk hp)
        rw [oEntry_none hp] at P1
        clear hp hk
        go_wp2_with fail
        refine P1.out.mono ?_
        rintro e w1 ⟨⟨j, rfl⟩, hg1⟩
        have HG1 := Lib.hid (grownBy_trans HG.out hg1)
        clear hg1
        go_wp2
        refine ⟨rfl, ?_⟩
        rw [HN.out]
        exact ⟨⟨j, rfl⟩, HG1.out⟩
      | some x =>
        obtain ⟨x, r'⟩ := x
        have HN := Lib.hid (went_some HW.out hk hp (pEntry_less hp))
        rw [oEntry_some hp] at P1
        clear hp hk
        go_wp2_with fail
        refine P1.out.mono ?_
        rintro e w1 ⟨rfl, hg1, hR1⟩
        have HO1 := Lib.hid (HO.out.turned hg1 hlt)
        have HG1 := Lib.hid (grownBy_trans HG.out hg1)
        have HR1 := Lib.hid hR1
        have hsz : w.heap.size ≤ w1.heap.size := HG1.out.size
        clear hg1 hR1
        go_wp2_with (at_builtin; refine wpList_append_entries rfl _ _ rfl HO1.out hsz rfl rfl hLl ?_)
        intro v' w2 hown hg2
        have HR2 : Hid (Rd w2 b r') := Lib.hid (by
          obtain ⟨S, h1, h2⟩ := HR1.out
          refine ⟨S, h1, ?_⟩
          unfold Row
          rw [hg2.block b h2.lt (fun e => by have := (HO1.out.lt b e.symm).1; omega)]
          exact h2)
        have HG2 : Hid (w.grownBy w2 (some b)) := Lib.hid ⟨hg2.os.trans HG1.out.os, hg2.tape.trans HG1.out.tape, hg2.output.trans HG1.out.output, Nat.le_trans HG1.out.size hg2.size, fun i hi hr =>
          (hg2.block i (Nat.lt_of_lt_of_le hi hsz) (fun e => by have := (HO1.out.lt i e.symm).1; omega)).trans (HG1.out.block i hi hr)⟩
        have HO2 := Lib.hid hown
        clear hown hg2 HR1 HG1 HO1
        go_wp2
        go_roundw
        case rel => exact ⟨k + 1, L ++ [x], r', by go_num, HN.out, HO2.out, HG2.out, HR2.out⟩
        case measure => simp [intOf]; omega
    · have q1 : decide (k < n) = false := decide_eq_false hk
      have HN := Lib.hid (went_done HW.out (by omega))
      go_wp2
      go_ret
      rw [HN.out]
      exact ⟨⟨_, rfl, HO.out⟩, HG.out, HR.out⟩
end Go.Proofs.YtohicccbaenegaaGreatDoor

/-
  Contracts over this translation: node's reader: pass, end, take, kind, number, text.
-/
import Derived.Test.YtohicccbaenegaaGreatDoorQ2
import Derived.Test.YtohicccbaenegaaGreatDoorQ0
import Derived.WalkLawsBesides
set_option linter.unusedVariables false
namespace Go.Proofs.YtohicccbaenegaaGreatDoor
open Go.RowKit
attribute [local go_sem] Oper.semAt_some

/-- What a reader throws. -/
abbrev thrV (k : Int) : Value := .iface 63 (.agg #[.int .i64 k])
def Threw (b : Nat) (w : World) (e : Ending) (w' : World) : Prop := (∃ k : Int, e = .panicked [{ v := thrV k, recovered := false }]) ∧ w.grownBy w' (some b)
/-- A reader at block b that has still to read l. -/
def Rd (w : World) (b : Nat) (l : List UInt8) : Prop := ∃ S : ByteArray, S.data.toList = l ∧ Row w b #[.string S] 89
def Gave (b : Nat) (w : World) (v : Value) (r : List UInt8) (e : Ending) (w' : World) : Prop := e = .returned v ∧ w.grownBy w' (some b) ∧ Rd w' b r
/-- A reader's call: it hands back a value and what is left, or throws. -/
def RdRet (b : Nat) (w : World) (o : Option (Value × List UInt8)) (e : Ending) (w' : World) : Prop :=
  match o with
  | some x => Gave b w x.1 x.2 e w'
  | none => Threw b w e w'
theorem grownBy_refl (w : World) (r : Option Nat) : w.grownBy w r := ⟨rfl, rfl, rfl, Nat.le_refl _, fun _ _ _ => rfl⟩
theorem grownBy_trans {a b c : World} {r : Option Nat} (h : a.grownBy b r) (k : b.grownBy c r) : a.grownBy c r :=
  ⟨k.os.trans h.os, k.tape.trans h.tape, k.output.trans h.output, Nat.le_trans h.size k.size, fun i hi hr => (k.block i (Nat.lt_of_lt_of_le hi h.size) hr).trans (h.block i hi hr)⟩
theorem grownBy_some {a b : World} {B : Nat} (h : Below a.heap.size a b) : a.grownBy b (some B) := ⟨h.os, h.tape, h.output, h.size, fun k hk _ => h.block k hk⟩
theorem grownBy_then {a b c : World} {r : Option Nat} (h : a.grownBy b r) (k : Below b.heap.size b c) : a.grownBy c r :=
  ⟨k.os.trans h.os, k.tape.trans h.tape, k.output.trans h.output, Nat.le_trans h.size k.size, fun i hi hr => (k.block i (Nat.lt_of_lt_of_le hi h.size)).trans (h.block i hi hr)⟩
theorem grownBy_set (w : World) (b i : Nat) (u : Value) : w.grownBy (w.setCell ⟨b, i, none⟩ u) (some b) :=
  ⟨rfl, rfl, rfl, by simp [World.setCell], fun k hk hr => Below.heap_setCell _ _ _ _ (fun e => hr (by rw [e]))⟩
theorem below_turned {B b : Nat} {a w w' : World} (h : Below B a w) (hg : w.grownBy w' (some b)) (hb : B ≤ b) (hB : B ≤ w.heap.size) : Below B a w' :=
  h.grown hg hB (fun k hk => by cases hk; exact hb)
theorem Rd.stays {w w' : World} {b : Nat} {l : List UInt8} (h : Rd w b l) (hb : Below w.heap.size w w') : Rd w' b l := by
  obtain ⟨S, h1, h2⟩ := h; exact ⟨S, h1, h2.step hb⟩
theorem Rd.lt {w : World} {b : Nat} {l : List UInt8} (h : Rd w b l) : b < w.heap.size := by obtain ⟨S, h1, h2⟩ := h; exact h2.lt
theorem Rd.of {w : World} {b : Nat} {S : ByteArray} (h : Row w b #[.string S] 89) {l : List UInt8} (e : S.data.toList = l) : Rd w b l := ⟨S, e, h⟩
theorem rd_set {w : World} {b : Nat} {S : ByteArray} (h : Row w b #[.string S] 89) (T : ByteArray) : Row (w.setCell ⟨b, 0, none⟩ (.string T)) b #[.string T] 89 := by
  have := h.set 0 (.string T); simpa using this
theorem drop_str (S : ByteArray) (k : Nat) : (S.extract k S.size).data.toList = S.data.toList.drop k := by
  rw [Lib.extract_data, Lib.size_eq]
  exact List.take_of_length_le (by rw [List.length_drop]; omega)
theorem take_str (S : ByteArray) (k : Nat) : (S.extract 0 k).data.toList = S.data.toList.take k := by rw [Lib.extract_data]; simp

theorem pass_ok (b : Nat) (S : ByteArray) (k : Nat) (hk : k ≤ S.size) (w : World) (hR : Row w b #[.string S] 89) :
    Calls Tryz.prog 108 #[.pointer (some ⟨b, 0, none⟩), .int .i64 k, .int .i64 0] w fun e w' => e = .returned (.tuple #[]) ∧ w' = w.setCell ⟨b, 0, none⟩ (.string (S.extract k S.size)) := by
  have c0 := hR.cell 0
  have f0 := hR.free 0
  simp only [List.getElem?_toArray, List.getElem?_cons_zero] at c0
  have hs := fun W => run_slice_from (P := Tryz.prog) Tryz.underlying9 S k hk W
  go_enter Tryz.func108, Tryz.ntmps108
  go_wp2
  go_end0
  exact ⟨rfl, rfl⟩
theorem pass_no (b : Nat) (v : Value) (k : Int) (hk : k ≠ 0) (w : World) :
    Calls Tryz.prog 108 #[.pointer (some ⟨b, 0, none⟩), v, .int .i64 k] w (Threw b w) := by
  have q := in_t hk
  go_enter Tryz.func108, Tryz.ntmps108
  go_wp2
  exact ⟨rfl, ⟨k, rfl⟩, grownBy_refl _ _⟩
theorem end_ok (b : Nat) (w : World) (hR : Rd w b []) :
    Calls Tryz.prog 62 #[.pointer (some ⟨b, 0, none⟩)] w fun e w' => e = .returned (.tuple #[]) ∧ w' = w := by
  obtain ⟨S, hS, hR⟩ := hR
  have c0 := hR.cell 0
  simp only [List.getElem?_toArray, List.getElem?_cons_zero] at c0
  have q : (!S.toList.isEmpty) = false := by rw [Lib.toList_data, hS]; rfl
  have q2 : S.toList.isEmpty = true := by rw [Lib.toList_data, hS]; rfl
  have HS := Lib.hid hS; clear hS
  go_enter Tryz.func62, Tryz.ntmps62
  go_wp2
  go_end0
  exact ⟨rfl, rfl⟩
theorem end_no (b : Nat) (l : List UInt8) (hl : l ≠ []) (w : World) (hR : Rd w b l) :
    Calls Tryz.prog 62 #[.pointer (some ⟨b, 0, none⟩)] w (Threw b w) := by
  obtain ⟨S, hS, hR⟩ := hR
  have c0 := hR.cell 0
  simp only [List.getElem?_toArray, List.getElem?_cons_zero] at c0
  have q2 : S.toList.isEmpty = false := by rw [Lib.toList_data, hS]; cases l with | nil => exact absurd rfl hl | cons => rfl
  have q : (!S.toList.isEmpty) = true := by rw [q2]; rfl
  have HS := Lib.hid hS; clear hS
  go_enter Tryz.func62, Tryz.ntmps62
  go_wp2
  exact ⟨rfl, ⟨2, rfl⟩, grownBy_refl _ _⟩

def oTake (n : Nat) (l : List UInt8) : Option (Value × List UInt8) := if n ≤ l.length then some (.string ⟨(l.take n).toArray⟩, l.drop n) else none
set_option maxRecDepth 100000 in
set_option maxHeartbeats 1000000 in
theorem take_any (b n : Nat) (l : List UInt8) (hl : l.length ≤ 1000000) (w : World) (hR : Rd w b l) :
    Calls Tryz.prog 81 #[.pointer (some ⟨b, 0, none⟩), .int .i64 n] w (RdRet b w (oTake n l)) := by
  obtain ⟨S, hS, hR⟩ := hR
  have c0 := hR.cell 0
  have f0 := hR.free 0
  simp only [List.getElem?_toArray, List.getElem?_cons_zero] at c0
  have hsz : S.size = l.length := by rw [Lib.size_eq, hS]
  by_cases h : n ≤ l.length
  · have hO : Hid (oTake n l = some (.string ⟨(l.take n).toArray⟩, l.drop n)) := if_pos h
    have hk : n ≤ S.size := by omega
    have hs1 := fun W => run_slice_to (P := Tryz.prog) Tryz.underlying9 S n hk W
    have hs2 := fun W => run_slice_from (P := Tryz.prog) Tryz.underlying9 S n hk W
    have q : decide (S.size < n) = false := decide_eq_false (by omega)
    obtain ⟨T, hT⟩ : ∃ T, T = S.extract 0 n := ⟨_, rfl⟩
    have hT2 : T = ⟨(l.take n).toArray⟩ := str_eq' (by rw [hT, take_str, hS])
    rw [← hT] at hs1
    have CL := Lib.hid (Clone_any T (w := w.setCell ⟨b, 0, none⟩ (.string (S.extract n S.size))) (by rw [hT2]; simp [ByteArray.size]; omega))
    have HT := Lib.hid hT2; have HS := Lib.hid hS; have HR := Lib.hid hR
    clear hT hT2 hS hR hsz
    go_enter Tryz.func81, Tryz.ntmps81
    go_wp2_with fail
    refine CL.out.mono ?_
    rintro e w1 ⟨rfl, hb⟩
    go_wp2
    go_ret
    rw [hO.out]
    refine ⟨by rw [HT.out]; rfl, grownBy_then (grownBy_set _ _ _ _) hb, ?_⟩
    exact (Rd.of (rd_set HR.out _) (by rw [drop_str, HS.out])).stays hb
  · have hO : Hid (oTake n l = none) := if_neg h
    have q : decide (S.size < n) = true := decide_eq_true (by omega)
    have HS := Lib.hid hS; clear hS hsz
    go_enter Tryz.func81, Tryz.ntmps81
    go_wp2
    refine ⟨rfl, ?_⟩
    rw [hO.out]
    exact ⟨⟨1, rfl⟩, grownBy_refl _ _⟩

def oKind (l : List UInt8) : Option (Value × List UInt8) := match l with | [] => none | c :: r => some (.int .i64 c.toNat, r)
set_option maxRecDepth 100000 in
set_option maxHeartbeats 1000000 in
theorem kind_any (b : Nat) (l : List UInt8) (hl : l.length ≤ 1000000) (w : World) (hR : Rd w b l) :
    Calls Tryz.prog 80 #[.pointer (some ⟨b, 0, none⟩)] w (RdRet b w (oKind l)) := by
  have TA := Lib.hid (take_any b 1 l hl w hR)
  cases l with
  | nil =>
    go_enter Tryz.func80, Tryz.ntmps80
    go_wp2_with fail
    refine TA.out.mono ?_
    rintro e w1 ⟨⟨k, rfl⟩, hg⟩
    go_wp2
    exact ⟨rfl, ⟨k, rfl⟩, hg⟩
  | cons c r =>
    have hT : Hid (oTake 1 (c :: r) = some (.string ⟨#[c]⟩, r)) := show _ = _ by unfold oTake; rw [if_pos (by simp)]; rfl
    rw [hT.out] at TA
    have h1 : (⟨#[c]⟩ : ByteArray).size = 1 := rfl
    have hc := c.toNat_lt
    have h2 : (⟨#[c]⟩ : ByteArray)[0] = c := rfl
    go_enter Tryz.func80, Tryz.ntmps80
    go_wp2_with fail
    refine TA.out.mono ?_
    rintro e w1 ⟨rfl, hg, hR1⟩
    have HR1 := Lib.hid hR1; have HG := Lib.hid hg
    clear hR1 hg
    go_wp2
    go_ret
    exact ⟨rfl, HG.out, HR1.out⟩

def oNumber (l : List UInt8) : Option (Value × List UInt8) := if (vtake l).2.2 ≠ 0 then none else some (.int .u64 ((vtake l).1 : Nat), l.drop (vtake l).2.1)
set_option maxRecDepth 100000 in
set_option maxHeartbeats 1000000 in
theorem number_any (b : Nat) (l : List UInt8) (hl : l.length ≤ 1000000) (w : World) (hR : Rd w b l) :
    Calls Tryz.prog 83 #[.pointer (some ⟨b, 0, none⟩)] w (RdRet b w (oNumber l)) := by
  obtain ⟨S, hS, hR⟩ := hR
  have c0 := hR.cell 0
  simp only [List.getElem?_toArray, List.getElem?_cons_zero] at c0
  have hsz : S.size = l.length := by rw [Lib.size_eq, hS]
  have T := Lib.hid (Take_any S (by unfold maxLen; omega) w)
  rw [hS] at T
  obtain ⟨n, j, x, hv⟩ : ∃ n j x, vtake l = (n, j, x) := ⟨_, _, _, rfl⟩
  have hON : Hid (oNumber l = if x ≠ 0 then none else some (.int .u64 (n : Nat), l.drop j)) := show _ = _ by unfold oNumber; rw [hv]
  rw [hv] at T
  have HS := Lib.hid hS; have HR := Lib.hid hR
  by_cases hx : x = 0
  · subst hx
    have hj := (put_take hv).2.2.1
    rw [if_neg (by simp)] at hON
    clear hS hv
    go_enter Tryz.func83, Tryz.ntmps83
    go_wp2_with fail
    refine T.out.mono ?_
    rintro e w1 ⟨rfl, hb⟩
    have hb1 : Below w.heap.size w w1 := hb
    have P := Lib.hid (pass_ok b S j (by omega) w1 (HR.out.step hb1))
    go_wp2_with fail
    refine P.out.mono ?_
    rintro e w2 ⟨rfl, hw2⟩
    have HW := Lib.hid hw2; clear hw2 hR c0
    go_wp2
    go_ret
    rw [hON.out]
    refine ⟨rfl, ?_, ?_⟩
    · rw [HW.out]; exact grownBy_trans (grownBy_some hb1) (grownBy_set _ _ _ _)
    · rw [HW.out]; exact Rd.of (rd_set (HR.out.step hb1) _) (by rw [drop_str, HS.out])
  · have hN := fun v w => pass_no b v (x : Int) (by omega) w
    rw [if_pos hx] at hON
    have HN := Lib.hid hN
    clear hS hv hN
    go_enter Tryz.func83, Tryz.ntmps83
    go_wp2_with fail
    refine T.out.mono ?_
    rintro e w1 ⟨rfl, hb⟩
    have hb1 : Below w.heap.size w w1 := hb
    go_wp2_with fail
    refine (HN.out _ _).mono ?_
    rintro e w2 ⟨⟨k, rfl⟩, hg⟩
    go_wp2
    refine ⟨rfl, ?_⟩
    rw [hON.out]
    exact ⟨⟨k, rfl⟩, grownBy_trans (grownBy_some hb1) hg⟩

def oText (l : List UInt8) : Option (Value × List UInt8) := if (vtakeText l).2.2 ≠ 0 then none else some (.string ⟨(vtakeText l).1.toArray⟩, l.drop (vtakeText l).2.1)
set_option maxRecDepth 100000 in
set_option maxHeartbeats 1000000 in
theorem text_any (b : Nat) (l : List UInt8) (hl : l.length ≤ 1000000) (w : World) (hR : Rd w b l) :
    Calls Tryz.prog 109 #[.pointer (some ⟨b, 0, none⟩)] w (RdRet b w (oText l)) := by
  obtain ⟨S, hS, hR⟩ := hR
  have c0 := hR.cell 0
  simp only [List.getElem?_toArray, List.getElem?_cons_zero] at c0
  have hsz : S.size = l.length := by rw [Lib.size_eq, hS]
  have T := Lib.hid (TakeText_any S (by unfold maxLen; omega) w)
  rw [hS] at T
  obtain ⟨n, j, x, hv⟩ : ∃ n j x, vtakeText l = (n, j, x) := ⟨_, _, _, rfl⟩
  have hON : Hid (oText l = if x ≠ 0 then none else some (.string ⟨n.toArray⟩, l.drop j)) := show _ = _ by unfold oText; rw [hv]
  rw [hv] at T
  have HS := Lib.hid hS; have HR := Lib.hid hR
  by_cases hx : x = 0
  · subst hx
    have hj := (putText_takeText hv).1
    rw [if_neg (by simp)] at hON
    clear hS hv
    go_enter Tryz.func109, Tryz.ntmps109
    go_wp2_with fail
    refine T.out.mono ?_
    rintro e w1 ⟨rfl, hb⟩
    have hb1 : Below w.heap.size w w1 := hb
    have P := Lib.hid (pass_ok b S j (by omega) w1 (HR.out.step hb1))
    go_wp2_with fail
    refine P.out.mono ?_
    rintro e w2 ⟨rfl, hw2⟩
    have HW := Lib.hid hw2; clear hw2 hR c0
    go_wp2
    go_ret
    rw [hON.out]
    refine ⟨rfl, ?_, ?_⟩
    · rw [HW.out]; exact grownBy_trans (grownBy_some hb1) (grownBy_set _ _ _ _)
    · rw [HW.out]; exact Rd.of (rd_set (HR.out.step hb1) _) (by rw [drop_str, HS.out])
  · have hN := fun v w => pass_no b v (x : Int) (by omega) w
    rw [if_pos hx] at hON
    have HN := Lib.hid hN
    clear hS hv hN
    go_enter Tryz.func109, Tryz.ntmps109
    go_wp2_with fail
    refine T.out.mono ?_
    rintro e w1 ⟨rfl, hb⟩
    have hb1 : Below w.heap.size w w1 := hb
    go_wp2_with fail
    refine (HN.out _ _).mono ?_
    rintro e w2 ⟨⟨k, rfl⟩, hg⟩
    go_wp2
    refine ⟨rfl, ?_⟩
    rw [hON.out]
    exact ⟨⟨k, rfl⟩, grownBy_trans (grownBy_some hb1) hg⟩
end Go.Proofs.YtohicccbaenegaaGreatDoor

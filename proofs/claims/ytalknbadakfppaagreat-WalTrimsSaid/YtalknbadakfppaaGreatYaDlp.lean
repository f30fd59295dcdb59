/-
  Contracts over this translation: what is done in each act.
-/
import Derived.Test.YtalknbadakfppaaGreatQa3
set_option linter.unusedVariables false
namespace Go.Proofs.YtalknbadakfppaaGreat
open Go.RowKit
attribute [local go_sem] Oper.semAt_some
theorem row_one {w : World} {b : Nat} {x : Value} {T : TypeId} (h : Row w b #[x] T) : w.cell? ⟨b, 0, none⟩ = some x ∧ ∀ i, w.frozen? ⟨b, i, none⟩ = false := by
  have p0 := h.cell 0
  simp only [List.getElem?_toArray, List.getElem?_cons_zero] at p0
  exact ⟨p0, fun i => h.free i⟩
theorem writeD_act (d : Dsk) (n : ByteArray) (a : Int) (s : ByteArray) : writeD nameB d n a s = actD d (wrongW d n a s) (withF d.fs (wroteF d n a s)) := by
  unfold writeD actD wrongW
  by_cases h1 : d.off = true
  · rw [if_pos h1, if_pos h1]
  rw [if_neg h1, if_neg h1]
  by_cases h2 : nameB n.data.toList = false
  · rw [if_pos h2, if_pos h2]; rfl
  rw [if_neg h2, if_neg h2]
  by_cases h3 : a < 0 ∨ 262144 < a + s.size
  · rw [if_pos h3, if_pos (by omega : ¬ (0 ≤ a ∧ a + s.size ≤ 262144))]; rfl
  rw [if_neg h3, if_neg (by omega : ¬ ¬ (0 ≤ a ∧ a + s.size ≤ 262144))]
  by_cases h4 : fullD d n s
  · rw [if_pos h4, if_pos h4]; rfl
  · rw [if_neg h4, if_neg h4]; rfl
def gotF (d : Dsk) (n : ByteArray) : Dfl := (getF d.fs n.data.toList).getD ⟨⟨#[]⟩, ⟨#[]⟩, []⟩
def missD (d : Dsk) (n : ByteArray) : Int := if (getF d.fs n.data.toList).isSome then 0 else 5
theorem syncD_act (d : Dsk) (n : ByteArray) : syncD d n = actD d (missD d n) (withF d.fs ⟨n, strT (seenF (gotF d n)), []⟩) := by
  unfold syncD actD missD gotF
  by_cases h1 : d.off = true
  · rw [if_pos h1, if_pos h1]
  rw [if_neg h1, if_neg h1]
  cases getF d.fs n.data.toList with
  | none => rfl
  | some f => rfl
theorem renameD_act (d : Dsk) (n m : ByteArray) : renameD nameB d n m = actD d (wrongR d n m) (withF (lessF d.fs n.data.toList) ⟨m, (gotF d n).d, (gotF d n).ops⟩) := by
  unfold renameD actD wrongR gotF
  by_cases h1 : d.off = true
  · rw [if_pos h1, if_pos h1]
  rw [if_neg h1, if_neg h1]
  by_cases h2 : nameB m.data.toList = false
  · rw [if_pos h2, if_pos h2]; rfl
  rw [if_neg h2, if_neg h2]
  cases getF d.fs n.data.toList with
  | none => rfl
  | some f => rfl
theorem removeD_act (d : Dsk) (n : ByteArray) : removeD d n = actD d (missD d n) (lessF d.fs n.data.toList) := by
  unfold removeD actD missD
  by_cases h1 : d.off = true
  · rw [if_pos h1, if_pos h1]
  rw [if_neg h1, if_neg h1]
  cases getF d.fs n.data.toList with
  | none => rfl
  | some f => rfl
theorem gotF_some {d : Dsk} {n : ByteArray} (h : missD d n = 0) : getF d.fs n.data.toList = some (gotF d n) := by
  unfold missD at h; unfold gotF
  cases hg : getF d.fs n.data.toList with
  | none => rw [hg] at h; simp at h
  | some f => rfl
set_option maxRecDepth 100000 in
set_option maxHeartbeats 1000000 in
theorem write1_any {B kb pb nb ab sb : Nat} {v : Value} {R : List Dfr} {d : Dsk} {n : ByteArray} {a : Int} {s : ByteArray} (w : World) (hp : Row w pb #[.pointer (some ⟨kb, 0, none⟩)] 99) (h1 : Row w nb #[.string n] 9) (h2 : Row w ab #[.int .i64 a] 3) (h3 : Row w sb #[.string s] 9)
    (h : Mch B kb w v R d) (hB : B ≤ w.heap.size) (hr : d.fs.Pairwise fun x y => x.t < y.t) (hl : d.fs.length ≤ 1000) (hns : n.size ≤ 1000000) (hss : s.size ≤ 1000000) (ho : ∀ f ∈ d.fs, f.ops.length ≤ 1000) (hw : (wroteF d n a s).t = n.data.toList) :
    Calls Tryz.prog 66 #[.pointer (some ⟨pb, 0, none⟩), .pointer (some ⟨nb, 0, none⟩), .pointer (some ⟨ab, 0, none⟩), .pointer (some ⟨sb, 0, none⟩)] w (DoR B kb (withF d.fs (wroteF d n a s)) d.off d.fuse w) := by
  have C := Lib.hid (write_any B kb v R d n a s w h hB hr hl hns hss ho)
  have HW : Hid (withF (lessF d.fs n.data.toList) (wroteF d n a s) = withF d.fs (wroteF d n a s)) := Lib.hid (by
    have := withF_less (x := wroteF d n a s) hr
    rw [hw] at this; exact this)
  obtain ⟨p0, _⟩ := row_one hp
  obtain ⟨p1, _⟩ := row_one h1
  obtain ⟨p2, _⟩ := row_one h2
  obtain ⟨p3, _⟩ := row_one h3
  clear hp h1 h2 h3 h hr ho hw
  go_enter Tryz.func66, Tryz.ntmps66
  go_wp2_with fail
  refine C.out.mono ?_
  rintro e w1 ⟨v1, R1, rfl, hM, hb, hT⟩
  go_wp2
  go_end0
  exact ⟨v1, R1, rfl, by rw [← HW.out]; exact hM, hb, hT⟩
set_option maxRecDepth 100000 in
set_option maxHeartbeats 1000000 in
theorem rename1_any {B kb pb nb sb : Nat} {v : Value} {R : List Dfr} {d : Dsk} {n m : ByteArray} {f : Dfl} (w : World) (hp : Row w pb #[.pointer (some ⟨kb, 0, none⟩)] 99) (h1 : Row w nb #[.string n] 9) (h3 : Row w sb #[.string m] 9)
    (h : Mch B kb w v R d) (hB : B ≤ w.heap.size) (hr : d.fs.Pairwise fun x y => x.t < y.t) (hl : d.fs.length ≤ 1000) (hms : m.size ≤ 1000000) (hg : getF d.fs n.data.toList = some f) :
    Calls Tryz.prog 77 #[.pointer (some ⟨pb, 0, none⟩), .pointer (some ⟨nb, 0, none⟩), .pointer (some ⟨sb, 0, none⟩)] w (DoR B kb (withF (lessF d.fs n.data.toList) ⟨m, f.d, f.ops⟩) d.off d.fuse w) := by
  have C := Lib.hid (rename_any B kb v R d n m f w h hB hr hl hms hg)
  obtain ⟨p0, _⟩ := row_one hp
  obtain ⟨p1, _⟩ := row_one h1
  obtain ⟨p3, _⟩ := row_one h3
  clear hp h1 h3 h hr hg
  go_enter Tryz.func77, Tryz.ntmps77
  go_wp2_with fail
  refine C.out.mono ?_
  rintro e w1 ⟨v1, R1, rfl, hM, hb, hT⟩
  go_wp2
  go_end0
  exact ⟨v1, R1, rfl, hM, hb, hT⟩
set_option maxRecDepth 100000 in
set_option maxHeartbeats 1000000 in
theorem remove1_any {B kb pb nb : Nat} {v : Value} {R : List Dfr} {d : Dsk} {n : ByteArray} (w : World) (hp : Row w pb #[.pointer (some ⟨kb, 0, none⟩)] 99) (h1 : Row w nb #[.string n] 9)
    (h : Mch B kb w v R d) (hB : B ≤ w.heap.size) (hr : d.fs.Pairwise fun x y => x.t < y.t) (hl : d.fs.length ≤ 1000) :
    Calls Tryz.prog 75 #[.pointer (some ⟨pb, 0, none⟩), .pointer (some ⟨nb, 0, none⟩)] w (DoR B kb (lessF d.fs n.data.toList) d.off d.fuse w) := by
  have C := Lib.hid (take_any B kb v R d n w h hB hr hl)
  have HM := Lib.hid h
  obtain ⟨p0, _⟩ := row_one hp
  obtain ⟨p1, _⟩ := row_one h1
  clear hp h1 h hr
  go_enter Tryz.func75, Tryz.ntmps75
  go_wp2_with fail
  refine C.out.mono ?_
  rintro e w1 ⟨r, v1, R1, rfl, hM, _, _, hb, _, _, hfr⟩
  go_wp2
  go_end0
  exact ⟨v1, R1, rfl, hM, hb, HM.out.frame hfr⟩
set_option maxRecDepth 100000 in
set_option maxHeartbeats 4000000 in
theorem sync1_any {B kb pb nb : Nat} {v : Value} {R : List Dfr} {d : Dsk} {n : ByteArray} {f : Dfl} (w : World) (hp : Row w pb #[.pointer (some ⟨kb, 0, none⟩)] 99) (h1 : Row w nb #[.string n] 9)
    (h : Mch B kb w v R d) (hB : B ≤ w.heap.size) (hr : d.fs.Pairwise fun x y => x.t < y.t) (hl : d.fs.length ≤ 1000) (hg : getF d.fs n.data.toList = some f) (hfd : f.d.size ≤ 262144) (hfo : ∀ o ∈ f.ops, opOk o) :
    Calls Tryz.prog 69 #[.pointer (some ⟨pb, 0, none⟩), .pointer (some ⟨nb, 0, none⟩)] w (DoR B kb (withF d.fs ⟨n, strT (seenF f), []⟩) d.off d.fuse w) := by
  have hfn : f.n = n := str_txt.2 ((getF_some hr).1 hg).2
  have CT : Hid (∀ W, Below w.heap.size w W → Calls Tryz.prog 72 #[.pointer (some ⟨kb, 0, none⟩), .string n] W fun e w' => ∃ v1 R1 a z c, e = .returned (.agg #[.string n, .string f.d, .slice a z c]) ∧ IsOps w' (.slice a z c) f.ops ∧ Mch B kb w' v1 R1 ⟨lessF d.fs n.data.toList, d.off, d.fuse⟩ ∧ Below B w w' ∧ KeepT w w') := Lib.hid fun W hW => by
    refine (take_any B kb v R d n W (h.stays hW) (Nat.le_trans hB hW.size) hr hl).mono ?_
    rintro e w1 ⟨r, v1, R1, rfl, hM, hP, _, hb, _, _, hfr⟩
    rw [hg, Option.getD_some] at hP
    refine ⟨v1, R1, r.a, r.z, r.c, ?_, hP.2.2.is, hM, (hW.mono hB).trans hb, (KeepT.below hW).trans ((h.stays hW).frame hfr)⟩
    show Ending.returned (.agg #[.string r.n, .string r.d, .slice r.a r.z r.c]) = _
    rw [hP.1, hP.2.1, hfn]
  have hlr := lessF_rise (t := n.data.toList) hr
  have hll := lessF_len d.fs n.data.toList
  have hng : getF (lessF d.fs n.data.toList) n.data.toList = none := by rw [lessF_get hr, if_pos rfl]
  have HW : Hid (withF (lessF d.fs n.data.toList) ⟨n, strT (seenF f), []⟩ = withF d.fs ⟨n, strT (seenF f), []⟩) := Lib.hid (withF_less (x := ⟨n, strT (seenF f), []⟩) hr)
  have CS : Hid (∀ W u, IsOps W u f.ops → Calls Tryz.prog 71 #[.agg #[.string n, .string f.d, u]] W fun e w' => e = .returned (.agg #[.string n, .string (strT (seenF f)), .slice none 0 0]) ∧ Below W.heap.size W w') := Lib.hid fun W u hu => by
    have := settled_any f u W hu hfd hfo
    rw [hfn] at this; exact this
  have CP : Hid (∀ W v1 R1, Mch B kb W v1 R1 ⟨lessF d.fs n.data.toList, d.off, d.fuse⟩ → B ≤ W.heap.size → Calls Tryz.prog 70 #[.pointer (some ⟨kb, 0, none⟩), .agg #[.string n, .string (strT (seenF f)), .slice none 0 0]] W (PutR B kb ⟨lessF d.fs n.data.toList, d.off, d.fuse⟩ ⟨n, strT (seenF f), []⟩ W)) := Lib.hid fun W v1 R1 hM hBW =>
    put_any B kb v1 R1 ⟨lessF d.fs n.data.toList, d.off, d.fuse⟩ ⟨n, strT (seenF f), none, 0, 0⟩ ⟨n, strT (seenF f), []⟩ W hM (RowP.nil _ _ _ _) hBW hlr (by show (lessF d.fs n.data.toList).length ≤ 1000; omega) hng (fun y _ g e => by cases e)
  obtain ⟨p0, _⟩ := row_one hp
  obtain ⟨p1, _⟩ := row_one h1
  have HP := Lib.hid hp; have HN := Lib.hid h1
  clear hp h1 h hr hg hfd hfo hlr hll hng hfn
  go_enter Tryz.func69, Tryz.ntmps69
  go_wp2_with fail
  go_region_with (first
    | (go_at_call 72; refine (CT.out _ (Below.refl _ w).drew).mono ?_; rintro e w1 ⟨v1, R1, a, z, c, rfl, hI1, hM1, hb1, hT1⟩; have HI1 := Lib.hid hI1; have HM1 := Lib.hid hM1; have HB1 := Lib.hid hb1; have HT1 := Lib.hid hT1; obtain ⟨q0, _⟩ := row_one (hT1 _ _ _ (by decide) (by decide) (by decide) HP.out); clear hI1 hM1 hb1 hT1)
    | (go_at_call 71; refine (CS.out _ _ HI1.out).mono ?_; rintro e w2 ⟨rfl, hb2⟩; have HM2 := Lib.hid (HM1.out.stays hb2); have HB2 := Lib.hid (HB1.out.trans (hb2.mono (Nat.le_trans hB HB1.out.size))); have HT2 := Lib.hid (HT1.out.trans (KeepT.below hb2)); obtain ⟨q2, _⟩ := row_one (HT2.out _ _ _ (by decide) (by decide) (by decide) HP.out); clear hb2)
    | (go_at_call 70; refine (CP.out _ _ _ HM2.out (Nat.le_trans hB HB2.out.size)).mono ?_; rintro e w3 ⟨v3, R3, rfl, hM3, hb3, hT3⟩; have HM3 := Lib.hid hM3; have HB3 := Lib.hid (HB2.out.trans hb3); have HT3 := Lib.hid (HT2.out.trans hT3); clear hM3 hb3 hT3))
  all_goals
    go_end0
    exact ⟨_, _, rfl, by rw [← HW.out]; exact HM3.out, HB3.out, HT3.out⟩
def ActP (res : Dsk × Int) (V : World) (kb pb rb : Nat) (w : World) : Prop := ∃ v2 R2, Mch V.heap.size kb w v2 R2 res.1 ∧ Below V.heap.size V w ∧ Row w pb #[.pointer (some ⟨kb, 0, none⟩)] 99 ∧ Row w rb #[.slice none 0 0, .bool false, .int .i64 0] 28
theorem ActP.stays {res : Dsk × Int} {V w w' : World} {kb pb rb : Nat} (h : ActP res V kb pb rb w) (hb : Below w.heap.size w w') : ActP res V kb pb rb w' := by
  obtain ⟨v2, R2, h1, h2, h3, h4⟩ := h
  exact ⟨v2, R2, h1.stays hb, h2.trans (hb.mono h2.size), h3.step hb, h4.step hb⟩
end Go.Proofs.YtalknbadakfppaaGreat

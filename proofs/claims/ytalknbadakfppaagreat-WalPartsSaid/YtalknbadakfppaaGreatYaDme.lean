/-
  Contracts over this translation: the document's Write. Written by wip/tools/gen_disk_doc.py.
-/
import Derived.Test.YtalknbadakfppaaGreatQa1
set_option linter.unusedVariables false
namespace Go.Proofs.YtalknbadakfppaaGreat
open Go.RowKit
attribute [local go_sem] Oper.semAt_some
theorem wpList_append_dops {ops : Array Oper} {rest : List Oper} {o : Oper} {a : Act} {B : Nat} {w0 : World} {Q : Exit → Act → World → Prop} (hgd : o.guard = none) (s x : Operand)
    (ho : o.op = .call { callee := .builtin .append, args := #[s, x], argTypes := #[54, 54] })
    {v vx : Value} {M L : List Dop} (hown : OwnP15 B w0 v M) (hBs : B ≤ w0.heap.size) (hL : IsOps w0 vx L) (hs : a.eval s = v) (hx : a.eval x = vx) (hlen : M.length + L.length ≤ 1000000)
    (h : ∀ v' w', OwnP15 B w' v' (M ++ L) → Below B w0 w' → wpList Tryz.prog ops Q rest (a.put o.dst v') w') :
    wpList Tryz.prog ops Q (o :: rest) a w0 := by
  obtain ⟨i0, hi, hz0, hz1, hz2⟩ := info_parts infoOp
  obtain ⟨_, ad, cap, rfl, ⟨h0, _⟩, h1⟩ := hL
  cases ad with
  | none =>
    obtain ⟨rfl, rfl⟩ := h0 rfl
    have hrun := run_append_owned_none (P := Tryz.prog) (w := w0) B 54 o.type 59 i0 2 Tryz.underlying54 hi v M.length (dopCells M) hown
    refine BigFrame.wpList_want (by unfold Region.wanted; rw [hgd]) fun K hK => ?_
    unfold Oper.wp
    simp [execOp, ho, resolve, invoke, builtin, hs, hx, hrun, Result.andThen]
    exact hK _ _ (h v w0 (by simpa using hown) (Below.refl _ _))
  | some ad =>
    refine wpList_append_own _ hgd s x 54 ho B 59 i0 (dopV zeroDop) 2 24 Tryz.underlying54 hi hz0 hz1 hz2 rfl (by decide) v M.length (dopCells M) hs hown ad L.length cap (dopCells L) hx (dopCells_len L) ?_ (fun u hu => dopCells_one hu) ?_ ?_ hBs ?_
    · intro j u hj
      have h2 : 0 < L.length := by
        rcases Nat.eq_zero_or_pos L.length with e | e
        · have := (List.getElem?_eq_some_iff.1 hj).1
          rw [dopCells_len, e] at this; omega
        · exact e
      obtain ⟨b, off, e, _, g⟩ := h1 h2
      cases e
      rw [add_plain']; exact cells_of_ops g j u hj
    · unfold maxLen; omega
    · omega
    · intro v' w' hown' hg _
      refine h v' w' ?_ ((Below.refl B w0).grown hg hBs (fun j hj => (World.ownsRow.lt hown j hj).1))
      unfold OwnP15
      rw [List.length_append, dopCells_app]; exact hown'
theorem wpList_append_dop_b {ops : Array Oper} {rest : List Oper} {o : Oper} {a : Act} {B : Nat} {w0 : World} {Q : Exit → Act → World → Prop} (hgd : o.guard = none) (s x : Operand)
    (ho : o.op = .call { callee := .builtin .append, args := #[s, x], argTypes := #[54, 54] })
    {v : Value} {M : List Dop} {y : Dop} (hown : OwnP15 B w0 v M) (hBs : B ≤ w0.heap.size) (hs : a.eval s = v)
    (hx : a.eval x = .slice (some ⟨w0.heap.size, 0, none⟩) 1 1) (hlen : M.length ≤ 1000000)
    (h : ∀ v' w', OwnP15 B w' v' (M ++ [y]) → Below B w0 w' → wpList Tryz.prog ops Q rest (a.put o.dst v') w') :
    wpList Tryz.prog ops Q (o :: rest) a (w0.alloc (.cells #[.int .i64 y.at_, .string y.d] 59)) :=
  wpList_append_dop hgd s x ho hown hBs hs hx hlen fun v' w' h1 h2 => h v' w' h1 ((Below.refl B w0).grown h2 hBs (fun j hj => (World.ownsRow.lt hown j hj).1))
theorem TwoB.other {w W : World} {x y : Array Value} (h : TwoB w W x y) {b i : Nat} {u : Value} (hb : w.heap.size + 1 < b) : TwoB w (W.setCell ⟨b, i, none⟩ u) x y :=
  ⟨h.box.other ⟨b, i, none⟩ u (by simp; omega), h.res.other ⟨b, i, none⟩ u (by simp; omega), h.below.setCell (p := ⟨b, i, none⟩) (by simp; omega) u⟩
theorem ownP_set {B b i : Nat} {w : World} {v u : Value} {L : List Dop} (h : OwnP15 B w v L) (hb : b < B) : OwnP15 B (w.setCell ⟨b, i, none⟩ u) v L := h.turned (grownBy_set_Dkh w b i u) hb
theorem ownP_put {B b : Nat} {w : World} {v x y z : Value} {L : List Dop} (h : OwnP15 B w v L) (hb : b < B) : OwnP15 B (putB w b x y z) v L := ownP_set (ownP_set (ownP_set h hb) hb) hb
def StW (w : World) (rf : Dfr) (f : Dfl) (r : Dfr) (x : Dfl) : Prop := RowF w r x ∨ (r = rf ∧ x = f)
theorem OwnP15.len {B : Nat} {w : World} {v : Value} {L : List Dop} (h : OwnP15 B w v L) : ∃ a n c, v = .slice a n c := by
  obtain ⟨a, c, e⟩ := h.is.len
  exact ⟨_, _, _, e⟩
theorem isE_yes {s : ByteArray} (h : s.size = 0) : s.toList.isEmpty = true := by
  have : s.data.toList = [] := List.length_eq_zero_iff.1 (by rw [dsize]; exact h)
  rw [Lib.toList_data, this]; rfl
theorem isE_no {s : ByteArray} (h : s.size ≠ 0) : s.toList.isEmpty = false := by
  rw [Lib.toList_data]
  cases hh : s.data.toList with
  | nil => exact absurd (by rw [← dsize, hh]; rfl) h
  | cons _ _ => rfl
theorem wroteF_some {d : Dsk} {n : ByteArray} {f : Dfl} (h : getF d.fs n.data.toList = some f) (a : Int) (s : ByteArray) : wroteF d n a s = if s.size = 0 then f else ⟨f.n, f.d, f.ops ++ [⟨a, s⟩]⟩ := by unfold wroteF; rw [h]; rfl
theorem wroteF_new {d : Dsk} {n : ByteArray} (h : getF d.fs n.data.toList = none) (a : Int) (s : ByteArray) : wroteF d n a s = if s.size = 0 then ⟨n, ⟨#[]⟩, []⟩ else ⟨n, ⟨#[]⟩, [] ++ [⟨a, s⟩]⟩ := by unfold wroteF; rw [h]; rfl
theorem fullD_some_Dme {d : Dsk} {n s : ByteArray} {f : Dfl} (h : getF d.fs n.data.toList = some f) : fullD d n s ↔ (s.size ≠ 0 ∧ 200 ≤ f.ops.length) := by unfold fullD; rw [h]
theorem fullD_new {d : Dsk} {n s : ByteArray} (h : getF d.fs n.data.toList = none) : fullD d n s ↔ 8 ≤ d.fs.length := by unfold fullD; rw [h]
set_option maxRecDepth 100000 in
set_option maxHeartbeats 8000000 in
theorem rWrite_any (d : Dsk) (v : Value) (n : ByteArray) (x : Int) (s : ByteArray) (w0 : World) (h : IsDfs w0 v d.fs) (hf : FitD nameB d) (hss : s.size ≤ 1000000) :
    Calls Tryz.prog 15 #[dskV v d, .string n, .int .i64 x, .string s] w0 (RetD (writeD nameB d n x s) w0) := by
  have HI := Lib.hid h; have HF := Lib.hid hf
  have hl8 := hf.many
  obtain ⟨_, a, cap, hu, _, _⟩ := h
  obtain ⟨z, hz⟩ : ∃ z, z = d.fs.length := ⟨_, rfl⟩
  rw [← hz] at hu hl8
  subst hu
  have HZ := Lib.hid hz
  have CP := Lib.hid (fun W (hW : Below w0.heap.size w0 W) => rPlace_any d (.slice a z cap) n W (HI.out.stays hW))
  have CW := Lib.hid (fun W => rPower_any d a z cap W HF.out.lo HF.out.hi)
  have CX := Lib.hid (fun W (hW : Below w0.heap.size w0 W) (f : Dfl) (rf : Dfr) (hn : rf.n = f.n) => rWith_any (StW w0 rf f) (fun r x h => by rcases h with h | ⟨rfl, rfl⟩; exact h.1; exact hn) d.fs (.slice a z cap) f rf W ((HI.out.toS fun r x h => .inl h).stays hW) HF.out.rise (by have := HF.out.many; omega) (.inr ⟨rfl, rfl⟩))
  have CN := Lib.hid (fun W => refName_any n W)
  clear hf hz
  obtain ⟨fs, off, fuse⟩ := d
  unfold dskV at CP CW ⊢
  dsimp only at CP CW HI HZ ⊢
  obtain ⟨V, hV⟩ : ∃ V, V = (w0.alloc (.cells #[.slice a z cap, .bool off, .int .i64 fuse] 28)).alloc (.cells #[.slice none 0 0, .bool false, .int .i64 0] 28) := ⟨_, rfl⟩
  have hT := twoB_new w0 a z cap off fuse
  rw [← hV] at hT
  have HV := Lib.hid hV; have HT := Lib.hid hT
  obtain ⟨⟨p0, p1, p2⟩, ⟨r0, r1, r2⟩, fz0, fz1⟩ := hT.cells
  clear hV hT
  have C1 := Lib.hid (CP.out V HT.out.below)
  go_enter Tryz.func15, Tryz.ntmps15
  go_wp2_with fail
  rw [← HV.out]
  go_wp2_with fail
  refine C1.out.mono ?_
  rintro e w2 ⟨r, rfl, hr, hb2⟩
  have HT2 := Lib.hid (HT.out.step hb2)
  clear p0 p1 p2 r0 r1 r2 fz0 fz1 hb2
  obtain ⟨⟨p0, p1, p2⟩, ⟨r0, r1, r2⟩, fz0, fz1⟩ := HT2.out.cells
  cases off with
  | true =>
    have HRE : Hid (writeD nameB ⟨fs, true, fuse⟩ n x s = (⟨fs, true, fuse⟩, 13)) := Lib.hid (if_pos rfl)
    clear hr
    have HTR := Lib.hid (HT2.out.put1 (a' := .slice a z cap) (b' := .bool true) (c' := .int .i64 fuse))
    unfold putB at HTR
    go_wp2_with fail
    obtain ⟨_, ⟨r0', r1', r2'⟩, _, _⟩ := HTR.out.cells
    exact bodyPost_ret (v := .tuple #[.agg #[.slice a z cap, .bool true, .int .i64 fuse], .int .i64 13]) (by simp [results, Tryz.results15, go_sem, r0', r1', r2']) rfl ⟨.slice a z cap, by rw [HRE.out]; rfl, by rw [HRE.out]; exact HI.out.stays HTR.out.below, HTR.out.below⟩
  | false =>
    have C0 := Lib.hid (CN.out w2)
    cases hnm : nameB n.data.toList with
    | false =>
      have HRE : Hid (writeD nameB ⟨fs, false, fuse⟩ n x s = (⟨fs, false, fuse⟩, 7)) := Lib.hid (by unfold writeD; dsimp only; rw [if_neg (by simp), if_pos hnm])
      rw [hnm] at C0
      clear hr hnm
      go_wp2_with fail
      refine C0.out.mono ?_
      rintro e w2' ⟨rfl, rfl⟩
      have HTR := Lib.hid (HT2.out.put1 (a' := .slice a z cap) (b' := .bool false) (c' := .int .i64 fuse))
      unfold putB at HTR
      go_wp2_with fail
      obtain ⟨_, ⟨r0', r1', r2'⟩, _, _⟩ := HTR.out.cells
      exact bodyPost_ret (v := .tuple #[.agg #[.slice a z cap, .bool false, .int .i64 fuse], .int .i64 7]) (by simp [results, Tryz.results15, go_sem, r0', r1', r2']) rfl ⟨.slice a z cap, by rw [HRE.out]; rfl, by rw [HRE.out]; exact HI.out.stays HTR.out.below, HTR.out.below⟩
    | true =>
      rw [hnm] at C0
      have HRNG : Hid ((x < 0 ∨ 262144 < x + s.size) → writeD nameB ⟨fs, false, fuse⟩ n x s = (⟨fs, false, fuse⟩, 4)) := Lib.hid (fun hh => by unfold writeD; dsimp only; rw [if_neg (by simp), if_neg (by simp [hnm]), if_pos hh])
      have HGO : Hid (¬ (x < 0 ∨ 262144 < x + s.size) → writeD nameB ⟨fs, false, fuse⟩ n x s = if fullD ⟨fs, false, fuse⟩ n s then (⟨fs, false, fuse⟩, 9) else thenD ⟨fs, false, fuse⟩ (withF fs (wroteF ⟨fs, false, fuse⟩ n x s))) := Lib.hid (fun hh => by unfold writeD; dsimp only; rw [if_neg (by simp), if_neg (by simp [hnm]), if_neg hh])
      clear hnm
      by_cases c1 : x < 0
      · have d1 : decide (x < 0) = true := decide_eq_true c1
        have HRE := Lib.hid (HRNG.out (.inl c1))
        clear hr
        go_wp2_with fail
        refine C0.out.mono ?_
        rintro e w2' ⟨rfl, rfl⟩
        have HTR := Lib.hid (HT2.out.put1 (a' := .slice a z cap) (b' := .bool false) (c' := .int .i64 fuse))
        unfold putB at HTR
        go_wp2_with fail
        obtain ⟨_, ⟨r0', r1', r2'⟩, _, _⟩ := HTR.out.cells
        exact bodyPost_ret (v := .tuple #[.agg #[.slice a z cap, .bool false, .int .i64 fuse], .int .i64 4]) (by simp [results, Tryz.results15, go_sem, r0', r1', r2']) rfl ⟨.slice a z cap, by rw [HRE.out]; rfl, by rw [HRE.out]; exact HI.out.stays HTR.out.below, HTR.out.below⟩
      · have d1 : decide (x < 0) = false := decide_eq_false c1
        by_cases c2 : 262144 < x
        · have d2 : decide (262144 < x) = true := decide_eq_true c2
          have HRE := Lib.hid (HRNG.out (.inr (by omega)))
          clear hr
          go_wp2_with fail
          refine C0.out.mono ?_
          rintro e w2' ⟨rfl, rfl⟩
          have HTR := Lib.hid (HT2.out.put1 (a' := .slice a z cap) (b' := .bool false) (c' := .int .i64 fuse))
          unfold putB at HTR
          go_wp2_with fail
          obtain ⟨_, ⟨r0', r1', r2'⟩, _, _⟩ := HTR.out.cells
          exact bodyPost_ret (v := .tuple #[.agg #[.slice a z cap, .bool false, .int .i64 fuse], .int .i64 4]) (by simp [results, Tryz.results15, go_sem, r0', r1', r2']) rfl ⟨.slice a z cap, by rw [HRE.out]; rfl, by rw [HRE.out]; exact HI.out.stays HTR.out.below, HTR.out.below⟩
        · have d2 : decide (262144 < x) = false := decide_eq_false c2
          have hsub : IntKind.i64.wrap (262144 - x) = 262144 - x := IntWalk.i64_in _ (by omega)
          by_cases c3 : 262144 - x < (s.size : Int)
          · have d3 : decide (262144 - x < (s.size : Int)) = true := decide_eq_true c3
            have HRE := Lib.hid (HRNG.out (.inr (by omega)))
            clear hr
            go_wp2_with fail
            refine C0.out.mono ?_
            rintro e w2' ⟨rfl, rfl⟩
            have HTR := Lib.hid (HT2.out.put1 (a' := .slice a z cap) (b' := .bool false) (c' := .int .i64 fuse))
            unfold putB at HTR
            go_wp2_with fail
            obtain ⟨_, ⟨r0', r1', r2'⟩, _, _⟩ := HTR.out.cells
            exact bodyPost_ret (v := .tuple #[.agg #[.slice a z cap, .bool false, .int .i64 fuse], .int .i64 4]) (by simp [results, Tryz.results15, go_sem, r0', r1', r2']) rfl ⟨.slice a z cap, by rw [HRE.out]; rfl, by rw [HRE.out]; exact HI.out.stays HTR.out.below, HTR.out.below⟩
          · have d3 : decide (262144 - x < (s.size : Int)) = false := decide_eq_false c3
            have HGO2 := Lib.hid (HGO.out (by omega))
            rcases hr with ⟨k, hk, rfl, ht, hg⟩ | ⟨rfl, hg⟩
            · have hb0 : decide ((k : Int) < 0) = false := decide_eq_false (by omega)
              have hb1 : decide ((0 : Int) ≤ (k : Int)) = true := decide_eq_true (by omega)
              have HFU := Lib.hid (fullD_some_Dme (d := ⟨fs, false, fuse⟩) (n := n) (s := s) hg)
              have HWR := Lib.hid (wroteF_some (d := ⟨fs, false, fuse⟩) (n := n) hg x s)
              have HOLL := Lib.hid (HF.out.files _ (List.getElem_mem hk)).many
              have hkz : k < z := by have := HZ.out; omega
              obtain ⟨_, _, _, hev, _, hc⟩ := id HI.out
              rw [← HZ.out] at hev
              cases hev
              obtain ⟨b1, o1, rfl, hbl, g1⟩ := hc (by have := HZ.out; omega)
              obtain ⟨uv, q0, q1, q2, hu⟩ := g1 k hk
              obtain ⟨uu, uc, rfl⟩ := hu.len
              obtain ⟨uz, huz⟩ : ∃ uz, uz = (fs[k]'hk).ops.length := ⟨_, rfl⟩
              rw [← huz] at q2 hu
              obtain ⟨f, hfd⟩ : ∃ f, f = fs[k]'hk := ⟨_, rfl⟩
              rw [← hfd] at q0 q1 hu HFU HWR HOLL huz
              have HU := Lib.hid hu; have HUZ := Lib.hid huz
              have HOL : Hid (f.ops.length ≤ 1000) := Lib.hid (by have := HOLL.out; omega)
              have HQ0 := Lib.hid q0; have HQ1 := Lib.hid q1; have HQ2 := Lib.hid q2
              have qq2 := (HT2.out.below.cell (p := ⟨b1, o1 + k * 3 + 2, none⟩) hbl).trans HQ2.out
              clear hg ht g1 hc q0 q1 q2 hu hfd huz
              by_cases hse : s.size = 0
              · have hs0 := isE_yes hse
                have HRM : Hid (writeD nameB ⟨fs, false, fuse⟩ n x s = thenD ⟨fs, false, fuse⟩ (withF fs f)) := Lib.hid (by rw [HGO2.out, if_neg fun c => (HFU.out.1 c).1 hse, HWR.out, if_pos hse])
                clear hse qq2
                have C2 := Lib.hid (CW.out w2)
                go_wp2_with fail
                refine C0.out.mono ?_
                rintro e w2' ⟨rfl, rfl⟩
                go_wp2_with fail
                refine C2.out.mono ?_
                rintro e w3 ⟨rfl, hb3⟩
                have HT3 := Lib.hid (HT2.out.step hb3)
                clear hb3
                clear p0 p1 p2 r0 r1 r2 fz0 fz1
                obtain ⟨⟨p0, p1, p2⟩, ⟨r0, r1, r2⟩, fz0, fz1⟩ := HT3.out.cells
                have HPF := Lib.hid (powD_fs ⟨fs, false, fuse⟩)
                obtain ⟨pd, hpd⟩ : ∃ p, p = powD ⟨fs, false, fuse⟩ := ⟨_, rfl⟩
                rw [← hpd]
                have HPD := Lib.hid hpd
                clear hpd
                obtain ⟨⟨fs3, o3, f3⟩, pe⟩ := pd
                dsimp only at HPF HPD ⊢
                have hfs : fs3 = fs := by have := HPF.out; rw [← HPD.out] at this; exact this
                subst hfs
                by_cases hpe : pe = 0
                · subst hpe
                  have HRE : Hid (writeD nameB ⟨fs3, false, fuse⟩ n x s = (⟨withF fs3 f, o3, f3⟩, 0)) := Lib.hid (by rw [HRM.out, thenD_ok (by rw [← HPD.out]), ← HPD.out])
                  have HT4 := Lib.hid (HT3.out.put0 (a' := .slice (some ⟨b1, o1, none⟩) z cap) (b' := .bool o3) (c' := .int .i64 f3))
                  have hl3 := HT3.out.lt
                  have hl30 : w0.heap.size < w3.heap.size := by omega
                  unfold putB at HT4
                  have q0 := (HT4.out.below.cell (p := ⟨b1, o1 + k * 3, none⟩) hbl).trans HQ0.out
                  have q1 := (HT4.out.below.cell (p := ⟨b1, o1 + k * 3 + 1, none⟩) hbl).trans HQ1.out
                  have q2 := (HT4.out.below.cell (p := ⟨b1, o1 + k * 3 + 2, none⟩) hbl).trans HQ2.out
                  have hbl3 : b1 < w3.heap.size := by omega
                  go_wp2_with fail
                  obtain ⟨W4, hW4⟩ : ∃ W, W = (((w3.setCell ⟨w0.heap.size, 0, none⟩ (.slice (some ⟨b1, o1, none⟩) z cap)).setCell ⟨w0.heap.size, 1, none⟩ (.bool o3)).setCell ⟨w0.heap.size, 2, none⟩ (.int .i64 f3)).alloc (.cells #[.string f.n, .string f.d, .slice uu uz uc] 56) := ⟨_, rfl⟩
                  have HTW : Hid (TwoB w0 W4 #[.slice (some ⟨b1, o1, none⟩) z cap, .bool o3, .int .i64 f3] #[.slice none 0 0, .bool false, .int .i64 0]) := Lib.hid (by rw [hW4]; exact HT4.out.step ((Below.refl _ _).alloc (Nat.le_refl _) _))
                  have HRW : Hid (Row W4 w3.heap.size #[.string f.n, .string f.d, .slice uu uz uc] 56) := Lib.hid (by
                    rw [hW4]
                    have h0 := Row.made (((w3.setCell ⟨w0.heap.size, 0, none⟩ (.slice (some ⟨b1, o1, none⟩) z cap)).setCell ⟨w0.heap.size, 1, none⟩ (.bool o3)).setCell ⟨w0.heap.size, 2, none⟩ (.int .i64 f3)) #[.string f.n, .string f.d, .slice uu uz uc] 56
                    simpa using h0)
                  rw [← hW4]
                  clear hW4 p0 p1 p2 r0 r1 r2 fz0 fz1 q0 q1 q2
                  obtain ⟨⟨p0, p1, p2⟩, ⟨r0, r1, r2⟩, fz0, fz1⟩ := HTW.out.cells
                  have C4 := Lib.hid (CX.out W4 HTW.out.below f ⟨f.n, f.d, uu, uz, uc⟩ rfl)
                  go_wp2_with fail
                  refine C4.out.mono ?_
                  rintro e w5 ⟨v5, R, rfl, ho5, hr5, hb5⟩
                  have HT5 := Lib.hid (HTW.out.step hb5)
                  have HLT := Lib.hid HTW.out.lt
                  obtain ⟨a5, n5, c5, rfl⟩ := ho5.len
                  have HO5 := Lib.hid ho5; have HR5 := Lib.hid hr5
                  clear hb5 ho5 hr5
                  clear p0 p1 p2 r0 r1 r2 fz0 fz1
                  obtain ⟨⟨p0, p1, p2⟩, ⟨r0, r1, r2⟩, fz0, fz1⟩ := HT5.out.cells
                  have HT6 := Lib.hid ((HT5.out.set0 (a' := .slice a5 n5 c5)).put1 (a' := .slice a5 n5 c5) (b' := .bool o3) (c' := .int .i64 f3))
                  have HO6 := Lib.hid (ownD_put (x := .slice a5 n5 c5) (y := .bool o3) (z := .int .i64 f3) (ownD_set (i := 0) (u := .slice a5 n5 c5) HO5.out (show w0.heap.size < _ by have := HLT.out; omega)) (show w0.heap.size + 1 < _ from HLT.out))
                  have HFI : Hid (∀ r y, StW w0 ⟨f.n, f.d, uu, uz, uc⟩ f r y → RowF (putB (w5.setCell ⟨w0.heap.size, 0, none⟩ (.slice a5 n5 c5)) (w0.heap.size + 1) (.slice a5 n5 c5) (.bool o3) (.int .i64 f3)) r y) := Lib.hid (fun r y h => by
                    rcases h with h | ⟨h1, h2⟩
                    · exact h.stays HT6.out.below
                    · rw [h1, h2]; exact (show RowF w0 ⟨f.n, f.d, uu, uz, uc⟩ f from ⟨rfl, rfl, HU.out⟩).stays HT6.out.below)
                  unfold putB at HT6 HO6 HFI
                  go_wp2_with fail
                  obtain ⟨_, ⟨r0', r1', r2'⟩, _, _⟩ := HT6.out.cells
                  exact bodyPost_ret (v := .tuple #[.agg #[.slice a5 n5 c5, .bool o3, .int .i64 f3], .int .i64 0]) (by simp [results, Tryz.results15, go_sem, r0', r1', r2']) rfl ⟨.slice a5 n5 c5, by rw [HRE.out]; rfl, by rw [HRE.out]; exact HO6.out.is HR5.out HFI.out, HT6.out.below⟩
                · have HRE : Hid (writeD nameB ⟨fs3, false, fuse⟩ n x s = (⟨fs3, o3, f3⟩, pe)) := Lib.hid (by rw [HRM.out, thenD_bad (by rw [← HPD.out]; exact hpe), ← HPD.out])
                  have e0 : (pe == 0) = false := by simpa using hpe
                  have HT4 := Lib.hid ((HT3.out.put0 (a' := .slice (some ⟨b1, o1, none⟩) z cap) (b' := .bool o3) (c' := .int .i64 f3)).put1 (a' := .slice (some ⟨b1, o1, none⟩) z cap) (b' := .bool o3) (c' := .int .i64 f3))
                  unfold putB at HT4
                  clear hbl
                  go_wp2_with fail
                  obtain ⟨_, ⟨r0', r1', r2'⟩, _, _⟩ := HT4.out.cells
                  exact bodyPost_ret (v := .tuple #[.agg #[.slice (some ⟨b1, o1, none⟩) z cap, .bool o3, .int .i64 f3], .int .i64 pe]) (by simp [results, Tryz.results15, go_sem, r0', r1', r2']) rfl ⟨.slice (some ⟨b1, o1, none⟩) z cap, by rw [HRE.out]; rfl, by rw [HRE.out]; exact HI.out.stays HT4.out.below, HT4.out.below⟩
              · have hs0 := isE_no hse
                by_cases h200 : 200 ≤ uz
                · have hz2 : decide ((200 : Int) ≤ (uz : Int)) = true := decide_eq_true (by omega)
                  have HRE : Hid (writeD nameB ⟨fs, false, fuse⟩ n x s = (⟨fs, false, fuse⟩, 9)) := Lib.hid (by rw [HGO2.out, if_pos (HFU.out.2 ⟨hse, by rw [← HUZ.out]; exact h200⟩)])
                  clear hse
                  go_wp2_with fail
                  refine C0.out.mono ?_
                  rintro e w2' ⟨rfl, rfl⟩
                  clear hbl
                  have HTR := Lib.hid (HT2.out.put1 (a' := .slice (some ⟨b1, o1, none⟩) z cap) (b' := .bool false) (c' := .int .i64 fuse))
                  unfold putB at HTR
                  go_wp2_with fail
                  obtain ⟨_, ⟨r0', r1', r2'⟩, _, _⟩ := HTR.out.cells
                  exact bodyPost_ret (v := .tuple #[.agg #[.slice (some ⟨b1, o1, none⟩) z cap, .bool false, .int .i64 fuse], .int .i64 9]) (by simp [results, Tryz.results15, go_sem, r0', r1', r2']) rfl ⟨.slice (some ⟨b1, o1, none⟩) z cap, by rw [HRE.out]; rfl, by rw [HRE.out]; exact HI.out.stays HTR.out.below, HTR.out.below⟩
                · have hz2 : decide ((200 : Int) ≤ (uz : Int)) = false := decide_eq_false (by omega)
                  have HRM : Hid (writeD nameB ⟨fs, false, fuse⟩ n x s = thenD ⟨fs, false, fuse⟩ (withF fs ⟨f.n, f.d, f.ops ++ [⟨x, s⟩]⟩)) := Lib.hid (by rw [HGO2.out, if_neg (fun c => h200 (by rw [HUZ.out]; exact (HFU.out.1 c).2)), HWR.out, if_neg hse])
                  clear hse h200
                  have C2 := Lib.hid (CW.out w2)
                  go_wp2_with fail
                  refine C0.out.mono ?_
                  rintro e w2' ⟨rfl, rfl⟩
                  go_wp2_with fail
                  refine C2.out.mono ?_
                  rintro e w3 ⟨rfl, hb3⟩
                  have HT3 := Lib.hid (HT2.out.step hb3)
                  clear hb3
                  clear p0 p1 p2 r0 r1 r2 fz0 fz1
                  obtain ⟨⟨p0, p1, p2⟩, ⟨r0, r1, r2⟩, fz0, fz1⟩ := HT3.out.cells
                  have HPF := Lib.hid (powD_fs ⟨fs, false, fuse⟩)
                  obtain ⟨pd, hpd⟩ : ∃ p, p = powD ⟨fs, false, fuse⟩ := ⟨_, rfl⟩
                  rw [← hpd]
                  have HPD := Lib.hid hpd
                  clear hpd
                  obtain ⟨⟨fs3, o3, f3⟩, pe⟩ := pd
                  dsimp only at HPF HPD ⊢
                  have hfs : fs3 = fs := by have := HPF.out; rw [← HPD.out] at this; exact this
                  subst hfs
                  by_cases hpe : pe = 0
                  · subst hpe
                    have HRE : Hid (writeD nameB ⟨fs3, false, fuse⟩ n x s = (⟨withF fs3 ⟨f.n, f.d, f.ops ++ [⟨x, s⟩]⟩, o3, f3⟩, 0)) := Lib.hid (by rw [HRM.out, thenD_ok (by rw [← HPD.out]), ← HPD.out])
                    have HT4 := Lib.hid (HT3.out.put0 (a' := .slice (some ⟨b1, o1, none⟩) z cap) (b' := .bool o3) (c' := .int .i64 f3))
                    have hl3 := HT3.out.lt
                    have hl30 : w0.heap.size < w3.heap.size := by omega
                    unfold putB at HT4
                    have q0 := (HT4.out.below.cell (p := ⟨b1, o1 + k * 3, none⟩) hbl).trans HQ0.out
                    have q1 := (HT4.out.below.cell (p := ⟨b1, o1 + k * 3 + 1, none⟩) hbl).trans HQ1.out
                    have q2 := (HT4.out.below.cell (p := ⟨b1, o1 + k * 3 + 2, none⟩) hbl).trans HQ2.out
                    have hbl3 : b1 < w3.heap.size := by omega
                    have HTW : Hid (TwoB w0 ((((w3.setCell ⟨w0.heap.size, 0, none⟩ (.slice (some ⟨b1, o1, none⟩) z cap)).setCell ⟨w0.heap.size, 1, none⟩ (.bool o3)).setCell ⟨w0.heap.size, 2, none⟩ (.int .i64 f3)).alloc (.cells #[.string f.n, .string f.d, .slice uu uz uc] 56)) #[.slice (some ⟨b1, o1, none⟩) z cap, .bool o3, .int .i64 f3] #[.slice none 0 0, .bool false, .int .i64 0]) := Lib.hid (HT4.out.step ((Below.refl _ _).alloc (Nat.le_refl _) _))
                    have HRW : Hid (Row ((((w3.setCell ⟨w0.heap.size, 0, none⟩ (.slice (some ⟨b1, o1, none⟩) z cap)).setCell ⟨w0.heap.size, 1, none⟩ (.bool o3)).setCell ⟨w0.heap.size, 2, none⟩ (.int .i64 f3)).alloc (.cells #[.string f.n, .string f.d, .slice uu uz uc] 56)) w3.heap.size #[.string f.n, .string f.d, .slice uu uz uc] 56) := Lib.hid (by
                      have h0 := Row.made (((w3.setCell ⟨w0.heap.size, 0, none⟩ (.slice (some ⟨b1, o1, none⟩) z cap)).setCell ⟨w0.heap.size, 1, none⟩ (.bool o3)).setCell ⟨w0.heap.size, 2, none⟩ (.int .i64 f3)) #[.string f.n, .string f.d, .slice uu uz uc] 56
                      simpa using h0)
                    go_wp2_with (at_builtin; refine wpList_append_dops (B := w3.heap.size + 1) (L := f.ops) rfl _ _ rfl (ownP15_nil _ _) (by simp) (HU.out.stays HTW.out.below) rfl rfl (by have := HOL.out; simp; omega) ?_)
                    intro v6 w6 ho6 hb6
                    have HO6 := Lib.hid ho6
                    have HT6 := Lib.hid (TwoB.mk (HTW.out.box.below hb6 (by omega)) (HTW.out.res.below hb6 (by omega)) (HTW.out.below.trans (hb6.mono (by omega))))
                    have HRX := Lib.hid (HRW.out.below hb6 (by omega))
                    have HZ6 : Hid (w3.heap.size + 1 ≤ w6.heap.size) := Lib.hid (by have h := hb6.size; simpa using h)
                    clear ho6 hb6 p0 p1 p2 r0 r1 r2 fz0 fz1 q0 q1 q2
                    obtain ⟨⟨p0, p1, p2⟩, ⟨r0, r1, r2⟩, fz0, fz1⟩ := HT6.out.cells
                    have m0 := HRX.out.cell 0; have m1 := HRX.out.cell 1; have m2 := HRX.out.cell 2
                    simp only [List.getElem?_toArray, List.getElem?_cons_zero, List.getElem?_cons_succ] at m0 m1 m2
                    have fzm := fun i => HRX.out.free i
                    obtain ⟨a6, n6, c6, hv6⟩ := HO6.out.len
                    subst hv6
                    go_wp2_with (at_builtin; refine wpList_append_dop_b (y := ⟨x, s⟩) rfl _ _ rfl HO6.out HZ6.out rfl rfl (by have := HOL.out; simp; omega) ?_)
                    intro v7 w7 ho7 hb7
                    have HT7 := Lib.hid (TwoB.mk (HT6.out.box.below hb7 (by omega)) (HT6.out.res.below hb7 (by omega)) (HT6.out.below.trans (hb7.mono (by omega))))
                    have HRY := Lib.hid (HRX.out.below hb7 (by omega))
                    obtain ⟨a7, n7, c7, rfl⟩ := ho7.len
                    have HO7 := Lib.hid ho7
                    clear ho7 hb7 m0 m1 m2 fzm p0 p1 p2 r0 r1 r2 fz0 fz1
                    obtain ⟨⟨p0, p1, p2⟩, ⟨r0, r1, r2⟩, fz0, fz1⟩ := HT7.out.cells
                    have m0 := HRY.out.cell 0; have m1 := HRY.out.cell 1; have m2 := HRY.out.cell 2
                    simp only [List.getElem?_toArray, List.getElem?_cons_zero, List.getElem?_cons_succ] at m0 m1 m2
                    have fzm := fun i => HRY.out.free i
                    have HT8 := Lib.hid (HT7.out.other (i := 2) (u := .slice a7 n7 c7) hl3)
                    have HO8 := Lib.hid (ownP_set (b := w3.heap.size) (i := 2) (u := .slice a7 n7 c7) HO7.out (by omega))
                    have HRZ : Hid (Row (w7.setCell ⟨w3.heap.size, 2, none⟩ (.slice a7 n7 c7)) w3.heap.size #[.string f.n, .string f.d, .slice a7 n7 c7] 56) := Lib.hid (by have := HRY.out.set 2 (.slice a7 n7 c7); exact this)
                    have C4 := Lib.hid (CX.out (w7.setCell ⟨w3.heap.size, 2, none⟩ (.slice a7 n7 c7)) HT8.out.below ⟨f.n, f.d, f.ops ++ [⟨x, s⟩]⟩ ⟨f.n, f.d, a7, n7, c7⟩ rfl)
                    go_wp2_with fail
                    refine C4.out.mono ?_
                    rintro e w9 ⟨v5, R, rfl, ho5, hr5, hb5⟩
                    have HT9 := Lib.hid (HT8.out.step hb5)
                    have HO9 := Lib.hid (HO8.out.stays hb5)
                    have HLT := Lib.hid HT8.out.lt
                    obtain ⟨a5, n5, c5, rfl⟩ := ho5.len
                    have HO5 := Lib.hid ho5; have HR5 := Lib.hid hr5
                    clear hb5 ho5 hr5 m0 m1 m2 fzm p0 p1 p2 r0 r1 r2 fz0 fz1
                    obtain ⟨⟨p0, p1, p2⟩, ⟨r0, r1, r2⟩, fz0, fz1⟩ := HT9.out.cells
                    have HTX := Lib.hid ((HT9.out.set0 (a' := .slice a5 n5 c5)).put1 (a' := .slice a5 n5 c5) (b' := .bool o3) (c' := .int .i64 f3))
                    have HOX := Lib.hid (ownD_put (x := .slice a5 n5 c5) (y := .bool o3) (z := .int .i64 f3) (ownD_set (i := 0) (u := .slice a5 n5 c5) HO5.out (show w0.heap.size < _ by have := HLT.out; omega)) (show w0.heap.size + 1 < _ from HLT.out))
                    have HPX := Lib.hid (ownP_put (x := .slice a5 n5 c5) (y := .bool o3) (z := .int .i64 f3) (ownP_set (i := 0) (u := .slice a5 n5 c5) HO9.out (show w0.heap.size < _ by omega)) (show w0.heap.size + 1 < _ by omega))
                    have HFI : Hid (∀ r y, StW w0 ⟨f.n, f.d, a7, n7, c7⟩ ⟨f.n, f.d, f.ops ++ [⟨x, s⟩]⟩ r y → RowF (putB (w9.setCell ⟨w0.heap.size, 0, none⟩ (.slice a5 n5 c5)) (w0.heap.size + 1) (.slice a5 n5 c5) (.bool o3) (.int .i64 f3)) r y) := Lib.hid (fun r y h => by
                      rcases h with h | ⟨h1, h2⟩
                      · exact h.stays HTX.out.below
                      · rw [h1, h2]; exact ⟨rfl, rfl, HPX.out.is⟩)
                    unfold putB at HTX HOX HFI
                    clear HPX
                    go_wp2_with fail
                    obtain ⟨_, ⟨r0', r1', r2'⟩, _, _⟩ := HTX.out.cells
                    exact bodyPost_ret (v := .tuple #[.agg #[.slice a5 n5 c5, .bool o3, .int .i64 f3], .int .i64 0]) (by simp [results, Tryz.results15, go_sem, r0', r1', r2']) rfl ⟨.slice a5 n5 c5, by rw [HRE.out]; rfl, by rw [HRE.out]; exact HOX.out.is HR5.out HFI.out, HTX.out.below⟩
                  · have HRE : Hid (writeD nameB ⟨fs3, false, fuse⟩ n x s = (⟨fs3, o3, f3⟩, pe)) := Lib.hid (by rw [HRM.out, thenD_bad (by rw [← HPD.out]; exact hpe), ← HPD.out])
                    have e0 : (pe == 0) = false := by simpa using hpe
                    have HT4 := Lib.hid ((HT3.out.put0 (a' := .slice (some ⟨b1, o1, none⟩) z cap) (b' := .bool o3) (c' := .int .i64 f3)).put1 (a' := .slice (some ⟨b1, o1, none⟩) z cap) (b' := .bool o3) (c' := .int .i64 f3))
                    unfold putB at HT4
                    clear hbl
                    go_wp2_with fail
                    obtain ⟨_, ⟨r0', r1', r2'⟩, _, _⟩ := HT4.out.cells
                    exact bodyPost_ret (v := .tuple #[.agg #[.slice (some ⟨b1, o1, none⟩) z cap, .bool o3, .int .i64 f3], .int .i64 pe]) (by simp [results, Tryz.results15, go_sem, r0', r1', r2']) rfl ⟨.slice (some ⟨b1, o1, none⟩) z cap, by rw [HRE.out]; rfl, by rw [HRE.out]; exact HI.out.stays HT4.out.below, HT4.out.below⟩
            · have HFU := Lib.hid (fullD_new (d := ⟨fs, false, fuse⟩) (n := n) (s := s) hg)
              have HWR := Lib.hid (wroteF_new (d := ⟨fs, false, fuse⟩) (n := n) hg x s)
              clear hg
              by_cases h8 : 8 ≤ z
              · have hz2 : decide ((8 : Int) ≤ (z : Int)) = true := decide_eq_true (by omega)
                have HRE : Hid (writeD nameB ⟨fs, false, fuse⟩ n x s = (⟨fs, false, fuse⟩, 9)) := Lib.hid (by rw [HGO2.out, if_pos (HFU.out.2 (show 8 ≤ fs.length by have := HZ.out; omega))])
                go_wp2_with fail
                refine C0.out.mono ?_
                rintro e w2' ⟨rfl, rfl⟩
                have HTR := Lib.hid (HT2.out.put1 (a' := .slice a z cap) (b' := .bool false) (c' := .int .i64 fuse))
                unfold putB at HTR
                go_wp2_with fail
                obtain ⟨_, ⟨r0', r1', r2'⟩, _, _⟩ := HTR.out.cells
                exact bodyPost_ret (v := .tuple #[.agg #[.slice a z cap, .bool false, .int .i64 fuse], .int .i64 9]) (by simp [results, Tryz.results15, go_sem, r0', r1', r2']) rfl ⟨.slice a z cap, by rw [HRE.out]; rfl, by rw [HRE.out]; exact HI.out.stays HTR.out.below, HTR.out.below⟩
              · have hz2 : decide ((8 : Int) ≤ (z : Int)) = false := decide_eq_false (by omega)
                have HNF : Hid (¬ fullD ⟨fs, false, fuse⟩ n s) := Lib.hid (fun c => h8 (by have h9 : 8 ≤ fs.length := HFU.out.1 c; have := HZ.out; omega))
                by_cases hse : s.size = 0
                · have hs0 := isE_yes hse
                  have HRM : Hid (writeD nameB ⟨fs, false, fuse⟩ n x s = thenD ⟨fs, false, fuse⟩ (withF fs ⟨n, ⟨#[]⟩, []⟩)) := Lib.hid (by rw [HGO2.out, if_neg HNF.out, HWR.out, if_pos hse])
                  clear hse
                  have C2 := Lib.hid (CW.out w2)
                  go_wp2_with fail
                  refine C0.out.mono ?_
                  rintro e w2' ⟨rfl, rfl⟩
                  go_wp2_with fail
                  refine C2.out.mono ?_
                  rintro e w3 ⟨rfl, hb3⟩
                  have HT3 := Lib.hid (HT2.out.step hb3)
                  clear hb3
                  clear p0 p1 p2 r0 r1 r2 fz0 fz1
                  obtain ⟨⟨p0, p1, p2⟩, ⟨r0, r1, r2⟩, fz0, fz1⟩ := HT3.out.cells
                  have HPF := Lib.hid (powD_fs ⟨fs, false, fuse⟩)
                  obtain ⟨pd, hpd⟩ : ∃ p, p = powD ⟨fs, false, fuse⟩ := ⟨_, rfl⟩
                  rw [← hpd]
                  have HPD := Lib.hid hpd
                  clear hpd
                  obtain ⟨⟨fs3, o3, f3⟩, pe⟩ := pd
                  dsimp only at HPF HPD ⊢
                  have hfs : fs3 = fs := by have := HPF.out; rw [← HPD.out] at this; exact this
                  subst hfs
                  by_cases hpe : pe = 0
                  · subst hpe
                    have HRE : Hid (writeD nameB ⟨fs3, false, fuse⟩ n x s = (⟨withF fs3 ⟨n, ⟨#[]⟩, []⟩, o3, f3⟩, 0)) := Lib.hid (by rw [HRM.out, thenD_ok (by rw [← HPD.out]), ← HPD.out])
                    have HT4 := Lib.hid (HT3.out.put0 (a' := .slice a z cap) (b' := .bool o3) (c' := .int .i64 f3))
                    have hl3 := HT3.out.lt
                    have hl30 : w0.heap.size < w3.heap.size := by omega
                    unfold putB at HT4
                    go_wp2_with fail
                    obtain ⟨W4, hW4⟩ : ∃ W, W = (((w3.setCell ⟨w0.heap.size, 0, none⟩ (.slice a z cap)).setCell ⟨w0.heap.size, 1, none⟩ (.bool o3)).setCell ⟨w0.heap.size, 2, none⟩ (.int .i64 f3)).alloc (.cells #[.string n, .string ⟨#[]⟩, .slice none 0 0] 56) := ⟨_, rfl⟩
                    have HTW : Hid (TwoB w0 W4 #[.slice a z cap, .bool o3, .int .i64 f3] #[.slice none 0 0, .bool false, .int .i64 0]) := Lib.hid (by rw [hW4]; exact HT4.out.step ((Below.refl _ _).alloc (Nat.le_refl _) _))
                    have HRW : Hid (Row W4 w3.heap.size #[.string n, .string ⟨#[]⟩, .slice none 0 0] 56) := Lib.hid (by
                      rw [hW4]
                      have h0 := Row.made (((w3.setCell ⟨w0.heap.size, 0, none⟩ (.slice a z cap)).setCell ⟨w0.heap.size, 1, none⟩ (.bool o3)).setCell ⟨w0.heap.size, 2, none⟩ (.int .i64 f3)) #[.string n, .string ⟨#[]⟩, .slice none 0 0] 56
                      simpa using h0)
                    rw [← hW4]
                    clear hW4 p0 p1 p2 r0 r1 r2 fz0 fz1
                    obtain ⟨⟨p0, p1, p2⟩, ⟨r0, r1, r2⟩, fz0, fz1⟩ := HTW.out.cells
                    have C4 := Lib.hid (CX.out W4 HTW.out.below ⟨n, ⟨#[]⟩, []⟩ ⟨n, ⟨#[]⟩, none, 0, 0⟩ rfl)
                    go_wp2_with fail
                    refine C4.out.mono ?_
                    rintro e w5 ⟨v5, R, rfl, ho5, hr5, hb5⟩
                    have HT5 := Lib.hid (HTW.out.step hb5)
                    have HLT := Lib.hid HTW.out.lt
                    obtain ⟨a5, n5, c5, rfl⟩ := ho5.len
                    have HO5 := Lib.hid ho5; have HR5 := Lib.hid hr5
                    clear hb5 ho5 hr5
                    clear p0 p1 p2 r0 r1 r2 fz0 fz1
                    obtain ⟨⟨p0, p1, p2⟩, ⟨r0, r1, r2⟩, fz0, fz1⟩ := HT5.out.cells
                    have HT6 := Lib.hid ((HT5.out.set0 (a' := .slice a5 n5 c5)).put1 (a' := .slice a5 n5 c5) (b' := .bool o3) (c' := .int .i64 f3))
                    have HO6 := Lib.hid (ownD_put (x := .slice a5 n5 c5) (y := .bool o3) (z := .int .i64 f3) (ownD_set (i := 0) (u := .slice a5 n5 c5) HO5.out (show w0.heap.size < _ by have := HLT.out; omega)) (show w0.heap.size + 1 < _ from HLT.out))
                    have HFI : Hid (∀ r y, StW w0 ⟨n, ⟨#[]⟩, none, 0, 0⟩ ⟨n, ⟨#[]⟩, []⟩ r y → RowF (putB (w5.setCell ⟨w0.heap.size, 0, none⟩ (.slice a5 n5 c5)) (w0.heap.size + 1) (.slice a5 n5 c5) (.bool o3) (.int .i64 f3)) r y) := Lib.hid (fun r y h => by
                      rcases h with h | ⟨h1, h2⟩
                      · exact h.stays HT6.out.below
                      · rw [h1, h2]; exact (show RowF w0 ⟨n, ⟨#[]⟩, none, 0, 0⟩ ⟨n, ⟨#[]⟩, []⟩ from ⟨rfl, rfl, ops_nil _⟩).stays HT6.out.below)
                    unfold putB at HT6 HO6 HFI
                    go_wp2_with fail
                    obtain ⟨_, ⟨r0', r1', r2'⟩, _, _⟩ := HT6.out.cells
                    exact bodyPost_ret (v := .tuple #[.agg #[.slice a5 n5 c5, .bool o3, .int .i64 f3], .int .i64 0]) (by simp [results, Tryz.results15, go_sem, r0', r1', r2']) rfl ⟨.slice a5 n5 c5, by rw [HRE.out]; rfl, by rw [HRE.out]; exact HO6.out.is HR5.out HFI.out, HT6.out.below⟩
                  · have HRE : Hid (writeD nameB ⟨fs3, false, fuse⟩ n x s = (⟨fs3, o3, f3⟩, pe)) := Lib.hid (by rw [HRM.out, thenD_bad (by rw [← HPD.out]; exact hpe), ← HPD.out])
                    have e0 : (pe == 0) = false := by simpa using hpe
                    have HT4 := Lib.hid ((HT3.out.put0 (a' := .slice a z cap) (b' := .bool o3) (c' := .int .i64 f3)).put1 (a' := .slice a z cap) (b' := .bool o3) (c' := .int .i64 f3))
                    unfold putB at HT4
                    go_wp2_with fail
                    obtain ⟨_, ⟨r0', r1', r2'⟩, _, _⟩ := HT4.out.cells
                    exact bodyPost_ret (v := .tuple #[.agg #[.slice a z cap, .bool o3, .int .i64 f3], .int .i64 pe]) (by simp [results, Tryz.results15, go_sem, r0', r1', r2']) rfl ⟨.slice a z cap, by rw [HRE.out]; rfl, by rw [HRE.out]; exact HI.out.stays HT4.out.below, HT4.out.below⟩
                · have hs0 := isE_no hse
                  have HRM : Hid (writeD nameB ⟨fs, false, fuse⟩ n x s = thenD ⟨fs, false, fuse⟩ (withF fs ⟨n, ⟨#[]⟩, [] ++ [⟨x, s⟩]⟩)) := Lib.hid (by rw [HGO2.out, if_neg HNF.out, HWR.out, if_neg hse])
                  clear hse
                  have C2 := Lib.hid (CW.out w2)
                  go_wp2_with fail
                  refine C0.out.mono ?_
                  rintro e w2' ⟨rfl, rfl⟩
                  go_wp2_with fail
                  refine C2.out.mono ?_
                  rintro e w3 ⟨rfl, hb3⟩
                  have HT3 := Lib.hid (HT2.out.step hb3)
                  clear hb3
                  clear p0 p1 p2 r0 r1 r2 fz0 fz1
                  obtain ⟨⟨p0, p1, p2⟩, ⟨r0, r1, r2⟩, fz0, fz1⟩ := HT3.out.cells
                  have HPF := Lib.hid (powD_fs ⟨fs, false, fuse⟩)
                  obtain ⟨pd, hpd⟩ : ∃ p, p = powD ⟨fs, false, fuse⟩ := ⟨_, rfl⟩
                  rw [← hpd]
                  have HPD := Lib.hid hpd
                  clear hpd
                  obtain ⟨⟨fs3, o3, f3⟩, pe⟩ := pd
                  dsimp only at HPF HPD ⊢
                  have hfs : fs3 = fs := by have := HPF.out; rw [← HPD.out] at this; exact this
                  subst hfs
                  by_cases hpe : pe = 0
                  · subst hpe
                    have HRE : Hid (writeD nameB ⟨fs3, false, fuse⟩ n x s = (⟨withF fs3 ⟨n, ⟨#[]⟩, [] ++ [⟨x, s⟩]⟩, o3, f3⟩, 0)) := Lib.hid (by rw [HRM.out, thenD_ok (by rw [← HPD.out]), ← HPD.out])
                    have HT4 := Lib.hid (HT3.out.put0 (a' := .slice a z cap) (b' := .bool o3) (c' := .int .i64 f3))
                    have hl3 := HT3.out.lt
                    have hl30 : w0.heap.size < w3.heap.size := by omega
                    unfold putB at HT4
                    have HTW : Hid (TwoB w0 ((((w3.setCell ⟨w0.heap.size, 0, none⟩ (.slice a z cap)).setCell ⟨w0.heap.size, 1, none⟩ (.bool o3)).setCell ⟨w0.heap.size, 2, none⟩ (.int .i64 f3)).alloc (.cells #[.string n, .string ⟨#[]⟩, .slice none 0 0] 56)) #[.slice a z cap, .bool o3, .int .i64 f3] #[.slice none 0 0, .bool false, .int .i64 0]) := Lib.hid (HT4.out.step ((Below.refl _ _).alloc (Nat.le_refl _) _))
                    have HRW : Hid (Row ((((w3.setCell ⟨w0.heap.size, 0, none⟩ (.slice a z cap)).setCell ⟨w0.heap.size, 1, none⟩ (.bool o3)).setCell ⟨w0.heap.size, 2, none⟩ (.int .i64 f3)).alloc (.cells #[.string n, .string ⟨#[]⟩, .slice none 0 0] 56)) w3.heap.size #[.string n, .string ⟨#[]⟩, .slice none 0 0] 56) := Lib.hid (by
                      have h0 := Row.made (((w3.setCell ⟨w0.heap.size, 0, none⟩ (.slice a z cap)).setCell ⟨w0.heap.size, 1, none⟩ (.bool o3)).setCell ⟨w0.heap.size, 2, none⟩ (.int .i64 f3)) #[.string n, .string ⟨#[]⟩, .slice none 0 0] 56
                      simpa using h0)
                    go_wp2_with (at_builtin; refine wpList_append_dops (B := w3.heap.size + 1) (L := []) rfl _ _ rfl (ownP15_nil _ _) (by simp) (ops_nil _) rfl rfl (by simp) ?_)
                    intro v6 w6 ho6 hb6
                    have HO6 := Lib.hid ho6
                    have HT6 := Lib.hid (TwoB.mk (HTW.out.box.below hb6 (by omega)) (HTW.out.res.below hb6 (by omega)) (HTW.out.below.trans (hb6.mono (by omega))))
                    have HRX := Lib.hid (HRW.out.below hb6 (by omega))
                    have HZ6 : Hid (w3.heap.size + 1 ≤ w6.heap.size) := Lib.hid (by have h := hb6.size; simpa using h)
                    clear ho6 hb6 p0 p1 p2 r0 r1 r2 fz0 fz1
                    obtain ⟨⟨p0, p1, p2⟩, ⟨r0, r1, r2⟩, fz0, fz1⟩ := HT6.out.cells
                    have m0 := HRX.out.cell 0; have m1 := HRX.out.cell 1; have m2 := HRX.out.cell 2
                    simp only [List.getElem?_toArray, List.getElem?_cons_zero, List.getElem?_cons_succ] at m0 m1 m2
                    have fzm := fun i => HRX.out.free i
                    obtain ⟨a6, n6, c6, hv6⟩ := HO6.out.len
                    subst hv6
                    go_wp2_with (at_builtin; refine wpList_append_dop_b (y := ⟨x, s⟩) rfl _ _ rfl HO6.out HZ6.out rfl rfl (by simp) ?_)
                    intro v7 w7 ho7 hb7
                    have HT7 := Lib.hid (TwoB.mk (HT6.out.box.below hb7 (by omega)) (HT6.out.res.below hb7 (by omega)) (HT6.out.below.trans (hb7.mono (by omega))))
                    have HRY := Lib.hid (HRX.out.below hb7 (by omega))
                    obtain ⟨a7, n7, c7, rfl⟩ := ho7.len
                    have HO7 := Lib.hid ho7
                    clear ho7 hb7 m0 m1 m2 fzm p0 p1 p2 r0 r1 r2 fz0 fz1
                    obtain ⟨⟨p0, p1, p2⟩, ⟨r0, r1, r2⟩, fz0, fz1⟩ := HT7.out.cells
                    have m0 := HRY.out.cell 0; have m1 := HRY.out.cell 1; have m2 := HRY.out.cell 2
                    simp only [List.getElem?_toArray, List.getElem?_cons_zero, List.getElem?_cons_succ] at m0 m1 m2
                    have fzm := fun i => HRY.out.free i
                    have HT8 := Lib.hid (HT7.out.other (i := 2) (u := .slice a7 n7 c7) hl3)
                    have HO8 := Lib.hid (ownP_set (b := w3.heap.size) (i := 2) (u := .slice a7 n7 c7) HO7.out (by omega))
                    have HRZ : Hid (Row (w7.setCell ⟨w3.heap.size, 2, none⟩ (.slice a7 n7 c7)) w3.heap.size #[.string n, .string ⟨#[]⟩, .slice a7 n7 c7] 56) := Lib.hid (by have := HRY.out.set 2 (.slice a7 n7 c7); exact this)
                    have C4 := Lib.hid (CX.out (w7.setCell ⟨w3.heap.size, 2, none⟩ (.slice a7 n7 c7)) HT8.out.below ⟨n, ⟨#[]⟩, [] ++ [⟨x, s⟩]⟩ ⟨n, ⟨#[]⟩, a7, n7, c7⟩ rfl)
                    go_wp2_with fail
                    refine C4.out.mono ?_
                    rintro e w9 ⟨v5, R, rfl, ho5, hr5, hb5⟩
                    have HT9 := Lib.hid (HT8.out.step hb5)
                    have HO9 := Lib.hid (HO8.out.stays hb5)
                    have HLT := Lib.hid HT8.out.lt
                    obtain ⟨a5, n5, c5, rfl⟩ := ho5.len
                    have HO5 := Lib.hid ho5; have HR5 := Lib.hid hr5
                    clear hb5 ho5 hr5 m0 m1 m2 fzm p0 p1 p2 r0 r1 r2 fz0 fz1
                    obtain ⟨⟨p0, p1, p2⟩, ⟨r0, r1, r2⟩, fz0, fz1⟩ := HT9.out.cells
                    have HTX := Lib.hid ((HT9.out.set0 (a' := .slice a5 n5 c5)).put1 (a' := .slice a5 n5 c5) (b' := .bool o3) (c' := .int .i64 f3))
                    have HOX := Lib.hid (ownD_put (x := .slice a5 n5 c5) (y := .bool o3) (z := .int .i64 f3) (ownD_set (i := 0) (u := .slice a5 n5 c5) HO5.out (show w0.heap.size < _ by have := HLT.out; omega)) (show w0.heap.size + 1 < _ from HLT.out))
                    have HPX := Lib.hid (ownP_put (x := .slice a5 n5 c5) (y := .bool o3) (z := .int .i64 f3) (ownP_set (i := 0) (u := .slice a5 n5 c5) HO9.out (show w0.heap.size < _ by omega)) (show w0.heap.size + 1 < _ by omega))
                    have HFI : Hid (∀ r y, StW w0 ⟨n, ⟨#[]⟩, a7, n7, c7⟩ ⟨n, ⟨#[]⟩, [] ++ [⟨x, s⟩]⟩ r y → RowF (putB (w9.setCell ⟨w0.heap.size, 0, none⟩ (.slice a5 n5 c5)) (w0.heap.size + 1) (.slice a5 n5 c5) (.bool o3) (.int .i64 f3)) r y) := Lib.hid (fun r y h => by
                      rcases h with h | ⟨h1, h2⟩
                      · exact h.stays HTX.out.below
                      · rw [h1, h2]; exact ⟨rfl, rfl, HPX.out.is⟩)
                    unfold putB at HTX HOX HFI
                    clear HPX
                    go_wp2_with fail
                    obtain ⟨_, ⟨r0', r1', r2'⟩, _, _⟩ := HTX.out.cells
                    exact bodyPost_ret (v := .tuple #[.agg #[.slice a5 n5 c5, .bool o3, .int .i64 f3], .int .i64 0]) (by simp [results, Tryz.results15, go_sem, r0', r1', r2']) rfl ⟨.slice a5 n5 c5, by rw [HRE.out]; rfl, by rw [HRE.out]; exact HOX.out.is HR5.out HFI.out, HTX.out.below⟩
                  · have HRE : Hid (writeD nameB ⟨fs3, false, fuse⟩ n x s = (⟨fs3, o3, f3⟩, pe)) := Lib.hid (by rw [HRM.out, thenD_bad (by rw [← HPD.out]; exact hpe), ← HPD.out])
                    have e0 : (pe == 0) = false := by simpa using hpe
                    have HT4 := Lib.hid ((HT3.out.put0 (a' := .slice a z cap) (b' := .bool o3) (c' := .int .i64 f3)).put1 (a' := .slice a z cap) (b' := .bool o3) (c' := .int .i64 f3))
                    unfold putB at HT4
                    go_wp2_with fail
                    obtain ⟨_, ⟨r0', r1', r2'⟩, _, _⟩ := HT4.out.cells
                    exact bodyPost_ret (v := .tuple #[.agg #[.slice a z cap, .bool o3, .int .i64 f3], .int .i64 pe]) (by simp [results, Tryz.results15, go_sem, r0', r1', r2']) rfl ⟨.slice a z cap, by rw [HRE.out]; rfl, by rw [HRE.out]; exact HI.out.stays HT4.out.below, HT4.out.below⟩
end Go.Proofs.YtalknbadakfppaaGreat

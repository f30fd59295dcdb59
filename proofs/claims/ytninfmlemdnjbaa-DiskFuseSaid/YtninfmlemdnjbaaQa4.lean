/-
  Texts put together: contracts and laws that this seat's proofs share.
-/
import Derived.Test.YtninfmlemdnjbaaYaDlw
import Derived.Test.YtninfmlemdnjbaaQa2
import Derived.Test.YtninfmlemdnjbaaQa3
import Derived.Test.YtninfmlemdnjbaaQa1
import Derived.Test.YtninfmlemdnjbaaYaDme
import Derived.Test.YtninfmlemdnjbaaQa0
set_option linter.unusedVariables false
namespace Go.Proofs.Ytninfmlemdnjbaa
open Go.RowKit
attribute [local go_sem] Oper.semAt_some
theorem Row.putB_at {W : World} {B : Nat} {a b c x y z : Value} (h : Row W B #[a, b, c] 24) : Row (putB W B x y z) B #[x, y, z] 24 := by
  have := ((h.set 0 x).set 1 y).set 2 z; exact this
theorem Row.three {W : World} {B : Nat} {a b c : Value} {T : TypeId} (h : Row W B #[a, b, c] T) : (W.cell? ⟨B, 0, none⟩ = some a ∧ W.cell? ⟨B, 1, none⟩ = some b ∧ W.cell? ⟨B, 2, none⟩ = some c) ∧ (∀ i, W.frozen? ⟨B, i, none⟩ = false) := by
  have p0 := h.cell 0; have p1 := h.cell 1; have p2 := h.cell 2
  simp only [List.getElem?_toArray, List.getElem?_cons_zero, List.getElem?_cons_succ] at p0 p1 p2
  exact ⟨⟨p0, p1, p2⟩, fun i => h.free i⟩
theorem below_put {B b : Nat} {w W : World} {x y z : Value} (h : Below B w W) (hb : B ≤ b) : Below B w (putB W b x y z) :=
  ((h.setCell (p := ⟨b, 0, none⟩) hb x).setCell (p := ⟨b, 1, none⟩) hb y).setCell (p := ⟨b, 2, none⟩) hb z
theorem put_far {w : World} {b : Nat} {x y z : Value} {p : Addr} (h : p.block ≠ b) : (putB w b x y z).cell? p = w.cell? p := by
  unfold putB
  rw [World.cell?_setCell_other _ _ _ _ (fun e => h (by rw [← e])), World.cell?_setCell_other _ _ _ _ (fun e => h (by rw [← e])), World.cell?_setCell_other _ _ _ _ (fun e => h (by rw [← e]))]
theorem put_size {w : World} {b : Nat} {x y z : Value} : (putB w b x y z).heap.size = w.heap.size := by unfold putB; simp [World.setCell]
theorem no_string {w : World} {b i : Nat} {a : Option Addr} {n c : Nat} {o : Bool} {f : Int} {T : TypeId} {s : ByteArray} (hR : Row w b #[.slice a n c, .bool o, .int .i64 f] T) (h : w.cell? ⟨b, i, none⟩ = some (.string s)) : False := by
  have h1 := hR.cell i
  rw [h] at h1
  match i, h1 with
  | 0, h1 => simp at h1
  | 1, h1 => simp at h1
  | 2, h1 => simp at h1
  | i + 3, h1 => simp at h1
theorem IsOps.put {w : World} {b : Nat} {a : Option Addr} {n c : Nat} {o : Bool} {f : Int} {T : TypeId} {x y z v : Value} {L : List Dop} (hR : Row w b #[.slice a n c, .bool o, .int .i64 f] T) (h : IsOps w v L) : IsOps (putB w b x y z) v L := by
  obtain ⟨h0, a, cap, h1, h2, h3⟩ := h
  refine ⟨h0, a, cap, h1, h2, fun hL => ?_⟩
  obtain ⟨b', off, e, hlt, hc⟩ := h3 hL
  refine ⟨b', off, e, by rw [put_size]; exact hlt, fun i hi => ?_⟩
  obtain ⟨c0, c1⟩ := hc i hi
  have hne : b' ≠ b := fun e => no_string hR (by rw [← e]; exact c1)
  exact ⟨(put_far (p := ⟨b', _, none⟩) hne).trans c0, (put_far (p := ⟨b', _, none⟩) hne).trans c1⟩
theorem IsDfs.put {w : World} {b : Nat} {a : Option Addr} {n c : Nat} {o : Bool} {f : Int} {T : TypeId} {x y z v : Value} {L : List Dfl} (h : IsDfs w v L) (hR : Row w b #[.slice a n c, .bool o, .int .i64 f] T) : IsDfs (putB w b x y z) v L := by
  obtain ⟨h0, a, cap, h1, h2, h3⟩ := h
  refine ⟨h0, a, cap, h1, h2, fun hL => ?_⟩
  obtain ⟨b', off, e, hlt, hc⟩ := h3 hL
  refine ⟨b', off, e, by rw [put_size]; exact hlt, fun i hi => ?_⟩
  obtain ⟨u, c0, c1, c2, c3⟩ := hc i hi
  have hne : b' ≠ b := fun e => no_string hR (by rw [← e]; exact c0)
  exact ⟨u, (put_far (p := ⟨b', _, none⟩) hne).trans c0, (put_far (p := ⟨b', _, none⟩) hne).trans c1, (put_far (p := ⟨b', _, none⟩) hne).trans c2, c3.put hR⟩
def dA0 : Dsk := ⟨[], false, -1⟩
def dA1 : Dsk := ⟨[⟨⟨#[102]⟩, ⟨#[]⟩, [⟨0, ⟨#[97, 98]⟩⟩]⟩], false, -1⟩
def dA2 : Dsk := ⟨[⟨⟨#[102]⟩, ⟨#[97, 98]⟩, []⟩], false, -1⟩
def dA3 : Dsk := ⟨[⟨⟨#[102]⟩, ⟨#[97, 98]⟩, [⟨1, ⟨#[99]⟩⟩]⟩], false, -1⟩
theorem fitA0 : FitD nameB dA0 := ⟨Nat.zero_le _, by decide, by decide, fun _ => rfl, fun f h => (by cases h), List.Pairwise.nil⟩
theorem eA1 : writeD nameB dA0 ⟨#[102]⟩ 0 ⟨#[97, 98]⟩ = (dA1, 0) := by kernel_rfl
theorem eA2 : syncD dA1 ⟨#[102]⟩ = (dA2, 0) := by kernel_rfl
theorem eA3 : writeD nameB dA2 ⟨#[102]⟩ 1 ⟨#[99]⟩ = (dA3, 0) := by kernel_rfl
theorem fitA1 : FitD nameB dA1 := by have := writeD_fit fitA0 ⟨#[102]⟩ 0 ⟨#[97, 98]⟩; rwa [eA1] at this
theorem fitA2 : FitD nameB dA2 := by have := syncD_fit fitA1 ⟨#[102]⟩; rwa [eA2] at this
theorem fitA3 : FitD nameB dA3 := by have := writeD_fit fitA2 ⟨#[102]⟩ 1 ⟨#[99]⟩; rwa [eA3] at this
theorem eA4 : crashD dA3 [] = dA2 := by kernel_rfl
theorem eA5 : (strT (readD dA3 [102]).1, (readD dA3 [102]).2) = (⟨#[97, 99]⟩, true) := by kernel_rfl
theorem eA6 : (strT (readD dA2 [102]).1, (readD dA2 [102]).2) = (⟨#[97, 98]⟩, true) := by kernel_rfl
theorem FitD.all {d : Dsk} (h : FitD nameB d) : ∀ f ∈ d.fs, f.d.size ≤ 262144 ∧ ∀ o ∈ f.ops, opOk o := fun f hf => ⟨(h.files f hf).bytes, (h.files f hf).ops⟩
theorem pRead_fit (d : Dsk) (v : Value) (s : ByteArray) (w : World) (h : IsDfs w v d.fs) (hf : FitD nameB d) :
    Calls Try.prog 15 #[dskV v d, .string s] w fun e w' => e = .returned (.tuple #[.string (strT (readD d s.data.toList).1), .bool (readD d s.data.toList).2]) ∧ Below w.heap.size w w' :=
  pRead_any d v s w h hf.rise (Nat.le_trans hf.many (by decide)) hf.all
theorem RetD.open {d : Dsk} {n : Int} {w : World} {e : Ending} {w' : World} (h : RetD (d, n) w e w') : ∃ (a : Option Addr) (z c : Nat), e = .returned (.tuple #[.agg #[.slice a z c, .bool d.off, .int .i64 d.fuse], .int .i64 n]) ∧ IsDfs w' (.slice a z c) d.fs ∧ Below w.heap.size w w' := by
  obtain ⟨v, h1, h2, h3⟩ := h
  obtain ⟨a, c, rfl⟩ := h2.len
  exact ⟨a, _, c, h1, h2, h3⟩
set_option maxRecDepth 100000 in
set_option maxHeartbeats 8000000 in
theorem awake15_any (w0 : World) : Calls Try.prog 10 #[] w0 fun e w' => e = .returned (.bool true) ∧ Below w0.heap.size w0 w' := by
  have C1 := Lib.hid (fun W => (pWrite_any dA0 (.slice none 0 0) ⟨#[102]⟩ 0 ⟨#[97, 98]⟩ W (dfs_nil W) fitA0 (by decide) (by decide) (by decide)))
  have C2 := Lib.hid (fun W v (h : IsDfs W v dA1.fs) => pSync_any dA1 v ⟨#[102]⟩ W h fitA1)
  have C3 := Lib.hid (fun W v (h : IsDfs W v dA2.fs) => pWrite_any dA2 v ⟨#[102]⟩ 1 ⟨#[99]⟩ W h fitA2 (by decide) (by decide) (by decide))
  have C4 := Lib.hid (fun W v (h : IsDfs W v dA3.fs) => pRead_fit dA3 v ⟨#[102]⟩ W h fitA3)
  have C5 := Lib.hid (fun W v (h : IsDfs W v dA3.fs) => pCrash_any dA3 v (.slice none 0 0) [] W h (bls_nil W) fitA3)
  have C6 := Lib.hid (fun W v (h : IsDfs W v dA2.fs) => pRead_fit dA2 v ⟨#[102]⟩ W h fitA2)
  rw [show (⟨#[102]⟩ : ByteArray).data.toList = [102] from rfl] at C4 C6
  rw [(Prod.mk.inj eA5).1, (Prod.mk.inj eA5).2] at C4
  rw [(Prod.mk.inj eA6).1, (Prod.mk.inj eA6).2] at C6
  rw [eA1] at C1; rw [eA2] at C2; rw [eA3] at C3; rw [eA4] at C5
  unfold dskV at C1 C2 C3 C4 C5 C6
  dsimp only [dA0, dA1, dA2, dA3] at C1 C2 C3 C4 C5 C6
  go_enter Try.func10, Try.ntmps10
  go_wp2_with fail
  refine (C1.out _).mono ?_
  rintro e w1 hr
  obtain ⟨a1, z1, c1, rfl, h1, hb1⟩ := hr.open
  have HI1 := Lib.hid h1
  have HB1 := Lib.hid hb1
  obtain ⟨X1, hX1⟩ : ∃ X, X = w1.alloc (.cells #[.slice a1 z1 c1, .bool false, .int .i64 (-1)] 24) := ⟨_, rfl⟩
  have hbX : Below w1.heap.size w1 X1 := by rw [hX1]; exact (Below.refl _ _).alloc (Nat.le_refl _) _
  have HX1 := Lib.hid (h1.stays hbX); have HB2 := Lib.hid (below_step hb1 hbX)
  have HR1 : Hid (Row X1 w1.heap.size #[.slice a1 z1 c1, .bool false, .int .i64 (-1)] 24) := by rw [hX1]; exact Lib.hid (Row.made _ _ _)
  have HL0 : Hid (w0.heap.size ≤ w1.heap.size) := Lib.hid hb1.size
  have HX := Lib.hid hX1
  clear h1 hb1 hr hbX hX1
  go_wp2_with fail
  rw [← HX.out]
  refine (C2.out X1 _ HX1.out).mono ?_
  rintro e w2 hr
  obtain ⟨a2, z2, c2, rfl, h2, hb2⟩ := hr.open
  have hR2 := HR1.out.step hb2
  have HR2 := Lib.hid hR2
  obtain ⟨⟨p0, p1, p2⟩, fz⟩ := hR2.three
  obtain ⟨X2, hX2⟩ : ∃ X, X = putB w2 w1.heap.size (.slice a2 z2 c2) (.bool false) (.int .i64 (-1)) := ⟨_, rfl⟩
  have HX2 : Hid (IsDfs X2 (.slice a2 z2 c2) dA2.fs) := Lib.hid (by rw [hX2]; exact h2.put hR2)
  have HB3 : Hid (Below w0.heap.size w0 X2) := Lib.hid (by rw [hX2]; exact below_put (below_step HB2.out hb2) HL0.out)
  have HS2 : Hid (Row X2 w1.heap.size #[.slice a2 z2 c2, .bool false, .int .i64 (-1)] 24) := Lib.hid (by rw [hX2]; exact hR2.putB_at)
  have HE2 := Lib.hid hX2
  clear hr h2 hb2 hR2 hX2
  unfold putB at HE2
  go_wp2_with fail
  rw [← HE2.out]
  clear p0 p1 p2 fz
  obtain ⟨⟨p0, p1, p2⟩, fz⟩ := HS2.out.three
  have HR2 := HS2
  refine (C3.out X2 _ HX2.out).mono ?_
  rintro e w3 hr
  obtain ⟨a3, z3, c3, rfl, h2, hb2⟩ := hr.open
  have hR2 := HR2.out.step hb2
  have HR3 := Lib.hid hR2
  obtain ⟨⟨p0, p1, p2⟩, fz⟩ := hR2.three
  obtain ⟨X3, hX3⟩ : ∃ X, X = putB w3 w1.heap.size (.slice a3 z3 c3) (.bool false) (.int .i64 (-1)) := ⟨_, rfl⟩
  have HX3 : Hid (IsDfs X3 (.slice a3 z3 c3) dA3.fs) := Lib.hid (by rw [hX3]; exact h2.put hR2)
  have HB4 : Hid (Below w0.heap.size w0 X3) := Lib.hid (by rw [hX3]; exact below_put (below_step HB3.out hb2) HL0.out)
  have HS3 : Hid (Row X3 w1.heap.size #[.slice a3 z3 c3, .bool false, .int .i64 (-1)] 24) := Lib.hid (by rw [hX3]; exact hR2.putB_at)
  have HE3 := Lib.hid hX3
  clear hr h2 hb2 hR2 hX3
  unfold putB at HE3
  go_wp2_with fail
  rw [← HE3.out]
  clear p0 p1 p2 fz
  obtain ⟨⟨p0, p1, p2⟩, fz⟩ := HS3.out.three
  have HR3 := HS3
  refine (C4.out X3 _ HX3.out).mono ?_
  rintro e w4 ⟨rfl, hb4⟩
  have HX4 := Lib.hid (HX3.out.stays hb4)
  have HB5 := Lib.hid (below_step HB4.out hb4)
  have HR4 := Lib.hid (HR3.out.step hb4)
  clear p0 p1 p2 fz hb4
  obtain ⟨⟨p0, p1, p2⟩, fz⟩ := HR4.out.three
  go_wp2_with fail
  refine (C5.out w4 _ HX4.out).mono ?_
  rintro e w5 ⟨v5, rfl, h5, hb5⟩
  have HX5 := Lib.hid h5
  have HB6 := Lib.hid (below_step HB5.out hb5)
  clear h5 hb5 p0 p1 p2 fz
  go_wp2_with fail
  refine (C6.out w5 _ HX5.out).mono ?_
  rintro e w6 ⟨rfl, hb6⟩
  have HB7 := Lib.hid (below_step HB6.out hb6)
  clear hb6
  go_wp2_with fail
  go_ret
  exact ⟨rfl, HB7.out⟩
end Go.Proofs.Ytninfmlemdnjbaa
set_option linter.unusedVariables false
namespace Go.Proofs.Ytninfmlemdnjbaa
open Go.RowKit
theorem FewD.small {d : Dsk} (h : FewD d) (hA : ∀ f ∈ d.fs, ∀ o ∈ f.ops, o.at_ ≤ 9223372036854775807) : ∀ f ∈ d.fs, ∀ x ∈ f.ops, SmallO x := fun f hf o ho =>
  ⟨hA f hf o ho, Nat.le_trans ((h.2 f hf).2.2.2 o ho).1 (by decide)⟩
end Go.Proofs.Ytninfmlemdnjbaa
set_option linter.unusedVariables false
namespace Go.Proofs.Ytninfmlemdnjbaa
open Go.ChangeShapes Go.WideShapes Go.ChangeAt Go.RowKit Go.Joins Go.Deep
def AtO (o : Dop) : Prop := o.at_ ≤ 9223372036854775807
set_option maxRecDepth 100000 in
theorem trod_opB {H : Type} {enc : TypeId × Value → H} {W : World} {base n : Nat} {spare : Nat → Bool} {held : Bool} {cs : List Value} {y : DataW H × List MemPlace}
    (hl : cs.length = 2) (h : DataW.trod enc Try.prog W base spare held n 52 cs = some y) : ∃ x : Dop, cs = dopC x ∧ AtO x := by
  match cs, hl with
  | [c0, c1], _ =>
    obtain ⟨xs, m, _, _, _, hlen, hg⟩ := DataW.trod_struct Try.underlying52 h
    have k9 : Try.prog.cellsOf 9 = 1 := by kernel_rfl
    have k3 : Try.prog.cellsOf 3 = 1 := by kernel_rfl
    match xs, hlen with
    | [y0, y1], _ =>
      have h0 : DataW.trod enc Try.prog W base spare held m 3 [c0] = some y0 := by simpa [k3] using hg 0 _ rfl
      have h1 : DataW.trod enc Try.prog W base spare held m 9 [c1] = some y1 := by simpa [k9] using hg 1 _ rfl
      obtain ⟨q, e0, _, z0⟩ := DataW.trod_int Try.underlying3 h0
      obtain ⟨k, e1, _, z1⟩ := DataW.trod_string Try.underlying9 h1
      simp at e0 e1
      subst e0 e1
      exact ⟨⟨q, k⟩, rfl, (bounds_i64 z0).2⟩
set_option maxRecDepth 100000 in
theorem open_opsB {H : Type} {enc : TypeId × Value → H} {W : World} {spare : Nat → Bool} {held : Bool} {fuel : Nat} {c : Value} {y : DataW H × List MemPlace}
    (hf : DataW.trod enc Try.prog W 0 spare held fuel 45 [c] = some y) : ∃ L, IsOps W c L ∧ ∀ o ∈ L, AtO o := by
  have hC : Try.prog.cellsOf 52 = 2 := by kernel_rfl
  rcases open_slice Try.underlying45 hf with ⟨hcs, _⟩ | ⟨a, len, cap, m, n, D, Pl, hcs, _, hl, hm, hmm, _, hi⟩
  · simp at hcs
    subst hcs
    exact ⟨[], ops_nil W, fun o h => (by cases h)⟩
  · simp at hcs
    subst hcs
    have hlm : len ≤ m := by rw [hmm]; split <;> omega
    have hit : ∀ i, i < len → ∃ x : Dop, (∀ j u, (dopC x)[j]? = some u → W.cell? (a.add (i * 2 + j)) = some u) ∧ AtO x := fun i him => by
      obtain ⟨cs, hc, ht⟩ := hi i (by omega)
      rw [hC] at hc
      obtain ⟨_, hcl, hat⟩ := World.cells?_some hc
      obtain ⟨x, rfl, hat0⟩ := trod_opB hcl ht
      refine ⟨x, fun j u hj => ?_, hat0⟩
      have hj4 : j < 2 := by
        have := (List.getElem?_eq_some_iff.1 hj).1
        simpa using this
      have := hat j hj4
      rw [← Go.Deep.add_add, this]; exact hj
    obtain ⟨f, hfx⟩ : ∃ f : Nat → Dop, ∀ i, i < len → (∀ j u, (dopC (f i))[j]? = some u → W.cell? (a.add (i * 2 + j)) = some u) ∧ AtO (f i) := by
      refine ⟨fun i => if h : i < len then Classical.choose (hit i h) else zeroDop, fun i h => ?_⟩
      simp only [h, dif_pos]
      exact Classical.choose_spec (hit i h)
    refine ⟨(List.range len).map f, ⟨by simp; omega, some a, cap, by simp, ⟨fun h => (by cases h), by simpa using hl⟩, fun h0 => ?_⟩, fun o ho => by
      obtain ⟨i, hi, rfl⟩ := List.mem_map.1 ho
      exact (hfx i (List.mem_range.1 hi)).2⟩
    have h0' : 0 < len := by simpa using h0
    have hc0 := (hfx 0 h0').1 0 _ rfl
    obtain ⟨b, off, spot⟩ := a
    have hspot : spot = none := by simpa [Addr.add] using World.cell?_spot hc0
    subst hspot
    refine ⟨b, off, rfl, ?_, fun i hi => ?_⟩
    · have := block_lt_of_cell hc0
      simpa [Addr.add] using this
    · have hil : i < len := by simpa using hi
      have hg : ((List.range len).map f)[i] = f i := by simp
      rw [hg]
      have hh := fun j u hu => (hfx i hil).1 j u hu
      refine ⟨?_, ?_⟩
      · have := hh 0 _ rfl; rw [add_plain'] at this; exact this
      · have := hh 1 _ rfl; rw [add_plain', ← Nat.add_assoc] at this; exact this
set_option maxRecDepth 100000 in
theorem trod_dfileB {H : Type} {enc : TypeId × Value → H} {W : World} {n : Nat} {spare : Nat → Bool} {held : Bool} {cs : List Value} {y : DataW H × List MemPlace}
    (hl : cs.length = 3) (h : DataW.trod enc Try.prog W 0 spare held n 47 cs = some y) : ∃ (x : Dfl) (u : Value), cs = [.string x.n, .string x.d, u] ∧ IsOps W u x.ops ∧ ∀ o ∈ x.ops, AtO o := by
  match cs, hl with
  | [c0, c1, c2], _ =>
    obtain ⟨xs, m, _, _, _, hlen, hg⟩ := DataW.trod_struct Try.underlying47 h
    have k9 : Try.prog.cellsOf 9 = 1 := by kernel_rfl
    have kO : Try.prog.cellsOf 45 = 1 := by kernel_rfl
    match xs, hlen with
    | [y0, y1, y2], _ =>
      have h0 : DataW.trod enc Try.prog W 0 spare held m 9 [c0] = some y0 := by simpa [k9] using hg 0 _ rfl
      have h1 : DataW.trod enc Try.prog W 0 spare held m 9 [c1] = some y1 := by simpa [k9] using hg 1 _ rfl
      have h2 : DataW.trod enc Try.prog W 0 spare held m 45 [c2] = some y2 := by simpa [kO] using hg 2 _ rfl
      obtain ⟨s0, e0, _, _⟩ := DataW.trod_string Try.underlying9 h0
      obtain ⟨s1, e1, _, _⟩ := DataW.trod_string Try.underlying9 h1
      simp at e0 e1
      subst e0 e1
      obtain ⟨L, hL, hA⟩ := open_opsB h2
      exact ⟨⟨s0, s1, L⟩, c2, rfl, hL, hA⟩
set_option maxRecDepth 100000 in
theorem open_dfilesB {H : Type} {enc : TypeId × Value → H} {W : World} {spare : Nat → Bool} {held : Bool} {fuel : Nat} {c : Value} {y : DataW H × List MemPlace}
    (hf : DataW.trod enc Try.prog W 0 spare held fuel 22 [c] = some y) : ∃ L, IsDfs W c L ∧ ∀ f ∈ L, ∀ o ∈ f.ops, AtO o := by
  have hC : Try.prog.cellsOf 47 = 3 := by kernel_rfl
  rcases open_slice Try.underlying22 hf with ⟨hcs, _⟩ | ⟨a, len, cap, m, n, D, Pl, hcs, _, hl, hm, hmm, _, hi⟩
  · simp at hcs
    subst hcs
    exact ⟨[], dfs_nil W, fun f h => (by cases h)⟩
  · simp at hcs
    subst hcs
    have hlm : len ≤ m := by rw [hmm]; split <;> omega
    have hit : ∀ i, i < len → ∃ x : Dfl, ∃ u, (∀ j v, ([.string x.n, .string x.d, u] : List Value)[j]? = some v → W.cell? (a.add (i * 3 + j)) = some v) ∧ IsOps W u x.ops ∧ ∀ o ∈ x.ops, AtO o := fun i him => by
      obtain ⟨cs, hc, ht⟩ := hi i (by omega)
      rw [hC] at hc
      obtain ⟨_, hcl, hat⟩ := World.cells?_some hc
      obtain ⟨x, u, rfl, hu, hA⟩ := trod_dfileB hcl ht
      refine ⟨x, u, fun j v hj => ?_, hu, hA⟩
      have hj3 : j < 3 := by
        have := (List.getElem?_eq_some_iff.1 hj).1
        simpa using this
      have := hat j hj3
      rw [← Go.Deep.add_add, this]; exact hj
    obtain ⟨f, hfx⟩ : ∃ f : Nat → Dfl, ∀ i, i < len → ∃ u, (∀ j v, ([.string (f i).n, .string (f i).d, u] : List Value)[j]? = some v → W.cell? (a.add (i * 3 + j)) = some v) ∧ IsOps W u (f i).ops ∧ ∀ o ∈ (f i).ops, AtO o := by
      refine ⟨fun i => if h : i < len then Classical.choose (hit i h) else ⟨⟨#[]⟩, ⟨#[]⟩, []⟩, fun i h => ?_⟩
      simp only [h, dif_pos]
      exact Classical.choose_spec (hit i h)
    refine ⟨(List.range len).map f, ⟨by simp; omega, some a, cap, by simp, ⟨fun h => (by cases h), by simpa using hl⟩, fun h0 => ?_⟩, fun g hg => by
      obtain ⟨i, hi, rfl⟩ := List.mem_map.1 hg
      obtain ⟨_, _, _, h9⟩ := hfx i (List.mem_range.1 hi)
      exact h9⟩
    have h0' : 0 < len := by simpa using h0
    obtain ⟨_, hc00, _⟩ := hfx 0 h0'
    have hc0 := hc00 0 _ rfl
    obtain ⟨b, off, spot⟩ := a
    have hspot : spot = none := by simpa [Addr.add] using World.cell?_spot hc0
    subst hspot
    refine ⟨b, off, rfl, ?_, fun i hi => ?_⟩
    · have := block_lt_of_cell hc0
      simpa [Addr.add] using this
    · have hil : i < len := by simpa using hi
      have hg : ((List.range len).map f)[i] = f i := by simp
      rw [hg]
      obtain ⟨u, hh, hu, _⟩ := hfx i hil
      refine ⟨u, ?_, ?_, ?_, hu⟩
      · have := hh 0 _ rfl; rw [add_plain'] at this; exact this
      · have := hh 1 _ rfl; rw [add_plain', ← Nat.add_assoc] at this; exact this
      · have := hh 2 _ rfl; rw [add_plain', ← Nat.add_assoc] at this; exact this
set_option maxRecDepth 100000 in
theorem open_diskB {H : Type} {enc : TypeId × Value → H} {W : World} {r : Reach} {b0 : Nat} {spare : Nat → Bool} {held : Bool} {v : Value} {d : DataW H} {p : List MemPlace}
    (hv : Value.okWide Try.prog W r b0 24 v) (h : DataW.Trod enc Try.prog W 0 spare held 24 v d p) : ∃ (x : Dsk) (fv : Value), v = dskV fv x ∧ IsDfs W fv x.fs ∧ ∀ f ∈ x.fs, ∀ o ∈ f.ops, AtO o := by
  obtain ⟨cs, rfl, hsz⟩ := okWide_struct Try.underlying24 hv
  have h3 : cs.size = 3 := hsz.trans (by kernel_rfl)
  obtain ⟨fuel, hf⟩ := h
  obtain ⟨c0, c1, c2, rfl⟩ : ∃ c0 c1 c2, cs = #[c0, c1, c2] := by
    match cs, h3 with
    | ⟨[c0, c1, c2]⟩, _ => exact ⟨c0, c1, c2, rfl⟩
  obtain ⟨xs, m, _, _, _, hlen, hg⟩ := DataW.trod_struct (cs := [c0, c1, c2]) Try.underlying24 hf
  have k3 : Try.prog.cellsOf 3 = 1 := by kernel_rfl
  have k4 : Try.prog.cellsOf 4 = 1 := by kernel_rfl
  have kF : Try.prog.cellsOf 22 = 1 := by kernel_rfl
  match xs, hlen with
  | [y0, y1, y2], _ =>
    have h0 : DataW.trod enc Try.prog W 0 spare held m 22 [c0] = some y0 := by simpa [kF] using hg 0 _ rfl
    have h1 : DataW.trod enc Try.prog W 0 spare held m 4 [c1] = some y1 := by simpa [k4] using hg 1 _ rfl
    have h2 : DataW.trod enc Try.prog W 0 spare held m 3 [c2] = some y2 := by simpa [k3] using hg 2 _ rfl
    obtain ⟨q1, e1, _⟩ := DataW.trod_bool Try.underlying4 h1
    obtain ⟨q2, e2, _, _⟩ := DataW.trod_int Try.underlying3 h2
    simp at e1 e2
    subst e1 e2
    obtain ⟨L, hL, hA⟩ := open_dfilesB h0
    exact ⟨⟨L, q1, q2⟩, c0, rfl, hL, hA⟩
end Go.Proofs.Ytninfmlemdnjbaa

/-
  Contracts over this translation: dag's entry, given the directories of fewer levels.
-/
import Derived.Deep.RegionWith
import Derived.Test.YtlccihidedfemaaGreatDoorYaDtr
import Derived.Test.YtlccihidedfemaaGreatDoorQa3
set_option linter.unusedVariables false
namespace Go.Proofs.YtlccihidedfemaaGreatDoor
open Go.RowKit
attribute [local go_sem] Oper.semAt_some
def Built (W0 : World) (Bb : Nat) (p : Nat × Nat × Nat) (R : List It) (S : List Ob) (v : Value) (w : World) (e : Ending) (w' : World) : Prop :=
  e = .returned v ∧ ∃ vR vB, Bld W0 Bb p w' R S vR vB ∧ Bk W0.heap.size Bb w w'
def keyV (k : List UInt8) : Value := .string ⟨k.toArray⟩
def BldAt (W0 : World) (Bb mn av mx : Nat) (c : List UInt8 → Nat) (I : List It) (k : Nat) : Prop :=
  ∀ (d : ByteArray) (Post : List It) (M : List Ob) (vR vB : Value) (w : World), d.size ≤ 400 → (∀ y ∈ Post, y ∈ I) → OffT d.data.toList Post → (∀ x ∈ I, (cs x.t).length ≤ (cs d.data.toList).length + k) →
    Bld W0 Bb (mn, av, mx) w (blkT I d.data.toList ++ Post) M vR vB → M.length + (seqD c I k d.data.toList).length ≤ 700000 →
      Calls Tryz.prog 31 #[.pointer (some ⟨Bb, 0, none⟩), .string d] w (Built W0 Bb (mn, av, mx) Post (M ++ (seqD c I k d.data.toList).map obN) (keyV (keyN (dirN c I k d.data.toList))) w)
def subS (c : List UInt8 → Nat) (I : List It) (k : Nat) (x : It) : List Nd := if x.d then seqD c I k x.t else seqF c x.b
theorem Bld.turnB {W0 : World} {Bb : Nat} {p : Nat × Nat × Nat} {w w' : World} {R : List It} {M : List Ob} {vR vB : Value} {b i : Nat} {u : Value} {xs : Array Value} {T : TypeId} (h : Bld W0 Bb p w R M vR vB) (hr : Row w b xs T) (hT : T ≠ 33) (hb : W0.heap.size ≤ b) (hn : b ≠ Bb) (e : w' = w.setCell ⟨b, i, none⟩ u) : Bld W0 Bb p w' R M vR vB := by
  subst e
  exact h.turn (grownBy_set w b i u) (fun g hg => by cases hg; exact ⟨hb, hn, xs, T, hr, hT⟩)
theorem wp_via {c : Code} {P : Program} {f : Func} {R : Ending → World → Prop} {K : Act → World → Prop} {a : Act} {w : World} (G : Act → World → Prop) (h1 : ∀ K0 : Act → World → Prop, (∀ a' w', G a' w' → K0 a' w') → c.wp P (Exit.then K0 (bodyPost P f R)) a w) (h2 : ∀ a' w', G a' w' → Exit.then K (bodyPost P f R) .normal a' w') : c.wp P (Exit.then K (bodyPost P f R)) a w := h1 K h2
structure EntOk (W0 : World) (Bb : Nat) (p : Nat × Nat × Nat) (R : List It) (S : List Ob) (vR vB : Value) (tb eb : Nat) (w0 w : World) : Prop where
  bld : Bld W0 Bb p w R S vR vB
  bk : Bk W0.heap.size Bb w0 w
  rt : ∃ xs, Row w tb xs 78
  re : ∃ xs, Row w eb xs 78
theorem EntOk.set {W0 : World} {Bb : Nat} {p : Nat × Nat × Nat} {R : List It} {S : List Ob} {vR vB : Value} {tb eb : Nat} {w0 w : World} (h : EntOk W0 Bb p R S vR vB tb eb w0 w) (h0 : W0.heap.size ≤ w0.heap.size) (hb0 : Bb < w0.heap.size) (ht : w0.heap.size ≤ tb) (he : w0.heap.size ≤ eb) {b : Nat} (hb : b = tb ∨ b = eb) (i : Nat) (v : Value) :
    EntOk W0 Bb p R S vR vB tb eb w0 (w.setCell ⟨b, i, none⟩ v) := by
  obtain ⟨xs, hr⟩ : ∃ xs, Row w b xs 78 := by
    rcases hb with e | e
    · subst e; exact h.rt
    · subst e; exact h.re
  have hge : w0.heap.size ≤ b := by rcases hb with e | e <;> omega
  have keep : ∀ k, (∃ xs, Row w k xs 78) → ∃ xs, Row (w.setCell ⟨b, i, none⟩ v) k xs 78 := fun k hk => by
    obtain ⟨ys, hy⟩ := hk
    by_cases e : k = b
    · subst e; exact ⟨_, hy.set i v⟩
    · exact ⟨ys, hy.other ⟨b, i, none⟩ v e⟩
  exact ⟨h.bld.turnB hr (by decide) (by omega) (by omega) rfl, h.bk.later (grownBy_set w b i v) (fun g hg => by cases hg; exact hge), keep tb h.rt, keep eb h.re⟩
set_option maxRecDepth 100000 in
set_option maxHeartbeats 40000000 in
theorem bEntry_any (W0 : World) (Bb mn av b mx : Nat) (hF : FitAt mn av mx b) (hT : Tabs W0) (I : List It) (F : TFit I) (hfew : ∀ x ∈ I, x.p.size ≤ 400) (k : Nat) (IH : BldAt W0 Bb mn av mx (cutN mn b mx) I k)
    (x : It) (hx : x ∈ I) (Post : List It) (M : List Ob) (vR vB : Value) (w : World) (hP : ∀ y ∈ Post, y ∈ I) (ho : OffT x.t Post) (hk : ∀ y ∈ I, (cs y.t).length ≤ (cs x.t).length + k)
    (h : Bld W0 Bb (mn, av, mx) w (blkT I x.t ++ Post) M vR vB) (hl : M.length + (subS (cutN mn b mx) I k x).length ≤ 700000) (hl2 : x.d = false → M.length + x.c.size ≤ 800000) :
    Calls Tryz.prog 53 #[.pointer (some ⟨Bb, 0, none⟩), itV x] w (Built W0 Bb (mn, av, mx) Post (M ++ (subS (cutN mn b mx) I k x).map obN) (enV (entE x (keyN (subN (cutN mn b mx) I k x)))) w) := by
  have CL := Lib.hid (lastName_any x.p (hfew x hx) (F.path x hx))
  rw [show x.p.data.toList = x.t from rfl] at CL
  have CF := Lib.hid (fun (W : World) (M : List Ob) (vR vB : Value) (h : Bld W0 Bb (mn, av, mx) W Post M vR vB) (hM : M.length + x.c.size ≤ 800000) => pFile_any W0 Bb mn av b mx hF x.c W Post M vR vB h (F.data x hx) hT hM)
  rw [show x.c.data.toList = x.b from rfl] at CF
  obtain ⟨c, hc⟩ : ∃ c, c = cutN mn b mx := ⟨_, rfl⟩
  rw [← hc] at CF IH hl ⊢
  have CD : Hid (∀ (M : List Ob) (vR vB : Value) (W : World), Bld W0 Bb (mn, av, mx) W (blkT I x.t ++ Post) M vR vB → M.length + (seqD c I k x.t).length ≤ 700000 → Calls Tryz.prog 31 #[.pointer (some ⟨Bb, 0, none⟩), .string x.p] W (Built W0 Bb (mn, av, mx) Post (M ++ (seqD c I k x.t).map obN) (keyV (keyN (dirN c I k x.t))) W)) := Lib.hid (fun M vR vB W h1 h2 => IH x.p Post M vR vB W (hfew x hx) hP ho hk h1 h2)
  have HFB : Hid (x.d = false → blkT I x.t = []) := Lib.hid (file_blk F hx)
  have HH := Lib.hid h; have HL := Lib.hid hl; have HL2 := Lib.hid hl2
  have hw0 : W0.heap.size ≤ w.heap.size := h.below.size
  have hbw : Bb < w.heap.size := h.row.lt
  obtain ⟨ln, hln⟩ : ∃ ln : ByteArray, ln = ⟨(lastN x.t).toArray⟩ := ⟨_, rfl⟩
  have HLN := Lib.hid hln
  rw [← hln] at CL
  clear h hl hl2 hc IH hF hT hfew hP ho hk hx hln F
  obtain ⟨V, hV⟩ : ∃ V, V = (w.alloc (.cells #[.string x.p, .bool x.d, .bool x.e, .string x.c] 51)).alloc (.cells #[.string ⟨#[]⟩, .int .i64 0, .bool false, .string ⟨#[]⟩] 78) := ⟨_, rfl⟩
  have hbV : Below w.heap.size w V := by rw [hV]; exact ((Below.refl _ _).alloc (Nat.le_refl _) _).alloc (by simp) _
  have hVs : V.heap.size = w.heap.size + 2 := by rw [hV]; simp
  have hRX : Row V w.heap.size #[.string x.p, .bool x.d, .bool x.e, .string x.c] 51 := by rw [hV]; exact (Row.made _ _ _).alloc _
  have hRE : Row V (w.heap.size + 1) #[.string ⟨#[]⟩, .int .i64 0, .bool false, .string ⟨#[]⟩] 78 := by
    have := Row.made (w.alloc (.cells #[.string x.p, .bool x.d, .bool x.e, .string x.c] 51)) #[.string ⟨#[]⟩, .int .i64 0, .bool false, .string ⟨#[]⟩] 78
    rw [hV]; simpa using this
  have HV := Lib.hid hV; have HBV := Lib.hid hbV; have HRX := Lib.hid hRX; have HRE := Lib.hid hRE
  clear hV hbV hRE
  go_enter Tryz.func53, Tryz.ntmps53
  go_wp2_with fail
  rw [← HV.out]
  have y0 := hRX.cell 0; have y2 := hRX.cell 2
  simp only [List.getElem?_toArray, List.getElem?_cons_zero, List.getElem?_cons_succ] at y0 y2
  obtain ⟨xb, hxb⟩ : ∃ xb, xb = w.heap.size := ⟨_, rfl⟩
  rw [← hxb] at HRX HRE y0 y2 hVs hw0 hbw ⊢
  have HXB := Lib.hid hxb
  clear hxb hRX
  have hxv : xb < V.heap.size := by omega
  have HVS := Lib.hid hVs
  clear hVs
  refine wp_via (fun (a' : Act) (w' : World) => ∃ tb, a' = ⟨#[.pointer (some ⟨Bb, 0, none⟩), itV x, undef, .pointer (some ⟨xb, 0, none⟩), .pointer (some ⟨xb + 1, 0, none⟩), .pointer (some ⟨tb, 0, none⟩), .pointer (some ⟨xb, 0, none⟩), .string x.p, .string ln, .pointer (some ⟨xb, 2, none⟩), .bool x.e, .agg #[.string ln, .int .i64 2, .bool x.e, .string ⟨#[]⟩], undef, undef, undef, undef, undef, undef, undef, undef, undef, undef, undef, undef, undef, undef], []⟩ ∧ Row w' tb #[.string ln, .int .i64 2, .bool x.e, .string ⟨#[]⟩] 78 ∧ Below V.heap.size V w' ∧ V.heap.size ≤ tb) ?reg ?_
  case reg =>
    intro Q0 hQ0
    have HQ0 := Lib.hid hQ0
    clear hQ0
    go_region_with (first
      | (go_at_call 87; refine (CL.out V.drew).mono ?_; rintro e w2 ⟨rfl, hb2⟩; have d2 : w2.cell? ⟨xb, 2, none⟩ = some (.bool x.e) := (hb2.cell (p := ⟨xb, 2, none⟩) hxv).trans y2; have hx2 : xb < w2.heap.size := Nat.lt_of_lt_of_le hxv hb2.size)
      | (go_at_call 87; refine (CL.out (V.drew.alloc (.cells #[.string ⟨#[]⟩, .int .i64 0, .bool false, .string ⟨#[]⟩] 78))).mono ?_; rintro e w2 ⟨rfl, hb2⟩; have hva : Below V.heap.size V (V.drew.alloc (.cells #[.string ⟨#[]⟩, .int .i64 0, .bool false, .string ⟨#[]⟩] 78)) := (Below.refl _ _).drew.alloc (Nat.le_refl _) _; have d2 : w2.cell? ⟨xb, 2, none⟩ = some (.bool x.e) := ((below_step hva hb2).cell (p := ⟨xb, 2, none⟩) hxv).trans y2; have hx2 : xb < w2.heap.size := Nat.lt_of_lt_of_le hxv (below_step hva hb2).size; have r5 : Row w2 V.heap.size #[.string ⟨#[]⟩, .int .i64 0, .bool false, .string ⟨#[]⟩] 78 := (Row.made V.drew _ _).step hb2; have z0 := r5.cell 0; have z1 := r5.cell 1; have z2 := r5.cell 2; have z3 := r5.cell 3; have fz := r5.free; simp only [List.getElem?_toArray, List.getElem?_cons_zero, List.getElem?_cons_succ] at z0 z1 z2 z3))
    all_goals (first
      | (have hr5 : Row (w2.alloc (.cells #[.string ln, .int .i64 2, .bool x.e, .string ⟨#[]⟩] 78)) w2.heap.size #[.string ln, .int .i64 2, .bool x.e, .string ⟨#[]⟩] 78 := Row.made _ _ _
         have hb5 : Below V.heap.size V (w2.alloc (.cells #[.string ln, .int .i64 2, .bool x.e, .string ⟨#[]⟩] 78)) := (below_step (Below.refl _ _).drew hb2).alloc hb2.size _
         have ht5 : V.heap.size ≤ w2.heap.size := hb2.size
         generalize w2.alloc (.cells #[.string ln, .int .i64 2, .bool x.e, .string ⟨#[]⟩] 78) = w3 at hr5 hb5 ⊢
         generalize w2.heap.size = tb at hr5 ht5 ⊢)
      | (have hr5 : Row ((((w2.setCell ⟨V.heap.size, 0, none⟩ (.string ln)).setCell ⟨V.heap.size, 1, none⟩ (.int .i64 2)).setCell ⟨V.heap.size, 2, none⟩ (.bool x.e)).setCell ⟨V.heap.size, 3, none⟩ (.string ⟨#[]⟩)) V.heap.size #[.string ln, .int .i64 2, .bool x.e, .string ⟨#[]⟩] 78 := (((r5.set 0 _).set 1 _).set 2 _).set 3 _
         have hb5 : Below V.heap.size V ((((w2.setCell ⟨V.heap.size, 0, none⟩ (.string ln)).setCell ⟨V.heap.size, 1, none⟩ (.int .i64 2)).setCell ⟨V.heap.size, 2, none⟩ (.bool x.e)).setCell ⟨V.heap.size, 3, none⟩ (.string ⟨#[]⟩)) := ((((below_step ((Below.refl _ _).drew.alloc (Nat.le_refl _) _) hb2).setCell (p := ⟨V.heap.size, 0, none⟩) (Nat.le_refl _) _).setCell (p := ⟨V.heap.size, 1, none⟩) (Nat.le_refl _) _).setCell (p := ⟨V.heap.size, 2, none⟩) (Nat.le_refl _) _).setCell (p := ⟨V.heap.size, 3, none⟩) (Nat.le_refl _) _
         obtain ⟨tb, htb⟩ : ∃ tb, tb = V.heap.size := ⟨_, rfl⟩
         have ht5 : V.heap.size ≤ tb := Nat.le_of_eq htb.symm
         generalize (((w2.setCell ⟨V.heap.size, 0, none⟩ (.string ln)).setCell ⟨V.heap.size, 1, none⟩ (.int .i64 2)).setCell ⟨V.heap.size, 2, none⟩ (.bool x.e)).setCell ⟨V.heap.size, 3, none⟩ (.string ⟨#[]⟩) = w3 at hr5 hb5 ⊢
         rw [← htb] at hr5 ⊢
         clear htb))
    all_goals exact HQ0.out _ _ ⟨tb, rfl, hr5, hb5, ht5⟩
  rintro a' w3 ⟨tb, rfl, hr5, hb5, ht5⟩
  have HR5 := Lib.hid hr5
  have hb6 := (Bk.of_below (B := W0.heap.size) (Bb := Bb) HBV.out).step (hb5)
  have HB6 := Lib.hid hb6
  have HH3 := Lib.hid ((HH.out.stays HBV.out).stays hb5)
  have HRX3 := Lib.hid (HRX.out.step hb5)
  have HRE3 := Lib.hid (HRE.out.step hb5)
  have hbt : Bb < tb := by have := HVS.out; omega
  have hxe : xb + 1 < tb := by have := HVS.out; omega
  have x0 := HRX3.out.cell 0; have x1 := HRX3.out.cell 1; have x3 := HRX3.out.cell 3
  simp only [List.getElem?_toArray, List.getElem?_cons_zero, List.getElem?_cons_succ] at x0 x1 x3
  clear hr5 hb6 hb5 y0 y2
  cases hxd : x.d with
  | true =>
    rw [hxd] at x1
    have CD1 := Lib.hid (CD.out M vR vB w3 HH3.out (by have := HL.out; unfold subS at this; rwa [if_pos hxd] at this))
    have HV1 : Hid (enV (entE x (keyN (subN c I k x))) = .agg #[.string ln, .int .i64 3, .bool x.e, keyV (keyN (dirN c I k x.t))] ∧ subS c I k x = seqD c I k x.t) := Lib.hid (by
      unfold subS subN entE keyV; rw [if_pos hxd, hxd, HLN.out]; exact ⟨rfl, rfl⟩)
    clear hxd
    go_wp2_with fail
    with_reducible refine CD1.out.mono ?_
    rintro e w4 ⟨rfl, vR4, vB4, hH4, hK4⟩
    obtain ⟨kv, hkv⟩ : ∃ kv : ByteArray, kv = ⟨(keyN (dirN c I k x.t)).toArray⟩ := ⟨_, rfl⟩
    have hkv2 : keyV (keyN (dirN c I k x.t)) = .string kv := by rw [hkv]; rfl
    rw [hkv2] at HV1 ⊢
    have ht4 := hK4.row HR5.out (by decide) (by omega)
    have he4 := hK4.row HRE3.out (by decide) (by omega)
    have E4 : Hid (EntOk W0 Bb (mn, av, mx) Post (M ++ (seqD c I k x.t).map obN) vR4 vB4 tb (xb + 1) w w4) := Lib.hid ⟨hH4, HB6.out.trans hK4, ⟨_, ht4⟩, ⟨_, he4⟩⟩
    have t0 := ht4.cell 0; have t1 := ht4.cell 1; have t2 := ht4.cell 2; have t3 := ht4.cell 3; have tf := ht4.free
    have u0 := he4.cell 0; have u1 := he4.cell 1; have u2 := he4.cell 2; have u3 := he4.cell 3; have uf := he4.free
    simp only [List.getElem?_toArray, List.getElem?_cons_zero, List.getElem?_cons_succ] at t0 t1 t2 t3 u0 u1 u2 u3
    have hne : ¬ tb = xb + 1 := by omega
    have hne2 : ¬ xb + 1 = tb := by omega
    have E5 := Lib.hid (fun (v1 v2 v3 v4 v5 v6 : Value) => by
      have hh1 : w.heap.size ≤ tb := by have := HXB.out; omega
      have hh2 : w.heap.size ≤ xb + 1 := by have := HXB.out; omega
      have hh3 : W0.heap.size ≤ w.heap.size := by have := HXB.out; omega
      have hh4 : Bb < w.heap.size := by have := HXB.out; omega
      exact (((((E4.out.set hh3 hh4 hh1 hh2 (.inl rfl) 1 v1).set hh3 hh4 hh1 hh2 (.inl rfl) 3 v2).set hh3 hh4 hh1 hh2 (.inr rfl) 0 v3).set hh3 hh4 hh1 hh2 (.inr rfl) 1 v4).set hh3 hh4 hh1 hh2 (.inr rfl) 2 v5).set hh3 hh4 hh1 hh2 (.inr rfl) 3 v6)
    have he4' := he4
    clear hH4 hK4 ht4 he4 x0 x1 x3 hkv hkv2
    have HE6 := Lib.hid ((((((he4'.other ⟨tb, 1, none⟩ (.int .i64 3) hne2).other ⟨tb, 3, none⟩ (.string kv) hne2).set 0 (.string ln)).set 1 (.int .i64 3)).set 2 (.bool x.e)).set 3 (.string kv))
    go_wp2
    have q0 := HE6.out.cell 0; have q1 := HE6.out.cell 1; have q2 := HE6.out.cell 2; have q3 := HE6.out.cell 3
    exact bodyPost_ret (v := .agg #[.string ln, .int .i64 3, .bool x.e, .string kv]) (by simp [results, Tryz.results53, go_sem, q0, q1, q2, q3]) rfl ⟨by rw [HV1.out.1], _, _, by rw [HV1.out.2]; exact (E5.out _ _ _ _ _ _).bld, (E5.out _ _ _ _ _ _).bk⟩
  | false =>
    rw [hxd] at x1
    have HH3' : Hid (Bld W0 Bb (mn, av, mx) w3 Post M vR vB) := Lib.hid (by have := HH3.out; rw [HFB.out hxd] at this; exact this)
    have CF1 := Lib.hid (CF.out w3 M vR vB HH3'.out (HL2.out hxd))
    have HV1 : Hid (enV (entE x (keyN (subN c I k x))) = .agg #[.string ln, .int .i64 2, .bool x.e, .string ⟨(keyN (fileN c x.b)).toArray⟩] ∧ subS c I k x = seqF c x.b) := Lib.hid (by
      unfold subS subN entE; rw [if_neg (by rw [hxd]; decide), if_neg (by rw [hxd]; decide), if_neg (by rw [hxd]; decide), HLN.out]; exact ⟨rfl, rfl⟩)
    clear hxd
    obtain ⟨kv, hkv⟩ : ∃ kv : ByteArray, kv = ⟨(keyN (fileN c x.b)).toArray⟩ := ⟨_, rfl⟩
    unfold Added at CF1
    rw [← hkv] at HV1 CF1
    clear hkv
    go_wp2_with fail
    with_reducible refine CF1.out.mono ?_
    rintro e w4 ⟨rfl, vB4, hH4, hK4⟩
    have ht4 := hK4.row HR5.out (by decide) (by omega)
    have he4 := hK4.row HRE3.out (by decide) (by omega)
    have E4 : Hid (EntOk W0 Bb (mn, av, mx) Post (M ++ (seqF c x.b).map obN) vR vB4 tb (xb + 1) w w4) := Lib.hid ⟨hH4, HB6.out.trans hK4, ⟨_, ht4⟩, ⟨_, he4⟩⟩
    have t0 := ht4.cell 0; have t1 := ht4.cell 1; have t2 := ht4.cell 2; have t3 := ht4.cell 3; have tf := ht4.free
    have u0 := he4.cell 0; have u1 := he4.cell 1; have u2 := he4.cell 2; have u3 := he4.cell 3; have uf := he4.free
    simp only [List.getElem?_toArray, List.getElem?_cons_zero, List.getElem?_cons_succ] at t0 t1 t2 t3 u0 u1 u2 u3
    have hne : ¬ tb = xb + 1 := by omega
    have hne2 : ¬ xb + 1 = tb := by omega
    have E5 := Lib.hid (fun (v2 v3 v4 v5 v6 : Value) => by
      have hh1 : w.heap.size ≤ tb := by have := HXB.out; omega
      have hh2 : w.heap.size ≤ xb + 1 := by have := HXB.out; omega
      have hh3 : W0.heap.size ≤ w.heap.size := by have := HXB.out; omega
      have hh4 : Bb < w.heap.size := by have := HXB.out; omega
      exact ((((E4.out.set hh3 hh4 hh1 hh2 (.inl rfl) 3 v2).set hh3 hh4 hh1 hh2 (.inr rfl) 0 v3).set hh3 hh4 hh1 hh2 (.inr rfl) 1 v4).set hh3 hh4 hh1 hh2 (.inr rfl) 2 v5).set hh3 hh4 hh1 hh2 (.inr rfl) 3 v6)
    have he4' := he4
    clear hH4 hK4 ht4 he4 x0 x1 x3
    have HE6 := Lib.hid (((((he4'.other ⟨tb, 3, none⟩ (.string kv) hne2).set 0 (.string ln)).set 1 (.int .i64 2)).set 2 (.bool x.e)).set 3 (.string kv))
    go_wp2
    have q0 := HE6.out.cell 0; have q1 := HE6.out.cell 1; have q2 := HE6.out.cell 2; have q3 := HE6.out.cell 3
    exact bodyPost_ret (v := .agg #[.string ln, .int .i64 2, .bool x.e, .string kv]) (by simp [results, Tryz.results53, go_sem, q0, q1, q2, q3]) rfl ⟨by rw [HV1.out.1], _, _, by rw [HV1.out.2]; exact (E5.out _ _ _ _ _).bld, (E5.out _ _ _ _ _).bk⟩
end Go.Proofs.YtlccihidedfemaaGreatDoor

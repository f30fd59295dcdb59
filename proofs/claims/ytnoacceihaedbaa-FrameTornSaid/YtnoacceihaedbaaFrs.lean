/-
  Contracts over this translation: frame's Scan, the document's, and Same.
-/
import Derived.Test.YtnoacceihaedbaaFrw
import Derived.Test.YtnoacceihaedbaaStr
import Derived.RegionTactic
import Derived.BigRegionIn
import Derived.Sort.CutIn
import Derived.ChangeAlike
import Derived.Outline
set_option linter.unusedVariables false
namespace Go.Proofs.Ytnoacceihaedbaa
open Go.RowKit Go.Shelf
attribute [local go_sem] Oper.semAt_some

theorem infoStr : (Try.prog.info? 9).map (fun i => (i.zero, i.size, i.bytes)) = some (some (.string ⟨#[]⟩), 1, 16) := by kernel_rfl
/-- Lists of bytes as strings. -/
def strsOf (L : List (List UInt8)) : List ByteArray := L.map fun l => ⟨l.toArray⟩
theorem strsOf_len (L : List (List UInt8)) : (strsOf L).length = L.length := List.length_map ..
theorem strsOf_snoc (L : List (List UInt8)) (t : List UInt8) : strsOf (L ++ [t]) = strsOf L ++ [⟨t.toArray⟩] := by simp [strsOf]

/-! ## Same -/
theorem bcell {W w1 : World} (hb : Below W.heap.size W w1) : (∀ b o, b < W.heap.size → w1.cell? ⟨b, o, none⟩ = W.cell? ⟨b, o, none⟩) ∧ (∀ b o, b < W.heap.size → w1.frozen? ⟨b, o, none⟩ = W.frozen? ⟨b, o, none⟩) :=
  ⟨fun b o h => hb.cell (p := ⟨b, o, none⟩) h, fun b o h => hb.frozen (p := ⟨b, o, none⟩) h⟩
set_option maxRecDepth 100000 in
set_option maxHeartbeats 1000000 in
theorem Same_eq (v1 v2 : Value) (L : List ByteArray) (w : World) (h1 : IsStrs w v1 L) (h2 : IsStrs w v2 L) :
    Calls Try.prog 14 #[v1, v2] w fun e w' => e = .returned (.bool true) ∧ Below w.heap.size w w' := by
  obtain ⟨hm, a1, c1, rfl, _, hc1⟩ := h1
  obtain ⟨_, a2, c2, rfl, _, hc2⟩ := h2
  have hmm : L.length ≤ 9223372036854775807 := by unfold maxLen at hm; omega
  have H1 := Lib.hid hc1; have H2 := Lib.hid hc2
  clear hc1 hc2 hm
  go_enter Try.func14, Try.ntmps14
  go_wp2
  go_loopw [5] (fun i wr => ∃ k m : Nat, k ≤ L.length ∧ i = .int .i64 k ∧ wr = w.drewN m) (fun i _ => L.length - (intOf i).toNat)
  case atStart => exact ⟨0, 0, Nat.zero_le _, rfl, rfl⟩
  case round =>
    obtain ⟨k, m, hk, rfl, rfl⟩ := hrel
    by_cases hlt : k < L.length
    · obtain ⟨b1, o1, rfl, _, g1⟩ := H1.out (by omega)
      obtain ⟨b2, o2, rfl, _, g2⟩ := H2.out (by omega)
      have q1 := g1 k hlt
      have q2 := g2 k hlt
      clear g1 g2
      have hbk : decide ((k : Int) < (L.length : Int)) = true := by simpa using (show (k : Int) < L.length by omega)
      go_wp2_with fail
      go_quiet (fail)
      go_wp2
      go_roundw
      case rel => exact ⟨k + 1, m + nq, by omega, by go_num, by simp [World.drewN]⟩
      case measure => simp [intOf]; omega
    · go_wp2
      go_ret
      exact ⟨rfl, below_drewN (Below.refl _ _) _⟩

/-! ## The document's Scan -/
def RetScan (l : List UInt8) (w : World) (e : Ending) (w' : World) : Prop := ∃ v, e = .returned (.tuple #[v, .int .i64 (scanEnd l : Nat)]) ∧ IsStrs w' v (strsOf (textsOf l)) ∧ Below w.heap.size w w'

theorem cell_one {w : World} {v : Value} {t : TypeId} : ∀ j u, [v][j]? = some u → (w.alloc (.cells #[v] t)).cell? ((⟨w.heap.size, 0, none⟩ : Addr).add j) = some u := by
  intro j u hj
  match j, hj with
  | 0, hj => simp at hj; subst hj; simp [Addr.add]

set_option maxRecDepth 100000 in
set_option maxHeartbeats 2000000 in
theorem refScan_any (s : ByteArray) (hs : s.size ≤ 1000000) (w : World) :
    Calls Try.prog 11 #[.string s] w (RetScan s.data.toList w) := by
  have HS := Lib.hid (Lib.size_eq s)
  obtain ⟨i0, hi, hz0, hz1, hz2⟩ := info_parts infoStr
  go_enter Try.func11, Try.ntmps11
  go_wp2
  go_loopw [4, 5] (fun v i wr => ∃ (pre : List (List UInt8 × Nat)) (p : Nat), i = .int .i64 p ∧ scanI s.data.toList pre p ∧ wr.ownsRow w.heap.size 9 1 v (strsOf (pre.map (·.1))).length (strCells (strsOf (pre.map (·.1)))) ∧ Below w.heap.size w wr)
    (fun v i _ => s.size - (intOf i).toNat)
  case atStart => exact ⟨[], 0, rfl, scanI_zero _, World.ownsRow_nil _ _ _ _, Below.refl _ _⟩
  case round =>
    obtain ⟨pre, p, rfl, hI, hown, hB⟩ := hrel
    have hpl := scanI_le hI
    rw [← HS.out] at hpl
    have hsz := hB.size
    have HI := Lib.hid hI; clear hI
    by_cases hlt : p < s.size
    · have hbk : decide ((p : Int) < (s.size : Int)) = true := by simpa using (show (p : Int) < s.size by omega)
      have hd1 := fun W => run_slice_from (P := Try.prog) Try.underlying9 s p hpl W
      obtain ⟨x, hx⟩ : ∃ x, x = s.extract p s.size := ⟨_, rfl⟩
      rw [← hx] at hd1
      have hxs : x.size ≤ maxLen := by rw [hx, ByteArray.size_extract]; unfold maxLen; omega
      have hxl : x.data.toList = s.data.toList.drop p := by rw [hx, Lib.extract_to_end]
      have hO := fun W => refOpen_any x hxs W
      rw [hxl] at hO
      obtain ⟨t, u, e, hv⟩ : ∃ t u e, fopen (s.data.toList.drop p) = (t, u, e) := ⟨_, _, _, rfl⟩
      rw [hv] at hO
      have HO := Lib.hid hO
      clear hO hx hxl hxs
      by_cases he : e = 0
      · subst he
        have hstep := scanI_step HI.out hv
        obtain ⟨g1, g2, _, g4⟩ := fopen_ok hv
        have hple := scanI_le hstep
        have hlen := scanI_len hstep
        rw [← HS.out] at hple hlen
        have HST := Lib.hid hstep
        clear hstep hv g2
        go_wp2_with fail
        refine (HO.out _).mono ?_
        rintro e w1 ⟨rfl, hb1⟩
        have hown1 := hown.kept (grownBy_of_below hb1) (by cases hv : u4.ownBlock <;> simp)
        have hB1 := below_step hB hb1
        have hsz1 := hB1.size
        have hll : (strsOf (pre.map (·.1))).length + 1 ≤ 1000000 := by
          rw [strsOf_len, List.length_map]
          rw [List.length_append, List.length_singleton] at hlen
          omega
        clear hlen hown hB
        go_wp2_with (at_builtin; refine wpList_append_own _ rfl _ _ 28 rfl w.heap.size 9 i0 (.string ⟨#[]⟩) 1 16 Try.underlying28 hi hz0 hz1 hz2 rfl (by decide) _ _ _ rfl (hown1.alloc _) ⟨w1.heap.size, 0, none⟩ 1 1 [.string ⟨t.toArray⟩] rfl rfl cell_one ?c2 ?c3 ?c4 ?c5 ?_)
        case c2 => intro u hu; simp at hu; subst hu; rfl
        case c3 => unfold maxLen; omega
        case c4 => omega
        case c5 => simp; omega
        intro v' w2 hown' hgrow _
        have hb2 : Below w.heap.size w w2 := (hB1.alloc hsz1 _).grown hgrow (by simp; omega) (fun j hj => (hown1.lt j hj).1)
        have hown2 : w2.ownsRow w.heap.size 9 1 v' (strsOf ((pre ++ [(t, p + u)]).map (·.1))).length (strCells (strsOf ((pre ++ [(t, p + u)]).map (·.1)))) := by
          rw [List.map_append, List.map_singleton, strsOf_snoc, List.length_append, strCells_app]; exact hown'
        clear hown1 hown' hgrow hB1
        go_wp2
        go_roundw
        case rel => exact ⟨_, p + u, by go_num, HST.out, hown2, hb2⟩
        case measure => simp [intOf]; omega
      · have hend := scanI_end HI.out hv he
        obtain ⟨rfl, rfl, h4⟩ := fopen_err hv he
        have he' : (!((e : Int) == 0)) = true := by simp; omega
        have he2 : ((e : Int) != 0) = true := by simp; omega
        have hfin := scanI_fin HI.out hend
        have hT : textsOf s.data.toList = pre.map (·.1) := by rw [textsOf, hend]
        have HT := Lib.hid hT; have HF := Lib.hid hfin
        clear hend hfin hT hv
        go_wp2_with fail
        refine (HO.out _).mono ?_
        rintro e w1 ⟨rfl, hb1⟩
        have hown1 := hown.kept (grownBy_of_below hb1) (by cases hv : u4.ownBlock <;> simp)
        have hB1 := below_step hB hb1
        have hres : IsStrs w1 u4 (strsOf (textsOf s.data.toList)) := by rw [HT.out]; exact IsStrs.of_owns hown1
        clear hown hown1 hB
        go_wp2
        go_ret2
        exact ⟨_, by rw [scanEnd, HF.out]; rfl, hres, hB1⟩
    · have hend := scanI_over HI.out (by rw [← HS.out]; omega)
      have hfin := scanI_fin HI.out hend
      have hT : textsOf s.data.toList = pre.map (·.1) := by rw [textsOf, hend]
      have hres : IsStrs wr u4 (strsOf (textsOf s.data.toList)) := by rw [hT]; exact IsStrs.of_owns hown
      have HF := Lib.hid hfin
      clear hend hfin hT hown
      go_wp2
      go_ret2
      exact ⟨_, by rw [scanEnd, HF.out]; rfl, hres, hB⟩

/-! ## Scan -/
theorem wholeFrames_any (s : ByteArray) (w : World) :
    Calls Try.prog 20 #[.string s] w fun e w' => e = .returned (.func (.func 29) #[] #[.pointer (some ⟨w.heap.size, 0, none⟩)]) ∧ w' = w.alloc (.cells #[.string s] 9) := by
  go_enter Try.func20, Try.ntmps20
  go_wp2
  go_ret
  exact ⟨rfl, rfl⟩

abbrev encF (x : List UInt8 × Nat) : Array Value := #[.string ⟨x.1.toArray⟩, .int .i64 (x.2 : Nat)]

set_option maxHeartbeats 1000000 in
set_option maxRecDepth 100000 in
theorem wholeFrames1_stops (n : Nat) (hn : 1 ≤ n) (Bn : Nat) (s : ByteArray) (hs : s.size ≤ maxLen) (w : World) (hB : Boxed w Bn 9 (.string s)) :
    SeqStopsK Fence.wide n Try.prog 29 #[.pointer (some ⟨Bn, 0, none⟩)] encF (KeepsBox Bn 9 (.string s)) (fun xs => xs = frames s.data.toList) (fun pre => pre <+: frames s.data.toList) (frames s.data.toList).length w := fun l J Jx W hW hJ hJx hY h0 => by
  unfold maxLen at hs
  have hb1 : Boxed W Bn 9 (.string s) := (hW.block Bn hB.lt).trans hB
  have hc1 := hb1.cell
  have HS := Lib.hid (Lib.size_eq s)
  have hro : Fence.wide.round = none := rfl
  refine callsIn_of_wp Try.func29 rfl trivial ?_ hro
  simp only [Try.ntmps29, List.size_toArray, List.length_cons, List.length_nil, Nat.reduceAdd, Nat.reduceSub, Array.replicate_succ, Array.replicate_zero, List.push_toArray, List.append_toArray, List.nil_append, List.cons_append]
  gi_wp2
  gi_loopw [3] (fun q wr => ∃ (pre : List (List UInt8 × Nat)) (p : Nat), q = .int .i64 p ∧ scanI s.data.toList pre p ∧ J pre wr ∧ Boxed wr Bn 9 (.string s))
    (fun q wr => s.size - (intOf q).toNat)
  case atStart =>
    exact ⟨[], 0, rfl, scanI_zero _, h0, hb1⟩
  case round =>
    obtain ⟨pre, p, rfl, hI, hJs, hbx⟩ := hrel
    have hpl := scanI_le hI
    rw [← HS.out] at hpl
    have HI := Lib.hid hI; clear hI
    have hd1 := fun W => run_slice_from (P := Try.prog) Try.underlying9 s p hpl W
    obtain ⟨x, hx⟩ : ∃ x, x = s.extract p s.size := ⟨_, rfl⟩
    rw [← hx] at hd1
    have hxs : x.size ≤ maxLen := by rw [hx, ByteArray.size_extract]; unfold maxLen; omega
    have hxl : x.data.toList = s.data.toList.drop p := by rw [hx, Lib.extract_to_end]
    have hO := fun W => Open_any x hxs W
    rw [hxl] at hO
    obtain ⟨t, u, e, hv⟩ : ∃ t u e, fopen (s.data.toList.drop p) = (t, u, e) := ⟨_, _, _, rfl⟩
    rw [hv] at hO
    have HO := Lib.hid hO
    have hcx := hbx.cell
    clear hO hx hxl hxs
    by_cases he : e = 0
    · subst he
      have hstep := scanI_step HI.out hv
      obtain ⟨g1, g2, _, g4⟩ := fopen_ok hv
      have hple := scanI_le hstep
      have hpre := scanI_pre hstep
      have hplen := hpre.length_le
      rw [← HS.out] at hple
      have HST := Lib.hid hstep; have HPRE := Lib.hid hpre
      clear hstep hv g2 hpre
      gi_wp2_with (refine ⟨trivial, ?_⟩; gi_at_call 8; refine (callsIn_wide.2 (HO.out _)).mono ?_; rintro e w1 ⟨rfl, hbo⟩; have hbx1 : Boxed w1 Bn 9 (.string s) := (hbo.block Bn hbx.lt).trans hbx; have hcx1 := hbx1.cell; obtain ⟨fn, tmps, assign, body, hy, hR⟩ := hY pre (t, p + u) w1 (hJ _ wr w1 none hJs (grownBy_of_below hbo) (fun r e => by cases e)) (by rw [List.length_append, List.length_singleton] at hplen; omega); simp only [encF, Int.natCast_add] at hy; clear hY hplen)
      refine hR.mono ?_
      rintro e W3 (⟨rfl, hJ3, hk3⟩ | ⟨rfl, hJx3⟩)
      · gi_wp2
        go_roundw
        case rel => exact ⟨_, p + u, by go_num, HST.out, hJ3, hk3 hbx1⟩
        case measure => simp [intOf]; omega
      · gi_wp2
        refine bodyPost_ret (results_none rfl _ _ _) rfl ?_
        exact ⟨⟨_, rfl⟩, .inr ⟨_, HPRE.out, hJx3⟩⟩
    · have hend := scanI_end HI.out hv he
      obtain ⟨rfl, rfl, h4⟩ := fopen_err hv he
      have he' : (!((e : Int) == 0)) = true := by simp; omega
      have he2 : ((e : Int) != 0) = true := by simp; omega
      have HE := Lib.hid hend
      clear hend hv hY
      gi_wp2_with (refine ⟨trivial, ?_⟩; gi_at_call 8; refine (callsIn_wide.2 (HO.out _)).mono ?_; rintro e w1 ⟨rfl, hbo⟩)
      have hJ1 := hJ _ wr w1 none hJs (grownBy_of_below hbo) (fun r e => by cases e)
      refine bodyPost_ret (results_none rfl _ _ _) rfl ?_
      exact ⟨⟨_, rfl⟩, .inl ⟨_, HE.out.symm, hJ1⟩⟩

/-- What the loop of Scan holds: the texts that have come, in a slice of the call's own; the place behind them. -/
def scanJ (b : Nat) (pre : List (List UInt8 × Nat)) (W : World) : Prop :=
  b + 3 ≤ W.heap.size ∧ Boxed W (b + 1) 3 (.int .i64 (endOf pre : Nat)) ∧ ∃ v, Boxed W b 28 v ∧ W.ownsRow (b + 3) 9 1 v (strsOf (pre.map (·.1))).length (strCells (strsOf (pre.map (·.1))))
theorem scanJ_own (b : Nat) : Own (scanJ b) := by
  rintro pre A B row ⟨h0, h1, v, h2, h3⟩ hg hr
  refine ⟨Nat.le_trans h0 hg.size, boxed_keep h1 hg hr, v, boxed_keep h2 hg hr, h3.kept hg ?_⟩
  rcases hob : v.ownBlock with _ | g
  · exact .inl rfl
  · refine .inr fun h => ?_
    obtain ⟨o, ho, hc⟩ := hr g h.symm
    rcases h3.2 with ⟨rfl, _⟩ | ⟨g', cap, cur, rfl, _, hgg, _⟩
    · cases hob
    · cases hob
      rw [hgg] at ho; cases ho; cases hc

set_option maxRecDepth 100000 in
set_option maxHeartbeats 4000000 in
theorem Scan_any (s : ByteArray) (hs : s.size ≤ 1000000) (w : World) :
    Calls Try.prog 10 #[.string s] w (RetScan s.data.toList w) := by
  have hsl : s.size ≤ maxLen := by unfold maxLen; omega
  refine (callsIn_wide (n := 5)).1 ?_
  have hro : Fence.wide.round = none := rfl
  obtain ⟨i0, hi, hz0, hz1, hz2⟩ := info_parts infoStr
  refine callsIn_of_wp_marks Try.func10 rfl trivial ?_ hro
  simp only [Try.ntmps10, List.size_toArray, List.length_cons, List.length_nil, Nat.reduceAdd, Nat.reduceSub, Array.replicate_succ, Array.replicate_zero, List.push_toArray, List.append_toArray, List.nil_append, List.cons_append]
  gi_wp2_with (refine ⟨trivial, ?_⟩; gi_at_call 20; refine (callsIn_wide.2 (wholeFrames_any s _)).mono ?_; rintro e w' ⟨rfl, rfl⟩)
  have hB0 : Below w.heap.size w (((w.alloc (.cells #[.slice none 0 0] 28)).alloc (.cells #[.int .i64 0] 3)).alloc (.cells #[.string s] 9)) :=
    (((Below.refl _ w).alloc (Nat.le_refl _) _).alloc (by simp) _).alloc (by simp; omega) _
  have hs0 := Boxed.new ((w.alloc (.cells #[.slice none 0 0] 28)).alloc (.cells #[.int .i64 0] 3)) 9 (.string s)
  have hI0 : scanJ w.heap.size [] (((w.alloc (.cells #[.slice none 0 0] 28)).alloc (.cells #[.int .i64 0] 3)).alloc (.cells #[.string s] 9)) := by
    have h0 := ((Boxed.new w 28 (.slice none 0 0)).alloc (.cells #[.int .i64 0] 3)).alloc (.cells #[.string s] 9)
    have h1 := (Boxed.new (w.alloc (.cells #[.slice none 0 0] 28)) 3 (.int .i64 0)).alloc (.cells #[.string s] 9)
    simp only [World.size_alloc] at h0 h1
    exact ⟨by simp, h1, _, h0, World.ownsRow_nil _ _ _ _⟩
  simp only [World.size_alloc] at hs0
  have hs0' : Boxed (((w.alloc (.cells #[.slice none 0 0] 28)).alloc (.cells #[.int .i64 0] 3)).alloc (.cells #[.string s] 9)) (w.heap.size + 2) 9 (.string s) := hs0
  refine wpIn_rangeFunc_ownF hro (by decide) (gf := 29) (lb := #[.pointer (some ⟨w.heap.size + 2, 0, none⟩)]) rfl trivial (enters_of Try.func29 (by kernel_rfl) rfl)
    (wholeFrames1_stops 4 (by decide) (w.heap.size + 2) s hsl _ hs0') (fun h k => fun x => k (h x)) (fun W l o o' hl h _ _ hb => hb.kept (grownBy_putObj' W l o') (fun e => by cases e; simp at hl; omega)) (Below.refl _ _) (fun _ => rfl)
    (fun pre W => scanJ w.heap.size pre W ∧ Below w.heap.size w W)
    (fun _ _ _ => False)
    (OwnFrom.and (Own.from (scanJ_own _) _) (ownFrom_below (Nat.le_refl _) (by simp; omega)))
    (fun _ _ _ _ _ hs _ _ => hs)
    ⟨hI0, hB0⟩
    (fun x => { tmps := #[.string s, undef, .slice none 0 0, .int .i64 0, .pointer (some ⟨w.heap.size, 0, none⟩), .pointer (some ⟨w.heap.size + 1, 0, none⟩), .string ⟨x.1.toArray⟩, .int .i64 (x.2 : Nat), .string s, .func (.func 29) #[] #[.pointer (some ⟨w.heap.size + 2, 0, none⟩)], .string ⟨x.1.toArray⟩, .int .i64 (x.2 : Nat), undef, undef, undef, undef, undef, undef, undef], defers := [] }) ?assign ?body ?done ?stop
  case assign =>
    intro l x W K hK
    gi_wp2
    exact hK
  case body =>
    rintro l pre ⟨t, q⟩ W ⟨⟨hz, b1, v, b0, hown⟩, hB⟩ hlen
    have hfl := frames_len s.data.toList
    rw [← Lib.size_eq] at hfl
    have hll : (strsOf (pre.map (·.1))).length + 1 ≤ 1000000 := by
      rw [strsOf_len, List.length_map]; omega
    have c0 := b0.cell; have c1 := b1.cell
    have f0 := b0.frozen; have f1 := b1.frozen
    clear hB0 hs0 hs0' hI0 hfl hlen
    gi_wp2_with (gi_at_builtin; refine wpListIn_append_own _ rfl _ _ 28 rfl (w.heap.size + 3) 9 i0 (.string ⟨#[]⟩) 1 16 Try.underlying28 hi hz0 hz1 hz2 rfl (by decide) _ _ _ rfl (hown.alloc _) ⟨W.heap.size, 0, none⟩ 1 1 [.string ⟨t.toArray⟩] rfl rfl cell_one ?c2 ?c3 ?c4 ?c5 ?_)
    case c2 => rfl
    case c3 => unfold maxLen; omega
    case c4 => omega
    case c5 => omega
    intro v' w2 hown' hgrow _
    obtain ⟨g, cap, rfl⟩ := ownsRow_slice hown'
    have hlt := hown.lt
    have e0 : Boxed w2 w.heap.size 28 v := (b0.alloc _).kept hgrow (fun e => by have := (hlt _ e.symm).1; omega)
    have e1 : Boxed w2 (w.heap.size + 1) 3 (.int .i64 (endOf pre : Nat)) := (b1.alloc _).kept hgrow (fun e => by have := (hlt _ e.symm).1; omega)
    have hk : KeepsOthers W w2 := (KeepsOthers.alloc _ _).trans (KeepsOthers.of_grownBy hgrow (fun j o hj ho => by
      rcases (hown.alloc _).2 with ⟨rfl, _⟩ | ⟨g', cap', cur, rfl, _, hgg, _⟩
      · cases hj
      · cases hj
        rw [hgg] at ho; cases ho; rfl))
    have hbx : KeepsBox (w.heap.size + 2) 9 (.string s) W w2 := fun hx => (hx.alloc _).kept hgrow (fun e => by have := (hlt _ e.symm).1; omega)
    have hb2 : Below w.heap.size w w2 := (hB.alloc (by omega) _).grown hgrow (by simp; omega) (fun j hj => by have := (hlt j hj).1; omega)
    have hz2' : w.heap.size + 3 ≤ w2.heap.size := Nat.le_trans hz (Nat.le_trans (by simp) hgrow.size)
    have hg3 := (hown'.lt g rfl).1
    have d0 := e0.cell; have d1 := e1.cell
    have m0 := e0.frozen; have m1 := e1.frozen
    clear hown hgrow hlt c0 c1 f0 f1 hB b0 b1
    gi_wp2
    refine ⟨hk.trans ((KeepsOthers.setCell _ _ _).trans (KeepsOthers.setCell _ _ _)), fun hx => boxed_set (boxed_set (hbx hx) _ (by omega)) _ (by omega), ⟨by simpa using hz2', ?_, .slice (some ⟨g, 0, none⟩) ((strsOf (pre.map (·.1))).length + 1) cap, ?_, ?_⟩, (hb2.setCell (p := ⟨w.heap.size, 0, none⟩) (Nat.le_refl _) _).setCell (p := ⟨w.heap.size + 1, 0, none⟩) (by simp) _⟩
    · rw [endOf_snoc]; exact (boxed_set e1 _ (by omega)).set _
    · exact boxed_set (e0.set _) _ (by omega)
    · rw [List.map_append, List.map_singleton, strsOf_snoc, List.length_append, strCells_app]
      refine (hown'.kept (grownBy_setCell' _ _ _) (.inr ?_)).kept (grownBy_setCell' _ _ _) (.inr ?_)
      · simp [Value.ownBlock]; omega
      · simp [Value.ownBlock]; omega
  case done =>
    rintro D xs W hD rfl ⟨⟨hz, b1, v, b0, hown⟩, hB⟩ hK
    have c0 := b0.cell; have c1 := b1.cell
    have f0 := b0.frozen; have f1 := b1.frozen
    clear hB0 hs0 hs0' hI0
    gi_wp2
    gi_region
    all_goals
      gi_wp2
      have hK' : W.drew.heap[D]? = some (.deferred (some [])) := hK
      refine ⟨by simp, .inl ⟨_, _, rfl, run_takeDeferred hK', ?_⟩⟩
      have hown2 : W.drew.ownsRow (w.heap.size + 3) 9 1 v (strsOf (textsOf s.data.toList)).length (strCells (strsOf (textsOf s.data.toList))) := hown
      have hown3 := hown2.kept (grownBy_putObj' W.drew D (.deferred none)) (by
        rcases hob : v.ownBlock with _ | g
        · exact .inl rfl
        · refine .inr fun h => ?_
          rcases hown2.2 with ⟨rfl, _⟩ | ⟨g', cap, cur, rfl, _, hgg, _⟩
          · cases hob
          · cases hob; cases h
            rw [hgg] at hK'; cases hK')
      refine ⟨.tuple #[v, .int .i64 (endOf (frames s.data.toList) : Nat)], ?_, v, rfl, IsStrs.of_owns hown3, (hB.drew).trans (belowK_b (w := w) (Nat.le_refl _) W.drew D _ _ (by simp at hD; omega) hK' rfl rfl)⟩
      simp [results, Try.f10, go_sem]
  case stop =>
    rintro D c pre W _ _ h _
    exact h.elim
end Go.Proofs.Ytnoacceihaedbaa
